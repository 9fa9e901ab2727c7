/-
  No cell of these rows narrows 'for every input' (looked for: loops, veiled, ifaces, maps, wideKeys, modest, calm, conditions, laid).
  DERIVED. THE GIVEN ROWS OF THIS SEAT. 3 by the template 'for every input the law returns true; each argument reads behind the call as it read before'; 0 by the template 'total and deterministic' (their statements: YtelnhablglomjaaGreatTotals.lean).
  GIVEN WITH THE SEED: the statements are not yours to turn. If you find one false, say at which input.
  Laid BY PROGRAM, IN A SANDBOX (cutbox-rows.mjs): the forced cells as the released guide's own fill.sh prints them over the translation 4bd0e2414a16d510… (all of the seat's roots in one cut). By AI agents, Wed Nov 11 2026. No macro, syntax, notation, axiom, sorry.
-/
import Derived.Test.YtelnhablglomjaaGreatChecked
import GoSem.Claim
import GoSem.ClaimJoined
import GoSem.ClaimMapViews
import Derived.JoinedTies
import Derived.KernelRfl
namespace Go.Proofs.YtelnhablglomjaaGreat
/- THE CELL 'sum', in the pinned program and in every row, IS THE sha256 OF THE DUMP (.gsa) THAT YtelnhablglomjaaGreatProg.lean LOADS. Nothing in Lean hashes anything: it is a label: what it is worth is what the hold of that sum in a sandbox is worth. -/
noncomputable def Tryz.pinned : Pinned := { name := "ytelnhablglomjaagreat", sum := "4bd0e2414a16d510e7de86e575d567990c81a115bf07f2be2e66bb849a6ec524", checked := Tryz.checked }
namespace Rows
def none {H : Type} : Left H := { results := [], args := [] }

/-- 'berthagelaw17.OpAlone': WHATEVER THE INPUT: true; the input reads as it did. -/
def opAloneSpec : ChangeSpec := { name := "opAlone", fn := fun _ => fun
  | [d1, d2, d3] => { results := [.lit (.bool true)], args := [d1, d2, d3] }
  | _ => none }
def opAloneRow : OpenClaim := { program := "ytelnhablglomjaagreat", sum := "4bd0e2414a16d510e7de86e575d567990c81a115bf07f2be2e66bb849a6ec524", func := "berthage/berthagelaw17.OpAlone", spec := "opAlone", inPlace := ["slices.overlaps[berthage/api.Step]"], unfollowed := true, recurses := true, apart := false }
def OpAloneSaid : Prop := opAloneRow.holds Tryz.pinned (OpenSpec.ofChange opAloneSpec)

/-- ITS FALSE NEIGHBOUR: 'it returns false'. Refute it at one input. -/
def opAloneWrong : ChangeSpec := { name := "opAlone", fn := fun _ => fun
  | [d1, d2, d3] => { results := [.lit (.bool false)], args := [d1, d2, d3] }
  | _ => none }
def OpAloneWrongFalsely : Prop := opAloneRow.holds Tryz.pinned (OpenSpec.ofChange opAloneWrong)

/-- 'berthagelaw17.OpLocks': WHATEVER THE INPUT: true; the input reads as it did. -/
def opLocksSpec : ChangeSpec := { name := "opLocks", fn := fun _ => fun
  | [d1, d2, d3] => { results := [.lit (.bool true)], args := [d1, d2, d3] }
  | _ => none }
def opLocksRow : OpenClaim := { program := "ytelnhablglomjaagreat", sum := "4bd0e2414a16d510e7de86e575d567990c81a115bf07f2be2e66bb849a6ec524", func := "berthage/berthagelaw17.OpLocks", spec := "opLocks", inPlace := ["slices.overlaps[berthage/api.Step]"], unfollowed := true, recurses := true, apart := false }
def OpLocksSaid : Prop := opLocksRow.holds Tryz.pinned (OpenSpec.ofChange opLocksSpec)

/-- ITS FALSE NEIGHBOUR: 'it returns false'. Refute it at one input. -/
def opLocksWrong : ChangeSpec := { name := "opLocks", fn := fun _ => fun
  | [d1, d2, d3] => { results := [.lit (.bool false)], args := [d1, d2, d3] }
  | _ => none }
def OpLocksWrongFalsely : Prop := opLocksRow.holds Tryz.pinned (OpenSpec.ofChange opLocksWrong)

/-- 'berthagelaw17.OpWaits': WHATEVER THE INPUT: true; the input reads as it did. -/
def opWaitsSpec : ChangeSpec := { name := "opWaits", fn := fun _ => fun
  | [d1, d2, d3, d4] => { results := [.lit (.bool true)], args := [d1, d2, d3, d4] }
  | _ => none }
def opWaitsRow : OpenClaim := { program := "ytelnhablglomjaagreat", sum := "4bd0e2414a16d510e7de86e575d567990c81a115bf07f2be2e66bb849a6ec524", func := "berthage/berthagelaw17.OpWaits", spec := "opWaits", inPlace := ["slices.overlaps[berthage/api.Step]"], unfollowed := true, recurses := true, apart := false }
def OpWaitsSaid : Prop := opWaitsRow.holds Tryz.pinned (OpenSpec.ofChange opWaitsSpec)

/-- ITS FALSE NEIGHBOUR: 'it returns false'. Refute it at one input. -/
def opWaitsWrong : ChangeSpec := { name := "opWaits", fn := fun _ => fun
  | [d1, d2, d3, d4] => { results := [.lit (.bool false)], args := [d1, d2, d3, d4] }
  | _ => none }
def OpWaitsWrongFalsely : Prop := opWaitsRow.holds Tryz.pinned (OpenSpec.ofChange opWaitsWrong)

/- THE SECOND FORM. 'bulk': how many values and letters a reading holds, each counted each time it is reached (what is shared counts as often as it is met; a slice's spare places count too). A statement '..UptoSaid' is the law's where the arguments, and the package variables that the reading takes, are together of bulk at most 1048576: NARROWER than '..Said'. Prove '..Said' where nothing that the law and all that it calls make is longer than what came in: it says more and counts as full. Else prove '..UptoSaid'. A law counts once. -/
mutual
def uptoBulk {H : Type} : DataW H → Nat
  | .lit (.string bytes) => bytes.length + 1
  | .lit _ => 1
  | .nil => 1
  | .ptr d => uptoBulk d + 1
  | .slice elems spare => uptoBulkAll elems + uptoBulkAll spare + 1
  | .agg parts => uptoBulkAll parts + 1
  | .iface _ d => uptoBulk d + 1
  | .map entries => uptoBulkEntries entries + 1
  | .held _ => 1
def uptoBulkAll {H : Type} : List (DataW H) → Nat
  | [] => 0
  | d :: r => uptoBulk d + uptoBulkAll r
def uptoBulkEntries {H : Type} : List (Lit × DataW H) → Nat
  | [] => 0
  | x :: r => uptoBulkEntry x + uptoBulkEntries r
def uptoBulkEntry {H : Type} : Lit × DataW H → Nat
  | (.string bytes, d) => bytes.length + uptoBulk d + 1
  | (_, d) => uptoBulk d + 1
 end
def uptoSmall : (H : Type) → List (DataW H) → Bool := fun _ ds => decide (uptoBulkAll ds ≤ 1048576)
def OpenSpec.upto (s : _root_.Go.ChangeSpec) : _root_.Go.OpenSpec := { _root_.Go.OpenSpec.ofChange s with cond := some uptoSmall }

/-- 'berthagelaw17.OpAlone', WHERE WHAT IT READS IS OF BULK AT MOST 1048576: true; the input reads as it did. -/
def opAloneUptoRow : OpenClaim := { program := "ytelnhablglomjaagreat", sum := "4bd0e2414a16d510e7de86e575d567990c81a115bf07f2be2e66bb849a6ec524", func := "berthage/berthagelaw17.OpAlone", spec := "opAlone", inPlace := ["slices.overlaps[berthage/api.Step]"], unfollowed := true, recurses := true, apart := false, narrowed := true }
def OpAloneUptoSaid : Prop := opAloneUptoRow.holds Tryz.pinned (OpenSpec.upto opAloneSpec)

/-- 'berthagelaw17.OpLocks', WHERE WHAT IT READS IS OF BULK AT MOST 1048576: true; the input reads as it did. -/
def opLocksUptoRow : OpenClaim := { program := "ytelnhablglomjaagreat", sum := "4bd0e2414a16d510e7de86e575d567990c81a115bf07f2be2e66bb849a6ec524", func := "berthage/berthagelaw17.OpLocks", spec := "opLocks", inPlace := ["slices.overlaps[berthage/api.Step]"], unfollowed := true, recurses := true, apart := false, narrowed := true }
def OpLocksUptoSaid : Prop := opLocksUptoRow.holds Tryz.pinned (OpenSpec.upto opLocksSpec)

/-- 'berthagelaw17.OpWaits', WHERE WHAT IT READS IS OF BULK AT MOST 1048576: true; the input reads as it did. -/
def opWaitsUptoRow : OpenClaim := { program := "ytelnhablglomjaagreat", sum := "4bd0e2414a16d510e7de86e575d567990c81a115bf07f2be2e66bb849a6ec524", func := "berthage/berthagelaw17.OpWaits", spec := "opWaits", inPlace := ["slices.overlaps[berthage/api.Step]"], unfollowed := true, recurses := true, apart := false, narrowed := true }
def OpWaitsUptoSaid : Prop := opWaitsUptoRow.holds Tryz.pinned (OpenSpec.upto opWaitsSpec)

end Rows
end Go.Proofs.YtelnhablglomjaaGreat
