/-
  No cell of these rows narrows 'for every input' (looked for: loops, veiled, ifaces, maps, wideKeys, modest, calm, conditions, laid).
  DERIVED. THE GIVEN ROWS OF THIS SEAT. 4 by the template 'for every input the law returns true; each argument reads behind the call as it read before'; 0 by the template 'total and deterministic' (their statements: YtfmpgdafnlehaaaGreatTotals.lean).
  GIVEN WITH THE SEED: the statements are not yours to turn. If you find one false, say at which input.
  Laid BY PROGRAM, IN A SANDBOX (cutbox-rows.mjs): the forced cells as the released guide's own fill.sh prints them over the translation c9d52c7597e36b59… (all of the seat's roots in one cut). By AI agents, Wed Nov 11 2026. No macro, syntax, notation, axiom, sorry.
-/
import Derived.Test.YtfmpgdafnlehaaaGreatChecked
import GoSem.Claim
import GoSem.ClaimJoined
import GoSem.ClaimMapViews
import Derived.JoinedTies
import Derived.KernelRfl
namespace Go.Proofs.YtfmpgdafnlehaaaGreat
/- THE CELL 'sum', in the pinned program and in every row, IS THE sha256 OF THE DUMP (.gsa) THAT YtfmpgdafnlehaaaGreatProg.lean LOADS. Nothing in Lean hashes anything: it is a label: what it is worth is what the hold of that sum in a sandbox is worth. -/
noncomputable def Tryz.pinned : Pinned := { name := "ytfmpgdafnlehaaagreat", sum := "c9d52c7597e36b59588e56067cea49b18515b7d3b837b604fbbcced57974eb65", checked := Tryz.checked }
namespace Rows
def none {H : Type} : Left H := { results := [], args := [] }

/-- 'berthagelaw17.OpNobody': WHATEVER THE INPUT: true; the input reads as it did. -/
def opNobodySpec : ChangeSpec := { name := "opNobody", fn := fun _ => fun
  | [d] => { results := [.lit (.bool true)], args := [d] }
  | _ => none }
def opNobodyRow : OpenClaim := { program := "ytfmpgdafnlehaaagreat", sum := "c9d52c7597e36b59588e56067cea49b18515b7d3b837b604fbbcced57974eb65", func := "berthage/berthagelaw17.OpNobody", spec := "opNobody", inPlace := ["slices.overlaps[berthage/api.Step]"], unfollowed := true, recurses := true, apart := false }
def OpNobodySaid : Prop := opNobodyRow.holds Tryz.pinned (OpenSpec.ofChange opNobodySpec)

/-- ITS FALSE NEIGHBOUR: 'it returns false'. Refute it at one input. -/
def opNobodyWrong : ChangeSpec := { name := "opNobody", fn := fun _ => fun
  | [d] => { results := [.lit (.bool false)], args := [d] }
  | _ => none }
def OpNobodyWrongFalsely : Prop := opNobodyRow.holds Tryz.pinned (OpenSpec.ofChange opNobodyWrong)

/-- 'berthagelaw18.FillNobody': WHATEVER THE INPUT: true; the input reads as it did. -/
def fillNobodySpec : ChangeSpec := { name := "fillNobody", fn := fun _ => fun
  | [d] => { results := [.lit (.bool true)], args := [d] }
  | _ => none }
def fillNobodyRow : OpenClaim := { program := "ytfmpgdafnlehaaagreat", sum := "c9d52c7597e36b59588e56067cea49b18515b7d3b837b604fbbcced57974eb65", func := "berthage/berthagelaw18.FillNobody", spec := "fillNobody", inPlace := ["slices.overlaps[berthage/api.Step]"], unfollowed := true, recurses := true, apart := false }
def FillNobodySaid : Prop := fillNobodyRow.holds Tryz.pinned (OpenSpec.ofChange fillNobodySpec)

/-- ITS FALSE NEIGHBOUR: 'it returns false'. Refute it at one input. -/
def fillNobodyWrong : ChangeSpec := { name := "fillNobody", fn := fun _ => fun
  | [d] => { results := [.lit (.bool false)], args := [d] }
  | _ => none }
def FillNobodyWrongFalsely : Prop := fillNobodyRow.holds Tryz.pinned (OpenSpec.ofChange fillNobodyWrong)

/-- 'berthagelaw20.CtrlCalls': WHATEVER THE INPUT: true; the input reads as it did. -/
def ctrlCallsSpec : ChangeSpec := { name := "ctrlCalls", fn := fun _ => fun
  | [d1, d2, d3] => { results := [.lit (.bool true)], args := [d1, d2, d3] }
  | _ => none }
def ctrlCallsRow : OpenClaim := { program := "ytfmpgdafnlehaaagreat", sum := "c9d52c7597e36b59588e56067cea49b18515b7d3b837b604fbbcced57974eb65", func := "berthage/berthagelaw20.CtrlCalls", spec := "ctrlCalls", inPlace := ["slices.overlaps[berthage/api.Step]"], unfollowed := true, recurses := true, apart := false }
def CtrlCallsSaid : Prop := ctrlCallsRow.holds Tryz.pinned (OpenSpec.ofChange ctrlCallsSpec)

/-- ITS FALSE NEIGHBOUR: 'it returns false'. Refute it at one input. -/
def ctrlCallsWrong : ChangeSpec := { name := "ctrlCalls", fn := fun _ => fun
  | [d1, d2, d3] => { results := [.lit (.bool false)], args := [d1, d2, d3] }
  | _ => none }
def CtrlCallsWrongFalsely : Prop := ctrlCallsRow.holds Tryz.pinned (OpenSpec.ofChange ctrlCallsWrong)

/-- 'berthagelaw20.CtrlNobody': WHATEVER THE INPUT: true; the input reads as it did. -/
def ctrlNobodySpec : ChangeSpec := { name := "ctrlNobody", fn := fun _ => fun
  | [d1, d2] => { results := [.lit (.bool true)], args := [d1, d2] }
  | _ => none }
def ctrlNobodyRow : OpenClaim := { program := "ytfmpgdafnlehaaagreat", sum := "c9d52c7597e36b59588e56067cea49b18515b7d3b837b604fbbcced57974eb65", func := "berthage/berthagelaw20.CtrlNobody", spec := "ctrlNobody", inPlace := ["slices.overlaps[berthage/api.Step]"], unfollowed := true, recurses := true, apart := false }
def CtrlNobodySaid : Prop := ctrlNobodyRow.holds Tryz.pinned (OpenSpec.ofChange ctrlNobodySpec)

/-- ITS FALSE NEIGHBOUR: 'it returns false'. Refute it at one input. -/
def ctrlNobodyWrong : ChangeSpec := { name := "ctrlNobody", fn := fun _ => fun
  | [d1, d2] => { results := [.lit (.bool false)], args := [d1, d2] }
  | _ => none }
def CtrlNobodyWrongFalsely : Prop := ctrlNobodyRow.holds Tryz.pinned (OpenSpec.ofChange ctrlNobodyWrong)

/- THE SECOND FORM. 'bulk': how many values and letters a reading holds, each counted each time it is reached (what is shared counts as often as it is met; a slice's spare places count too). A statement '..UptoSaid' is the law's where the arguments, and the package variables that the reading takes, are together of bulk at most 1048576: NARROWER than '..Said'. Prove '..Said' where nothing that the law and all that it calls make is longer than what came in: it says more and counts as full. Else prove '..UptoSaid'. A law counts once. -/
mutual
def uptoBulk {H : Type} : DataW H → Nat
  | .lit (.string bytes) => bytes.length + 1
  | .lit _ => 1
  | .nil => 1
  | .ptr d => uptoBulk d + 1
  | .slice elems spare => uptoBulkAll elems + uptoBulkAll spare + 1
  | .agg parts => uptoBulkAll parts + 1
  | .iface _ d => uptoBulk d + 1
  | .map entries => uptoBulkEntries entries + 1
  | .held _ => 1
def uptoBulkAll {H : Type} : List (DataW H) → Nat
  | [] => 0
  | d :: r => uptoBulk d + uptoBulkAll r
def uptoBulkEntries {H : Type} : List (Lit × DataW H) → Nat
  | [] => 0
  | x :: r => uptoBulkEntry x + uptoBulkEntries r
def uptoBulkEntry {H : Type} : Lit × DataW H → Nat
  | (.string bytes, d) => bytes.length + uptoBulk d + 1
  | (_, d) => uptoBulk d + 1
 end
def uptoSmall : (H : Type) → List (DataW H) → Bool := fun _ ds => decide (uptoBulkAll ds ≤ 1048576)
def OpenSpec.upto (s : _root_.Go.ChangeSpec) : _root_.Go.OpenSpec := { _root_.Go.OpenSpec.ofChange s with cond := some uptoSmall }

/-- 'berthagelaw17.OpNobody', WHERE WHAT IT READS IS OF BULK AT MOST 1048576: true; the input reads as it did. -/
def opNobodyUptoRow : OpenClaim := { program := "ytfmpgdafnlehaaagreat", sum := "c9d52c7597e36b59588e56067cea49b18515b7d3b837b604fbbcced57974eb65", func := "berthage/berthagelaw17.OpNobody", spec := "opNobody", inPlace := ["slices.overlaps[berthage/api.Step]"], unfollowed := true, recurses := true, apart := false, narrowed := true }
def OpNobodyUptoSaid : Prop := opNobodyUptoRow.holds Tryz.pinned (OpenSpec.upto opNobodySpec)

/-- 'berthagelaw18.FillNobody', WHERE WHAT IT READS IS OF BULK AT MOST 1048576: true; the input reads as it did. -/
def fillNobodyUptoRow : OpenClaim := { program := "ytfmpgdafnlehaaagreat", sum := "c9d52c7597e36b59588e56067cea49b18515b7d3b837b604fbbcced57974eb65", func := "berthage/berthagelaw18.FillNobody", spec := "fillNobody", inPlace := ["slices.overlaps[berthage/api.Step]"], unfollowed := true, recurses := true, apart := false, narrowed := true }
def FillNobodyUptoSaid : Prop := fillNobodyUptoRow.holds Tryz.pinned (OpenSpec.upto fillNobodySpec)

/-- 'berthagelaw20.CtrlCalls', WHERE WHAT IT READS IS OF BULK AT MOST 1048576: true; the input reads as it did. -/
def ctrlCallsUptoRow : OpenClaim := { program := "ytfmpgdafnlehaaagreat", sum := "c9d52c7597e36b59588e56067cea49b18515b7d3b837b604fbbcced57974eb65", func := "berthage/berthagelaw20.CtrlCalls", spec := "ctrlCalls", inPlace := ["slices.overlaps[berthage/api.Step]"], unfollowed := true, recurses := true, apart := false, narrowed := true }
def CtrlCallsUptoSaid : Prop := ctrlCallsUptoRow.holds Tryz.pinned (OpenSpec.upto ctrlCallsSpec)

/-- 'berthagelaw20.CtrlNobody', WHERE WHAT IT READS IS OF BULK AT MOST 1048576: true; the input reads as it did. -/
def ctrlNobodyUptoRow : OpenClaim := { program := "ytfmpgdafnlehaaagreat", sum := "c9d52c7597e36b59588e56067cea49b18515b7d3b837b604fbbcced57974eb65", func := "berthage/berthagelaw20.CtrlNobody", spec := "ctrlNobody", inPlace := ["slices.overlaps[berthage/api.Step]"], unfollowed := true, recurses := true, apart := false, narrowed := true }
def CtrlNobodyUptoSaid : Prop := ctrlNobodyUptoRow.holds Tryz.pinned (OpenSpec.upto ctrlNobodySpec)

end Rows
end Go.Proofs.YtfmpgdafnlehaaaGreat
