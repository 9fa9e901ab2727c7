/-
  No cell of these rows narrows 'for every input' (looked for: loops, veiled, ifaces, maps, wideKeys, modest, calm, conditions, laid).
  DERIVED. THE GIVEN ROWS OF THIS SEAT. 4 by the template 'for every input the law returns true; each argument reads behind the call as it read before'; 0 by the template 'total and deterministic' (their statements: YtnihdgcfamoplaaGreatTotals.lean).
  GIVEN WITH THE SEED: the statements are not yours to turn. If you find one false, say at which input.
  Laid BY PROGRAM, IN A SANDBOX (cutbox-rows.mjs): the forced cells as the released guide's own fill.sh prints them over the translation 587435b6d621cff2… (all of the seat's roots in one cut). By AI agents, Wed Nov 11 2026. No macro, syntax, notation, axiom, sorry.
-/
import Derived.Test.YtnihdgcfamoplaaGreatChecked
import GoSem.Claim
import GoSem.ClaimJoined
import GoSem.ClaimMapViews
import Derived.JoinedTies
import Derived.KernelRfl
namespace Go.Proofs.YtnihdgcfamoplaaGreat
/- THE CELL 'sum', in the pinned program and in every row, IS THE sha256 OF THE DUMP (.gsa) THAT YtnihdgcfamoplaaGreatProg.lean LOADS. Nothing in Lean hashes anything: it is a label: what it is worth is what the hold of that sum in a sandbox is worth. -/
noncomputable def Tryz.pinned : Pinned := { name := "ytnihdgcfamoplaagreat", sum := "587435b6d621cff2ed838073abe33abaabcdb3ac44e0c649be6014f8fdc684d2", checked := Tryz.checked }
namespace Rows
def none {H : Type} : Left H := { results := [], args := [] }

/-- 'berthagelaw13.SeqPlays': WHATEVER THE INPUT: true; the input reads as it did. -/
def seqPlaysSpec : ChangeSpec := { name := "seqPlays", fn := fun _ => fun
  | [d1, d2] => { results := [.lit (.bool true)], args := [d1, d2] }
  | _ => none }
def seqPlaysRow : OpenClaim := { program := "ytnihdgcfamoplaagreat", sum := "587435b6d621cff2ed838073abe33abaabcdb3ac44e0c649be6014f8fdc684d2", func := "berthage/berthagelaw13.SeqPlays", spec := "seqPlays", inPlace := ["slices.overlaps[berthage/api.Step]"], unfollowed := true, recurses := true, apart := false }
def SeqPlaysSaid : Prop := seqPlaysRow.holds Tryz.pinned (OpenSpec.ofChange seqPlaysSpec)

/-- ITS FALSE NEIGHBOUR: 'it returns false'. Refute it at one input. -/
def seqPlaysWrong : ChangeSpec := { name := "seqPlays", fn := fun _ => fun
  | [d1, d2] => { results := [.lit (.bool false)], args := [d1, d2] }
  | _ => none }
def SeqPlaysWrongFalsely : Prop := seqPlaysRow.holds Tryz.pinned (OpenSpec.ofChange seqPlaysWrong)

/-- 'berthagelaw13.SeqRefuses': WHATEVER THE INPUT: true; the input reads as it did. -/
def seqRefusesSpec : ChangeSpec := { name := "seqRefuses", fn := fun _ => fun
  | [d1, d2, d3] => { results := [.lit (.bool true)], args := [d1, d2, d3] }
  | _ => none }
def seqRefusesRow : OpenClaim := { program := "ytnihdgcfamoplaagreat", sum := "587435b6d621cff2ed838073abe33abaabcdb3ac44e0c649be6014f8fdc684d2", func := "berthage/berthagelaw13.SeqRefuses", spec := "seqRefuses", inPlace := ["slices.overlaps[berthage/api.Step]"], unfollowed := true, recurses := true, apart := false }
def SeqRefusesSaid : Prop := seqRefusesRow.holds Tryz.pinned (OpenSpec.ofChange seqRefusesSpec)

/-- ITS FALSE NEIGHBOUR: 'it returns false'. Refute it at one input. -/
def seqRefusesWrong : ChangeSpec := { name := "seqRefuses", fn := fun _ => fun
  | [d1, d2, d3] => { results := [.lit (.bool false)], args := [d1, d2, d3] }
  | _ => none }
def SeqRefusesWrongFalsely : Prop := seqRefusesRow.holds Tryz.pinned (OpenSpec.ofChange seqRefusesWrong)

/-- 'berthagelaw13.SeqPlans': WHATEVER THE INPUT: true; the input reads as it did. -/
def seqPlansSpec : ChangeSpec := { name := "seqPlans", fn := fun _ => fun
  | [d1, d2, d3] => { results := [.lit (.bool true)], args := [d1, d2, d3] }
  | _ => none }
def seqPlansRow : OpenClaim := { program := "ytnihdgcfamoplaagreat", sum := "587435b6d621cff2ed838073abe33abaabcdb3ac44e0c649be6014f8fdc684d2", func := "berthage/berthagelaw13.SeqPlans", spec := "seqPlans", inPlace := ["slices.overlaps[berthage/api.Step]"], unfollowed := true, recurses := true, apart := false }
def SeqPlansSaid : Prop := seqPlansRow.holds Tryz.pinned (OpenSpec.ofChange seqPlansSpec)

/-- ITS FALSE NEIGHBOUR: 'it returns false'. Refute it at one input. -/
def seqPlansWrong : ChangeSpec := { name := "seqPlans", fn := fun _ => fun
  | [d1, d2, d3] => { results := [.lit (.bool false)], args := [d1, d2, d3] }
  | _ => none }
def SeqPlansWrongFalsely : Prop := seqPlansRow.holds Tryz.pinned (OpenSpec.ofChange seqPlansWrong)

/-- 'berthagelaw13.SeqItems': WHATEVER THE INPUT: true; the input reads as it did. -/
def seqItemsSpec : ChangeSpec := { name := "seqItems", fn := fun _ => fun
  | [d1, d2, d3] => { results := [.lit (.bool true)], args := [d1, d2, d3] }
  | _ => none }
def seqItemsRow : OpenClaim := { program := "ytnihdgcfamoplaagreat", sum := "587435b6d621cff2ed838073abe33abaabcdb3ac44e0c649be6014f8fdc684d2", func := "berthage/berthagelaw13.SeqItems", spec := "seqItems", inPlace := ["slices.overlaps[berthage/api.Step]"], unfollowed := true, recurses := true, apart := false }
def SeqItemsSaid : Prop := seqItemsRow.holds Tryz.pinned (OpenSpec.ofChange seqItemsSpec)

/-- ITS FALSE NEIGHBOUR: 'it returns false'. Refute it at one input. -/
def seqItemsWrong : ChangeSpec := { name := "seqItems", fn := fun _ => fun
  | [d1, d2, d3] => { results := [.lit (.bool false)], args := [d1, d2, d3] }
  | _ => none }
def SeqItemsWrongFalsely : Prop := seqItemsRow.holds Tryz.pinned (OpenSpec.ofChange seqItemsWrong)

/- THE SECOND FORM. 'bulk': how many values and letters a reading holds, each counted each time it is reached (what is shared counts as often as it is met; a slice's spare places count too). A statement '..UptoSaid' is the law's where the arguments, and the package variables that the reading takes, are together of bulk at most 1048576: NARROWER than '..Said'. Prove '..Said' where nothing that the law and all that it calls make is longer than what came in: it says more and counts as full. Else prove '..UptoSaid'. A law counts once. -/
mutual
def uptoBulk {H : Type} : DataW H → Nat
  | .lit (.string bytes) => bytes.length + 1
  | .lit _ => 1
  | .nil => 1
  | .ptr d => uptoBulk d + 1
  | .slice elems spare => uptoBulkAll elems + uptoBulkAll spare + 1
  | .agg parts => uptoBulkAll parts + 1
  | .iface _ d => uptoBulk d + 1
  | .map entries => uptoBulkEntries entries + 1
  | .held _ => 1
def uptoBulkAll {H : Type} : List (DataW H) → Nat
  | [] => 0
  | d :: r => uptoBulk d + uptoBulkAll r
def uptoBulkEntries {H : Type} : List (Lit × DataW H) → Nat
  | [] => 0
  | x :: r => uptoBulkEntry x + uptoBulkEntries r
def uptoBulkEntry {H : Type} : Lit × DataW H → Nat
  | (.string bytes, d) => bytes.length + uptoBulk d + 1
  | (_, d) => uptoBulk d + 1
 end
def uptoSmall : (H : Type) → List (DataW H) → Bool := fun _ ds => decide (uptoBulkAll ds ≤ 1048576)
def OpenSpec.upto (s : _root_.Go.ChangeSpec) : _root_.Go.OpenSpec := { _root_.Go.OpenSpec.ofChange s with cond := some uptoSmall }

/-- 'berthagelaw13.SeqPlays', WHERE WHAT IT READS IS OF BULK AT MOST 1048576: true; the input reads as it did. -/
def seqPlaysUptoRow : OpenClaim := { program := "ytnihdgcfamoplaagreat", sum := "587435b6d621cff2ed838073abe33abaabcdb3ac44e0c649be6014f8fdc684d2", func := "berthage/berthagelaw13.SeqPlays", spec := "seqPlays", inPlace := ["slices.overlaps[berthage/api.Step]"], unfollowed := true, recurses := true, apart := false, narrowed := true }
def SeqPlaysUptoSaid : Prop := seqPlaysUptoRow.holds Tryz.pinned (OpenSpec.upto seqPlaysSpec)

/-- 'berthagelaw13.SeqRefuses', WHERE WHAT IT READS IS OF BULK AT MOST 1048576: true; the input reads as it did. -/
def seqRefusesUptoRow : OpenClaim := { program := "ytnihdgcfamoplaagreat", sum := "587435b6d621cff2ed838073abe33abaabcdb3ac44e0c649be6014f8fdc684d2", func := "berthage/berthagelaw13.SeqRefuses", spec := "seqRefuses", inPlace := ["slices.overlaps[berthage/api.Step]"], unfollowed := true, recurses := true, apart := false, narrowed := true }
def SeqRefusesUptoSaid : Prop := seqRefusesUptoRow.holds Tryz.pinned (OpenSpec.upto seqRefusesSpec)

/-- 'berthagelaw13.SeqPlans', WHERE WHAT IT READS IS OF BULK AT MOST 1048576: true; the input reads as it did. -/
def seqPlansUptoRow : OpenClaim := { program := "ytnihdgcfamoplaagreat", sum := "587435b6d621cff2ed838073abe33abaabcdb3ac44e0c649be6014f8fdc684d2", func := "berthage/berthagelaw13.SeqPlans", spec := "seqPlans", inPlace := ["slices.overlaps[berthage/api.Step]"], unfollowed := true, recurses := true, apart := false, narrowed := true }
def SeqPlansUptoSaid : Prop := seqPlansUptoRow.holds Tryz.pinned (OpenSpec.upto seqPlansSpec)

/-- 'berthagelaw13.SeqItems', WHERE WHAT IT READS IS OF BULK AT MOST 1048576: true; the input reads as it did. -/
def seqItemsUptoRow : OpenClaim := { program := "ytnihdgcfamoplaagreat", sum := "587435b6d621cff2ed838073abe33abaabcdb3ac44e0c649be6014f8fdc684d2", func := "berthage/berthagelaw13.SeqItems", spec := "seqItems", inPlace := ["slices.overlaps[berthage/api.Step]"], unfollowed := true, recurses := true, apart := false, narrowed := true }
def SeqItemsUptoSaid : Prop := seqItemsUptoRow.holds Tryz.pinned (OpenSpec.upto seqItemsSpec)

end Rows
end Go.Proofs.YtnihdgcfamoplaaGreat
