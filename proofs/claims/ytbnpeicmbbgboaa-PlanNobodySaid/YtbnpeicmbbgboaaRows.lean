/-
  No cell of these rows narrows 'for every input' (looked for: loops, veiled, ifaces, maps, wideKeys, modest, calm, conditions, laid).
  DERIVED. THE GIVEN ROWS OF THIS SEAT. 4 by the template 'for every input the law returns true; each argument reads behind the call as it read before'; 0 by the template 'total and deterministic' (their statements: YtbnpeicmbbgboaaTotals.lean).
  GIVEN WITH THE SEED: the statements are not yours to turn. If you find one false, say at which input.
  Laid BY PROGRAM, IN A SANDBOX (cutbox-rows.mjs): the forced cells as the released guide's own fill.sh prints them over the translation 9423f992a0e5b29b… (all of the seat's roots in one cut). By AI agents, Wed Nov 11 2026. No macro, syntax, notation, axiom, sorry.
-/
import Derived.Test.YtbnpeicmbbgboaaChecked
import GoSem.Claim
import GoSem.ClaimJoined
import GoSem.ClaimMapViews
import Derived.JoinedTies
import Derived.KernelRfl
namespace Go.Proofs.Ytbnpeicmbbgboaa
/- THE CELL 'sum', in the pinned program and in every row, IS THE sha256 OF THE DUMP (.gsa) THAT YtbnpeicmbbgboaaProg.lean LOADS. Nothing in Lean hashes anything: it is a label: what it is worth is what the hold of that sum in a sandbox is worth. -/
noncomputable def Try.pinned : Pinned := { name := "ytbnpeicmbbgboaa", sum := "9423f992a0e5b29b25b2cfc7e41e1668f6ac61cd72992e5e49b600a7bb45a561", checked := Try.checked }
namespace Rows
def none {H : Type} : Left H := { results := [], args := [] }

/-- 'berthagelaw14.PlanChoices': WHATEVER THE INPUT: true; the input reads as it did. -/
def planChoicesSpec : ChangeSpec := { name := "planChoices", fn := fun _ => fun
  | [d1, d2, d3, d4] => { results := [.lit (.bool true)], args := [d1, d2, d3, d4] }
  | _ => none }
def planChoicesRow : OpenClaim := { program := "ytbnpeicmbbgboaa", sum := "9423f992a0e5b29b25b2cfc7e41e1668f6ac61cd72992e5e49b600a7bb45a561", func := "berthage/berthagelaw14.PlanChoices", spec := "planChoices", inPlace := ["slices.overlaps[berthage/api.Step]"], unfollowed := true, recurses := true, apart := false }
def PlanChoicesSaid : Prop := planChoicesRow.holds Try.pinned (OpenSpec.ofChange planChoicesSpec)

/-- ITS FALSE NEIGHBOUR: 'it returns false'. Refute it at one input. -/
def planChoicesWrong : ChangeSpec := { name := "planChoices", fn := fun _ => fun
  | [d1, d2, d3, d4] => { results := [.lit (.bool false)], args := [d1, d2, d3, d4] }
  | _ => none }
def PlanChoicesWrongFalsely : Prop := planChoicesRow.holds Try.pinned (OpenSpec.ofChange planChoicesWrong)

/-- 'berthagelaw14.PlanParts': WHATEVER THE INPUT: true; the input reads as it did. -/
def planPartsSpec : ChangeSpec := { name := "planParts", fn := fun _ => fun
  | [d1, d2, d3, d4] => { results := [.lit (.bool true)], args := [d1, d2, d3, d4] }
  | _ => none }
def planPartsRow : OpenClaim := { program := "ytbnpeicmbbgboaa", sum := "9423f992a0e5b29b25b2cfc7e41e1668f6ac61cd72992e5e49b600a7bb45a561", func := "berthage/berthagelaw14.PlanParts", spec := "planParts", inPlace := ["slices.overlaps[berthage/api.Step]"], unfollowed := true, recurses := true, apart := false }
def PlanPartsSaid : Prop := planPartsRow.holds Try.pinned (OpenSpec.ofChange planPartsSpec)

/-- ITS FALSE NEIGHBOUR: 'it returns false'. Refute it at one input. -/
def planPartsWrong : ChangeSpec := { name := "planParts", fn := fun _ => fun
  | [d1, d2, d3, d4] => { results := [.lit (.bool false)], args := [d1, d2, d3, d4] }
  | _ => none }
def PlanPartsWrongFalsely : Prop := planPartsRow.holds Try.pinned (OpenSpec.ofChange planPartsWrong)

/-- 'berthagelaw14.PlanLower': WHATEVER THE INPUT: true; the input reads as it did. -/
def planLowerSpec : ChangeSpec := { name := "planLower", fn := fun _ => fun
  | [d1, d2, d3] => { results := [.lit (.bool true)], args := [d1, d2, d3] }
  | _ => none }
def planLowerRow : OpenClaim := { program := "ytbnpeicmbbgboaa", sum := "9423f992a0e5b29b25b2cfc7e41e1668f6ac61cd72992e5e49b600a7bb45a561", func := "berthage/berthagelaw14.PlanLower", spec := "planLower", inPlace := ["slices.overlaps[berthage/api.Step]"], unfollowed := true, recurses := true, apart := false }
def PlanLowerSaid : Prop := planLowerRow.holds Try.pinned (OpenSpec.ofChange planLowerSpec)

/-- ITS FALSE NEIGHBOUR: 'it returns false'. Refute it at one input. -/
def planLowerWrong : ChangeSpec := { name := "planLower", fn := fun _ => fun
  | [d1, d2, d3] => { results := [.lit (.bool false)], args := [d1, d2, d3] }
  | _ => none }
def PlanLowerWrongFalsely : Prop := planLowerRow.holds Try.pinned (OpenSpec.ofChange planLowerWrong)

/-- 'berthagelaw14.PlanNobody': WHATEVER THE INPUT: true; the input reads as it did. -/
def planNobodySpec : ChangeSpec := { name := "planNobody", fn := fun _ => fun
  | [d1, d2] => { results := [.lit (.bool true)], args := [d1, d2] }
  | _ => none }
def planNobodyRow : OpenClaim := { program := "ytbnpeicmbbgboaa", sum := "9423f992a0e5b29b25b2cfc7e41e1668f6ac61cd72992e5e49b600a7bb45a561", func := "berthage/berthagelaw14.PlanNobody", spec := "planNobody", inPlace := ["slices.overlaps[berthage/api.Step]"], unfollowed := true, recurses := true, apart := false }
def PlanNobodySaid : Prop := planNobodyRow.holds Try.pinned (OpenSpec.ofChange planNobodySpec)

/-- ITS FALSE NEIGHBOUR: 'it returns false'. Refute it at one input. -/
def planNobodyWrong : ChangeSpec := { name := "planNobody", fn := fun _ => fun
  | [d1, d2] => { results := [.lit (.bool false)], args := [d1, d2] }
  | _ => none }
def PlanNobodyWrongFalsely : Prop := planNobodyRow.holds Try.pinned (OpenSpec.ofChange planNobodyWrong)

/- THE SECOND FORM. 'bulk': how many values and letters a reading holds, each counted each time it is reached (what is shared counts as often as it is met; a slice's spare places count too). A statement '..UptoSaid' is the law's where the arguments, and the package variables that the reading takes, are together of bulk at most 1048576: NARROWER than '..Said'. Prove '..Said' where nothing that the law and all that it calls make is longer than what came in: it says more and counts as full. Else prove '..UptoSaid'. A law counts once. -/
mutual
def uptoBulk {H : Type} : DataW H → Nat
  | .lit (.string bytes) => bytes.length + 1
  | .lit _ => 1
  | .nil => 1
  | .ptr d => uptoBulk d + 1
  | .slice elems spare => uptoBulkAll elems + uptoBulkAll spare + 1
  | .agg parts => uptoBulkAll parts + 1
  | .iface _ d => uptoBulk d + 1
  | .map entries => uptoBulkEntries entries + 1
  | .held _ => 1
def uptoBulkAll {H : Type} : List (DataW H) → Nat
  | [] => 0
  | d :: r => uptoBulk d + uptoBulkAll r
def uptoBulkEntries {H : Type} : List (Lit × DataW H) → Nat
  | [] => 0
  | x :: r => uptoBulkEntry x + uptoBulkEntries r
def uptoBulkEntry {H : Type} : Lit × DataW H → Nat
  | (.string bytes, d) => bytes.length + uptoBulk d + 1
  | (_, d) => uptoBulk d + 1
 end
def uptoSmall : (H : Type) → List (DataW H) → Bool := fun _ ds => decide (uptoBulkAll ds ≤ 1048576)
def OpenSpec.upto (s : _root_.Go.ChangeSpec) : _root_.Go.OpenSpec := { _root_.Go.OpenSpec.ofChange s with cond := some uptoSmall }

/-- 'berthagelaw14.PlanChoices', WHERE WHAT IT READS IS OF BULK AT MOST 1048576: true; the input reads as it did. -/
def planChoicesUptoRow : OpenClaim := { program := "ytbnpeicmbbgboaa", sum := "9423f992a0e5b29b25b2cfc7e41e1668f6ac61cd72992e5e49b600a7bb45a561", func := "berthage/berthagelaw14.PlanChoices", spec := "planChoices", inPlace := ["slices.overlaps[berthage/api.Step]"], unfollowed := true, recurses := true, apart := false, narrowed := true }
def PlanChoicesUptoSaid : Prop := planChoicesUptoRow.holds Try.pinned (OpenSpec.upto planChoicesSpec)

/-- 'berthagelaw14.PlanParts', WHERE WHAT IT READS IS OF BULK AT MOST 1048576: true; the input reads as it did. -/
def planPartsUptoRow : OpenClaim := { program := "ytbnpeicmbbgboaa", sum := "9423f992a0e5b29b25b2cfc7e41e1668f6ac61cd72992e5e49b600a7bb45a561", func := "berthage/berthagelaw14.PlanParts", spec := "planParts", inPlace := ["slices.overlaps[berthage/api.Step]"], unfollowed := true, recurses := true, apart := false, narrowed := true }
def PlanPartsUptoSaid : Prop := planPartsUptoRow.holds Try.pinned (OpenSpec.upto planPartsSpec)

/-- 'berthagelaw14.PlanLower', WHERE WHAT IT READS IS OF BULK AT MOST 1048576: true; the input reads as it did. -/
def planLowerUptoRow : OpenClaim := { program := "ytbnpeicmbbgboaa", sum := "9423f992a0e5b29b25b2cfc7e41e1668f6ac61cd72992e5e49b600a7bb45a561", func := "berthage/berthagelaw14.PlanLower", spec := "planLower", inPlace := ["slices.overlaps[berthage/api.Step]"], unfollowed := true, recurses := true, apart := false, narrowed := true }
def PlanLowerUptoSaid : Prop := planLowerUptoRow.holds Try.pinned (OpenSpec.upto planLowerSpec)

/-- 'berthagelaw14.PlanNobody', WHERE WHAT IT READS IS OF BULK AT MOST 1048576: true; the input reads as it did. -/
def planNobodyUptoRow : OpenClaim := { program := "ytbnpeicmbbgboaa", sum := "9423f992a0e5b29b25b2cfc7e41e1668f6ac61cd72992e5e49b600a7bb45a561", func := "berthage/berthagelaw14.PlanNobody", spec := "planNobody", inPlace := ["slices.overlaps[berthage/api.Step]"], unfollowed := true, recurses := true, apart := false, narrowed := true }
def PlanNobodyUptoSaid : Prop := planNobodyUptoRow.holds Try.pinned (OpenSpec.upto planNobodySpec)

end Rows
end Go.Proofs.Ytbnpeicmbbgboaa
