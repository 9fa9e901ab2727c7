/-
  No cell of these rows narrows 'for every input' (looked for: loops, veiled, ifaces, maps, wideKeys, modest, calm, conditions, laid).
  DERIVED. THE GIVEN ROWS OF THIS SEAT. 3 by the template 'for every input the law returns true; each argument reads behind the call as it read before'; 0 by the template 'total and deterministic' (their statements: YthofobldpnoclaaTotals.lean).
  GIVEN WITH THE SEED: the statements are not yours to turn. If you find one false, say at which input.
  Laid BY PROGRAM, IN A SANDBOX (cutbox-rows.mjs): the forced cells as the released guide's own fill.sh prints them over the translation ce9be27658d5673f… (all of the seat's roots in one cut). By AI agents, Wed Nov 11 2026. No macro, syntax, notation, axiom, sorry.
-/
import Derived.Test.YthofobldpnoclaaChecked
import GoSem.Claim
import GoSem.ClaimJoined
import GoSem.ClaimMapViews
import Derived.JoinedTies
import Derived.KernelRfl
namespace Go.Proofs.Ythofobldpnoclaa
/- THE CELL 'sum', in the pinned program and in every row, IS THE sha256 OF THE DUMP (.gsa) THAT YthofobldpnoclaaProg.lean LOADS. Nothing in Lean hashes anything: it is a label: what it is worth is what the hold of that sum in a sandbox is worth. -/
noncomputable def Try.pinned : Pinned := { name := "ythofobldpnoclaa", sum := "ce9be27658d5673fce5d0672c6e103154526df93de47d94c03036da55512f275", checked := Try.checked }
namespace Rows
def none {H : Type} : Left H := { results := [], args := [] }

/-- 'berthagelaw09.RuleNeeds': WHATEVER THE INPUT: true; the input reads as it did. -/
def ruleNeedsSpec : ChangeSpec := { name := "ruleNeeds", fn := fun _ => fun
  | [d] => { results := [.lit (.bool true)], args := [d] }
  | _ => none }
def ruleNeedsRow : OpenClaim := { program := "ythofobldpnoclaa", sum := "ce9be27658d5673fce5d0672c6e103154526df93de47d94c03036da55512f275", func := "berthage/berthagelaw09.RuleNeeds", spec := "ruleNeeds", apart := false }
def RuleNeedsSaid : Prop := ruleNeedsRow.holds Try.pinned (OpenSpec.ofChange ruleNeedsSpec)

/-- ITS FALSE NEIGHBOUR: 'it returns false'. Refute it at one input. -/
def ruleNeedsWrong : ChangeSpec := { name := "ruleNeeds", fn := fun _ => fun
  | [d] => { results := [.lit (.bool false)], args := [d] }
  | _ => none }
def RuleNeedsWrongFalsely : Prop := ruleNeedsRow.holds Try.pinned (OpenSpec.ofChange ruleNeedsWrong)

/-- 'berthagelaw09.RuleCleans': WHATEVER THE INPUT: true; the input reads as it did. -/
def ruleCleansSpec : ChangeSpec := { name := "ruleCleans", fn := fun _ => fun
  | [d1, d2] => { results := [.lit (.bool true)], args := [d1, d2] }
  | _ => none }
def ruleCleansRow : OpenClaim := { program := "ythofobldpnoclaa", sum := "ce9be27658d5673fce5d0672c6e103154526df93de47d94c03036da55512f275", func := "berthage/berthagelaw09.RuleCleans", spec := "ruleCleans", apart := false }
def RuleCleansSaid : Prop := ruleCleansRow.holds Try.pinned (OpenSpec.ofChange ruleCleansSpec)

/-- ITS FALSE NEIGHBOUR: 'it returns false'. Refute it at one input. -/
def ruleCleansWrong : ChangeSpec := { name := "ruleCleans", fn := fun _ => fun
  | [d1, d2] => { results := [.lit (.bool false)], args := [d1, d2] }
  | _ => none }
def RuleCleansWrongFalsely : Prop := ruleCleansRow.holds Try.pinned (OpenSpec.ofChange ruleCleansWrong)

/-- 'berthagelaw09.RuleLanes': WHATEVER THE INPUT: true; the input reads as it did. -/
def ruleLanesSpec : ChangeSpec := { name := "ruleLanes", fn := fun _ => fun
  | [d1, d2] => { results := [.lit (.bool true)], args := [d1, d2] }
  | _ => none }
def ruleLanesRow : OpenClaim := { program := "ythofobldpnoclaa", sum := "ce9be27658d5673fce5d0672c6e103154526df93de47d94c03036da55512f275", func := "berthage/berthagelaw09.RuleLanes", spec := "ruleLanes", apart := false }
def RuleLanesSaid : Prop := ruleLanesRow.holds Try.pinned (OpenSpec.ofChange ruleLanesSpec)

/-- ITS FALSE NEIGHBOUR: 'it returns false'. Refute it at one input. -/
def ruleLanesWrong : ChangeSpec := { name := "ruleLanes", fn := fun _ => fun
  | [d1, d2] => { results := [.lit (.bool false)], args := [d1, d2] }
  | _ => none }
def RuleLanesWrongFalsely : Prop := ruleLanesRow.holds Try.pinned (OpenSpec.ofChange ruleLanesWrong)

/- THE SECOND FORM. 'bulk': how many values and letters a reading holds, each counted each time it is reached (what is shared counts as often as it is met; a slice's spare places count too). A statement '..UptoSaid' is the law's where the arguments, and the package variables that the reading takes, are together of bulk at most 1048576: NARROWER than '..Said'. Prove '..Said' where nothing that the law and all that it calls make is longer than what came in: it says more and counts as full. Else prove '..UptoSaid'. A law counts once. -/
mutual
def uptoBulk {H : Type} : DataW H → Nat
  | .lit (.string bytes) => bytes.length + 1
  | .lit _ => 1
  | .nil => 1
  | .ptr d => uptoBulk d + 1
  | .slice elems spare => uptoBulkAll elems + uptoBulkAll spare + 1
  | .agg parts => uptoBulkAll parts + 1
  | .iface _ d => uptoBulk d + 1
  | .map entries => uptoBulkEntries entries + 1
  | .held _ => 1
def uptoBulkAll {H : Type} : List (DataW H) → Nat
  | [] => 0
  | d :: r => uptoBulk d + uptoBulkAll r
def uptoBulkEntries {H : Type} : List (Lit × DataW H) → Nat
  | [] => 0
  | x :: r => uptoBulkEntry x + uptoBulkEntries r
def uptoBulkEntry {H : Type} : Lit × DataW H → Nat
  | (.string bytes, d) => bytes.length + uptoBulk d + 1
  | (_, d) => uptoBulk d + 1
 end
def uptoSmall : (H : Type) → List (DataW H) → Bool := fun _ ds => decide (uptoBulkAll ds ≤ 1048576)
def OpenSpec.upto (s : _root_.Go.ChangeSpec) : _root_.Go.OpenSpec := { _root_.Go.OpenSpec.ofChange s with cond := some uptoSmall }

/-- 'berthagelaw09.RuleNeeds', WHERE WHAT IT READS IS OF BULK AT MOST 1048576: true; the input reads as it did. -/
def ruleNeedsUptoRow : OpenClaim := { program := "ythofobldpnoclaa", sum := "ce9be27658d5673fce5d0672c6e103154526df93de47d94c03036da55512f275", func := "berthage/berthagelaw09.RuleNeeds", spec := "ruleNeeds", apart := false, narrowed := true }
def RuleNeedsUptoSaid : Prop := ruleNeedsUptoRow.holds Try.pinned (OpenSpec.upto ruleNeedsSpec)

/-- 'berthagelaw09.RuleCleans', WHERE WHAT IT READS IS OF BULK AT MOST 1048576: true; the input reads as it did. -/
def ruleCleansUptoRow : OpenClaim := { program := "ythofobldpnoclaa", sum := "ce9be27658d5673fce5d0672c6e103154526df93de47d94c03036da55512f275", func := "berthage/berthagelaw09.RuleCleans", spec := "ruleCleans", apart := false, narrowed := true }
def RuleCleansUptoSaid : Prop := ruleCleansUptoRow.holds Try.pinned (OpenSpec.upto ruleCleansSpec)

/-- 'berthagelaw09.RuleLanes', WHERE WHAT IT READS IS OF BULK AT MOST 1048576: true; the input reads as it did. -/
def ruleLanesUptoRow : OpenClaim := { program := "ythofobldpnoclaa", sum := "ce9be27658d5673fce5d0672c6e103154526df93de47d94c03036da55512f275", func := "berthage/berthagelaw09.RuleLanes", spec := "ruleLanes", apart := false, narrowed := true }
def RuleLanesUptoSaid : Prop := ruleLanesUptoRow.holds Try.pinned (OpenSpec.upto ruleLanesSpec)

end Rows
end Go.Proofs.Ythofobldpnoclaa
