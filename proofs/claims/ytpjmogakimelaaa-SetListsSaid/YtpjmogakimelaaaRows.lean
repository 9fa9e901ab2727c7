/-
  No cell of these rows narrows 'for every input' (looked for: loops, veiled, ifaces, maps, wideKeys, modest, calm, conditions, laid).
  DERIVED. THE GIVEN ROWS OF THIS SEAT. 3 by the template 'for every input the law returns true; each argument reads behind the call as it read before'; 0 by the template 'total and deterministic' (their statements: YtpjmogakimelaaaTotals.lean).
  GIVEN WITH THE SEED: the statements are not yours to turn. If you find one false, say at which input.
  Laid BY PROGRAM, IN A SANDBOX (cutbox-rows.mjs): the forced cells as the released guide's own fill.sh prints them over the translation a1824bf1e061a0bd… (all of the seat's roots in one cut). By AI agents, Wed Nov 11 2026. No macro, syntax, notation, axiom, sorry.
-/
import Derived.Test.YtpjmogakimelaaaChecked
import GoSem.Claim
import GoSem.ClaimJoined
import GoSem.ClaimMapViews
import Derived.JoinedTies
import Derived.KernelRfl
namespace Go.Proofs.Ytpjmogakimelaaa
/- THE CELL 'sum', in the pinned program and in every row, IS THE sha256 OF THE DUMP (.gsa) THAT YtpjmogakimelaaaProg.lean LOADS. Nothing in Lean hashes anything: it is a label: what it is worth is what the hold of that sum in a sandbox is worth. -/
noncomputable def Try.pinned : Pinned := { name := "ytpjmogakimelaaa", sum := "a1824bf1e061a0bd2caf8b0734824bede8233f99023d55ed11873bf4036070d6", checked := Try.checked }
namespace Rows
def none {H : Type} : Left H := { results := [], args := [] }

/-- 'berthagelaw03.SetLists': WHATEVER THE INPUT: true; the input reads as it did. -/
def setListsSpec : ChangeSpec := { name := "setLists", fn := fun _ => fun
  | [d1, d2] => { results := [.lit (.bool true)], args := [d1, d2] }
  | _ => none }
def setListsRow : OpenClaim := { program := "ytpjmogakimelaaa", sum := "a1824bf1e061a0bd2caf8b0734824bede8233f99023d55ed11873bf4036070d6", func := "berthage/berthagelaw03.SetLists", spec := "setLists", unfollowed := true, recurses := true, apart := false }
def SetListsSaid : Prop := setListsRow.holds Try.pinned (OpenSpec.ofChange setListsSpec)

/-- ITS FALSE NEIGHBOUR: 'it returns false'. Refute it at one input. -/
def setListsWrong : ChangeSpec := { name := "setLists", fn := fun _ => fun
  | [d1, d2] => { results := [.lit (.bool false)], args := [d1, d2] }
  | _ => none }
def SetListsWrongFalsely : Prop := setListsRow.holds Try.pinned (OpenSpec.ofChange setListsWrong)

/-- 'berthagelaw03.SetFirsts': WHATEVER THE INPUT: true; the input reads as it did. -/
def setFirstsSpec : ChangeSpec := { name := "setFirsts", fn := fun _ => fun
  | [d1, d2] => { results := [.lit (.bool true)], args := [d1, d2] }
  | _ => none }
def setFirstsRow : OpenClaim := { program := "ytpjmogakimelaaa", sum := "a1824bf1e061a0bd2caf8b0734824bede8233f99023d55ed11873bf4036070d6", func := "berthage/berthagelaw03.SetFirsts", spec := "setFirsts", apart := false }
def SetFirstsSaid : Prop := setFirstsRow.holds Try.pinned (OpenSpec.ofChange setFirstsSpec)

/-- ITS FALSE NEIGHBOUR: 'it returns false'. Refute it at one input. -/
def setFirstsWrong : ChangeSpec := { name := "setFirsts", fn := fun _ => fun
  | [d1, d2] => { results := [.lit (.bool false)], args := [d1, d2] }
  | _ => none }
def SetFirstsWrongFalsely : Prop := setFirstsRow.holds Try.pinned (OpenSpec.ofChange setFirstsWrong)

/-- 'berthagelaw03.SetApart': WHATEVER THE INPUT: true; the input reads as it did. -/
def setApartSpec : ChangeSpec := { name := "setApart", fn := fun _ => fun
  | [d] => { results := [.lit (.bool true)], args := [d] }
  | _ => none }
def setApartRow : OpenClaim := { program := "ytpjmogakimelaaa", sum := "a1824bf1e061a0bd2caf8b0734824bede8233f99023d55ed11873bf4036070d6", func := "berthage/berthagelaw03.SetApart", spec := "setApart", apart := false }
def SetApartSaid : Prop := setApartRow.holds Try.pinned (OpenSpec.ofChange setApartSpec)

/-- ITS FALSE NEIGHBOUR: 'it returns false'. Refute it at one input. -/
def setApartWrong : ChangeSpec := { name := "setApart", fn := fun _ => fun
  | [d] => { results := [.lit (.bool false)], args := [d] }
  | _ => none }
def SetApartWrongFalsely : Prop := setApartRow.holds Try.pinned (OpenSpec.ofChange setApartWrong)

/- THE SECOND FORM. 'bulk': how many values and letters a reading holds, each counted each time it is reached (what is shared counts as often as it is met; a slice's spare places count too). A statement '..UptoSaid' is the law's where the arguments, and the package variables that the reading takes, are together of bulk at most 1048576: NARROWER than '..Said'. Prove '..Said' where nothing that the law and all that it calls make is longer than what came in: it says more and counts as full. Else prove '..UptoSaid'. A law counts once. -/
mutual
def uptoBulk {H : Type} : DataW H → Nat
  | .lit (.string bytes) => bytes.length + 1
  | .lit _ => 1
  | .nil => 1
  | .ptr d => uptoBulk d + 1
  | .slice elems spare => uptoBulkAll elems + uptoBulkAll spare + 1
  | .agg parts => uptoBulkAll parts + 1
  | .iface _ d => uptoBulk d + 1
  | .map entries => uptoBulkEntries entries + 1
  | .held _ => 1
def uptoBulkAll {H : Type} : List (DataW H) → Nat
  | [] => 0
  | d :: r => uptoBulk d + uptoBulkAll r
def uptoBulkEntries {H : Type} : List (Lit × DataW H) → Nat
  | [] => 0
  | x :: r => uptoBulkEntry x + uptoBulkEntries r
def uptoBulkEntry {H : Type} : Lit × DataW H → Nat
  | (.string bytes, d) => bytes.length + uptoBulk d + 1
  | (_, d) => uptoBulk d + 1
 end
def uptoSmall : (H : Type) → List (DataW H) → Bool := fun _ ds => decide (uptoBulkAll ds ≤ 1048576)
def OpenSpec.upto (s : _root_.Go.ChangeSpec) : _root_.Go.OpenSpec := { _root_.Go.OpenSpec.ofChange s with cond := some uptoSmall }

/-- 'berthagelaw03.SetLists', WHERE WHAT IT READS IS OF BULK AT MOST 1048576: true; the input reads as it did. -/
def setListsUptoRow : OpenClaim := { program := "ytpjmogakimelaaa", sum := "a1824bf1e061a0bd2caf8b0734824bede8233f99023d55ed11873bf4036070d6", func := "berthage/berthagelaw03.SetLists", spec := "setLists", unfollowed := true, recurses := true, apart := false, narrowed := true }
def SetListsUptoSaid : Prop := setListsUptoRow.holds Try.pinned (OpenSpec.upto setListsSpec)

/-- 'berthagelaw03.SetFirsts', WHERE WHAT IT READS IS OF BULK AT MOST 1048576: true; the input reads as it did. -/
def setFirstsUptoRow : OpenClaim := { program := "ytpjmogakimelaaa", sum := "a1824bf1e061a0bd2caf8b0734824bede8233f99023d55ed11873bf4036070d6", func := "berthage/berthagelaw03.SetFirsts", spec := "setFirsts", apart := false, narrowed := true }
def SetFirstsUptoSaid : Prop := setFirstsUptoRow.holds Try.pinned (OpenSpec.upto setFirstsSpec)

/-- 'berthagelaw03.SetApart', WHERE WHAT IT READS IS OF BULK AT MOST 1048576: true; the input reads as it did. -/
def setApartUptoRow : OpenClaim := { program := "ytpjmogakimelaaa", sum := "a1824bf1e061a0bd2caf8b0734824bede8233f99023d55ed11873bf4036070d6", func := "berthage/berthagelaw03.SetApart", spec := "setApart", apart := false, narrowed := true }
def SetApartUptoSaid : Prop := setApartUptoRow.holds Try.pinned (OpenSpec.upto setApartSpec)

end Rows
end Go.Proofs.Ytpjmogakimelaaa
