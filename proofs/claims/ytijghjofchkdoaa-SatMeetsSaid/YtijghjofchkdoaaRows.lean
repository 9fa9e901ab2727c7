/-
  No cell of these rows narrows 'for every input' (looked for: loops, veiled, ifaces, maps, wideKeys, modest, calm, conditions, laid).
  DERIVED. THE GIVEN ROWS OF THIS SEAT. 4 by the template 'for every input the law returns true; each argument reads behind the call as it read before'; 0 by the template 'total and deterministic' (their statements: YtijghjofchkdoaaTotals.lean).
  GIVEN WITH THE SEED: the statements are not yours to turn. If you find one false, say at which input.
  Laid BY PROGRAM, IN A SANDBOX (cutbox-rows.mjs): the forced cells as the released guide's own fill.sh prints them over the translation d212e18abf5c88b2… (all of the seat's roots in one cut). By AI agents, Wed Nov 11 2026. No macro, syntax, notation, axiom, sorry.
-/
import Derived.Test.YtijghjofchkdoaaChecked
import GoSem.Claim
import GoSem.ClaimJoined
import GoSem.ClaimMapViews
import Derived.JoinedTies
import Derived.KernelRfl
namespace Go.Proofs.Ytijghjofchkdoaa
/- THE CELL 'sum', in the pinned program and in every row, IS THE sha256 OF THE DUMP (.gsa) THAT YtijghjofchkdoaaProg.lean LOADS. Nothing in Lean hashes anything: it is a label: what it is worth is what the hold of that sum in a sandbox is worth. -/
noncomputable def Try.pinned : Pinned := { name := "ytijghjofchkdoaa", sum := "d212e18abf5c88b20dada6af01bea90a36a182f83cb3533c5532ed7631254d3b", checked := Try.checked }
namespace Rows
def none {H : Type} : Left H := { results := [], args := [] }

/-- 'berthagelaw02.SatSums': WHATEVER THE INPUT: true; the input reads as it did. -/
def satSumsSpec : ChangeSpec := { name := "satSums", fn := fun _ => fun
  | [d] => { results := [.lit (.bool true)], args := [d] }
  | _ => none }
def satSumsRow : OpenClaim := { program := "ytijghjofchkdoaa", sum := "d212e18abf5c88b20dada6af01bea90a36a182f83cb3533c5532ed7631254d3b", func := "berthage/berthagelaw02.SatSums", spec := "satSums", apart := false }
def SatSumsSaid : Prop := satSumsRow.holds Try.pinned (OpenSpec.ofChange satSumsSpec)

/-- ITS FALSE NEIGHBOUR: 'it returns false'. Refute it at one input. -/
def satSumsWrong : ChangeSpec := { name := "satSums", fn := fun _ => fun
  | [d] => { results := [.lit (.bool false)], args := [d] }
  | _ => none }
def SatSumsWrongFalsely : Prop := satSumsRow.holds Try.pinned (OpenSpec.ofChange satSumsWrong)

/-- 'berthagelaw02.SatParts': WHATEVER THE INPUT: true; the input reads as it did. -/
def satPartsSpec : ChangeSpec := { name := "satParts", fn := fun _ => fun
  | [d1, d2] => { results := [.lit (.bool true)], args := [d1, d2] }
  | _ => none }
def satPartsRow : OpenClaim := { program := "ytijghjofchkdoaa", sum := "d212e18abf5c88b20dada6af01bea90a36a182f83cb3533c5532ed7631254d3b", func := "berthage/berthagelaw02.SatParts", spec := "satParts", apart := false }
def SatPartsSaid : Prop := satPartsRow.holds Try.pinned (OpenSpec.ofChange satPartsSpec)

/-- ITS FALSE NEIGHBOUR: 'it returns false'. Refute it at one input. -/
def satPartsWrong : ChangeSpec := { name := "satParts", fn := fun _ => fun
  | [d1, d2] => { results := [.lit (.bool false)], args := [d1, d2] }
  | _ => none }
def SatPartsWrongFalsely : Prop := satPartsRow.holds Try.pinned (OpenSpec.ofChange satPartsWrong)

/-- 'berthagelaw02.SatMeets': WHATEVER THE INPUT: true; the input reads as it did. -/
def satMeetsSpec : ChangeSpec := { name := "satMeets", fn := fun _ => fun
  | [d1, d2, d3, d4] => { results := [.lit (.bool true)], args := [d1, d2, d3, d4] }
  | _ => none }
def satMeetsRow : OpenClaim := { program := "ytijghjofchkdoaa", sum := "d212e18abf5c88b20dada6af01bea90a36a182f83cb3533c5532ed7631254d3b", func := "berthage/berthagelaw02.SatMeets", spec := "satMeets", apart := false }
def SatMeetsSaid : Prop := satMeetsRow.holds Try.pinned (OpenSpec.ofChange satMeetsSpec)

/-- ITS FALSE NEIGHBOUR: 'it returns false'. Refute it at one input. -/
def satMeetsWrong : ChangeSpec := { name := "satMeets", fn := fun _ => fun
  | [d1, d2, d3, d4] => { results := [.lit (.bool false)], args := [d1, d2, d3, d4] }
  | _ => none }
def SatMeetsWrongFalsely : Prop := satMeetsRow.holds Try.pinned (OpenSpec.ofChange satMeetsWrong)

/-- 'berthagelaw02.SatAreas': WHATEVER THE INPUT: true; the input reads as it did. -/
def satAreasSpec : ChangeSpec := { name := "satAreas", fn := fun _ => fun
  | [d1, d2, d3] => { results := [.lit (.bool true)], args := [d1, d2, d3] }
  | _ => none }
def satAreasRow : OpenClaim := { program := "ytijghjofchkdoaa", sum := "d212e18abf5c88b20dada6af01bea90a36a182f83cb3533c5532ed7631254d3b", func := "berthage/berthagelaw02.SatAreas", spec := "satAreas", apart := false }
def SatAreasSaid : Prop := satAreasRow.holds Try.pinned (OpenSpec.ofChange satAreasSpec)

/-- ITS FALSE NEIGHBOUR: 'it returns false'. Refute it at one input. -/
def satAreasWrong : ChangeSpec := { name := "satAreas", fn := fun _ => fun
  | [d1, d2, d3] => { results := [.lit (.bool false)], args := [d1, d2, d3] }
  | _ => none }
def SatAreasWrongFalsely : Prop := satAreasRow.holds Try.pinned (OpenSpec.ofChange satAreasWrong)

/- THE SECOND FORM. 'bulk': how many values and letters a reading holds, each counted each time it is reached (what is shared counts as often as it is met; a slice's spare places count too). A statement '..UptoSaid' is the law's where the arguments, and the package variables that the reading takes, are together of bulk at most 1048576: NARROWER than '..Said'. Prove '..Said' where nothing that the law and all that it calls make is longer than what came in: it says more and counts as full. Else prove '..UptoSaid'. A law counts once. -/
mutual
def uptoBulk {H : Type} : DataW H → Nat
  | .lit (.string bytes) => bytes.length + 1
  | .lit _ => 1
  | .nil => 1
  | .ptr d => uptoBulk d + 1
  | .slice elems spare => uptoBulkAll elems + uptoBulkAll spare + 1
  | .agg parts => uptoBulkAll parts + 1
  | .iface _ d => uptoBulk d + 1
  | .map entries => uptoBulkEntries entries + 1
  | .held _ => 1
def uptoBulkAll {H : Type} : List (DataW H) → Nat
  | [] => 0
  | d :: r => uptoBulk d + uptoBulkAll r
def uptoBulkEntries {H : Type} : List (Lit × DataW H) → Nat
  | [] => 0
  | x :: r => uptoBulkEntry x + uptoBulkEntries r
def uptoBulkEntry {H : Type} : Lit × DataW H → Nat
  | (.string bytes, d) => bytes.length + uptoBulk d + 1
  | (_, d) => uptoBulk d + 1
 end
def uptoSmall : (H : Type) → List (DataW H) → Bool := fun _ ds => decide (uptoBulkAll ds ≤ 1048576)
def OpenSpec.upto (s : _root_.Go.ChangeSpec) : _root_.Go.OpenSpec := { _root_.Go.OpenSpec.ofChange s with cond := some uptoSmall }

/-- 'berthagelaw02.SatSums', WHERE WHAT IT READS IS OF BULK AT MOST 1048576: true; the input reads as it did. -/
def satSumsUptoRow : OpenClaim := { program := "ytijghjofchkdoaa", sum := "d212e18abf5c88b20dada6af01bea90a36a182f83cb3533c5532ed7631254d3b", func := "berthage/berthagelaw02.SatSums", spec := "satSums", apart := false, narrowed := true }
def SatSumsUptoSaid : Prop := satSumsUptoRow.holds Try.pinned (OpenSpec.upto satSumsSpec)

/-- 'berthagelaw02.SatParts', WHERE WHAT IT READS IS OF BULK AT MOST 1048576: true; the input reads as it did. -/
def satPartsUptoRow : OpenClaim := { program := "ytijghjofchkdoaa", sum := "d212e18abf5c88b20dada6af01bea90a36a182f83cb3533c5532ed7631254d3b", func := "berthage/berthagelaw02.SatParts", spec := "satParts", apart := false, narrowed := true }
def SatPartsUptoSaid : Prop := satPartsUptoRow.holds Try.pinned (OpenSpec.upto satPartsSpec)

/-- 'berthagelaw02.SatMeets', WHERE WHAT IT READS IS OF BULK AT MOST 1048576: true; the input reads as it did. -/
def satMeetsUptoRow : OpenClaim := { program := "ytijghjofchkdoaa", sum := "d212e18abf5c88b20dada6af01bea90a36a182f83cb3533c5532ed7631254d3b", func := "berthage/berthagelaw02.SatMeets", spec := "satMeets", apart := false, narrowed := true }
def SatMeetsUptoSaid : Prop := satMeetsUptoRow.holds Try.pinned (OpenSpec.upto satMeetsSpec)

/-- 'berthagelaw02.SatAreas', WHERE WHAT IT READS IS OF BULK AT MOST 1048576: true; the input reads as it did. -/
def satAreasUptoRow : OpenClaim := { program := "ytijghjofchkdoaa", sum := "d212e18abf5c88b20dada6af01bea90a36a182f83cb3533c5532ed7631254d3b", func := "berthage/berthagelaw02.SatAreas", spec := "satAreas", apart := false, narrowed := true }
def SatAreasUptoSaid : Prop := satAreasUptoRow.holds Try.pinned (OpenSpec.upto satAreasSpec)

end Rows
end Go.Proofs.Ytijghjofchkdoaa
