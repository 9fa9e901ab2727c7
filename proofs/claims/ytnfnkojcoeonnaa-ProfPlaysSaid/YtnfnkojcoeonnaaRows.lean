/-
  No cell of these rows narrows 'for every input' (looked for: loops, veiled, ifaces, maps, wideKeys, modest, calm, conditions, laid).
  DERIVED. THE GIVEN ROWS OF THIS SEAT. 4 by the template 'for every input the law returns true; each argument reads behind the call as it read before'; 0 by the template 'total and deterministic' (their statements: YtnfnkojcoeonnaaTotals.lean).
  GIVEN WITH THE SEED: the statements are not yours to turn. If you find one false, say at which input.
  Laid BY PROGRAM, IN A SANDBOX (cutbox-rows.mjs): the forced cells as the released guide's own fill.sh prints them over the translation 5a9c08eae1e33d5c… (all of the seat's roots in one cut). By AI agents, Wed Nov 11 2026. No macro, syntax, notation, axiom, sorry.
-/
import Derived.Test.YtnfnkojcoeonnaaChecked
import GoSem.Claim
import GoSem.ClaimJoined
import GoSem.ClaimMapViews
import Derived.JoinedTies
import Derived.KernelRfl
namespace Go.Proofs.Ytnfnkojcoeonnaa
/- THE CELL 'sum', in the pinned program and in every row, IS THE sha256 OF THE DUMP (.gsa) THAT YtnfnkojcoeonnaaProg.lean LOADS. Nothing in Lean hashes anything: it is a label: what it is worth is what the hold of that sum in a sandbox is worth. -/
noncomputable def Try.pinned : Pinned := { name := "ytnfnkojcoeonnaa", sum := "5a9c08eae1e33d5c949099771b505aba373ec84a5c7134ad01a45c91d503a7b2", checked := Try.checked }
namespace Rows
def none {H : Type} : Left H := { results := [], args := [] }

/-- 'berthagelaw05.ProfPlays': WHATEVER THE INPUT: true; the input reads as it did. -/
def profPlaysSpec : ChangeSpec := { name := "profPlays", fn := fun _ => fun
  | [d1, d2] => { results := [.lit (.bool true)], args := [d1, d2] }
  | _ => none }
def profPlaysRow : OpenClaim := { program := "ytnfnkojcoeonnaa", sum := "5a9c08eae1e33d5c949099771b505aba373ec84a5c7134ad01a45c91d503a7b2", func := "berthage/berthagelaw05.ProfPlays", spec := "profPlays", inPlace := ["slices.overlaps[berthage/api.Step]"], unfollowed := true, recurses := true, apart := false }
def ProfPlaysSaid : Prop := profPlaysRow.holds Try.pinned (OpenSpec.ofChange profPlaysSpec)

/-- ITS FALSE NEIGHBOUR: 'it returns false'. Refute it at one input. -/
def profPlaysWrong : ChangeSpec := { name := "profPlays", fn := fun _ => fun
  | [d1, d2] => { results := [.lit (.bool false)], args := [d1, d2] }
  | _ => none }
def ProfPlaysWrongFalsely : Prop := profPlaysRow.holds Try.pinned (OpenSpec.ofChange profPlaysWrong)

/-- 'berthagelaw05.ProfTells': WHATEVER THE INPUT: true; the input reads as it did. -/
def profTellsSpec : ChangeSpec := { name := "profTells", fn := fun _ => fun
  | [d1, d2, d3, d4, d5] => { results := [.lit (.bool true)], args := [d1, d2, d3, d4, d5] }
  | _ => none }
def profTellsRow : OpenClaim := { program := "ytnfnkojcoeonnaa", sum := "5a9c08eae1e33d5c949099771b505aba373ec84a5c7134ad01a45c91d503a7b2", func := "berthage/berthagelaw05.ProfTells", spec := "profTells", inPlace := ["slices.overlaps[berthage/api.Step]"], unfollowed := true, recurses := true, apart := false }
def ProfTellsSaid : Prop := profTellsRow.holds Try.pinned (OpenSpec.ofChange profTellsSpec)

/-- ITS FALSE NEIGHBOUR: 'it returns false'. Refute it at one input. -/
def profTellsWrong : ChangeSpec := { name := "profTells", fn := fun _ => fun
  | [d1, d2, d3, d4, d5] => { results := [.lit (.bool false)], args := [d1, d2, d3, d4, d5] }
  | _ => none }
def ProfTellsWrongFalsely : Prop := profTellsRow.holds Try.pinned (OpenSpec.ofChange profTellsWrong)

/-- 'berthagelaw05.ProfEarliest': WHATEVER THE INPUT: true; the input reads as it did. -/
def profEarliestSpec : ChangeSpec := { name := "profEarliest", fn := fun _ => fun
  | [d1, d2, d3, d4, d5] => { results := [.lit (.bool true)], args := [d1, d2, d3, d4, d5] }
  | _ => none }
def profEarliestRow : OpenClaim := { program := "ytnfnkojcoeonnaa", sum := "5a9c08eae1e33d5c949099771b505aba373ec84a5c7134ad01a45c91d503a7b2", func := "berthage/berthagelaw05.ProfEarliest", spec := "profEarliest", inPlace := ["slices.overlaps[berthage/api.Step]"], unfollowed := true, recurses := true, apart := false }
def ProfEarliestSaid : Prop := profEarliestRow.holds Try.pinned (OpenSpec.ofChange profEarliestSpec)

/-- ITS FALSE NEIGHBOUR: 'it returns false'. Refute it at one input. -/
def profEarliestWrong : ChangeSpec := { name := "profEarliest", fn := fun _ => fun
  | [d1, d2, d3, d4, d5] => { results := [.lit (.bool false)], args := [d1, d2, d3, d4, d5] }
  | _ => none }
def ProfEarliestWrongFalsely : Prop := profEarliestRow.holds Try.pinned (OpenSpec.ofChange profEarliestWrong)

/-- 'berthagelaw05.ProfBack': WHATEVER THE INPUT: true; the input reads as it did. -/
def profBackSpec : ChangeSpec := { name := "profBack", fn := fun _ => fun
  | [d1, d2, d3] => { results := [.lit (.bool true)], args := [d1, d2, d3] }
  | _ => none }
def profBackRow : OpenClaim := { program := "ytnfnkojcoeonnaa", sum := "5a9c08eae1e33d5c949099771b505aba373ec84a5c7134ad01a45c91d503a7b2", func := "berthage/berthagelaw05.ProfBack", spec := "profBack", inPlace := ["slices.overlaps[berthage/api.Step]"], unfollowed := true, recurses := true, apart := false }
def ProfBackSaid : Prop := profBackRow.holds Try.pinned (OpenSpec.ofChange profBackSpec)

/-- ITS FALSE NEIGHBOUR: 'it returns false'. Refute it at one input. -/
def profBackWrong : ChangeSpec := { name := "profBack", fn := fun _ => fun
  | [d1, d2, d3] => { results := [.lit (.bool false)], args := [d1, d2, d3] }
  | _ => none }
def ProfBackWrongFalsely : Prop := profBackRow.holds Try.pinned (OpenSpec.ofChange profBackWrong)

/- THE SECOND FORM. 'bulk': how many values and letters a reading holds, each counted each time it is reached (what is shared counts as often as it is met; a slice's spare places count too). A statement '..UptoSaid' is the law's where the arguments, and the package variables that the reading takes, are together of bulk at most 1048576: NARROWER than '..Said'. Prove '..Said' where nothing that the law and all that it calls make is longer than what came in: it says more and counts as full. Else prove '..UptoSaid'. A law counts once. -/
mutual
def uptoBulk {H : Type} : DataW H → Nat
  | .lit (.string bytes) => bytes.length + 1
  | .lit _ => 1
  | .nil => 1
  | .ptr d => uptoBulk d + 1
  | .slice elems spare => uptoBulkAll elems + uptoBulkAll spare + 1
  | .agg parts => uptoBulkAll parts + 1
  | .iface _ d => uptoBulk d + 1
  | .map entries => uptoBulkEntries entries + 1
  | .held _ => 1
def uptoBulkAll {H : Type} : List (DataW H) → Nat
  | [] => 0
  | d :: r => uptoBulk d + uptoBulkAll r
def uptoBulkEntries {H : Type} : List (Lit × DataW H) → Nat
  | [] => 0
  | x :: r => uptoBulkEntry x + uptoBulkEntries r
def uptoBulkEntry {H : Type} : Lit × DataW H → Nat
  | (.string bytes, d) => bytes.length + uptoBulk d + 1
  | (_, d) => uptoBulk d + 1
 end
def uptoSmall : (H : Type) → List (DataW H) → Bool := fun _ ds => decide (uptoBulkAll ds ≤ 1048576)
def OpenSpec.upto (s : _root_.Go.ChangeSpec) : _root_.Go.OpenSpec := { _root_.Go.OpenSpec.ofChange s with cond := some uptoSmall }

/-- 'berthagelaw05.ProfPlays', WHERE WHAT IT READS IS OF BULK AT MOST 1048576: true; the input reads as it did. -/
def profPlaysUptoRow : OpenClaim := { program := "ytnfnkojcoeonnaa", sum := "5a9c08eae1e33d5c949099771b505aba373ec84a5c7134ad01a45c91d503a7b2", func := "berthage/berthagelaw05.ProfPlays", spec := "profPlays", inPlace := ["slices.overlaps[berthage/api.Step]"], unfollowed := true, recurses := true, apart := false, narrowed := true }
def ProfPlaysUptoSaid : Prop := profPlaysUptoRow.holds Try.pinned (OpenSpec.upto profPlaysSpec)

/-- 'berthagelaw05.ProfTells', WHERE WHAT IT READS IS OF BULK AT MOST 1048576: true; the input reads as it did. -/
def profTellsUptoRow : OpenClaim := { program := "ytnfnkojcoeonnaa", sum := "5a9c08eae1e33d5c949099771b505aba373ec84a5c7134ad01a45c91d503a7b2", func := "berthage/berthagelaw05.ProfTells", spec := "profTells", inPlace := ["slices.overlaps[berthage/api.Step]"], unfollowed := true, recurses := true, apart := false, narrowed := true }
def ProfTellsUptoSaid : Prop := profTellsUptoRow.holds Try.pinned (OpenSpec.upto profTellsSpec)

/-- 'berthagelaw05.ProfEarliest', WHERE WHAT IT READS IS OF BULK AT MOST 1048576: true; the input reads as it did. -/
def profEarliestUptoRow : OpenClaim := { program := "ytnfnkojcoeonnaa", sum := "5a9c08eae1e33d5c949099771b505aba373ec84a5c7134ad01a45c91d503a7b2", func := "berthage/berthagelaw05.ProfEarliest", spec := "profEarliest", inPlace := ["slices.overlaps[berthage/api.Step]"], unfollowed := true, recurses := true, apart := false, narrowed := true }
def ProfEarliestUptoSaid : Prop := profEarliestUptoRow.holds Try.pinned (OpenSpec.upto profEarliestSpec)

/-- 'berthagelaw05.ProfBack', WHERE WHAT IT READS IS OF BULK AT MOST 1048576: true; the input reads as it did. -/
def profBackUptoRow : OpenClaim := { program := "ytnfnkojcoeonnaa", sum := "5a9c08eae1e33d5c949099771b505aba373ec84a5c7134ad01a45c91d503a7b2", func := "berthage/berthagelaw05.ProfBack", spec := "profBack", inPlace := ["slices.overlaps[berthage/api.Step]"], unfollowed := true, recurses := true, apart := false, narrowed := true }
def ProfBackUptoSaid : Prop := profBackUptoRow.holds Try.pinned (OpenSpec.upto profBackSpec)

end Rows
end Go.Proofs.Ytnfnkojcoeonnaa
