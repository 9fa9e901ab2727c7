/-
  No cell of these rows narrows 'for every input' (looked for: loops, veiled, ifaces, maps, wideKeys, modest, calm, conditions, laid).
  DERIVED. THE GIVEN ROWS OF THIS SEAT. 4 by the template 'for every input the law returns true; each argument reads behind the call as it read before'; 0 by the template 'total and deterministic' (their statements: YtnajcgicbhohhaaTotals.lean).
  GIVEN WITH THE SEED: the statements are not yours to turn. If you find one false, say at which input.
  Laid BY PROGRAM, IN A SANDBOX (cutbox-rows.mjs): the forced cells as the released guide's own fill.sh prints them over the translation 0726291935d01dc9… (all of the seat's roots in one cut). By AI agents, Wed Nov 11 2026. No macro, syntax, notation, axiom, sorry.
-/
import Derived.Test.YtnajcgicbhohhaaChecked
import GoSem.Claim
import GoSem.ClaimJoined
import GoSem.ClaimMapViews
import Derived.JoinedTies
import Derived.KernelRfl
namespace Go.Proofs.Ytnajcgicbhohhaa
/- THE CELL 'sum', in the pinned program and in every row, IS THE sha256 OF THE DUMP (.gsa) THAT YtnajcgicbhohhaaProg.lean LOADS. Nothing in Lean hashes anything: it is a label: what it is worth is what the hold of that sum in a sandbox is worth. -/
noncomputable def Try.pinned : Pinned := { name := "ytnajcgicbhohhaa", sum := "0726291935d01dc9a91613ed982389d54d63db16aef383ac2abf60e02287944d", checked := Try.checked }
namespace Rows
def none {H : Type} : Left H := { results := [], args := [] }

/-- 'berthagelaw04.SpanTimes': WHATEVER THE INPUT: true; the input reads as it did. -/
def spanTimesSpec : ChangeSpec := { name := "spanTimes", fn := fun _ => fun
  | [d1, d2] => { results := [.lit (.bool true)], args := [d1, d2] }
  | _ => none }
def spanTimesRow : OpenClaim := { program := "ytnajcgicbhohhaa", sum := "0726291935d01dc9a91613ed982389d54d63db16aef383ac2abf60e02287944d", func := "berthage/berthagelaw04.SpanTimes", spec := "spanTimes", unfollowed := true, recurses := true, apart := false }
def SpanTimesSaid : Prop := spanTimesRow.holds Try.pinned (OpenSpec.ofChange spanTimesSpec)

/-- ITS FALSE NEIGHBOUR: 'it returns false'. Refute it at one input. -/
def spanTimesWrong : ChangeSpec := { name := "spanTimes", fn := fun _ => fun
  | [d1, d2] => { results := [.lit (.bool false)], args := [d1, d2] }
  | _ => none }
def SpanTimesWrongFalsely : Prop := spanTimesRow.holds Try.pinned (OpenSpec.ofChange spanTimesWrong)

/-- 'berthagelaw04.SpanPeaks': WHATEVER THE INPUT: true; the input reads as it did. -/
def spanPeaksSpec : ChangeSpec := { name := "spanPeaks", fn := fun _ => fun
  | [d1, d2, d3] => { results := [.lit (.bool true)], args := [d1, d2, d3] }
  | _ => none }
def spanPeaksRow : OpenClaim := { program := "ytnajcgicbhohhaa", sum := "0726291935d01dc9a91613ed982389d54d63db16aef383ac2abf60e02287944d", func := "berthage/berthagelaw04.SpanPeaks", spec := "spanPeaks", unfollowed := true, recurses := true, apart := false }
def SpanPeaksSaid : Prop := spanPeaksRow.holds Try.pinned (OpenSpec.ofChange spanPeaksSpec)

/-- ITS FALSE NEIGHBOUR: 'it returns false'. Refute it at one input. -/
def spanPeaksWrong : ChangeSpec := { name := "spanPeaks", fn := fun _ => fun
  | [d1, d2, d3] => { results := [.lit (.bool false)], args := [d1, d2, d3] }
  | _ => none }
def SpanPeaksWrongFalsely : Prop := spanPeaksRow.holds Try.pinned (OpenSpec.ofChange spanPeaksWrong)

/-- 'berthagelaw04.SpanAreas': WHATEVER THE INPUT: true; the input reads as it did. -/
def spanAreasSpec : ChangeSpec := { name := "spanAreas", fn := fun _ => fun
  | [d1, d2, d3] => { results := [.lit (.bool true)], args := [d1, d2, d3] }
  | _ => none }
def spanAreasRow : OpenClaim := { program := "ytnajcgicbhohhaa", sum := "0726291935d01dc9a91613ed982389d54d63db16aef383ac2abf60e02287944d", func := "berthage/berthagelaw04.SpanAreas", spec := "spanAreas", unfollowed := true, recurses := true, apart := false }
def SpanAreasSaid : Prop := spanAreasRow.holds Try.pinned (OpenSpec.ofChange spanAreasSpec)

/-- ITS FALSE NEIGHBOUR: 'it returns false'. Refute it at one input. -/
def spanAreasWrong : ChangeSpec := { name := "spanAreas", fn := fun _ => fun
  | [d1, d2, d3] => { results := [.lit (.bool false)], args := [d1, d2, d3] }
  | _ => none }
def SpanAreasWrongFalsely : Prop := spanAreasRow.holds Try.pinned (OpenSpec.ofChange spanAreasWrong)

/-- 'berthagelaw04.SpanSteps': WHATEVER THE INPUT: true; the input reads as it did. -/
def spanStepsSpec : ChangeSpec := { name := "spanSteps", fn := fun _ => fun
  | [d1, d2, d3] => { results := [.lit (.bool true)], args := [d1, d2, d3] }
  | _ => none }
def spanStepsRow : OpenClaim := { program := "ytnajcgicbhohhaa", sum := "0726291935d01dc9a91613ed982389d54d63db16aef383ac2abf60e02287944d", func := "berthage/berthagelaw04.SpanSteps", spec := "spanSteps", unfollowed := true, recurses := true, apart := false }
def SpanStepsSaid : Prop := spanStepsRow.holds Try.pinned (OpenSpec.ofChange spanStepsSpec)

/-- ITS FALSE NEIGHBOUR: 'it returns false'. Refute it at one input. -/
def spanStepsWrong : ChangeSpec := { name := "spanSteps", fn := fun _ => fun
  | [d1, d2, d3] => { results := [.lit (.bool false)], args := [d1, d2, d3] }
  | _ => none }
def SpanStepsWrongFalsely : Prop := spanStepsRow.holds Try.pinned (OpenSpec.ofChange spanStepsWrong)

/- THE SECOND FORM. 'bulk': how many values and letters a reading holds, each counted each time it is reached (what is shared counts as often as it is met; a slice's spare places count too). A statement '..UptoSaid' is the law's where the arguments, and the package variables that the reading takes, are together of bulk at most 1048576: NARROWER than '..Said'. Prove '..Said' where nothing that the law and all that it calls make is longer than what came in: it says more and counts as full. Else prove '..UptoSaid'. A law counts once. -/
mutual
def uptoBulk {H : Type} : DataW H → Nat
  | .lit (.string bytes) => bytes.length + 1
  | .lit _ => 1
  | .nil => 1
  | .ptr d => uptoBulk d + 1
  | .slice elems spare => uptoBulkAll elems + uptoBulkAll spare + 1
  | .agg parts => uptoBulkAll parts + 1
  | .iface _ d => uptoBulk d + 1
  | .map entries => uptoBulkEntries entries + 1
  | .held _ => 1
def uptoBulkAll {H : Type} : List (DataW H) → Nat
  | [] => 0
  | d :: r => uptoBulk d + uptoBulkAll r
def uptoBulkEntries {H : Type} : List (Lit × DataW H) → Nat
  | [] => 0
  | x :: r => uptoBulkEntry x + uptoBulkEntries r
def uptoBulkEntry {H : Type} : Lit × DataW H → Nat
  | (.string bytes, d) => bytes.length + uptoBulk d + 1
  | (_, d) => uptoBulk d + 1
 end
def uptoSmall : (H : Type) → List (DataW H) → Bool := fun _ ds => decide (uptoBulkAll ds ≤ 1048576)
def OpenSpec.upto (s : _root_.Go.ChangeSpec) : _root_.Go.OpenSpec := { _root_.Go.OpenSpec.ofChange s with cond := some uptoSmall }

/-- 'berthagelaw04.SpanTimes', WHERE WHAT IT READS IS OF BULK AT MOST 1048576: true; the input reads as it did. -/
def spanTimesUptoRow : OpenClaim := { program := "ytnajcgicbhohhaa", sum := "0726291935d01dc9a91613ed982389d54d63db16aef383ac2abf60e02287944d", func := "berthage/berthagelaw04.SpanTimes", spec := "spanTimes", unfollowed := true, recurses := true, apart := false, narrowed := true }
def SpanTimesUptoSaid : Prop := spanTimesUptoRow.holds Try.pinned (OpenSpec.upto spanTimesSpec)

/-- 'berthagelaw04.SpanPeaks', WHERE WHAT IT READS IS OF BULK AT MOST 1048576: true; the input reads as it did. -/
def spanPeaksUptoRow : OpenClaim := { program := "ytnajcgicbhohhaa", sum := "0726291935d01dc9a91613ed982389d54d63db16aef383ac2abf60e02287944d", func := "berthage/berthagelaw04.SpanPeaks", spec := "spanPeaks", unfollowed := true, recurses := true, apart := false, narrowed := true }
def SpanPeaksUptoSaid : Prop := spanPeaksUptoRow.holds Try.pinned (OpenSpec.upto spanPeaksSpec)

/-- 'berthagelaw04.SpanAreas', WHERE WHAT IT READS IS OF BULK AT MOST 1048576: true; the input reads as it did. -/
def spanAreasUptoRow : OpenClaim := { program := "ytnajcgicbhohhaa", sum := "0726291935d01dc9a91613ed982389d54d63db16aef383ac2abf60e02287944d", func := "berthage/berthagelaw04.SpanAreas", spec := "spanAreas", unfollowed := true, recurses := true, apart := false, narrowed := true }
def SpanAreasUptoSaid : Prop := spanAreasUptoRow.holds Try.pinned (OpenSpec.upto spanAreasSpec)

/-- 'berthagelaw04.SpanSteps', WHERE WHAT IT READS IS OF BULK AT MOST 1048576: true; the input reads as it did. -/
def spanStepsUptoRow : OpenClaim := { program := "ytnajcgicbhohhaa", sum := "0726291935d01dc9a91613ed982389d54d63db16aef383ac2abf60e02287944d", func := "berthage/berthagelaw04.SpanSteps", spec := "spanSteps", unfollowed := true, recurses := true, apart := false, narrowed := true }
def SpanStepsUptoSaid : Prop := spanStepsUptoRow.holds Try.pinned (OpenSpec.upto spanStepsSpec)

end Rows
end Go.Proofs.Ytnajcgicbhohhaa
