/-
  No cell of these rows narrows 'for every input' (looked for: loops, veiled, ifaces, maps, wideKeys, modest, calm, conditions, laid).
  DERIVED. THE GIVEN ROWS OF THIS SEAT. 5 by the template 'for every input the law returns true; each argument reads behind the call as it read before'; 0 by the template 'total and deterministic' (their statements: YtbdfpbknckghgaaGreatTotals.lean).
  GIVEN WITH THE SEED: the statements are not yours to turn. If you find one false, say at which input.
  Laid BY PROGRAM, IN A SANDBOX (cutbox-rows.mjs): the forced cells as the released guide's own fill.sh prints them over the translation bb2695c781481cd7… (all of the seat's roots in one cut). By AI agents, Wed Nov 11 2026. No macro, syntax, notation, axiom, sorry.
-/
import Derived.Test.YtbdfpbknckghgaaGreatChecked
import GoSem.Claim
import GoSem.ClaimJoined
import GoSem.ClaimMapViews
import Derived.JoinedTies
import Derived.KernelRfl
namespace Go.Proofs.YtbdfpbknckghgaaGreat
/- THE CELL 'sum', in the pinned program and in every row, IS THE sha256 OF THE DUMP (.gsa) THAT YtbdfpbknckghgaaGreatProg.lean LOADS. Nothing in Lean hashes anything: it is a label: what it is worth is what the hold of that sum in a sandbox is worth. -/
noncomputable def Tryz.pinned : Pinned := { name := "ytbdfpbknckghgaagreat", sum := "bb2695c781481cd77ab916e65a90223aaa53c5d43b4212befaa794dd14adf6a8", checked := Tryz.checked }
namespace Rows
def none {H : Type} : Left H := { results := [], args := [] }

/-- 'berthagelaw20.CtrlCalls': WHATEVER THE INPUT: true; the input reads as it did. -/
def ctrlCallsSpec : ChangeSpec := { name := "ctrlCalls", fn := fun _ => fun
  | [d1, d2, d3] => { results := [.lit (.bool true)], args := [d1, d2, d3] }
  | _ => none }
def ctrlCallsRow : OpenClaim := { program := "ytbdfpbknckghgaagreat", sum := "bb2695c781481cd77ab916e65a90223aaa53c5d43b4212befaa794dd14adf6a8", func := "berthage/berthagelaw20.CtrlCalls", spec := "ctrlCalls", inPlace := ["slices.overlaps[berthage/api.Step]"], unfollowed := true, recurses := true, apart := false }
def CtrlCallsSaid : Prop := ctrlCallsRow.holds Tryz.pinned (OpenSpec.ofChange ctrlCallsSpec)

/-- ITS FALSE NEIGHBOUR: 'it returns false'. Refute it at one input. -/
def ctrlCallsWrong : ChangeSpec := { name := "ctrlCalls", fn := fun _ => fun
  | [d1, d2, d3] => { results := [.lit (.bool false)], args := [d1, d2, d3] }
  | _ => none }
def CtrlCallsWrongFalsely : Prop := ctrlCallsRow.holds Tryz.pinned (OpenSpec.ofChange ctrlCallsWrong)

/-- 'berthagelaw20.CtrlNobody': WHATEVER THE INPUT: true; the input reads as it did. -/
def ctrlNobodySpec : ChangeSpec := { name := "ctrlNobody", fn := fun _ => fun
  | [d1, d2] => { results := [.lit (.bool true)], args := [d1, d2] }
  | _ => none }
def ctrlNobodyRow : OpenClaim := { program := "ytbdfpbknckghgaagreat", sum := "bb2695c781481cd77ab916e65a90223aaa53c5d43b4212befaa794dd14adf6a8", func := "berthage/berthagelaw20.CtrlNobody", spec := "ctrlNobody", inPlace := ["slices.overlaps[berthage/api.Step]"], unfollowed := true, recurses := true, apart := false }
def CtrlNobodySaid : Prop := ctrlNobodyRow.holds Tryz.pinned (OpenSpec.ofChange ctrlNobodySpec)

/-- ITS FALSE NEIGHBOUR: 'it returns false'. Refute it at one input. -/
def ctrlNobodyWrong : ChangeSpec := { name := "ctrlNobody", fn := fun _ => fun
  | [d1, d2] => { results := [.lit (.bool false)], args := [d1, d2] }
  | _ => none }
def CtrlNobodyWrongFalsely : Prop := ctrlNobodyRow.holds Tryz.pinned (OpenSpec.ofChange ctrlNobodyWrong)

/-- 'berthagelaw21.LineReplays': WHATEVER THE INPUT: true; the input reads as it did. -/
def lineReplaysSpec : ChangeSpec := { name := "lineReplays", fn := fun _ => fun
  | [d1, d2, d3] => { results := [.lit (.bool true)], args := [d1, d2, d3] }
  | _ => none }
def lineReplaysRow : OpenClaim := { program := "ytbdfpbknckghgaagreat", sum := "bb2695c781481cd77ab916e65a90223aaa53c5d43b4212befaa794dd14adf6a8", func := "berthage/berthagelaw21.LineReplays", spec := "lineReplays", inPlace := ["slices.overlaps[berthage/api.Step]"], unfollowed := true, recurses := true, apart := false }
def LineReplaysSaid : Prop := lineReplaysRow.holds Tryz.pinned (OpenSpec.ofChange lineReplaysSpec)

/-- ITS FALSE NEIGHBOUR: 'it returns false'. Refute it at one input. -/
def lineReplaysWrong : ChangeSpec := { name := "lineReplays", fn := fun _ => fun
  | [d1, d2, d3] => { results := [.lit (.bool false)], args := [d1, d2, d3] }
  | _ => none }
def LineReplaysWrongFalsely : Prop := lineReplaysRow.holds Tryz.pinned (OpenSpec.ofChange lineReplaysWrong)

/-- 'berthagelaw21.LineAgrees': WHATEVER THE INPUT: true; the input reads as it did. -/
def lineAgreesSpec : ChangeSpec := { name := "lineAgrees", fn := fun _ => fun
  | [d1, d2] => { results := [.lit (.bool true)], args := [d1, d2] }
  | _ => none }
def lineAgreesRow : OpenClaim := { program := "ytbdfpbknckghgaagreat", sum := "bb2695c781481cd77ab916e65a90223aaa53c5d43b4212befaa794dd14adf6a8", func := "berthage/berthagelaw21.LineAgrees", spec := "lineAgrees", inPlace := ["slices.overlaps[berthage/api.Step]"], unfollowed := true, recurses := true, apart := false }
def LineAgreesSaid : Prop := lineAgreesRow.holds Tryz.pinned (OpenSpec.ofChange lineAgreesSpec)

/-- ITS FALSE NEIGHBOUR: 'it returns false'. Refute it at one input. -/
def lineAgreesWrong : ChangeSpec := { name := "lineAgrees", fn := fun _ => fun
  | [d1, d2] => { results := [.lit (.bool false)], args := [d1, d2] }
  | _ => none }
def LineAgreesWrongFalsely : Prop := lineAgreesRow.holds Tryz.pinned (OpenSpec.ofChange lineAgreesWrong)

/-- 'berthagelaw21.LineHistories': WHATEVER THE INPUT: true; the input reads as it did. -/
def lineHistoriesSpec : ChangeSpec := { name := "lineHistories", fn := fun _ => fun
  | [d1, d2] => { results := [.lit (.bool true)], args := [d1, d2] }
  | _ => none }
def lineHistoriesRow : OpenClaim := { program := "ytbdfpbknckghgaagreat", sum := "bb2695c781481cd77ab916e65a90223aaa53c5d43b4212befaa794dd14adf6a8", func := "berthage/berthagelaw21.LineHistories", spec := "lineHistories", inPlace := ["slices.overlaps[berthage/api.Step]"], unfollowed := true, recurses := true, apart := false }
def LineHistoriesSaid : Prop := lineHistoriesRow.holds Tryz.pinned (OpenSpec.ofChange lineHistoriesSpec)

/-- ITS FALSE NEIGHBOUR: 'it returns false'. Refute it at one input. -/
def lineHistoriesWrong : ChangeSpec := { name := "lineHistories", fn := fun _ => fun
  | [d1, d2] => { results := [.lit (.bool false)], args := [d1, d2] }
  | _ => none }
def LineHistoriesWrongFalsely : Prop := lineHistoriesRow.holds Tryz.pinned (OpenSpec.ofChange lineHistoriesWrong)

/- THE SECOND FORM. 'bulk': how many values and letters a reading holds, each counted each time it is reached (what is shared counts as often as it is met; a slice's spare places count too). A statement '..UptoSaid' is the law's where the arguments, and the package variables that the reading takes, are together of bulk at most 1048576: NARROWER than '..Said'. Prove '..Said' where nothing that the law and all that it calls make is longer than what came in: it says more and counts as full. Else prove '..UptoSaid'. A law counts once. -/
mutual
def uptoBulk {H : Type} : DataW H → Nat
  | .lit (.string bytes) => bytes.length + 1
  | .lit _ => 1
  | .nil => 1
  | .ptr d => uptoBulk d + 1
  | .slice elems spare => uptoBulkAll elems + uptoBulkAll spare + 1
  | .agg parts => uptoBulkAll parts + 1
  | .iface _ d => uptoBulk d + 1
  | .map entries => uptoBulkEntries entries + 1
  | .held _ => 1
def uptoBulkAll {H : Type} : List (DataW H) → Nat
  | [] => 0
  | d :: r => uptoBulk d + uptoBulkAll r
def uptoBulkEntries {H : Type} : List (Lit × DataW H) → Nat
  | [] => 0
  | x :: r => uptoBulkEntry x + uptoBulkEntries r
def uptoBulkEntry {H : Type} : Lit × DataW H → Nat
  | (.string bytes, d) => bytes.length + uptoBulk d + 1
  | (_, d) => uptoBulk d + 1
 end
def uptoSmall : (H : Type) → List (DataW H) → Bool := fun _ ds => decide (uptoBulkAll ds ≤ 1048576)
def OpenSpec.upto (s : _root_.Go.ChangeSpec) : _root_.Go.OpenSpec := { _root_.Go.OpenSpec.ofChange s with cond := some uptoSmall }

/-- 'berthagelaw20.CtrlCalls', WHERE WHAT IT READS IS OF BULK AT MOST 1048576: true; the input reads as it did. -/
def ctrlCallsUptoRow : OpenClaim := { program := "ytbdfpbknckghgaagreat", sum := "bb2695c781481cd77ab916e65a90223aaa53c5d43b4212befaa794dd14adf6a8", func := "berthage/berthagelaw20.CtrlCalls", spec := "ctrlCalls", inPlace := ["slices.overlaps[berthage/api.Step]"], unfollowed := true, recurses := true, apart := false, narrowed := true }
def CtrlCallsUptoSaid : Prop := ctrlCallsUptoRow.holds Tryz.pinned (OpenSpec.upto ctrlCallsSpec)

/-- 'berthagelaw20.CtrlNobody', WHERE WHAT IT READS IS OF BULK AT MOST 1048576: true; the input reads as it did. -/
def ctrlNobodyUptoRow : OpenClaim := { program := "ytbdfpbknckghgaagreat", sum := "bb2695c781481cd77ab916e65a90223aaa53c5d43b4212befaa794dd14adf6a8", func := "berthage/berthagelaw20.CtrlNobody", spec := "ctrlNobody", inPlace := ["slices.overlaps[berthage/api.Step]"], unfollowed := true, recurses := true, apart := false, narrowed := true }
def CtrlNobodyUptoSaid : Prop := ctrlNobodyUptoRow.holds Tryz.pinned (OpenSpec.upto ctrlNobodySpec)

/-- 'berthagelaw21.LineReplays', WHERE WHAT IT READS IS OF BULK AT MOST 1048576: true; the input reads as it did. -/
def lineReplaysUptoRow : OpenClaim := { program := "ytbdfpbknckghgaagreat", sum := "bb2695c781481cd77ab916e65a90223aaa53c5d43b4212befaa794dd14adf6a8", func := "berthage/berthagelaw21.LineReplays", spec := "lineReplays", inPlace := ["slices.overlaps[berthage/api.Step]"], unfollowed := true, recurses := true, apart := false, narrowed := true }
def LineReplaysUptoSaid : Prop := lineReplaysUptoRow.holds Tryz.pinned (OpenSpec.upto lineReplaysSpec)

/-- 'berthagelaw21.LineAgrees', WHERE WHAT IT READS IS OF BULK AT MOST 1048576: true; the input reads as it did. -/
def lineAgreesUptoRow : OpenClaim := { program := "ytbdfpbknckghgaagreat", sum := "bb2695c781481cd77ab916e65a90223aaa53c5d43b4212befaa794dd14adf6a8", func := "berthage/berthagelaw21.LineAgrees", spec := "lineAgrees", inPlace := ["slices.overlaps[berthage/api.Step]"], unfollowed := true, recurses := true, apart := false, narrowed := true }
def LineAgreesUptoSaid : Prop := lineAgreesUptoRow.holds Tryz.pinned (OpenSpec.upto lineAgreesSpec)

/-- 'berthagelaw21.LineHistories', WHERE WHAT IT READS IS OF BULK AT MOST 1048576: true; the input reads as it did. -/
def lineHistoriesUptoRow : OpenClaim := { program := "ytbdfpbknckghgaagreat", sum := "bb2695c781481cd77ab916e65a90223aaa53c5d43b4212befaa794dd14adf6a8", func := "berthage/berthagelaw21.LineHistories", spec := "lineHistories", inPlace := ["slices.overlaps[berthage/api.Step]"], unfollowed := true, recurses := true, apart := false, narrowed := true }
def LineHistoriesUptoSaid : Prop := lineHistoriesUptoRow.holds Tryz.pinned (OpenSpec.upto lineHistoriesSpec)

end Rows
end Go.Proofs.YtbdfpbknckghgaaGreat
