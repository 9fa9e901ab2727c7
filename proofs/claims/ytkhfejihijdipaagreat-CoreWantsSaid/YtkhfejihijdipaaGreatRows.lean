/-
  No cell of these rows narrows 'for every input' (looked for: loops, veiled, ifaces, maps, wideKeys, modest, calm, conditions, laid).
  DERIVED. THE GIVEN ROWS OF THIS SEAT. 5 by the template 'for every input the law returns true; each argument reads behind the call as it read before'; 0 by the template 'total and deterministic' (their statements: YtkhfejihijdipaaGreatTotals.lean).
  GIVEN WITH THE SEED: the statements are not yours to turn. If you find one false, say at which input.
  Laid BY PROGRAM, IN A SANDBOX (cutbox-rows.mjs): the forced cells as the released guide's own fill.sh prints them over the translation 761fe5b66c1d7694… (all of the seat's roots in one cut). By AI agents, Wed Nov 11 2026. No macro, syntax, notation, axiom, sorry.
-/
import Derived.Test.YtkhfejihijdipaaGreatChecked
import GoSem.Claim
import GoSem.ClaimJoined
import GoSem.ClaimMapViews
import Derived.JoinedTies
import Derived.KernelRfl
namespace Go.Proofs.YtkhfejihijdipaaGreat
/- THE CELL 'sum', in the pinned program and in every row, IS THE sha256 OF THE DUMP (.gsa) THAT YtkhfejihijdipaaGreatProg.lean LOADS. Nothing in Lean hashes anything: it is a label: what it is worth is what the hold of that sum in a sandbox is worth. -/
noncomputable def Tryz.pinned : Pinned := { name := "ytkhfejihijdipaagreat", sum := "761fe5b66c1d76948acd29c9d56f57e42a05dff21ff8a15dc5e1190632b7edbf", checked := Tryz.checked }
namespace Rows
def none {H : Type} : Left H := { results := [], args := [] }

/-- 'berthagelaw12.CorePlays': WHATEVER THE INPUT: true; the input reads as it did. -/
def corePlaysSpec : ChangeSpec := { name := "corePlays", fn := fun _ => fun
  | [d1, d2] => { results := [.lit (.bool true)], args := [d1, d2] }
  | _ => none }
def corePlaysRow : OpenClaim := { program := "ytkhfejihijdipaagreat", sum := "761fe5b66c1d76948acd29c9d56f57e42a05dff21ff8a15dc5e1190632b7edbf", func := "berthage/berthagelaw12.CorePlays", spec := "corePlays", inPlace := ["slices.overlaps[berthage/api.Step]"], unfollowed := true, recurses := true, apart := false }
def CorePlaysSaid : Prop := corePlaysRow.holds Tryz.pinned (OpenSpec.ofChange corePlaysSpec)

/-- ITS FALSE NEIGHBOUR: 'it returns false'. Refute it at one input. -/
def corePlaysWrong : ChangeSpec := { name := "corePlays", fn := fun _ => fun
  | [d1, d2] => { results := [.lit (.bool false)], args := [d1, d2] }
  | _ => none }
def CorePlaysWrongFalsely : Prop := corePlaysRow.holds Tryz.pinned (OpenSpec.ofChange corePlaysWrong)

/-- 'berthagelaw12.CoreSound': WHATEVER THE INPUT: true; the input reads as it did. -/
def coreSoundSpec : ChangeSpec := { name := "coreSound", fn := fun _ => fun
  | [d1, d2] => { results := [.lit (.bool true)], args := [d1, d2] }
  | _ => none }
def coreSoundRow : OpenClaim := { program := "ytkhfejihijdipaagreat", sum := "761fe5b66c1d76948acd29c9d56f57e42a05dff21ff8a15dc5e1190632b7edbf", func := "berthage/berthagelaw12.CoreSound", spec := "coreSound", inPlace := ["slices.overlaps[berthage/api.Step]"], unfollowed := true, recurses := true, apart := false }
def CoreSoundSaid : Prop := coreSoundRow.holds Tryz.pinned (OpenSpec.ofChange coreSoundSpec)

/-- ITS FALSE NEIGHBOUR: 'it returns false'. Refute it at one input. -/
def coreSoundWrong : ChangeSpec := { name := "coreSound", fn := fun _ => fun
  | [d1, d2] => { results := [.lit (.bool false)], args := [d1, d2] }
  | _ => none }
def CoreSoundWrongFalsely : Prop := coreSoundRow.holds Tryz.pinned (OpenSpec.ofChange coreSoundWrong)

/-- 'berthagelaw12.CoreTwins': WHATEVER THE INPUT: true; the input reads as it did. -/
def coreTwinsSpec : ChangeSpec := { name := "coreTwins", fn := fun _ => fun
  | [d1, d2, d3] => { results := [.lit (.bool true)], args := [d1, d2, d3] }
  | _ => none }
def coreTwinsRow : OpenClaim := { program := "ytkhfejihijdipaagreat", sum := "761fe5b66c1d76948acd29c9d56f57e42a05dff21ff8a15dc5e1190632b7edbf", func := "berthage/berthagelaw12.CoreTwins", spec := "coreTwins", inPlace := ["slices.overlaps[berthage/api.Step]"], unfollowed := true, recurses := true, apart := false }
def CoreTwinsSaid : Prop := coreTwinsRow.holds Tryz.pinned (OpenSpec.ofChange coreTwinsSpec)

/-- ITS FALSE NEIGHBOUR: 'it returns false'. Refute it at one input. -/
def coreTwinsWrong : ChangeSpec := { name := "coreTwins", fn := fun _ => fun
  | [d1, d2, d3] => { results := [.lit (.bool false)], args := [d1, d2, d3] }
  | _ => none }
def CoreTwinsWrongFalsely : Prop := coreTwinsRow.holds Tryz.pinned (OpenSpec.ofChange coreTwinsWrong)

/-- 'berthagelaw12.CoreWants': WHATEVER THE INPUT: true; the input reads as it did. -/
def coreWantsSpec : ChangeSpec := { name := "coreWants", fn := fun _ => fun
  | [d1, d2, d3] => { results := [.lit (.bool true)], args := [d1, d2, d3] }
  | _ => none }
def coreWantsRow : OpenClaim := { program := "ytkhfejihijdipaagreat", sum := "761fe5b66c1d76948acd29c9d56f57e42a05dff21ff8a15dc5e1190632b7edbf", func := "berthage/berthagelaw12.CoreWants", spec := "coreWants", inPlace := ["slices.overlaps[berthage/api.Step]"], unfollowed := true, recurses := true, apart := false }
def CoreWantsSaid : Prop := coreWantsRow.holds Tryz.pinned (OpenSpec.ofChange coreWantsSpec)

/-- ITS FALSE NEIGHBOUR: 'it returns false'. Refute it at one input. -/
def coreWantsWrong : ChangeSpec := { name := "coreWants", fn := fun _ => fun
  | [d1, d2, d3] => { results := [.lit (.bool false)], args := [d1, d2, d3] }
  | _ => none }
def CoreWantsWrongFalsely : Prop := coreWantsRow.holds Tryz.pinned (OpenSpec.ofChange coreWantsWrong)

/-- 'berthagelaw12.CoreNobody': WHATEVER THE INPUT: true; the input reads as it did. -/
def coreNobodySpec : ChangeSpec := { name := "coreNobody", fn := fun _ => fun
  | [d1, d2] => { results := [.lit (.bool true)], args := [d1, d2] }
  | _ => none }
def coreNobodyRow : OpenClaim := { program := "ytkhfejihijdipaagreat", sum := "761fe5b66c1d76948acd29c9d56f57e42a05dff21ff8a15dc5e1190632b7edbf", func := "berthage/berthagelaw12.CoreNobody", spec := "coreNobody", inPlace := ["slices.overlaps[berthage/api.Step]"], unfollowed := true, recurses := true, apart := false }
def CoreNobodySaid : Prop := coreNobodyRow.holds Tryz.pinned (OpenSpec.ofChange coreNobodySpec)

/-- ITS FALSE NEIGHBOUR: 'it returns false'. Refute it at one input. -/
def coreNobodyWrong : ChangeSpec := { name := "coreNobody", fn := fun _ => fun
  | [d1, d2] => { results := [.lit (.bool false)], args := [d1, d2] }
  | _ => none }
def CoreNobodyWrongFalsely : Prop := coreNobodyRow.holds Tryz.pinned (OpenSpec.ofChange coreNobodyWrong)

/- THE SECOND FORM. 'bulk': how many values and letters a reading holds, each counted each time it is reached (what is shared counts as often as it is met; a slice's spare places count too). A statement '..UptoSaid' is the law's where the arguments, and the package variables that the reading takes, are together of bulk at most 1048576: NARROWER than '..Said'. Prove '..Said' where nothing that the law and all that it calls make is longer than what came in: it says more and counts as full. Else prove '..UptoSaid'. A law counts once. -/
mutual
def uptoBulk {H : Type} : DataW H → Nat
  | .lit (.string bytes) => bytes.length + 1
  | .lit _ => 1
  | .nil => 1
  | .ptr d => uptoBulk d + 1
  | .slice elems spare => uptoBulkAll elems + uptoBulkAll spare + 1
  | .agg parts => uptoBulkAll parts + 1
  | .iface _ d => uptoBulk d + 1
  | .map entries => uptoBulkEntries entries + 1
  | .held _ => 1
def uptoBulkAll {H : Type} : List (DataW H) → Nat
  | [] => 0
  | d :: r => uptoBulk d + uptoBulkAll r
def uptoBulkEntries {H : Type} : List (Lit × DataW H) → Nat
  | [] => 0
  | x :: r => uptoBulkEntry x + uptoBulkEntries r
def uptoBulkEntry {H : Type} : Lit × DataW H → Nat
  | (.string bytes, d) => bytes.length + uptoBulk d + 1
  | (_, d) => uptoBulk d + 1
 end
def uptoSmall : (H : Type) → List (DataW H) → Bool := fun _ ds => decide (uptoBulkAll ds ≤ 1048576)
def OpenSpec.upto (s : _root_.Go.ChangeSpec) : _root_.Go.OpenSpec := { _root_.Go.OpenSpec.ofChange s with cond := some uptoSmall }

/-- 'berthagelaw12.CorePlays', WHERE WHAT IT READS IS OF BULK AT MOST 1048576: true; the input reads as it did. -/
def corePlaysUptoRow : OpenClaim := { program := "ytkhfejihijdipaagreat", sum := "761fe5b66c1d76948acd29c9d56f57e42a05dff21ff8a15dc5e1190632b7edbf", func := "berthage/berthagelaw12.CorePlays", spec := "corePlays", inPlace := ["slices.overlaps[berthage/api.Step]"], unfollowed := true, recurses := true, apart := false, narrowed := true }
def CorePlaysUptoSaid : Prop := corePlaysUptoRow.holds Tryz.pinned (OpenSpec.upto corePlaysSpec)

/-- 'berthagelaw12.CoreSound', WHERE WHAT IT READS IS OF BULK AT MOST 1048576: true; the input reads as it did. -/
def coreSoundUptoRow : OpenClaim := { program := "ytkhfejihijdipaagreat", sum := "761fe5b66c1d76948acd29c9d56f57e42a05dff21ff8a15dc5e1190632b7edbf", func := "berthage/berthagelaw12.CoreSound", spec := "coreSound", inPlace := ["slices.overlaps[berthage/api.Step]"], unfollowed := true, recurses := true, apart := false, narrowed := true }
def CoreSoundUptoSaid : Prop := coreSoundUptoRow.holds Tryz.pinned (OpenSpec.upto coreSoundSpec)

/-- 'berthagelaw12.CoreTwins', WHERE WHAT IT READS IS OF BULK AT MOST 1048576: true; the input reads as it did. -/
def coreTwinsUptoRow : OpenClaim := { program := "ytkhfejihijdipaagreat", sum := "761fe5b66c1d76948acd29c9d56f57e42a05dff21ff8a15dc5e1190632b7edbf", func := "berthage/berthagelaw12.CoreTwins", spec := "coreTwins", inPlace := ["slices.overlaps[berthage/api.Step]"], unfollowed := true, recurses := true, apart := false, narrowed := true }
def CoreTwinsUptoSaid : Prop := coreTwinsUptoRow.holds Tryz.pinned (OpenSpec.upto coreTwinsSpec)

/-- 'berthagelaw12.CoreWants', WHERE WHAT IT READS IS OF BULK AT MOST 1048576: true; the input reads as it did. -/
def coreWantsUptoRow : OpenClaim := { program := "ytkhfejihijdipaagreat", sum := "761fe5b66c1d76948acd29c9d56f57e42a05dff21ff8a15dc5e1190632b7edbf", func := "berthage/berthagelaw12.CoreWants", spec := "coreWants", inPlace := ["slices.overlaps[berthage/api.Step]"], unfollowed := true, recurses := true, apart := false, narrowed := true }
def CoreWantsUptoSaid : Prop := coreWantsUptoRow.holds Tryz.pinned (OpenSpec.upto coreWantsSpec)

/-- 'berthagelaw12.CoreNobody', WHERE WHAT IT READS IS OF BULK AT MOST 1048576: true; the input reads as it did. -/
def coreNobodyUptoRow : OpenClaim := { program := "ytkhfejihijdipaagreat", sum := "761fe5b66c1d76948acd29c9d56f57e42a05dff21ff8a15dc5e1190632b7edbf", func := "berthage/berthagelaw12.CoreNobody", spec := "coreNobody", inPlace := ["slices.overlaps[berthage/api.Step]"], unfollowed := true, recurses := true, apart := false, narrowed := true }
def CoreNobodyUptoSaid : Prop := coreNobodyUptoRow.holds Tryz.pinned (OpenSpec.upto coreNobodySpec)

end Rows
end Go.Proofs.YtkhfejihijdipaaGreat
