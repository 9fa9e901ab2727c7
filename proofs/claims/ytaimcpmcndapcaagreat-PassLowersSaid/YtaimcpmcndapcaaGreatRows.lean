/-
  No cell of these rows narrows 'for every input' (looked for: loops, veiled, ifaces, maps, wideKeys, modest, calm, conditions, laid).
  DERIVED. THE GIVEN ROWS OF THIS SEAT. 11 by the template 'for every input the law returns true; each argument reads behind the call as it read before'; 0 by the template 'total and deterministic' (their statements: YtaimcpmcndapcaaGreatTotals.lean).
  GIVEN WITH THE SEED: the statements are not yours to turn. If you find one false, say at which input.
  Laid BY PROGRAM, IN A SANDBOX (cutbox-rows.mjs): the forced cells as the released guide's own fill.sh prints them over the translation 262e9141e38de4e0… (all of the seat's roots in one cut). By AI agents, Wed Nov 11 2026. No macro, syntax, notation, axiom, sorry.
-/
import Derived.Test.YtaimcpmcndapcaaGreatChecked
import GoSem.Claim
import GoSem.ClaimJoined
import GoSem.ClaimMapViews
import Derived.JoinedTies
import Derived.KernelRfl
namespace Go.Proofs.YtaimcpmcndapcaaGreat
/- THE CELL 'sum', in the pinned program and in every row, IS THE sha256 OF THE DUMP (.gsa) THAT YtaimcpmcndapcaaGreatProg.lean LOADS. Nothing in Lean hashes anything: it is a label: what it is worth is what the hold of that sum in a sandbox is worth. -/
noncomputable def Tryz.pinned : Pinned := { name := "ytaimcpmcndapcaagreat", sum := "262e9141e38de4e0efbb60f15d7cc7360c103327ab2fed1c7f20ab9d7d3955e7", checked := Tryz.checked }
namespace Rows
def none {H : Type} : Left H := { results := [], args := [] }

/-- 'berthagelaw12.CorePlays': WHATEVER THE INPUT: true; the input reads as it did. -/
def corePlaysSpec : ChangeSpec := { name := "corePlays", fn := fun _ => fun
  | [d1, d2] => { results := [.lit (.bool true)], args := [d1, d2] }
  | _ => none }
def corePlaysRow : OpenClaim := { program := "ytaimcpmcndapcaagreat", sum := "262e9141e38de4e0efbb60f15d7cc7360c103327ab2fed1c7f20ab9d7d3955e7", func := "berthage/berthagelaw12.CorePlays", spec := "corePlays", inPlace := ["slices.overlaps[berthage/api.Step]"], unfollowed := true, recurses := true, apart := false }
def CorePlaysSaid : Prop := corePlaysRow.holds Tryz.pinned (OpenSpec.ofChange corePlaysSpec)

/-- ITS FALSE NEIGHBOUR: 'it returns false'. Refute it at one input. -/
def corePlaysWrong : ChangeSpec := { name := "corePlays", fn := fun _ => fun
  | [d1, d2] => { results := [.lit (.bool false)], args := [d1, d2] }
  | _ => none }
def CorePlaysWrongFalsely : Prop := corePlaysRow.holds Tryz.pinned (OpenSpec.ofChange corePlaysWrong)

/-- 'berthagelaw12.CoreSound': WHATEVER THE INPUT: true; the input reads as it did. -/
def coreSoundSpec : ChangeSpec := { name := "coreSound", fn := fun _ => fun
  | [d1, d2] => { results := [.lit (.bool true)], args := [d1, d2] }
  | _ => none }
def coreSoundRow : OpenClaim := { program := "ytaimcpmcndapcaagreat", sum := "262e9141e38de4e0efbb60f15d7cc7360c103327ab2fed1c7f20ab9d7d3955e7", func := "berthage/berthagelaw12.CoreSound", spec := "coreSound", inPlace := ["slices.overlaps[berthage/api.Step]"], unfollowed := true, recurses := true, apart := false }
def CoreSoundSaid : Prop := coreSoundRow.holds Tryz.pinned (OpenSpec.ofChange coreSoundSpec)

/-- ITS FALSE NEIGHBOUR: 'it returns false'. Refute it at one input. -/
def coreSoundWrong : ChangeSpec := { name := "coreSound", fn := fun _ => fun
  | [d1, d2] => { results := [.lit (.bool false)], args := [d1, d2] }
  | _ => none }
def CoreSoundWrongFalsely : Prop := coreSoundRow.holds Tryz.pinned (OpenSpec.ofChange coreSoundWrong)

/-- 'berthagelaw13.SeqPlays': WHATEVER THE INPUT: true; the input reads as it did. -/
def seqPlaysSpec : ChangeSpec := { name := "seqPlays", fn := fun _ => fun
  | [d1, d2] => { results := [.lit (.bool true)], args := [d1, d2] }
  | _ => none }
def seqPlaysRow : OpenClaim := { program := "ytaimcpmcndapcaagreat", sum := "262e9141e38de4e0efbb60f15d7cc7360c103327ab2fed1c7f20ab9d7d3955e7", func := "berthage/berthagelaw13.SeqPlays", spec := "seqPlays", inPlace := ["slices.overlaps[berthage/api.Step]"], unfollowed := true, recurses := true, apart := false }
def SeqPlaysSaid : Prop := seqPlaysRow.holds Tryz.pinned (OpenSpec.ofChange seqPlaysSpec)

/-- ITS FALSE NEIGHBOUR: 'it returns false'. Refute it at one input. -/
def seqPlaysWrong : ChangeSpec := { name := "seqPlays", fn := fun _ => fun
  | [d1, d2] => { results := [.lit (.bool false)], args := [d1, d2] }
  | _ => none }
def SeqPlaysWrongFalsely : Prop := seqPlaysRow.holds Tryz.pinned (OpenSpec.ofChange seqPlaysWrong)

/-- 'berthagelaw15.PassRuns': WHATEVER THE INPUT: true; the input reads as it did. -/
def passRunsSpec : ChangeSpec := { name := "passRuns", fn := fun _ => fun
  | [d1, d2, d3] => { results := [.lit (.bool true)], args := [d1, d2, d3] }
  | _ => none }
def passRunsRow : OpenClaim := { program := "ytaimcpmcndapcaagreat", sum := "262e9141e38de4e0efbb60f15d7cc7360c103327ab2fed1c7f20ab9d7d3955e7", func := "berthage/berthagelaw15.PassRuns", spec := "passRuns", inPlace := ["slices.overlaps[berthage/api.Step]"], unfollowed := true, recurses := true, apart := false }
def PassRunsSaid : Prop := passRunsRow.holds Tryz.pinned (OpenSpec.ofChange passRunsSpec)

/-- ITS FALSE NEIGHBOUR: 'it returns false'. Refute it at one input. -/
def passRunsWrong : ChangeSpec := { name := "passRuns", fn := fun _ => fun
  | [d1, d2, d3] => { results := [.lit (.bool false)], args := [d1, d2, d3] }
  | _ => none }
def PassRunsWrongFalsely : Prop := passRunsRow.holds Tryz.pinned (OpenSpec.ofChange passRunsWrong)

/-- 'berthagelaw15.PassLowers': WHATEVER THE INPUT: true; the input reads as it did. -/
def passLowersSpec : ChangeSpec := { name := "passLowers", fn := fun _ => fun
  | [d1, d2, d3] => { results := [.lit (.bool true)], args := [d1, d2, d3] }
  | _ => none }
def passLowersRow : OpenClaim := { program := "ytaimcpmcndapcaagreat", sum := "262e9141e38de4e0efbb60f15d7cc7360c103327ab2fed1c7f20ab9d7d3955e7", func := "berthage/berthagelaw15.PassLowers", spec := "passLowers", inPlace := ["slices.overlaps[berthage/api.Step]"], unfollowed := true, recurses := true, apart := false }
def PassLowersSaid : Prop := passLowersRow.holds Tryz.pinned (OpenSpec.ofChange passLowersSpec)

/-- ITS FALSE NEIGHBOUR: 'it returns false'. Refute it at one input. -/
def passLowersWrong : ChangeSpec := { name := "passLowers", fn := fun _ => fun
  | [d1, d2, d3] => { results := [.lit (.bool false)], args := [d1, d2, d3] }
  | _ => none }
def PassLowersWrongFalsely : Prop := passLowersRow.holds Tryz.pinned (OpenSpec.ofChange passLowersWrong)

/-- 'berthagelaw15.PassQuiet': WHATEVER THE INPUT: true; the input reads as it did. -/
def passQuietSpec : ChangeSpec := { name := "passQuiet", fn := fun _ => fun
  | [d1, d2] => { results := [.lit (.bool true)], args := [d1, d2] }
  | _ => none }
def passQuietRow : OpenClaim := { program := "ytaimcpmcndapcaagreat", sum := "262e9141e38de4e0efbb60f15d7cc7360c103327ab2fed1c7f20ab9d7d3955e7", func := "berthage/berthagelaw15.PassQuiet", spec := "passQuiet", inPlace := ["slices.overlaps[berthage/api.Step]"], unfollowed := true, recurses := true, apart := false }
def PassQuietSaid : Prop := passQuietRow.holds Tryz.pinned (OpenSpec.ofChange passQuietSpec)

/-- ITS FALSE NEIGHBOUR: 'it returns false'. Refute it at one input. -/
def passQuietWrong : ChangeSpec := { name := "passQuiet", fn := fun _ => fun
  | [d1, d2] => { results := [.lit (.bool false)], args := [d1, d2] }
  | _ => none }
def PassQuietWrongFalsely : Prop := passQuietRow.holds Tryz.pinned (OpenSpec.ofChange passQuietWrong)

/-- 'berthagelaw15.PassOpen': WHATEVER THE INPUT: true; the input reads as it did. -/
def passOpenSpec : ChangeSpec := { name := "passOpen", fn := fun _ => fun
  | [d1, d2, d3] => { results := [.lit (.bool true)], args := [d1, d2, d3] }
  | _ => none }
def passOpenRow : OpenClaim := { program := "ytaimcpmcndapcaagreat", sum := "262e9141e38de4e0efbb60f15d7cc7360c103327ab2fed1c7f20ab9d7d3955e7", func := "berthage/berthagelaw15.PassOpen", spec := "passOpen", inPlace := ["slices.overlaps[berthage/api.Step]"], unfollowed := true, recurses := true, apart := false }
def PassOpenSaid : Prop := passOpenRow.holds Tryz.pinned (OpenSpec.ofChange passOpenSpec)

/-- ITS FALSE NEIGHBOUR: 'it returns false'. Refute it at one input. -/
def passOpenWrong : ChangeSpec := { name := "passOpen", fn := fun _ => fun
  | [d1, d2, d3] => { results := [.lit (.bool false)], args := [d1, d2, d3] }
  | _ => none }
def PassOpenWrongFalsely : Prop := passOpenRow.holds Tryz.pinned (OpenSpec.ofChange passOpenWrong)

/-- 'berthagelaw22.AuditSound': WHATEVER THE INPUT: true; the input reads as it did. -/
def auditSoundSpec : ChangeSpec := { name := "auditSound", fn := fun _ => fun
  | [d1, d2, d3] => { results := [.lit (.bool true)], args := [d1, d2, d3] }
  | _ => none }
def auditSoundRow : OpenClaim := { program := "ytaimcpmcndapcaagreat", sum := "262e9141e38de4e0efbb60f15d7cc7360c103327ab2fed1c7f20ab9d7d3955e7", func := "berthage/berthagelaw22.AuditSound", spec := "auditSound", inPlace := ["slices.overlaps[berthage/api.Step]"], unfollowed := true, recurses := true, apart := false }
def AuditSoundSaid : Prop := auditSoundRow.holds Tryz.pinned (OpenSpec.ofChange auditSoundSpec)

/-- ITS FALSE NEIGHBOUR: 'it returns false'. Refute it at one input. -/
def auditSoundWrong : ChangeSpec := { name := "auditSound", fn := fun _ => fun
  | [d1, d2, d3] => { results := [.lit (.bool false)], args := [d1, d2, d3] }
  | _ => none }
def AuditSoundWrongFalsely : Prop := auditSoundRow.holds Tryz.pinned (OpenSpec.ofChange auditSoundWrong)

/-- 'berthagelaw22.AuditTaken': WHATEVER THE INPUT: true; the input reads as it did. -/
def auditTakenSpec : ChangeSpec := { name := "auditTaken", fn := fun _ => fun
  | [d1, d2, d3] => { results := [.lit (.bool true)], args := [d1, d2, d3] }
  | _ => none }
def auditTakenRow : OpenClaim := { program := "ytaimcpmcndapcaagreat", sum := "262e9141e38de4e0efbb60f15d7cc7360c103327ab2fed1c7f20ab9d7d3955e7", func := "berthage/berthagelaw22.AuditTaken", spec := "auditTaken", inPlace := ["slices.overlaps[berthage/api.Step]"], unfollowed := true, recurses := true, apart := false }
def AuditTakenSaid : Prop := auditTakenRow.holds Tryz.pinned (OpenSpec.ofChange auditTakenSpec)

/-- ITS FALSE NEIGHBOUR: 'it returns false'. Refute it at one input. -/
def auditTakenWrong : ChangeSpec := { name := "auditTaken", fn := fun _ => fun
  | [d1, d2, d3] => { results := [.lit (.bool false)], args := [d1, d2, d3] }
  | _ => none }
def AuditTakenWrongFalsely : Prop := auditTakenRow.holds Tryz.pinned (OpenSpec.ofChange auditTakenWrong)

/-- 'berthagelaw22.AuditFinds': WHATEVER THE INPUT: true; the input reads as it did. -/
def auditFindsSpec : ChangeSpec := { name := "auditFinds", fn := fun _ => fun
  | [d1, d2, d3, d4, d5] => { results := [.lit (.bool true)], args := [d1, d2, d3, d4, d5] }
  | _ => none }
def auditFindsRow : OpenClaim := { program := "ytaimcpmcndapcaagreat", sum := "262e9141e38de4e0efbb60f15d7cc7360c103327ab2fed1c7f20ab9d7d3955e7", func := "berthage/berthagelaw22.AuditFinds", spec := "auditFinds", inPlace := ["slices.overlaps[berthage/api.Step]"], unfollowed := true, recurses := true, apart := false }
def AuditFindsSaid : Prop := auditFindsRow.holds Tryz.pinned (OpenSpec.ofChange auditFindsSpec)

/-- ITS FALSE NEIGHBOUR: 'it returns false'. Refute it at one input. -/
def auditFindsWrong : ChangeSpec := { name := "auditFinds", fn := fun _ => fun
  | [d1, d2, d3, d4, d5] => { results := [.lit (.bool false)], args := [d1, d2, d3, d4, d5] }
  | _ => none }
def AuditFindsWrongFalsely : Prop := auditFindsRow.holds Tryz.pinned (OpenSpec.ofChange auditFindsWrong)

/-- 'berthagelaw22.AuditSame': WHATEVER THE INPUT: true; the input reads as it did. -/
def auditSameSpec : ChangeSpec := { name := "auditSame", fn := fun _ => fun
  | [d1, d2, d3] => { results := [.lit (.bool true)], args := [d1, d2, d3] }
  | _ => none }
def auditSameRow : OpenClaim := { program := "ytaimcpmcndapcaagreat", sum := "262e9141e38de4e0efbb60f15d7cc7360c103327ab2fed1c7f20ab9d7d3955e7", func := "berthage/berthagelaw22.AuditSame", spec := "auditSame", inPlace := ["slices.overlaps[berthage/api.Step]"], unfollowed := true, recurses := true, apart := false }
def AuditSameSaid : Prop := auditSameRow.holds Tryz.pinned (OpenSpec.ofChange auditSameSpec)

/-- ITS FALSE NEIGHBOUR: 'it returns false'. Refute it at one input. -/
def auditSameWrong : ChangeSpec := { name := "auditSame", fn := fun _ => fun
  | [d1, d2, d3] => { results := [.lit (.bool false)], args := [d1, d2, d3] }
  | _ => none }
def AuditSameWrongFalsely : Prop := auditSameRow.holds Tryz.pinned (OpenSpec.ofChange auditSameWrong)

/- THE SECOND FORM. 'bulk': how many values and letters a reading holds, each counted each time it is reached (what is shared counts as often as it is met; a slice's spare places count too). A statement '..UptoSaid' is the law's where the arguments, and the package variables that the reading takes, are together of bulk at most 1048576: NARROWER than '..Said'. Prove '..Said' where nothing that the law and all that it calls make is longer than what came in: it says more and counts as full. Else prove '..UptoSaid'. A law counts once. -/
mutual
def uptoBulk {H : Type} : DataW H → Nat
  | .lit (.string bytes) => bytes.length + 1
  | .lit _ => 1
  | .nil => 1
  | .ptr d => uptoBulk d + 1
  | .slice elems spare => uptoBulkAll elems + uptoBulkAll spare + 1
  | .agg parts => uptoBulkAll parts + 1
  | .iface _ d => uptoBulk d + 1
  | .map entries => uptoBulkEntries entries + 1
  | .held _ => 1
def uptoBulkAll {H : Type} : List (DataW H) → Nat
  | [] => 0
  | d :: r => uptoBulk d + uptoBulkAll r
def uptoBulkEntries {H : Type} : List (Lit × DataW H) → Nat
  | [] => 0
  | x :: r => uptoBulkEntry x + uptoBulkEntries r
def uptoBulkEntry {H : Type} : Lit × DataW H → Nat
  | (.string bytes, d) => bytes.length + uptoBulk d + 1
  | (_, d) => uptoBulk d + 1
 end
def uptoSmall : (H : Type) → List (DataW H) → Bool := fun _ ds => decide (uptoBulkAll ds ≤ 1048576)
def OpenSpec.upto (s : _root_.Go.ChangeSpec) : _root_.Go.OpenSpec := { _root_.Go.OpenSpec.ofChange s with cond := some uptoSmall }

/-- 'berthagelaw12.CorePlays', WHERE WHAT IT READS IS OF BULK AT MOST 1048576: true; the input reads as it did. -/
def corePlaysUptoRow : OpenClaim := { program := "ytaimcpmcndapcaagreat", sum := "262e9141e38de4e0efbb60f15d7cc7360c103327ab2fed1c7f20ab9d7d3955e7", func := "berthage/berthagelaw12.CorePlays", spec := "corePlays", inPlace := ["slices.overlaps[berthage/api.Step]"], unfollowed := true, recurses := true, apart := false, narrowed := true }
def CorePlaysUptoSaid : Prop := corePlaysUptoRow.holds Tryz.pinned (OpenSpec.upto corePlaysSpec)

/-- 'berthagelaw12.CoreSound', WHERE WHAT IT READS IS OF BULK AT MOST 1048576: true; the input reads as it did. -/
def coreSoundUptoRow : OpenClaim := { program := "ytaimcpmcndapcaagreat", sum := "262e9141e38de4e0efbb60f15d7cc7360c103327ab2fed1c7f20ab9d7d3955e7", func := "berthage/berthagelaw12.CoreSound", spec := "coreSound", inPlace := ["slices.overlaps[berthage/api.Step]"], unfollowed := true, recurses := true, apart := false, narrowed := true }
def CoreSoundUptoSaid : Prop := coreSoundUptoRow.holds Tryz.pinned (OpenSpec.upto coreSoundSpec)

/-- 'berthagelaw13.SeqPlays', WHERE WHAT IT READS IS OF BULK AT MOST 1048576: true; the input reads as it did. -/
def seqPlaysUptoRow : OpenClaim := { program := "ytaimcpmcndapcaagreat", sum := "262e9141e38de4e0efbb60f15d7cc7360c103327ab2fed1c7f20ab9d7d3955e7", func := "berthage/berthagelaw13.SeqPlays", spec := "seqPlays", inPlace := ["slices.overlaps[berthage/api.Step]"], unfollowed := true, recurses := true, apart := false, narrowed := true }
def SeqPlaysUptoSaid : Prop := seqPlaysUptoRow.holds Tryz.pinned (OpenSpec.upto seqPlaysSpec)

/-- 'berthagelaw15.PassRuns', WHERE WHAT IT READS IS OF BULK AT MOST 1048576: true; the input reads as it did. -/
def passRunsUptoRow : OpenClaim := { program := "ytaimcpmcndapcaagreat", sum := "262e9141e38de4e0efbb60f15d7cc7360c103327ab2fed1c7f20ab9d7d3955e7", func := "berthage/berthagelaw15.PassRuns", spec := "passRuns", inPlace := ["slices.overlaps[berthage/api.Step]"], unfollowed := true, recurses := true, apart := false, narrowed := true }
def PassRunsUptoSaid : Prop := passRunsUptoRow.holds Tryz.pinned (OpenSpec.upto passRunsSpec)

/-- 'berthagelaw15.PassLowers', WHERE WHAT IT READS IS OF BULK AT MOST 1048576: true; the input reads as it did. -/
def passLowersUptoRow : OpenClaim := { program := "ytaimcpmcndapcaagreat", sum := "262e9141e38de4e0efbb60f15d7cc7360c103327ab2fed1c7f20ab9d7d3955e7", func := "berthage/berthagelaw15.PassLowers", spec := "passLowers", inPlace := ["slices.overlaps[berthage/api.Step]"], unfollowed := true, recurses := true, apart := false, narrowed := true }
def PassLowersUptoSaid : Prop := passLowersUptoRow.holds Tryz.pinned (OpenSpec.upto passLowersSpec)

/-- 'berthagelaw15.PassQuiet', WHERE WHAT IT READS IS OF BULK AT MOST 1048576: true; the input reads as it did. -/
def passQuietUptoRow : OpenClaim := { program := "ytaimcpmcndapcaagreat", sum := "262e9141e38de4e0efbb60f15d7cc7360c103327ab2fed1c7f20ab9d7d3955e7", func := "berthage/berthagelaw15.PassQuiet", spec := "passQuiet", inPlace := ["slices.overlaps[berthage/api.Step]"], unfollowed := true, recurses := true, apart := false, narrowed := true }
def PassQuietUptoSaid : Prop := passQuietUptoRow.holds Tryz.pinned (OpenSpec.upto passQuietSpec)

/-- 'berthagelaw15.PassOpen', WHERE WHAT IT READS IS OF BULK AT MOST 1048576: true; the input reads as it did. -/
def passOpenUptoRow : OpenClaim := { program := "ytaimcpmcndapcaagreat", sum := "262e9141e38de4e0efbb60f15d7cc7360c103327ab2fed1c7f20ab9d7d3955e7", func := "berthage/berthagelaw15.PassOpen", spec := "passOpen", inPlace := ["slices.overlaps[berthage/api.Step]"], unfollowed := true, recurses := true, apart := false, narrowed := true }
def PassOpenUptoSaid : Prop := passOpenUptoRow.holds Tryz.pinned (OpenSpec.upto passOpenSpec)

/-- 'berthagelaw22.AuditSound', WHERE WHAT IT READS IS OF BULK AT MOST 1048576: true; the input reads as it did. -/
def auditSoundUptoRow : OpenClaim := { program := "ytaimcpmcndapcaagreat", sum := "262e9141e38de4e0efbb60f15d7cc7360c103327ab2fed1c7f20ab9d7d3955e7", func := "berthage/berthagelaw22.AuditSound", spec := "auditSound", inPlace := ["slices.overlaps[berthage/api.Step]"], unfollowed := true, recurses := true, apart := false, narrowed := true }
def AuditSoundUptoSaid : Prop := auditSoundUptoRow.holds Tryz.pinned (OpenSpec.upto auditSoundSpec)

/-- 'berthagelaw22.AuditTaken', WHERE WHAT IT READS IS OF BULK AT MOST 1048576: true; the input reads as it did. -/
def auditTakenUptoRow : OpenClaim := { program := "ytaimcpmcndapcaagreat", sum := "262e9141e38de4e0efbb60f15d7cc7360c103327ab2fed1c7f20ab9d7d3955e7", func := "berthage/berthagelaw22.AuditTaken", spec := "auditTaken", inPlace := ["slices.overlaps[berthage/api.Step]"], unfollowed := true, recurses := true, apart := false, narrowed := true }
def AuditTakenUptoSaid : Prop := auditTakenUptoRow.holds Tryz.pinned (OpenSpec.upto auditTakenSpec)

/-- 'berthagelaw22.AuditFinds', WHERE WHAT IT READS IS OF BULK AT MOST 1048576: true; the input reads as it did. -/
def auditFindsUptoRow : OpenClaim := { program := "ytaimcpmcndapcaagreat", sum := "262e9141e38de4e0efbb60f15d7cc7360c103327ab2fed1c7f20ab9d7d3955e7", func := "berthage/berthagelaw22.AuditFinds", spec := "auditFinds", inPlace := ["slices.overlaps[berthage/api.Step]"], unfollowed := true, recurses := true, apart := false, narrowed := true }
def AuditFindsUptoSaid : Prop := auditFindsUptoRow.holds Tryz.pinned (OpenSpec.upto auditFindsSpec)

/-- 'berthagelaw22.AuditSame', WHERE WHAT IT READS IS OF BULK AT MOST 1048576: true; the input reads as it did. -/
def auditSameUptoRow : OpenClaim := { program := "ytaimcpmcndapcaagreat", sum := "262e9141e38de4e0efbb60f15d7cc7360c103327ab2fed1c7f20ab9d7d3955e7", func := "berthage/berthagelaw22.AuditSame", spec := "auditSame", inPlace := ["slices.overlaps[berthage/api.Step]"], unfollowed := true, recurses := true, apart := false, narrowed := true }
def AuditSameUptoSaid : Prop := auditSameUptoRow.holds Tryz.pinned (OpenSpec.upto auditSameSpec)

end Rows
end Go.Proofs.YtaimcpmcndapcaaGreat
