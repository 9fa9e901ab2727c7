/-
  Contracts of package set's Each and List.
-/
import Derived.Test.YtpjmogakimelaaaSetHas
import Derived.Test.YtpjmogakimelaaaSetLists
import Derived.Test.YtpjmogakimelaaaRange
import Derived.WalkKit
import Derived.OwnWalkIn
import Derived.TacticsInMore
import Derived.LoopNIn
import Derived.LoopIn
import Derived.RecoverIn
import Derived.RegionIn
import Derived.Maps.AppendAt
namespace Go.Proofs.Ytpjmogakimelaaa
open Go.RowKit Go.Shelf

attribute [local go_sem] Oper.semAt_some

/-- The deferred call of a function that returns: there is nothing to recover. -/
theorem idle_fn (n : Nat) (w : World) :
    CallsDIn Fence.wide n Try.prog 20 #[] .returning w fun e u' w' => e = .returned (.tuple #[]) ∧ u' = .returning ∧ w' = w := by
  refine callsDIn_of_wpSIn Try.func20 rfl trivial fun c₀ cs hu => ?_
  apply wpSIn_region
  cases c₀
  simp_all [wpOpsSIn, go_sem, recoverD, Try.ntmps20, bodyPostS, results, Try.results20]

theorem nodes_step {f : Nat → Bool} {k : Nat} (hk : k < 64) (h : f k = true) : (List.range (k + 1)).filter f = (List.range k).filter f ++ [k] ∧ (List.range k).filter f ++ [k] <+: nodesF f := by
  have e : (List.range (k + 1)).filter f = (List.range k).filter f ++ [k] := by rw [List.range_succ, List.filter_append]; simp [h]
  refine ⟨e, ?_⟩
  rw [← e]
  unfold nodesF
  have hp : List.range (k + 1) <+: List.range 64 := by
    have : List.range (k + 1) = (List.range 64).take (k + 1) := by rw [List.take_range, Nat.min_eq_left (by omega)]
    rw [this]
    exact List.take_prefix _ _
  exact hp.filter f

def encN (k : Nat) : Array Value := #[.int .i64 (k : Int)]

set_option maxHeartbeats 1000000 in
theorem each_gives (u : Nat) (hu : u < 18446744073709551616) (m : Nat) : GivesAll Fence.wide m Try.prog 17 #[.int .u64 u] encN (nodesF u.testBit) := by
  intro l J W hY h0
  show CallsIn _ _ _ _ #[.int .u64 u, .func (.yield l) #[] #[]] W _
  refine callsIn_of_wp_defers Try.func17 rfl trivial ?_
  simp only [Try.ntmps17, List.size_toArray, List.length_cons, List.length_nil, Nat.reduceAdd, Nat.reduceSub, Array.replicate_succ, Array.replicate_zero, List.push_toArray, List.append_toArray, List.nil_append, List.cons_append]
  gi_wp2
  gi_loopw [5] (fun i wr => ∃ (k : Nat), k ≤ 64 ∧ i = .int .i64 k ∧ J ((List.range k).filter u.testBit) wr) (fun i _ => 64 - (intOf i).toNat)
  case atStart => exact ⟨0, Nat.zero_le _, rfl, h0⟩
  case round =>
    obtain ⟨k, hk, rfl, hJ⟩ := hrel
    by_cases hlt : k < 64
    · cases hb : u.testBit k with
      | true =>
        obtain ⟨e, hpre⟩ := nodes_step hlt hb
        obtain ⟨fn, tmps, assign, body, hy, hR⟩ := hY _ k wr hJ hpre
        unfold encN at hy
        rw [← e] at hR
        replace hb := Lib.hid hb
        clear hpre e hY
        gi_wp2
        refine ⟨trivial, (fun h => by cases h), (callsIn_wide.2 (has_fn u hu (k : Int) _ (by omega))).mono ?_⟩
        rintro e w' ⟨rfl, rfl⟩
        rw [hasF_nat hlt, hb.out]
        gi_wp2
        refine ⟨(fun h => by cases h), hR.mono ?_⟩
        rintro e w2 ⟨rfl, hJ2⟩
        gi_wp2
        go_roundw
        case rel => exact ⟨k + 1, by omega, by go_num, hJ2⟩
        case measure => simp [intOf]; omega
      | false =>
        have e : (List.range (k + 1)).filter u.testBit = (List.range k).filter u.testBit := by rw [List.range_succ, List.filter_append]; simp [hb]
        rw [← e] at hJ
        replace hb := Lib.hid hb
        clear hY e
        gi_wp2
        refine ⟨trivial, (fun h => by cases h), (callsIn_wide.2 (has_fn u hu (k : Int) _ (by omega))).mono ?_⟩
        rintro e w' ⟨rfl, rfl⟩
        rw [hasF_nat hlt, hb.out]
        gi_wp2
        refine ⟨fun _ h => (by cases h), ?_⟩
        gi_wp2
        go_roundw
        case rel => exact ⟨k + 1, by omega, by go_num, hJ⟩
        case measure => simp [intOf]; omega
    · obtain rfl : k = 64 := by omega
      clear hY
      gi_wp2
      refine leavesIn_cons (f := 20) (args := #[]) (by simp) (fun h => by cases h) (by simp [go_sem]) (by simp [Target.leads]; trivial) ?_
      refine (idle_fn _ _).mono ?_
      rintro e u' w'' ⟨rfl, rfl, rfl⟩
      simp [LeavesIn, settle, results, Try.results17, go_sem]
      exact hJ

end Go.Proofs.Ytpjmogakimelaaa
