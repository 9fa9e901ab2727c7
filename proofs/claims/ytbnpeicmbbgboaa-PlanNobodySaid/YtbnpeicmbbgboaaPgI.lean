/-
  Own walk: choices that are the same.
-/
import Derived.Test.YtbnpeicmbbgboaaPgH
namespace Go.Proofs.Ytbnpeicmbbgboaa
set_option maxRecDepth 8000
open Go.RowKit Go.Sort Go.Lib

theorem pair_at {w : World} {l : List (Int × Int)} {b off k : Nat} (hc : ∀ i s j u, l[i]? = some s → (enc2 s)[j]? = some u → w.cell? ⟨b, off + (i * 2 + j), none⟩ = some u) (hk : k < l.length) :
    w.cell? ⟨b, off + k * 2, none⟩ = some (.int .i64 (l.getD k (0, 0)).1) ∧ w.cell? ⟨b, off + k * 2 + 1, none⟩ = some (.int .i64 (l.getD k (0, 0)).2) := by
  have hs : l[k]? = some (l.getD k (0, 0)) := by simp [List.getD, hk]
  exact ⟨hc k _ 0 _ hs rfl, hc k _ 1 _ hs rfl⟩

set_option maxRecDepth 1000000 in
set_option maxHeartbeats 2000000 in
theorem same14_fn {w : World} {u v : Value} {l : List (Int × Int)} (h1 : RowAt enc2 2 w u l) (h2 : RowAt enc2 2 w v l) :
    Calls Try.prog 13 #[u, v] w fun e w' => e = .returned (.bool true) ∧ Below w.heap.size w w' := by
  obtain ⟨a1, c1, rfl, _, hm, hc1⟩ := h1
  obtain ⟨a2, c2, rfl, _, _, hc2⟩ := h2
  have hmix := pf_mixed
  have hg := choice_guard
  have hlm : l.length ≤ 9223372036854775807 := by unfold maxLen at hm; omega
  clear hm
  replace hc1 := Lib.hid hc1
  replace hc2 := Lib.hid hc2
  go_enter Try.func13, Try.ntmps13
  go_wp2_with fail
  go_loopw [5] (fun ii wr => ∃ (i : Nat), i ≤ l.length ∧ ii = .int .i64 i ∧ Below w.heap.size w wr) (fun ii _ => l.length - (intOf ii).toNat)
  case atStart => exact ⟨0, Nat.zero_le _, rfl, Below.refl _ _⟩
  case round =>
    obtain ⟨i, hi, rfl, hb⟩ := hrel
    by_cases hlt : i < l.length
    · obtain ⟨b1, o1, rfl, hb1, hd1⟩ := hc1.out (by omega)
      obtain ⟨b2, o2, rfl, hb2, hd2⟩ := hc2.out (by omega)
      obtain ⟨s0, s1⟩ := pair_at hd1 hlt
      obtain ⟨t0, t1⟩ := pair_at hd2 hlt
      rw [← hb.cell (p := ⟨b1, _, none⟩) hb1] at s0 s1
      rw [← hb.cell (p := ⟨b2, _, none⟩) hb2] at t0 t1
      clear hd1 hd2
      obtain ⟨x, hx⟩ : ∃ x, x = (l.getD i (0, 0)).1 := ⟨_, rfl⟩
      obtain ⟨y, hy⟩ : ∃ y, y = (l.getD i (0, 0)).2 := ⟨_, rfl⟩
      rw [← hx] at s0 t0
      rw [← hy] at s1 t1
      clear hx hy
      have hne := fun W => choice_neq x y W
      have hw2 : IntKind.i64.wrap ((i : Int) + 1) = (i : Int) + 1 := IntWalk.i64_in _ (by omega)
      have d1 : (0 : Int) ≤ i := by omega
      have d2 : (i : Int) < (l.length : Int) := by omega
      go_wp2_with fail
      go_quiet (fail)
      have hb2 := below_drewN hb nq
      obtain ⟨w5, hw5⟩ : ∃ w5, w5 = wr.drewN nq := ⟨_, rfl⟩
      rw [← hw5] at hb2 ⊢
      clear hw5 hb s0 s1 t0 t1 hne
      go_wp2_with fail
      go_roundw
      case rel => exact ⟨i + 1, by omega, by go_num, hb2⟩
      case measure => simp [intOf]; omega
    · obtain rfl : i = l.length := by omega
      go_wp2_with fail
      go_ret
      exact ⟨rfl, hb⟩

end Go.Proofs.Ytbnpeicmbbgboaa
