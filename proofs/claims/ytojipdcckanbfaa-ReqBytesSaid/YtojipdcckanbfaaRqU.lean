/-
  Own walks: the program's sum of bytes; equality of bytes.
-/
import Derived.Test.YtojipdcckanbfaaRqT
import Derived.Test.YtojipdcckanbfaaByt
namespace Go.Proofs.Ytojipdcckanbfaa
open Go.RowKit

theorem ck_xor8 {s k y : Nat} : Go.bits .xor .u8 ((31 * (s : Int) + (y : Int)) % 256) ((k : Int) % 256) = ((ckStep s k y : Nat) : Int) := by
  rw [u8_xor _ _ (by omega) (by omega) (by omega) (by omega)]
  have e1 : ((31 * (s : Int) + (y : Int)) % 256).toNat = (31 * s + y) % 256 := by omega
  have e2 : ((k : Int) % 256).toNat = k % 256 := by omega
  rw [e1, e2]
  rfl

set_option maxRecDepth 100000 in
set_option maxHeartbeats 1000000 in
theorem sum_fn {w : World} {v : Value} {l : List UInt8} (h : BRead w v l) (hl : l.length ≤ 10000) : Calls Try.prog 15 #[v] w fun e w' => e = .returned (.int .u8 (ckF l)) ∧ w = w' := by
  obtain ⟨n, hn⟩ : ∃ n, l.length = n := ⟨_, rfl⟩
  have hs : ∃ ao cap, v = .slice ao n cap ∧ ∀ i, i < n → ∃ b off, ao = some ⟨b, off, none⟩ ∧ w.cell? ⟨b, off + i, none⟩ = some (.int .u8 ((l.getD i 0).toNat : Int)) := by
    rcases h with ⟨rfl, rfl⟩ | ⟨b, off, cap, rfl, hc⟩
    · exact ⟨none, 0, by rw [← hn]; rfl, fun i hi => by simp at hn; omega⟩
    · refine ⟨_, cap, by rw [hn], fun i hi => ⟨b, off, rfl, ?_⟩⟩
      have := hc i (by omega)
      rw [this]
      have hi' : i < l.length := by omega
      simp [List.getD, hi']
  obtain ⟨ao, cap, rfl, hc⟩ := hs
  replace hc := Lib.hid hc
  clear h
  have e0 : ckF l = ckK l n := by rw [← hn]; rfl
  have e1 : ckK l 0 = n % 256 := by rw [← hn]; rfl
  obtain ⟨r, hr⟩ : ∃ r, r = ckF l := ⟨_, rfl⟩
  rw [← hr]
  have hr' : Hid (ckK l n = r) := by show _ = _; rw [hr, e0]
  have hr256 : r < 256 := by rw [← hr'.out]; exact ckK_lt _ _
  clear hr e0
  rw [hn] at hl
  have e2 : Hid (∀ k, ckK l (k + 1) = ckStep (ckK l k) k (l.getD k 0).toNat) := fun k => rfl
  have e3 : Hid (∀ k, ckK l k < 256) := ckK_lt l
  generalize hK : ckK l = K at *
  replace hK := Lib.hid hK
  replace e1 := Lib.hid e1
  clear hn
  go_enter Try.func15, Try.ntmps15
  go_wp2_with fail
  go_loopw [3, 11] (fun ss ii wr => ∃ k s : Nat, k ≤ n ∧ ss = .int .u8 s ∧ ii = .int .i64 k ∧ Hid (s = K k) ∧ w = wr) (fun _ ii _ => n - (intOf ii).toNat)
  case atStart => exact ⟨0, n % 256, Nat.zero_le _, by go_num, rfl, e1.out.symm, rfl⟩
  case round =>
    obtain ⟨k, s, hk, rfl, rfl, hs, rfl⟩ := hrel
    by_cases hlt : k < n
    · have b2 : (k : Int) < (n : Int) := by omega
      have wi : IntKind.i64.wrap ((k : Int) + 1) = (k : Int) + 1 := by rw [IntKind.wrap_i64]; omega
      obtain ⟨b, off, rfl, c⟩ := hc.out k hlt
      have hs256 : s < 256 := by rw [hs.out]; exact e3.out k
      have hst : Hid (K (k + 1) = ckStep s k (l.getD k 0).toNat) := by show _ = _; rw [e2.out k, hs.out]
      have hc256 : (l.getD k 0).toNat < 256 := UInt8.toNat_lt _
      generalize (l.getD k 0).toNat = y at *
      go_wp2_with fail
      go_roundw
      case rel => exact ⟨k + 1, ckStep s k y, by omega, by rw [ck_xor8], by go_num, hst.out.symm, trivial⟩
      case measure => simp [intOf]; omega
    · obtain rfl : k = n := by omega
      have b2 : ¬ (k : Int) < (k : Int) := by omega
      have hsr : Hid (s = r) := by show _ = _; rw [hs.out, hr'.out]
      have hs256 : s < 256 := by rw [hs.out]; exact e3.out k
      go_wp2_with fail
      go_ret
      exact ⟨by rw [← hsr.out]; rfl, rfl⟩

theorem Equal_fn {w : World} {u v : Value} {k l : List UInt8} (hu : RowAt encB 1 w u k) (hv : RowAt encB 1 w v l) : Calls Try.prog 18 #[u, v] w fun e w' => e = .returned (.bool (decide (k = l))) ∧ w = w' := by
  have h1 := conv_row hu
  have h2 := conv_row hv
  have h3 : ((str k).toList == (str l).toList) = decide (k = l) := by
    rw [str_toList, str_toList]
    by_cases h : k = l
    · subst h; simp
    · rw [decide_eq_false h]; exact beq_eq_false_iff_ne.2 h
  generalize decide (k = l) = q at *
  clear hu hv
  go_enter Try.func18, Try.ntmps18
  go_wp2_with fail
  go_ret
  exact ⟨rfl, rfl⟩

end Go.Proofs.Ytojipdcckanbfaa
