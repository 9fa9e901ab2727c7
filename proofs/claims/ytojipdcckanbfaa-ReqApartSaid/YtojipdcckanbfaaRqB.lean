/-
  Own walks: the statement's own sum of bytes, and a request's bytes.
-/
import Derived.Test.YtojipdcckanbfaaRqA
namespace Go.Proofs.Ytojipdcckanbfaa
open Go.RowKit

theorem i64_xor_small (a b : Nat) (ha : a < 256) (hb : b < 256) : Go.bits .xor .i64 (a : Int) (b : Int) = ((a ^^^ b : Nat) : Int) := by
  have hx : a ^^^ b < 2 ^ 8 := Nat.xor_lt_two_pow (by omega) (by omega)
  show IntKind.i64.wrap ((BitVec.ofInt 64 (a : Int) ^^^ BitVec.ofInt 64 (b : Int)).toNat : Int) = _
  rw [BitVec.toNat_xor, ofInt_u64 a (by omega), ofInt_u64 b (by omega), IntKind.wrap_i64]
  omega
theorem ck_xor {s k y : Nat} : Go.bits .xor .i64 ((31 * (s : Int) + (y : Int)) % 256) ((k : Int) % 256) = ((ckStep s k y : Nat) : Int) := by
  have := i64_xor_small ((31 * s + y) % 256) (k % 256) (Nat.mod_lt _ (by decide)) (Nat.mod_lt _ (by decide))
  unfold ckStep
  rw [← this]
  simp

set_option maxRecDepth 100000 in
set_option maxHeartbeats 1000000 in
theorem sum_any {w : World} {v : Value} {l : List UInt8} (h : BRead w v l) (hl : l.length ≤ 10000) : Calls Try.prog 22 #[v] w fun e w' => e = .returned (.int .u8 (ckF l)) ∧ w = w' := by
  obtain ⟨n, hn⟩ : ∃ n, l.length = n := ⟨_, rfl⟩
  have hs : ∃ ao cap, v = .slice ao n cap ∧ ∀ i, i < n → ∃ b off, ao = some ⟨b, off, none⟩ ∧ w.cell? ⟨b, off + i, none⟩ = some (.int .u8 ((l.getD i 0).toNat : Int)) := by
    rcases h with ⟨rfl, rfl⟩ | ⟨b, off, cap, rfl, hc⟩
    · exact ⟨none, 0, by rw [← hn]; rfl, fun i hi => by simp at hn; omega⟩
    · refine ⟨_, cap, by rw [hn], fun i hi => ⟨b, off, rfl, ?_⟩⟩
      have := hc i (by omega)
      rw [this]
      have hi' : i < l.length := by omega
      simp [List.getD, hi']
  obtain ⟨ao, cap, rfl, hc⟩ := hs
  replace hc := Lib.hid hc
  clear h
  have e0 : ckF l = ckK l n := by rw [← hn]; rfl
  have e1 : ckK l 0 = n % 256 := by rw [← hn]; rfl
  obtain ⟨r, hr⟩ : ∃ r, r = ckF l := ⟨_, rfl⟩
  rw [← hr]
  have hr' : Hid (ckK l n = r) := by show _ = _; rw [hr, e0]
  have hr256 : r < 256 := by rw [← hr'.out]; exact ckK_lt _ _
  clear hr e0
  rw [hn] at hl
  have e2 : Hid (∀ k, ckK l (k + 1) = ckStep (ckK l k) k (l.getD k 0).toNat) := fun k => rfl
  have e3 : Hid (∀ k, ckK l k < 256) := ckK_lt l
  generalize hK : ckK l = K at *
  replace hK := Lib.hid hK
  replace e1 := Lib.hid e1
  clear hn
  go_enter Try.func22, Try.ntmps22
  go_wp2_with fail
  go_loopw [3, 4] (fun ss ii wr => ∃ k s : Nat, k ≤ n ∧ ss = .int .i64 s ∧ ii = .int .i64 k ∧ Hid (s = K k) ∧ w = wr) (fun _ ii _ => n - (intOf ii).toNat)
  case atStart => exact ⟨0, n % 256, Nat.zero_le _, by go_num, rfl, e1.out.symm, rfl⟩
  case round =>
    obtain ⟨k, s, hk, rfl, rfl, hs, rfl⟩ := hrel
    by_cases hlt : k < n
    · have b2 : (k : Int) < (n : Int) := by omega
      have wi : IntKind.i64.wrap ((k : Int) + 1) = (k : Int) + 1 := by rw [IntKind.wrap_i64]; omega
      obtain ⟨b, off, rfl, c⟩ := hc.out k hlt
      have hs256 : s < 256 := by rw [hs.out]; exact e3.out k
      have hst : Hid (K (k + 1) = ckStep s k (l.getD k 0).toNat) := by show _ = _; rw [e2.out k, hs.out]
      have hc256 : (l.getD k 0).toNat < 256 := UInt8.toNat_lt _
      generalize (l.getD k 0).toNat = y at *
      go_wp2_with fail
      go_roundw
      case rel => exact ⟨k + 1, ckStep s k y, by omega, by rw [ck_xor], by go_num, hst.out.symm, trivial⟩
      case measure => simp [intOf]; omega
    · obtain rfl : k = n := by omega
      have b2 : ¬ (k : Int) < (k : Int) := by omega
      have hsr : Hid (s = r) := by show _ = _; rw [hs.out, hr'.out]
      have hs256 : s < 256 := by rw [hs.out]; exact e3.out k
      go_wp2_with fail
      go_ret
      exact ⟨by rw [← hsr.out]; rfl, rfl⟩

end Go.Proofs.Ytojipdcckanbfaa
