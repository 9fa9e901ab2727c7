/-
  Own walks: the statements' own helpers (cut, raw, zig, awake), and All.
-/
import Derived.Test.YtojipdcckanbfaaWireA
namespace Go.Proofs.Ytojipdcckanbfaa
open Go.RowKit

/-- One new byte, as a string. -/
theorem conv_one (W : World) (n : Nat) (hn : n < 256) : (convert 24 9 (.slice (some ⟨W.heap.size, 0, none⟩) 1 1)).run Try.prog (W.alloc (.cells #[.int .u8 (n : Int)] 5)) = .ok (.string (str [byt n])) (W.alloc (.cells #[.int .u8 (n : Int)] 5)) := by
  refine conv_own (base := 0) (l := [byt n]) ⟨rfl, .inr ⟨W.heap.size, 1, #[.int .u8 (n : Int)], rfl, Nat.zero_le _, heap_alloc_new W _, Nat.le_refl _, by unfold maxLen; omega, rfl, ?_⟩⟩
  simp [bv, byt_toNat hn]

theorem str_size (l : List UInt8) : (str l).size = l.length := by simp [str, ByteArray.size]

theorem str_cat (a b : List UInt8) : str a ++ str b = str (a ++ b) := by
  apply ByteArray.ext
  simp [str]

/-- A text, or its first 200 bytes. -/
def cut200 (s : ByteArray) : ByteArray := if 200 < s.size then s.extract 0 200 else s
theorem cut200_size (s : ByteArray) : (cut200 s).size ≤ 200 := by
  unfold cut200
  split
  · rw [ByteArray.size_extract]; omega
  · omega

theorem str_toList (l : List UInt8) : (str l).toList = l := ByteArray.toList_mk l

/-- The bytes of signed numbers in a row. -/
def encAll (zs : List Int) : List UInt8 := zs.flatMap fun z => enc (zg z)
theorem encAll_snoc (zs : List Int) (z : Int) : encAll (zs ++ [z]) = encAll zs ++ enc (zg z) := by simp [encAll]
theorem encAll_length (zs : List Int) : (encAll zs).length ≤ 10 * zs.length := by
  induction zs with
  | nil => simp [encAll]
  | cons z zs ih => have := enc_length (zg z); simp only [encAll, List.flatMap_cons, List.length_append, List.length_cons] at *; omega

set_option maxHeartbeats 400000 in
set_option maxRecDepth 100000 in
theorem All_any (zs : List Int) (hz : ∀ z ∈ zs, -9223372036854775808 ≤ z ∧ z ≤ 9223372036854775807) (hn : zs.length ≤ 1000) (g off cap : Nat) (l : List UInt8) (v : Value) (base : Nat) (w : World) (hb : BBuf w base v l) (hl : l.length ≤ 10000) (hbase : base ≤ w.heap.size)
    (hg : g < base) (hc : ∀ j, j < zs.length → w.cell? ⟨g, off + j, none⟩ = some (.int .i64 (zs.getD j 0))) :
    Calls Try.prog 19 #[v, .slice (some ⟨g, off, none⟩) zs.length cap] w fun e w' => ∃ v', e = .returned v' ∧ BBuf w' base v' (l ++ encAll zs) ∧ (zs = [] ∨ BOwn w' base v' (l ++ encAll zs)) ∧ Below base w w' := by
  go_enter Try.func19, Try.ntmps19
  go_wp2
  go_loopw [0, 9] (fun b i wr => ∃ (k : Nat), k ≤ zs.length ∧ i = .int .i64 k ∧ BBuf wr base b (l ++ encAll (zs.take k)) ∧ (k = 0 ∨ BOwn wr base b (l ++ encAll (zs.take k))) ∧ Below base w wr) (fun _ i _ => zs.length - (intOf i).toNat)
  case atStart => exact ⟨0, Nat.zero_le _, rfl, by simpa [encAll] using hb, Or.inl rfl, Below.refl _ _⟩
  case round =>
    obtain ⟨k, hk, rfl, hbuf, hor, hbel⟩ := hrel
    clear hb
    have hsz := hbel.size
    by_cases hlt : k < zs.length
    · have hcell : wr.cell? ⟨g, off + k, none⟩ = some (.int .i64 (zs.getD k 0)) := by rw [hbel.cell hg]; exact hc k hlt
      have hzk := hz (zs.getD k 0) (by rw [getD_lt hlt]; exact List.getElem_mem _)
      have htk : Hid (zs.take (k + 1) = zs.take k ++ [zs.getD k 0]) := by
        show _ = _
        rw [List.take_succ_eq_append_getElem hlt, getD_lt hlt]
      have hle := encAll_length (zs.take k)
      have htl : (zs.take k).length ≤ k := List.length_take_le _ _
      have hll : (l ++ encAll (zs.take k)).length ≤ 1000000 := by rw [List.length_append]; omega
      generalize hzz : zs.getD k 0 = z at *
      have HZ := Lib.hid hzz
      clear hc hzz hor
      go_wp2_with (go_at_call 21; go_must (refine (Sign_any z hzk _ _ base _ hbuf hll (by omega)).mono ?_); rintro e w1 ⟨v1, rfl, hown1, hbl1⟩)
      go_roundw
      case rel =>
        have hfin : BOwn w1 base v1 (l ++ encAll (zs.take (k + 1))) := by rw [htk.out, encAll_snoc, ← List.append_assoc]; exact hown1
        exact ⟨k + 1, by omega, by go_num, hfin.buf, Or.inr hfin, hbel.trans hbl1⟩
      case measure => simp [intOf]; omega
    · obtain rfl : k = zs.length := by omega
      rw [List.take_length] at hbuf hor
      clear hc
      go_wp2
      go_ret
      refine ⟨_, rfl, hbuf, ?_, hbel⟩
      rcases hor with h0 | h
      · exact Or.inl (List.eq_nil_of_length_eq_zero h0)
      · exact Or.inr h

end Go.Proofs.Ytojipdcckanbfaa
