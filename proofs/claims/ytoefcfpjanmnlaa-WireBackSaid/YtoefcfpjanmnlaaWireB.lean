/-
  Own walks: the statements' own helpers (cut, raw, zig, awake), and All.
-/
import Derived.Test.YtoefcfpjanmnlaaWireA
namespace Go.Proofs.Ytoefcfpjanmnlaa
open Go.RowKit

/-- One new byte, as a string. -/
theorem conv_one (W : World) (n : Nat) (hn : n < 256) : (convert 25 9 (.slice (some ⟨W.heap.size, 0, none⟩) 1 1)).run Try.prog (W.alloc (.cells #[.int .u8 (n : Int)] 5)) = .ok (.string (str [byt n])) (W.alloc (.cells #[.int .u8 (n : Int)] 5)) := by
  refine conv_own (base := 0) (l := [byt n]) ⟨rfl, .inr ⟨W.heap.size, 1, #[.int .u8 (n : Int)], rfl, Nat.zero_le _, heap_alloc_new W _, Nat.le_refl _, by unfold maxLen; omega, rfl, ?_⟩⟩
  simp [bv, byt_toNat hn]

theorem str_size (l : List UInt8) : (str l).size = l.length := by simp [str, ByteArray.size]

theorem str_cat (a b : List UInt8) : str a ++ str b = str (a ++ b) := by
  apply ByteArray.ext
  simp [str]

set_option maxHeartbeats 400000 in
set_option maxRecDepth 100000 in
theorem raw_any (u : Nat) (hu : u < 18446744073709551616) (w : World) :
    Calls Try.prog 7 #[.int .u64 u] w fun e w' => e = .returned (.string (str (enc u))) ∧ Below w.heap.size w w' := by
  go_enter Try.func7, Try.ntmps7
  go_wp2
  go_loopw [0, 3, 4] (fun q s i wr => ∃ (f k : Nat) (c : List UInt8) (x : Nat), q = .int .u64 x ∧ s = .string (str c) ∧ i = .int .i64 k ∧ k + f = 9 ∧ Hid (x < 128 ^ (f + 1)) ∧ Hid (x < 18446744073709551616) ∧ Hid (c ++ encF f x = enc u) ∧ Hid (c.length = k) ∧ Below w.heap.size w wr) (fun q _ _ _ => (intOf q).toNat)
  case atStart => exact ⟨9, 0, [], u, rfl, rfl, rfl, rfl, (by omega : u < 128 ^ (9 + 1)), hu, rfl, rfl, Below.refl _ _⟩
  case round =>
    obtain ⟨f, k, c, x, rfl, rfl, rfl, hk, hx, hxu, henc, hcl, hbel⟩ := hrel
    clear hu
    by_cases hlt : 128 ≤ x
    · have hf := encF_stop hx.out hlt
      obtain ⟨f, rfl⟩ : ∃ g, f = g + 1 := ⟨f - 1, by omega⟩
      have hst : Hid _ := encF_step (f := f) hlt
      have hcv := conv_one wr (x % 128 + 128) (by omega)
      rw [show ((x % 128 + 128 : Nat) : Int) = (x : Int) % 128 + 128 by omega] at hcv
      have hz1 : (str c).size ≤ 10 := by rw [str_size, hcl.out]; omega
      have hz2 : (str [byt (x % 128 + 128)]).size ≤ 1 := by rw [str_size]; exact Nat.le_refl _
      have hq : IntKind.u64.wrap ((x : Int) / 128) = (x : Int) / 128 := by have := hxu.out; rw [IntKind.wrap_u64]; omega
      go_wp2
      go_roundw
      case rel =>
        have h1 := hx.out
        have h2 := hxu.out
        have h3 := hst.out
        have hp : 128 ^ (f + 1 + 1) = 128 ^ (f + 1) * 128 := Nat.pow_succ ..
        have hq : 0 < 128 ^ (f + 1) := Nat.pow_pos (by decide)
        refine ⟨f, k + 1, c ++ [byt (x % 128 + 128)], x / 128, by go_num, by rw [str_cat], by go_num, by omega, (by omega : x / 128 < 128 ^ (f + 1)), (by omega : x / 128 < 18446744073709551616), ?_, (by have := hcl.out; simp; omega : (c ++ [byt (x % 128 + 128)]).length = k + 1), hbel.alloc (by have := hbel.size; omega) _⟩
        show c ++ [byt (x % 128 + 128)] ++ encF f (x / 128) = enc u
        rw [← henc.out, h3, List.append_assoc]; rfl
      case measure => simp [intOf]; omega
    · have hst : Hid (encF f x = [byt x]) := encF_last (by omega)
      have hcv := conv_one wr x (by omega)
      have hz1 : (str c).size ≤ 10 := by rw [str_size, hcl.out]; omega
      have hz2 : (str [byt x]).size ≤ 1 := by rw [str_size]; exact Nat.le_refl _
      by_cases hk9 : k < 9
      all_goals
        go_wp2
        go_ret
        exact ⟨by rw [← henc.out, hst.out, str_cat]; rfl, hbel.alloc (by have := hbel.size; omega) _⟩

theorem zig_any (v : Int) (w : World) (hv : -9223372036854775808 ≤ v ∧ v ≤ 9223372036854775807) :
    Calls Try.prog 10 #[.int .i64 v] w fun e w' => e = .returned (.int .u64 (zg v)) ∧ w = w' := by
  by_cases h : v < 0
  · go_enter Try.func10, Try.ntmps10
    go_wp2
    go_ret
    exact ⟨congrArg (fun n => Ending.returned (.int .u64 n)) (by unfold zg; rw [if_pos (by omega)]; omega), rfl⟩
  · go_enter Try.func10, Try.ntmps10
    go_wp2
    go_ret
    exact ⟨congrArg (fun n => Ending.returned (.int .u64 n)) (by unfold zg; rw [if_neg (by omega)]; omega), rfl⟩

/-- A text, or its first 200 bytes. -/
def cut200 (s : ByteArray) : ByteArray := if 200 < s.size then s.extract 0 200 else s
theorem cut200_size (s : ByteArray) : (cut200 s).size ≤ 200 := by
  unfold cut200
  split
  · rw [ByteArray.size_extract]; omega
  · omega

theorem cut_any (s : ByteArray) (hs : s.size ≤ 9223372036854775807) (w : World) :
    Calls Try.prog 6 #[.string s] w fun e w' => e = .returned (.string (cut200 s)) ∧ w = w' := by
  by_cases h : 200 < s.size
  · go_enter Try.func6, Try.ntmps6
    go_wp2
    go_ret
    exact ⟨by simp [cut200, h], rfl⟩
  · go_enter Try.func6, Try.ntmps6
    go_wp2
    go_ret
    exact ⟨by simp [cut200, h], rfl⟩

theorem str_toList (l : List UInt8) : (str l).toList = l := ByteArray.toList_mk l

theorem awake_any (w : World) :
    Calls Try.prog 14 #[] w fun e w' => e = .returned (.bool true) ∧ Below w.heap.size w w' := by
  have h1 : ((str (enc 300)).toList == [172, 2]) = true := by rw [str_toList]; decide
  have h2 : ((str (enc (zg (-3)))).toList == [5]) = true := by rw [str_toList]; decide
  go_enter Try.func14, Try.ntmps14
  go_wp2_with (first | (go_at_call 8; go_must (refine (Put_any 300 (by omega) [] _ w.heap.size w (BBuf.none _ _) (by simp) (Nat.le_refl _)).mono ?_); rintro e w1 ⟨v1, rfl, hown1, hbl1⟩; have hc1 := conv_own hown1; have hz1 := hbl1.size; clear hown1) | (go_at_call 9; go_must (refine (Sign_any (-3) (by omega) [] _ w.heap.size w1 (BBuf.none _ _) (by simp) hz1).mono ?_); rintro e w2 ⟨v2, rfl, hown2, hbl2⟩; have hc2 := conv_own hown2; clear hown2))
  go_ret
  exact ⟨rfl, hbl1.trans hbl2⟩
/-- The bytes of signed numbers in a row. -/
def encAll (zs : List Int) : List UInt8 := zs.flatMap fun z => enc (zg z)
theorem encAll_snoc (zs : List Int) (z : Int) : encAll (zs ++ [z]) = encAll zs ++ enc (zg z) := by simp [encAll]
theorem encAll_length (zs : List Int) : (encAll zs).length ≤ 10 * zs.length := by
  induction zs with
  | nil => simp [encAll]
  | cons z zs ih => have := enc_length (zg z); simp only [encAll, List.flatMap_cons, List.length_append, List.length_cons] at *; omega

set_option maxHeartbeats 400000 in
set_option maxRecDepth 100000 in
theorem All_any (zs : List Int) (hz : ∀ z ∈ zs, -9223372036854775808 ≤ z ∧ z ≤ 9223372036854775807) (hn : zs.length ≤ 1000) (g off cap : Nat) (l : List UInt8) (v : Value) (base : Nat) (w : World) (hb : BBuf w base v l) (hl : l.length ≤ 10000) (hbase : base ≤ w.heap.size)
    (hg : g < base) (hc : ∀ j, j < zs.length → w.cell? ⟨g, off + j, none⟩ = some (.int .i64 (zs.getD j 0))) :
    Calls Try.prog 11 #[v, .slice (some ⟨g, off, none⟩) zs.length cap] w fun e w' => ∃ v', e = .returned v' ∧ BBuf w' base v' (l ++ encAll zs) ∧ (zs = [] ∨ BOwn w' base v' (l ++ encAll zs)) ∧ Below base w w' := by
  go_enter Try.func11, Try.ntmps11
  go_wp2
  go_loopw [0, 9] (fun b i wr => ∃ (k : Nat), k ≤ zs.length ∧ i = .int .i64 k ∧ BBuf wr base b (l ++ encAll (zs.take k)) ∧ (k = 0 ∨ BOwn wr base b (l ++ encAll (zs.take k))) ∧ Below base w wr) (fun _ i _ => zs.length - (intOf i).toNat)
  case atStart => exact ⟨0, Nat.zero_le _, rfl, by simpa [encAll] using hb, Or.inl rfl, Below.refl _ _⟩
  case round =>
    obtain ⟨k, hk, rfl, hbuf, hor, hbel⟩ := hrel
    clear hb
    have hsz := hbel.size
    by_cases hlt : k < zs.length
    · have hcell : wr.cell? ⟨g, off + k, none⟩ = some (.int .i64 (zs.getD k 0)) := by rw [hbel.cell hg]; exact hc k hlt
      have hzk := hz (zs.getD k 0) (by rw [getD_lt hlt]; exact List.getElem_mem _)
      have htk : Hid (zs.take (k + 1) = zs.take k ++ [zs.getD k 0]) := by
        show _ = _
        rw [List.take_succ_eq_append_getElem hlt, getD_lt hlt]
      have hle := encAll_length (zs.take k)
      have htl : (zs.take k).length ≤ k := List.length_take_le _ _
      have hll : (l ++ encAll (zs.take k)).length ≤ 1000000 := by rw [List.length_append]; omega
      generalize hzz : zs.getD k 0 = z at *
      have HZ := Lib.hid hzz
      clear hc hzz hor
      go_wp2_with (go_at_call 9; go_must (refine (Sign_any z hzk _ _ base _ hbuf hll (by omega)).mono ?_); rintro e w1 ⟨v1, rfl, hown1, hbl1⟩)
      go_roundw
      case rel =>
        have hfin : BOwn w1 base v1 (l ++ encAll (zs.take (k + 1))) := by rw [htk.out, encAll_snoc, ← List.append_assoc]; exact hown1
        exact ⟨k + 1, by omega, by go_num, hfin.buf, Or.inr hfin, hbel.trans hbl1⟩
      case measure => simp [intOf]; omega
    · obtain rfl : k = zs.length := by omega
      rw [List.take_length] at hbuf hor
      clear hc
      go_wp2
      go_ret
      refine ⟨_, rfl, hbuf, ?_, hbel⟩
      rcases hor with h0 | h
      · exact Or.inl (List.eq_nil_of_length_eq_zero h0)
      · exact Or.inr h

end Go.Proofs.Ytoefcfpjanmnlaa
