/-
  Own walks: what the encoders of package wire, and the statements' own helpers, come to.
-/
import Derived.Test.YtpdnppncdfialaaRows
import Derived.Test.YtpdnppncdfialaaOwn
import Derived.Test.YtpdnppncdfialaaEnc
import Derived.Deep.DeepMust
import Derived.Lib.Hide
namespace Go.Proofs.Ytpdnppncdfialaa
open Go.RowKit

theorem infoB : (Try.prog.info? 5).map (fun i => (i.zero, i.size, i.bytes)) = some (some (.int .u8 0), 1, 1) := by kernel_rfl

/-- A slice of bytes that may be appended to. -/
def BBuf (w : World) (base : Nat) (v : Value) (l : List UInt8) : Prop := Buf w base 5 1 v l.length (bv l)
/-- A slice of bytes of the call's own. -/
def BOwn (w : World) (base : Nat) (v : Value) (l : List UInt8) : Prop := w.ownsRow base 5 1 v l.length (bv l)

theorem low_byte {u : Nat} : bits .or .u8 (IntKind.u8.wrap (u : Int)) 128 = ((byt (u % 128 + 128)).toNat : Int) := by
  rw [IntKind.wrap_u8', u8_or _ _ (by omega) (by omega) (by omega) (by omega), byt_toNat (by omega)]
  have e1 : ((u : Int) % 256).toNat = u % 256 := by omega
  have e2 : (128 : Int).toNat = 128 := rfl
  rw [e1, e2, show u % 256 = u % 256 / 128 * 128 + u % 128 by omega]
  have h2 : u % 256 / 128 = 0 ∨ u % 256 / 128 = 1 := by omega
  rcases h2 with h2 | h2
  · rw [h2, Nat.or_comm, nat_join 7 128 _ rfl (by omega)]; omega
  · rw [h2]
    have e3 : 1 * 128 + u % 128 = 128 ||| (u % 128) := (nat_join 7 128 _ rfl (by omega)).symm
    rw [e3, Nat.or_comm, ← Nat.or_assoc, Nat.or_self, nat_join 7 128 _ rfl (by omega)]; omega

set_option maxHeartbeats 400000 in
set_option maxRecDepth 100000 in
theorem put_any (u : Nat) (hu : u < 18446744073709551616) (l : List UInt8) (v : Value) (base : Nat) (w : World) (hb : BBuf w base v l) (hl : l.length ≤ 1000000) (hbase : base ≤ w.heap.size) :
    Calls Try.prog 25 #[v, .int .u64 u] w fun e w' => ∃ v', e = .returned v' ∧ BOwn w' base v' (l ++ enc u) ∧ Below base w w' := by
  obtain ⟨i0, hi, hz0, hz1, hz2⟩ := info_parts infoB
  go_enter Try.func25, Try.ntmps25
  go_wp2
  go_loopw [0, 1] (fun b q wr => ∃ (f : Nat) (c : List UInt8) (x : Nat), q = .int .u64 x ∧ Hid (x < 128 ^ (f + 1)) ∧ Hid (x < 18446744073709551616) ∧ c.length + (encF f x).length ≤ l.length + 10 ∧ BBuf wr base b c ∧ Hid (c ++ encF f x = l ++ enc u) ∧ base ≤ wr.heap.size ∧ Below base w wr) (fun _ q _ => (intOf q).toNat)
  case atStart => 
    refine ⟨9, l, u, rfl, (by omega : u < 128 ^ (9 + 1)), hu, ?_, hb, rfl, hbase, Below.refl _ _⟩
    have := encF_length 9 u; omega
  case round =>
    obtain ⟨f, c, x, rfl, hx, hxu, hc, hbuf, henc, hwb, hbel⟩ := hrel
    have hln := encF_length f x
    clear hu
    by_cases hlt : 128 ≤ x
    · have hf := encF_stop hx.out hlt
      obtain ⟨f, rfl⟩ : ∃ g, f = g + 1 := ⟨f - 1, by omega⟩
      have hlow : Hid _ := low_byte (u := x)
      have hst : Hid _ := encF_step (f := f) hlt
      go_wp2_with (at_builtin; go_must (refine wpList_append_buf _ rfl (.tmp 9) (.tmp 13) 25 rfl base 5 i0 (.int .u8 0) 1 1 Try.underlying25 hi hz0 hz1 hz2 rfl (by decide) u0 c.length (bv c) rfl (Buf.alloc hbuf _) ⟨wr.heap.size, 0, none⟩ 1 1 [.int .u8 (bits .or .u8 (IntKind.u8.wrap (x : Int)) 128)] rfl rfl (cell_one_new _ _ _) ?c1 (by omega) ?c2 ?c3 ?c4 ?c5))
      case c5 =>
        intro v' w1 hown1 hb1
        have hby : Hid (BOwn w1 base v' (c ++ [byt (x % 128 + 128)])) := by
          show w1.ownsRow _ _ _ _ _ _
          rw [bv_append, List.length_append]
          rw [hlow.out] at hown1
          exact hown1
        have hs1 := hb1.size
        simp only [World.size_alloc] at hs1
        go_wp2
        go_roundw
        case rel =>
          have h1 := hx.out
          have h2 := hxu.out
          have h3 := hst.out
          have h4 : (encF (f + 1) x).length = (encF f (x / 128)).length + 1 := by rw [h3]; rfl
          have hp : 128 ^ (f + 1 + 1) = 128 ^ (f + 1) * 128 := Nat.pow_succ ..
          have hq : 0 < 128 ^ (f + 1) := Nat.pow_pos (by decide)
          refine ⟨f, c ++ [byt (x % 128 + 128)], x / 128, by go_num, (by omega : x / 128 < 128 ^ (f + 1)), (by omega : x / 128 < 18446744073709551616), ?_, Or.inl hby.out, ?_, by omega, ?_⟩
          · simp only [List.length_append, List.length_cons, List.length_nil]; omega
          · show c ++ [byt (x % 128 + 128)] ++ encF f (x / 128) = l ++ enc u
            rw [← henc.out, h3, List.append_assoc]; rfl
          · exact (hbel.alloc hwb _).trans hb1
        case measure => simp [intOf]; omega
      case c1 => simp [Value.oneCell']
      case c2 => unfold maxLen; omega
      case c3 => omega
      case c4 => simp; omega
    · have hst : Hid (encF f x = [byt x]) := encF_last (by omega)
      have hlow : Hid ((x : Int) = ((byt x).toNat : Int)) := by
        show _ = _
        rw [byt_toNat (by omega)]
      go_wp2_with (at_builtin; go_must (refine wpList_append_buf _ rfl (.tmp 15) (.tmp 18) 25 rfl base 5 i0 (.int .u8 0) 1 1 Try.underlying25 hi hz0 hz1 hz2 rfl (by decide) u0 c.length (bv c) rfl (Buf.alloc hbuf _) ⟨wr.heap.size, 0, none⟩ 1 1 [.int .u8 (x : Int)] rfl rfl ?d0 ?d1 (by omega) ?d2 ?d3 ?d4 ?d5))
      case d5 =>
        intro v' w1 hown1 hb1
        have hby : BOwn w1 base v' (l ++ enc u) := by
          rw [← henc.out, hst.out]
          show w1.ownsRow _ _ _ _ _ _
          rw [bv_append, List.length_append]
          rw [hlow.out] at hown1
          exact hown1
        have hfin : Below base w w1 := (hbel.alloc hwb _).trans hb1
        clear hown1 hb1
        go_wp2
        go_ret
        exact ⟨v', rfl, hby, hfin⟩
      case d0 => exact cell_one_new _ _ _
      case d1 => simp [Value.oneCell']
      case d2 => unfold maxLen; omega
      case d3 => omega
      case d4 => simp; omega

/-- Of the call's own, nothing yet. -/
theorem BBuf.none (w : World) (base : Nat) : BBuf w base (.slice none 0 0) [] := Or.inl (World.ownsRow_nil w base _ 1)
theorem BOwn.buf {w : World} {base : Nat} {v : Value} {l : List UInt8} (h : BOwn w base v l) : BBuf w base v l := Or.inl h

/-- Bytes of the call's own, as a string. -/
theorem conv_own {w : World} {base : Nat} {v : Value} {l : List UInt8} (h : BOwn w base v l) : (convert 25 9 v).run Try.prog w = .ok (.string (str l)) w := by
  obtain ⟨h1, h2⟩ := h
  rcases h2 with ⟨rfl, h0⟩ | ⟨g, cap, cur, rfl, hg, hh, hn, hm, hs, ht⟩
  · have : l = [] := List.eq_nil_of_length_eq_zero h0
    subst this
    exact run_convert_bytes_nil w 25 5 Try.underlying25 Try.underlying5 0 0 9 Try.underlying9
  · have hc : ∀ i, i < l.length → w.cell? ⟨g, 0 + i, Option.none⟩ = some (.int .u8 ((l.map fun c : UInt8 => (c.toNat : Int)).getD i 0)) := by
      intro i hi
      have hx := World.ownsRow.cells (v := .slice (some ⟨g, 0, Option.none⟩) l.length cap) (n := l.length) (xs := bv l) ⟨h1, .inr ⟨g, cap, cur, rfl, hg, hh, hn, hm, hs, ht⟩⟩ rfl i (.int .u8 (l[i].toNat : Int)) (by simp [bv, hi])
      rw [Addr.add_lit] at hx
      rw [hx]
      simp [List.getD, hi]
    have := run_convert_bytes_arg (P := Try.prog) w 25 5 Try.underlying25 Try.underlying5 g 0 l.length cap (l.map fun c : UInt8 => (c.toNat : Int)) (by simp) hc 9 Try.underlying9
    rw [this]
    congr 2
    unfold strOfNums str
    congr 2
    rw [List.map_map]
    conv => rhs; rw [← List.map_id l]
    apply List.map_congr_left
    intro c _
    simp

set_option maxHeartbeats 400000 in
theorem fold_any (v : Int) (w : World) (hv : -9223372036854775808 ≤ v ∧ v ≤ 9223372036854775807) :
    Calls Try.prog 26 #[.int .i64 v] w fun e w' => e = .returned (.int .u64 (zg v)) ∧ w = w' := by
  by_cases h : v < 0
  · have hx : bits .xor .u64 IntKind.u64.max (IntKind.u64.wrap (IntKind.u64.wrap v * 2)) = (zg v : Int) := by
      simp only [IntKind.wrap_u64, zg, h, if_true]
      have hm : IntKind.u64.max = 18446744073709551615 := by rfl
      rw [hm, u64_xor _ _ (by omega) (by omega) (by omega) (by omega)]
      have e1 : (18446744073709551615 : Int).toNat = 2 ^ 64 - 1 := rfl
      rw [e1, Nat.xor_comm]
      have hlt : (v % 18446744073709551616 * 2 % 18446744073709551616).toNat < 2 ^ 64 := by omega
      generalize hq : (v % 18446744073709551616 * 2 % 18446744073709551616).toNat = q at hlt ⊢
      have : q ^^^ (2 ^ 64 - 1) = 2 ^ 64 - 1 - q := by
        apply Nat.eq_of_testBit_eq
        intro j
        rw [Nat.testBit_xor, Nat.testBit_two_pow_sub_one, show 2 ^ 64 - 1 - q = 2 ^ 64 - (q + 1) by omega, Nat.testBit_two_pow_sub_succ hlt]
        by_cases hj : j < 64
        · simp [hj]
        · simp [hj]
          exact Nat.testBit_lt_two_pow (Nat.lt_of_lt_of_le hlt (Nat.pow_le_pow_right (by decide) (by omega)))
      rw [this]
      omega
    have hX := Lib.hid hx
    clear hx
    go_enter Try.func26, Try.ntmps26
    go_wp2
    go_ret
    exact ⟨congrArg (fun n => Ending.returned (.int .u64 n)) hX.out, rfl⟩
  · go_enter Try.func26, Try.ntmps26
    go_wp2
    go_ret
    exact ⟨congrArg (fun n => Ending.returned (.int .u64 n)) (by unfold zg; rw [if_neg (by omega)]; omega), rfl⟩

theorem Put_any (x : Int) (hx : 0 ≤ x ∧ x ≤ 9223372036854775807) (l : List UInt8) (v : Value) (base : Nat) (w : World) (hb : BBuf w base v l) (hl : l.length ≤ 1000000) (hbase : base ≤ w.heap.size) :
    Calls Try.prog 15 #[v, .int .i64 x] w fun e w' => ∃ v', e = .returned v' ∧ BOwn w' base v' (l ++ enc x.toNat) ∧ Below base w w' := by
  obtain ⟨n, rfl⟩ := Int.eq_ofNat_of_zero_le hx.1
  go_enter Try.func15, Try.ntmps15
  go_wp2_with (go_at_call 25; go_must (refine (put_any n (by omega) l v base w hb hl hbase).mono ?_); rintro e w' ⟨v', rfl, hown, hbl⟩)
  go_ret
  exact ⟨v', rfl, hown, hbl⟩

theorem Put_neg (x : Int) (hx : x < 0) (v : Value) (w : World) :
    Calls Try.prog 15 #[v, .int .i64 x] w fun e w' => e = .returned v ∧ w = w' := by
  go_enter Try.func15, Try.ntmps15
  go_wp2_with fail
  go_ret
  exact ⟨rfl, rfl⟩

theorem Sign_any (x : Int) (hx : -9223372036854775808 ≤ x ∧ x ≤ 9223372036854775807) (l : List UInt8) (v : Value) (base : Nat) (w : World) (hb : BBuf w base v l) (hl : l.length ≤ 1000000) (hbase : base ≤ w.heap.size) :
    Calls Try.prog 14 #[v, .int .i64 x] w fun e w' => ∃ v', e = .returned v' ∧ BOwn w' base v' (l ++ enc (zg x)) ∧ Below base w w' := by
  go_enter Try.func14, Try.ntmps14
  go_wp2_with (first | (go_at_call 26; go_must (refine (fold_any x w hx).mono ?_); rintro e w' ⟨rfl, rfl⟩) | (go_at_call 25; go_must (refine (put_any (zg x) (zg_lt hx) l v base w hb hl hbase).mono ?_); rintro e w' ⟨v', rfl, hown, hbl⟩))
  go_ret
  exact ⟨v', rfl, hown, hbl⟩

theorem one_byte {w : World} {n : Int} {c : UInt8} (hc : n = c.toNat) (e : TypeId) : ∀ j u, [Value.int .u8 (c.toNat : Int)][j]? = some u → (w.alloc (.cells #[.int .u8 n] e)).cell? ((⟨w.heap.size, 0, none⟩ : Addr).add j) = some u := by
  subst hc; exact cell_one_new _ _ _

/-- A text as bytes. -/
def tb (s : ByteArray) : List UInt8 := s.data.toList
theorem tb_length (s : ByteArray) : (tb s).length = s.size := by unfold tb; rw [Array.length_toList]; rfl
theorem str_tb (s : ByteArray) : str (tb s) = s := by unfold str tb; cases s; simp

end Go.Proofs.Ytpdnppncdfialaa
