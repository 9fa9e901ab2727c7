/-
  Own walks: the decoders of package wire, where nothing is wrong.
-/
import Derived.Test.YtpdnppncdfialaaLit
namespace Go.Proofs.Ytpdnppncdfialaa
open Go.RowKit

theorem xor_ones {q : Nat} (hlt : q < 2 ^ 64) : q ^^^ (2 ^ 64 - 1) = 2 ^ 64 - 1 - q := by
  apply Nat.eq_of_testBit_eq
  intro j
  rw [Nat.testBit_xor, Nat.testBit_two_pow_sub_one, show 2 ^ 64 - 1 - q = 2 ^ 64 - (q + 1) by omega, Nat.testBit_two_pow_sub_succ hlt]
  by_cases hj : j < 64
  · simp [hj]
  · simp [hj]
    exact Nat.testBit_lt_two_pow (Nat.lt_of_lt_of_le hlt (Nat.pow_le_pow_right (by decide) (by omega)))

/-- Only block b may have changed. -/
structure Only (b : Nat) (w w' : World) : Prop where
  os : w'.os = w.os
  tape : w'.tape = w.tape
  output : w'.output = w.output
  size : w'.heap.size = w.heap.size
  block : ∀ k : Nat, k ≠ b → w'.heap[k]? = w.heap[k]?

theorem Only.refl (b : Nat) (w : World) : Only b w w := ⟨rfl, rfl, rfl, rfl, fun _ _ => rfl⟩
theorem Only.trans {b : Nat} {w w' w'' : World} (h : Only b w w') (k : Only b w' w'') : Only b w w'' :=
  ⟨k.os.trans h.os, k.tape.trans h.tape, k.output.trans h.output, k.size.trans h.size, fun i hi => (k.block i hi).trans (h.block i hi)⟩
theorem Only.setCell (b off : Nat) (w : World) (v : Value) : Only b w (w.setCell ⟨b, off, none⟩ v) :=
  ⟨rfl, rfl, rfl, by simp [World.setCell], fun k hk => Below.heap_setCell _ _ _ _ hk⟩
theorem Only.below {b B : Nat} {w w' : World} (h : Only b w w') (hB : B ≤ b) : Below B w w' :=
  ⟨h.os, h.tape, h.output, Nat.le_of_eq h.size.symm, fun k hk => h.block k (by omega)⟩

/-- A reader that lies in block b, without an error, with so many bytes left. -/
structure Rd (w : World) (b : Nat) (l : List UInt8) : Prop where
  c0 : w.cell? ⟨b, 0, none⟩ = some (.string (str l))
  c1 : w.cell? ⟨b, 1, none⟩ = some (.int .i64 0)
  f0 : w.frozen? ⟨b, 0, none⟩ = false

theorem Rd.ext {w w' : World} {b : Nat} {l : List UInt8} (h : Rd w b l) (he : Reg.Ext w w') : Rd w' b l := by
  have hlt := World.block_lt_of_cell? w _ h.c0
  exact ⟨Keeps.of_ext he _ _ h.c0, Keeps.of_ext he _ _ h.c1, by rw [Below.frozen he hlt]; exact h.f0⟩

theorem frozen?_setCell' (w : World) (a c : Addr) (v : Value) : (w.setCell a v).frozen? c = w.frozen? c := by simp

theorem Rd.set {w : World} {b : Nat} {l : List UInt8} (h : Rd w b l) (l' : List UInt8) : Rd (w.setCell ⟨b, 0, none⟩ (.string (str l'))) b l' := by
  obtain ⟨c0, c1, f0⟩ := h
  exact ⟨World.cell?_setCell_same w _ _ c0, by rw [World.cell?_setCell_other w _ _ _ (by simp)]; exact c1, by rw [frozen?_setCell']; exact f0⟩

theorem str_tail (c : UInt8) (l : List UInt8) : (str (c :: l)).extract 1 (str (c :: l)).size = str l := by
  apply ByteArray.ext
  simp [str, ByteArray.size]

set_option maxHeartbeats 400000 in
theorem Left_any (w : World) (b : Nat) (l : List UInt8) (h : Rd w b l) :
    Calls Try.prog 28 #[.pointer (some ⟨b, 0, none⟩)] w fun e w' => e = .returned (.int .i64 l.length) ∧ w = w' := by
  obtain ⟨c0, c1, f0⟩ := h
  have hsz := str_size l
  go_enter Try.func28, Try.ntmps28
  go_wp2
  go_ret
  exact ⟨rfl, rfl⟩

theorem Err_any (w : World) (b : Nat) (l : List UInt8) (h : Rd w b l) :
    Calls Try.prog 31 #[.pointer (some ⟨b, 0, none⟩)] w fun e w' => e = .returned (.int .i64 0) ∧ w = w' := by
  obtain ⟨c0, c1, f0⟩ := h
  go_enter Try.func31, Try.ntmps31
  go_wp2
  go_ret
  exact ⟨rfl, rfl⟩

set_option maxHeartbeats 400000 in
theorem Byte_any (w : World) (b : Nat) (c : UInt8) (l : List UInt8) (h : Rd w b (c :: l)) (hl : l.length ≤ 100000) :
    Calls Try.prog 18 #[.pointer (some ⟨b, 0, none⟩)] w fun e w' => e = .returned (.int .u8 c.toNat) ∧ Rd w' b l ∧ Only b w w' := by
  have hL := Lib.hid h
  obtain ⟨c0, c1, f0⟩ := h
  have hsz := str_size (c :: l)
  have htl := str_tail c l
  rw [hsz] at htl
  have hne : (((c :: l).length : Int) == 0) = false := by simp; omega
  go_enter Try.func18, Try.ntmps18
  go_wp2_with (go_at_call 28; go_must (refine (Left_any w b (c :: l) hL.out).mono ?_); rintro e w1 ⟨rfl, rfl⟩)
  go_ret
  refine ⟨congrArg (fun n => Ending.returned (.int .u8 n)) ?_, ?_, Only.setCell b 0 w _⟩
  · rfl
  · have := hL.out.set l
    rw [← htl] at this
    exact this

set_option maxHeartbeats 400000 in
theorem unfold_any (x : Int) (hx : -9223372036854775808 ≤ x ∧ x ≤ 9223372036854775807) (w : World) :
    Calls Try.prog 30 #[.int .u64 (zg x)] w fun e w' => e = .returned (.int .i64 x) ∧ w = w' := by
  have hz := zg_lt hx
  by_cases h : x < 0
  · have h1 : bits .and .u64 ((zg x : Nat) : Int) 1 = 1 := by
      rw [u64_and _ _ (by omega) (by omega) (by omega) (by omega)]
      have e : ((zg x : Nat) : Int).toNat &&& (1 : Int).toNat = 1 := by
        show (zg x : Nat) &&& 1 = 1
        rw [nat_mask1]; unfold zg; rw [if_pos h]; omega
      rw [e]; rfl
    have h2 : wrap64 (bits .xor .u64 IntKind.u64.max (((zg x : Nat) : Int) / 2)) = x := by
      have hm : IntKind.u64.max = 18446744073709551615 := by rfl
      rw [hm, u64_xor _ _ (by omega) (by omega) (by omega) (by omega)]
      have e1 : (18446744073709551615 : Int).toNat = 2 ^ 64 - 1 := rfl
      have hlt : (((zg x : Nat) : Int) / 2).toNat < 2 ^ 64 := by omega
      have hq : (((zg x : Nat) : Int) / 2).toNat = zg x / 2 := by omega
      rw [e1, Nat.xor_comm, xor_ones hlt, hq]
      have hz2 : zg x / 2 = (-x - 1).toNat := by unfold zg; rw [if_pos h]; omega
      rw [hz2]
      unfold wrap64
      omega
    clear hz
    generalize zg x = z at *
    go_enter Try.func30, Try.ntmps30
    go_wp2
    go_ret
    exact ⟨rfl, rfl⟩
  · obtain ⟨n, rfl⟩ := Int.eq_ofNat_of_zero_le (show 0 ≤ x by omega)
    have hzn : zg (n : Int) = 2 * n := by unfold zg; rw [if_neg (by omega)]; omega
    have h1 : bits .and .u64 ((2 * n : Nat) : Int) 1 = 0 := by
      rw [u64_and _ _ (by omega) (by omega) (by omega) (by omega)]
      have e : ((2 * n : Nat) : Int).toNat &&& (1 : Int).toNat = 0 := by
        show (2 * n) &&& 1 = 0
        rw [nat_mask1]; omega
      rw [e]; rfl
    rw [hzn]
    have h3 : ((2 * n : Nat) : Int) / 2 = n := by omega
    clear hz hzn h
    generalize hm : 2 * n = m at *
    have HM := Lib.hid hm
    clear hm
    go_enter Try.func30, Try.ntmps30
    go_wp2
    go_ret
    exact ⟨rfl, rfl⟩

theorem pow_split (u k : Nat) : u % 128 * 128 ^ k + u / 128 * 128 ^ (k + 1) = u * 128 ^ k := by
  rw [Nat.pow_succ, Nat.mul_comm (128 ^ k) 128, ← Nat.mul_assoc, ← Nat.add_mul]
  congr 1
  omega

theorem pow_128 (k : Nat) : 128 ^ k = 2 ^ (7 * k) := by rw [Nat.pow_mul]

theorem room_of {bits k u acc x : Nat} (hx : x < 2 ^ bits) (hs : acc + u * 128 ^ k = x) (h0 : u ≠ 0) : u < 2 ^ (bits - 7 * k) ∧ 7 * k ≤ bits := by
  have h1 : u * 128 ^ k < 2 ^ bits := by omega
  rw [pow_128] at h1
  have h2 : 7 * k ≤ bits := by
    rcases Nat.lt_or_ge bits (7 * k) with h | h
    · have h3 : 2 ^ bits ≤ 2 ^ (7 * k) := Nat.pow_le_pow_right (by decide) (by omega)
      have h4 : 1 * 2 ^ (7 * k) ≤ u * 2 ^ (7 * k) := Nat.mul_le_mul_right _ (by omega)
      omega
    · exact h
  refine ⟨?_, h2⟩
  have h3 : 2 ^ bits = 2 ^ (bits - 7 * k) * 2 ^ (7 * k) := by rw [← Nat.pow_add]; congr 1; omega
  rw [h3] at h1
  exact Nat.lt_of_mul_lt_mul_right h1

theorem shr8_zero (c : Nat) (y : Int) (hy : 0 ≤ y) (hc : c < 2 ^ y.toNat) (hc8 : c < 256) : Op.shift .shr .u8 (c : Int) .i64 y = pure (.int .u8 0) := by
  unfold Op.shift
  rw [if_neg (by omega)]
  have hm : c < 2 ^ (min y.toNat IntKind.u8.bits) := by
    rcases Nat.le_total y.toNat 8 with h | h
    · rw [Nat.min_eq_left (by simpa [IntKind.bits] using h)]; exact hc
    · rw [Nat.min_eq_right (by simpa [IntKind.bits] using h)]; simpa [IntKind.bits] using hc8
  have : (c : Int).fdiv (2 ^ (min y.toNat IntKind.u8.bits)) = 0 := by
    have e : ((2 : Int) ^ (min y.toNat IntKind.u8.bits)) = ((2 ^ (min y.toNat IntKind.u8.bits) : Nat) : Int) := by simp
    rw [e, Int.fdiv_eq_ediv_of_nonneg _ (by omega)]
    exact Int.ediv_eq_zero_of_lt (by omega) (by omega)
  simp only [this]

theorem shl64_of (m k y : Nat) (hy : y = m * 128 ^ k) (hlt : y < 18446744073709551616) : IntKind.u64.wrap ((m : Int) * 2 ^ (7 * k)) = (y : Int) := by
  have e2 : (m : Int) * 2 ^ (7 * k) = (y : Int) := by rw [hy, pow_128]; simp
  rw [e2, IntKind.wrap_u64, Int.emod_eq_of_lt (by omega) (by omega)]

theorem or64_of (acc y z k m : Nat) (ha : acc < 128 ^ k) (hy : y = m * 128 ^ k) (hz : z = acc + y) (hlt : z < 18446744073709551616) : Go.bits .or .u64 (acc : Int) (y : Int) = (z : Int) := by
  rw [u64_or_nat _ _ (by omega) (by omega)]
  have h0 : y % 2 ^ (7 * k) = 0 := by rw [hy, pow_128]; exact Nat.mul_mod_left ..
  rw [Nat.or_comm, nat_join (7 * k) y acc h0 (by rw [← pow_128]; exact ha)]
  omega

theorem low7_of (c m : Nat) (hc : c = m + 128 ∨ c = m) (hm : m < 128) : Go.bits .andNot .u8 (c : Int) 128 = (m : Int) := by
  rw [show (128 : Int) = ((128 : Nat) : Int) from rfl, u8_andNot_nat _ _ (by omega) (by decide)]
  show ((c &&& 127 : Nat) : Int) = _
  rw [nat_mask7]
  omega

theorem encF_ne {f u : Nat} (h : u < 128) : ∀ l, encF f u ++ l = byt u :: l := by intro l; rw [encF_last h]; rfl

set_option maxHeartbeats 1000000 in
set_option maxRecDepth 100000 in
theorem number_any (bits : Nat) (hbits : bits = 63 ∨ bits = 64) (x : Nat) (hx : x < 2 ^ bits) (l : List UInt8) (hl : l.length ≤ 10000) (b : Nat) (w : World) (h : Rd w b (enc x ++ l)) :
    Calls Try.prog 29 #[.pointer (some ⟨b, 0, none⟩), .int .i64 bits] w fun e w' => e = .returned (.int .u64 x) ∧ Rd w' b l ∧ Only b w w' := by
  have HX := Lib.hid hx
  have hb64 : bits ≤ 64 := by omega
  have hb63 : 63 ≤ bits := by omega
  have HB := Lib.hid hbits
  clear hx hbits
  have hx64 : Hid (x < 128 ^ (9 + 1)) := by
    have h1 := HX.out
    have h2 : 2 ^ bits ≤ 2 ^ 64 := Nat.pow_le_pow_right (by decide) hb64
    show x < 128 ^ (9 + 1)
    omega
  go_enter Try.func29, Try.ntmps29
  go_wp2_with fail
  go_loopw [5, 6] (fun v sh wr => ∃ (k f u acc : Nat), v = .int .u64 acc ∧ sh = .int .i64 ((7 * k : Nat) : Int) ∧ k + f = 9 ∧ Hid (acc + u * 128 ^ k = x) ∧ Hid (acc < 128 ^ k) ∧ Hid (u < 128 ^ (f + 1)) ∧ Hid (k = 0 ∨ u ≠ 0) ∧ Rd wr b (encF f u ++ l) ∧ Only b w wr) (fun _ sh _ => 100 - (intOf sh).toNat)
  case atStart => exact ⟨0, 9, x, 0, rfl, rfl, rfl, (by simp : 0 + x * 128 ^ 0 = x), (by decide : 0 < 128 ^ 0), hx64, Or.inl rfl, h, Only.refl _ _⟩
  case round =>
    obtain ⟨k, f, u, acc, rfl, rfl, hkf, hsum, hacc, hu, hk0, hrd, hon⟩ := hrel
    clear h
    have hfl := encF_length f u
    by_cases hlt : 128 ≤ u
    · have hf := encF_stop hu.out hlt
      obtain ⟨f, rfl⟩ : ∃ g, f = g + 1 := ⟨f - 1, by omega⟩
      have hrd2 : Rd wr b (byt (u % 128 + 128) :: (encF f (u / 128) ++ l)) := by rw [encF_step hlt] at hrd; exact hrd
      have hfl2 := encF_length f (u / 128)
      have hc : (byt (u % 128 + 128)).toNat = u % 128 + 128 := byt_toNat (by omega)
      have hroom := room_of HX.out hsum.out (by omega)
      have hps := pow_split u k
      have hxl : x < 18446744073709551616 := by
        have h1 := HX.out
        have h2 : 2 ^ bits ≤ 2 ^ 64 := Nat.pow_le_pow_right (by decide) hb64
        omega
      have hsm := hsum.out
      obtain ⟨y, hy⟩ : ∃ y, y = u % 128 * 128 ^ k := ⟨_, rfl⟩
      obtain ⟨z, hz⟩ : ∃ z, z = acc + y := ⟨_, rfl⟩
      have hshr : Op.shift .shr .u8 ((u : Int) % 128 + 128) .i64 ((bits : Int) - 7 * (k : Int)) = pure (.int .u8 0) := by
        have := shr8_zero (u % 128 + 128) ((bits : Int) - 7 * (k : Int)) (by omega) (by
          have h1 : ((bits : Int) - 7 * (k : Int)).toNat = bits - 7 * k := by omega
          rw [h1]
          have h8 : 8 ≤ bits - 7 * k := by
            rcases Nat.lt_or_ge (bits - 7 * k) 8 with h | h
            · have : 2 ^ (bits - 7 * k) ≤ 2 ^ 7 := Nat.pow_le_pow_right (by decide) (by omega)
              have := hroom.1
              omega
            · exact h
          have : 2 ^ 8 ≤ 2 ^ (bits - 7 * k) := Nat.pow_le_pow_right (by decide) h8
          omega) (by omega)
        simpa using this
      have hand : Go.bits BinOp.andNot IntKind.u8 ((u : Int) % 128 + 128) 128 = (u : Int) % 128 := by
        have := low7_of (u % 128 + 128) (u % 128) (Or.inl rfl) (by omega)
        simpa using this
      have hshl : IntKind.u64.wrap ((u : Int) % 128 * 2 ^ (7 * k)) = (y : Int) := by
        have := shl64_of (u % 128) k y hy (by omega)
        simpa using this
      have hor : Go.bits BinOp.or IntKind.u64 (acc : Int) (y : Int) = (z : Int) := or64_of acc y z k (u % 128) hacc.out hy hz (by omega)
      have HY := Lib.hid hy
      have HZ := Lib.hid hz
      have HPS := Lib.hid hps
      have h78 : 7 * (k : Int) ≤ 56 := by omega
      clear hrd hfl hy hz hps hsm hxl hroom
      go_wp2_with (first | (go_at_call 18; go_must (refine (Byte_any _ b _ _ hrd2 (by rw [List.length_append]; omega)).mono ?_); rintro e w1 ⟨rfl, hrd3, hon3⟩; have HC := Lib.hid hc; rw [hc]; clear hc) | (go_at_call 31; go_must (refine (Err_any _ b _ hrd3).mono ?_); rintro e w2 ⟨rfl, rfl⟩))
      go_roundw
      case rel =>
        have hp1 : 128 ^ (k + 1) = 128 ^ k * 128 := Nat.pow_succ ..
        have h1 := hsum.out
        have h2 := hacc.out
        have h3 := hu.out
        have h4 := HY.out
        have h5 := HZ.out
        have h6 := HPS.out
        have hp2 : 128 ^ (f + 1 + 1) = 128 ^ (f + 1) * 128 := Nat.pow_succ ..
        have h7 : u % 128 * 128 ^ k ≤ 127 * 128 ^ k := Nat.mul_le_mul_right _ (by omega)
        refine ⟨k + 1, f, u / 128, z, rfl, by go_num, by omega, (by omega : z + u / 128 * 128 ^ (k + 1) = x), (by omega : z < 128 ^ (k + 1)), (by omega : u / 128 < 128 ^ (f + 1)), Or.inr (by omega), hrd3, hon.trans hon3⟩
      case measure => simp [intOf]; omega
    · have hrd2 : Rd wr b (byt u :: l) := by rw [encF_ne (by omega)] at hrd; exact hrd
      have hc : (byt u).toNat = u := byt_toNat (by omega)
      have hk9 : k ≤ 9 := by omega
      have hroom : u < 2 ^ (bits - 7 * k) ∧ 7 * k ≤ bits := by
        by_cases h0 : u = 0
        · have hk := hk0.out
          have : k = 0 := by omega
          subst this h0
          exact ⟨Nat.pow_pos (by decide), by omega⟩
        · exact room_of HX.out hsum.out h0
      have hxl : x < 18446744073709551616 := by
        have h1 := HX.out
        have h2 : 2 ^ bits ≤ 2 ^ 64 := Nat.pow_le_pow_right (by decide) hb64
        omega
      have hsm := hsum.out
      obtain ⟨y, hy⟩ : ∃ y, y = u * 128 ^ k := ⟨_, rfl⟩
      obtain ⟨z, hz⟩ : ∃ z, z = acc + y := ⟨_, rfl⟩
      have hzx : z = x := by omega
      have hshr : Op.shift .shr .u8 (u : Int) .i64 ((bits : Int) - 7 * (k : Int)) = pure (.int .u8 0) := by
        refine shr8_zero u ((bits : Int) - 7 * (k : Int)) (by omega) ?_ (by omega)
        have h1 : ((bits : Int) - 7 * (k : Int)).toNat = bits - 7 * k := by omega
        rw [h1]
        exact hroom.1
      have hand : Go.bits BinOp.andNot IntKind.u8 (u : Int) 128 = (u : Int) := low7_of u u (Or.inr rfl) (by omega)
      have hshl : IntKind.u64.wrap ((u : Int) * 2 ^ (7 * k)) = (y : Int) := shl64_of u k y hy (by omega)
      have hor : Go.bits BinOp.or IntKind.u64 (acc : Int) (y : Int) = (z : Int) := or64_of acc y z k u hacc.out hy hz (by omega)
      have h78 : 7 * (k : Int) ≤ 63 := by omega
      have HZX := Lib.hid hzx
      by_cases hu0 : u = 0
      · have hk : k = 0 := by have hk := hk0.out; omega
        have hcz : ((u : Int) == 0) = true := by simp [hu0]
        have HU := Lib.hid hu0
        have HK := Lib.hid hk
        have hk00 : ¬ (0 < 7 * (k : Int)) := by omega
        clear hrd hfl hy hz hsm hxl hroom hzx hu0 hk
        go_wp2_with (first | (go_at_call 18; go_must (refine (Byte_any _ b _ _ hrd2 (by omega)).mono ?_); rintro e w1 ⟨rfl, hrd3, hon3⟩; have HC := Lib.hid hc; rw [hc]; clear hc) | (go_at_call 31; go_must (refine (Err_any _ b _ hrd3).mono ?_); rintro e w2 ⟨rfl, rfl⟩))
        go_ret
        exact ⟨congrArg (fun n : Nat => Ending.returned (.int .u64 (n : Int))) HZX.out, hrd3, hon.trans hon3⟩
      · have hcz : ((u : Int) == 0) = false := by simp [hu0]
        have HU := Lib.hid hu0
        clear hrd hfl hy hz hsm hxl hroom hzx hu0
        go_wp2_with (first | (go_at_call 18; go_must (refine (Byte_any _ b _ _ hrd2 (by omega)).mono ?_); rintro e w1 ⟨rfl, hrd3, hon3⟩; have HC := Lib.hid hc; rw [hc]; clear hc) | (go_at_call 31; go_must (refine (Err_any _ b _ hrd3).mono ?_); rintro e w2 ⟨rfl, rfl⟩))
        go_ret
        exact ⟨congrArg (fun n : Nat => Ending.returned (.int .u64 (n : Int))) HZX.out, hrd3, hon.trans hon3⟩
end Go.Proofs.Ytpdnppncdfialaa
