/-
  Own walks: a number, a signed number and the end of what is read, whatever bytes there are.
-/
import Derived.Test.YtpdnppncdfialaaRdA
import Derived.Test.YtpdnppncdfialaaRdM
namespace Go.Proofs.Ytpdnppncdfialaa
open Go.RowKit

/-- An error that a reader meets. -/
def Wrong (q : Int) : Prop := q = 2 ∨ q = 3 ∨ q = 4
theorem Wrong.ne {q : Int} (h : Wrong q) : q ≠ 0 := by unfold Wrong at h; omega
theorem wrong2 : Wrong 2 := .inl rfl
theorem wrong3 : Wrong 3 := .inr (.inl rfl)
theorem wrong4 : Wrong 4 := .inr (.inr rfl)

section
variable {w : World} {b : Nat} {l : List UInt8}

set_option maxHeartbeats 4000000 in
set_option maxRecDepth 100000 in
theorem number_rs (bits : Nat) (hbits : bits = 63 ∨ bits = 64) (hl : l.length ≤ 10000) (h : RS w b l 0) :
    Calls Try.prog 29 #[.pointer (some ⟨b, 0, none⟩), .int .i64 bits] w fun e w' => ((∃ x rest, x < 2 ^ bits ∧ l = enc x ++ rest ∧ e = .returned (.int .u64 x) ∧ RS w' b rest 0) ∨ (NNone bits l ∧ e = .returned (.int .u64 0) ∧ ∃ q, Wrong q ∧ RS w' b [] q)) ∧ Only b w w' := by
  have hb64 : bits ≤ 64 := by omega
  have hb63 : 63 ≤ bits := by omega
  have h0 : Hid (NInv bits l 0 9 0 l) := ninv_start hb64 l
  have HB := Lib.hid hbits
  clear hbits
  go_enter Try.func29, Try.ntmps29
  go_wp2_with fail
  go_loopw [5, 6] (fun v sh wr => ∃ (k f acc : Nat) (l' : List UInt8), v = .int .u64 acc ∧ sh = .int .i64 ((7 * k : Nat) : Int) ∧ k + f = 9 ∧ Hid (acc < 128 ^ k) ∧ Hid (NInv bits l k f acc l') ∧ Hid (l'.length ≤ 10000) ∧ RS wr b l' 0 ∧ Only b w wr) (fun _ sh _ => 100 - (intOf sh).toNat)
  case atStart => exact ⟨0, 9, 0, l, rfl, rfl, rfl, (by decide : 0 < 128 ^ 0), h0, hl, h, Only.refl _ _⟩
  case round =>
    obtain ⟨k, f, acc, l', rfl, rfl, hkf, hacc, hinv, hll, hrs, hon⟩ := hrel
    clear h h0 hl
    match l', hinv, hll, hrs with
    | [], hinv, hll, hrs =>
      have hnone := Lib.hid (ninv_nil hinv.out)
      clear hinv hll
      go_wp2_with (first | (go_at_call 18; go_must (refine (Byte_end hrs).mono ?_); rintro e w1 ⟨rfl, h2, o2⟩) | (go_at_call 31; go_must (refine (Err_rs h2).mono ?_); rintro e w2 ⟨rfl, rfl⟩))
      go_ret
      exact ⟨.inr ⟨hnone.out, rfl, 2, wrong2, h2⟩, hon.trans o2⟩
    | c :: l', hinv, hll, hrs =>
      have hll2 : l'.length ≤ 10000 := by have := hll.out; simp at this; omega
      have HL := Lib.hid hll2
      have hll3 : l'.length ≤ 100000 := by omega
      clear hll hll2
      have hc256 : c.toNat < 256 := c.toNat_lt
      obtain ⟨n, hn⟩ : ∃ n, n = c.toNat := ⟨_, rfl⟩
      have hy0 : (0 : Int) ≤ (bits : Int) - 7 * (k : Int) := by omega
      have hyn : ((bits : Int) - 7 * (k : Int)).toNat = bits - 7 * k := by omega
      have h78 : 7 * (k : Int) ≤ 63 := by omega
      by_cases hbig : 2 ^ (bits - 7 * k) ≤ c.toNat
      · have hnone := Lib.hid (ninv_big hinv.out hbig)
        obtain ⟨d, hshr, hd⟩ := shr8_some n ((bits : Int) - 7 * (k : Int)) hy0 (by rw [hyn, hn]; exact hbig) (by omega)
        have hd2 : (d != 0) = true := by simp [bne, hd]
        rw [hn] at hshr
        clear hinv hbig hyn hacc hn HL
        go_wp2_with (first | (go_at_call 18; go_must (refine (Byte_rs c hrs hll3).mono ?_); rintro e w1 ⟨rfl, h2, o2⟩) | (go_at_call 31; go_must (refine (Err_rs h2).mono ?_); rintro e w2 ⟨rfl, rfl⟩) | (go_at_call 27; go_must (refine (Fail_rs 4 (by decide) h2).mono ?_); rintro e w3 ⟨rfl, h3, o3⟩))
        go_ret
        exact ⟨.inr ⟨hnone.out, rfl, 4, wrong4, h3⟩, (hon.trans o2).trans o3⟩
      · have hsm : n < 2 ^ (bits - 7 * k) := by omega
        have hshr : Op.shift .shr .u8 (n : Int) .i64 ((bits : Int) - 7 * (k : Int)) = pure (.int .u8 0) := shr8_zero n _ hy0 (by rw [hyn]; exact hsm) (by omega)
        by_cases hz : c.toNat = 0 ∧ 0 < k
        · have hnone := Lib.hid (ninv_zero hinv.out hz.1 hz.2)
          have hcz : ((n : Int) == 0) = true := by rw [hn, hz.1]; rfl
          have hk0 : 0 < 7 * (k : Int) := by omega
          rw [hn] at hshr hcz
          clear hinv hbig hyn hacc hsm hz hn HL
          go_wp2_with (first | (go_at_call 18; go_must (refine (Byte_rs c hrs hll3).mono ?_); rintro e w1 ⟨rfl, h2, o2⟩) | (go_at_call 31; go_must (refine (Err_rs h2).mono ?_); rintro e w2 ⟨rfl, rfl⟩) | (go_at_call 27; go_must (refine (Fail_rs 4 (by decide) h2).mono ?_); rintro e w3 ⟨rfl, h3, o3⟩))
          go_ret
          exact ⟨.inr ⟨hnone.out, rfl, 4, wrong4, h3⟩, (hon.trans o2).trans o3⟩
        · have hz' : c.toNat ≠ 0 ∨ k = 0 := by omega
          have hkb : 7 * k ≤ bits := by omega
          by_cases hc : c.toNat < 128
          · obtain ⟨hxb, hxe⟩ := ninv_done hinv.out hacc.out hkb hc (by omega) hz'
            obtain ⟨y, hy⟩ : ∃ y, y = n * 128 ^ k := ⟨_, rfl⟩
            obtain ⟨z, hzz⟩ : ∃ z, z = acc + y := ⟨_, rfl⟩
            have hzx : z = acc + c.toNat * 128 ^ k := by rw [hzz, hy, hn]
            rw [← hzx] at hxb hxe
            have hz64 : z < 18446744073709551616 := by
              have h2 : 2 ^ bits ≤ 2 ^ 64 := Nat.pow_le_pow_right (by decide) hb64
              omega
            have hand : Go.bits BinOp.andNot IntKind.u8 (n : Int) 128 = (n : Int) := low7_of n n (Or.inr rfl) (by omega)
            have hshl : IntKind.u64.wrap ((n : Int) * 2 ^ (7 * k)) = (y : Int) := shl64_of n k y hy (by omega)
            have hor : Go.bits BinOp.or IntKind.u64 (acc : Int) (y : Int) = (z : Int) := or64_of acc y z k n hacc.out hy hzz hz64
            have hlt : ((n : Int) < 128) := by omega
            have HX := Lib.hid hxb
            have HE := Lib.hid hxe
            by_cases h0 : c.toNat = 0
            · have hcz : ((n : Int) == 0) = true := by rw [hn, h0]; rfl
              have hk0 : ¬ (0 < 7 * (k : Int)) := by omega
              have hnn : (c.toNat : Int) = (n : Int) := by rw [hn]
              have HN := Lib.hid hnn
              clear hnn hn hinv hbig hyn hacc hsm hz hz' hy hzz hzx hxb hxe hz64 hc h0 hc256
              go_wp2_with (first | (go_at_call 18; go_must (refine (Byte_rs c hrs hll3).mono ?_); rintro e w1 ⟨rfl, h2, o2⟩; rw [HN.out]) | (go_at_call 31; go_must (refine (Err_rs h2).mono ?_); rintro e w2 ⟨rfl, rfl⟩))
              go_ret
              exact ⟨.inl ⟨z, l', HX.out, HE.out, rfl, h2⟩, hon.trans o2⟩
            · have hcz : ((n : Int) == 0) = false := beq_eq_false_iff_ne.2 (by omega)
              have hnn : (c.toNat : Int) = (n : Int) := by rw [hn]
              have HN := Lib.hid hnn
              clear hnn hn hinv hbig hyn hacc hsm hz hz' hy hzz hzx hxb hxe hz64 hc h0 hc256
              go_wp2_with (first | (go_at_call 18; go_must (refine (Byte_rs c hrs hll3).mono ?_); rintro e w1 ⟨rfl, h2, o2⟩; rw [HN.out]) | (go_at_call 31; go_must (refine (Err_rs h2).mono ?_); rintro e w2 ⟨rfl, rfl⟩))
              go_ret
              exact ⟨.inl ⟨z, l', HX.out, HE.out, rfl, h2⟩, hon.trans o2⟩
          · have hf1 := ninv_more hb64 hkf (show 128 ≤ n by omega) hsm
            obtain ⟨f, rfl⟩ : ∃ g, f = g + 1 := ⟨f - 1, by omega⟩
            obtain ⟨hst, hlt2⟩ := ninv_step hinv.out hacc.out (show 128 ≤ c.toNat by omega)
            obtain ⟨m, hm⟩ : ∃ m, m = c.toNat - 128 := ⟨_, rfl⟩
            have hnm : n = m + 128 := by omega
            obtain ⟨y, hy⟩ : ∃ y, y = m * 128 ^ k := ⟨_, rfl⟩
            obtain ⟨z, hzz⟩ : ∃ z, z = acc + y := ⟨_, rfl⟩
            have hzx : z = acc + (c.toNat - 128) * 128 ^ k := by rw [hzz, hy, hm]
            rw [← hzx] at hst hlt2
            have hz64 : z < 18446744073709551616 := by
              have h2 : 128 ^ (k + 1) ≤ 128 ^ 9 := Nat.pow_le_pow_right (by decide) (by omega)
              have h3 : (128 : Nat) ^ 9 = 9223372036854775808 := by decide
              omega
            have hand : Go.bits BinOp.andNot IntKind.u8 (n : Int) 128 = (m : Int) := low7_of n m (Or.inl hnm) (by omega)
            have hshl : IntKind.u64.wrap ((m : Int) * 2 ^ (7 * k)) = (y : Int) := shl64_of m k y hy (by omega)
            have hor : Go.bits BinOp.or IntKind.u64 (acc : Int) (y : Int) = (z : Int) := or64_of acc y z k m hacc.out hy hzz hz64
            have hlt : ¬ ((n : Int) < 128) := by omega
            have hcz : ((n : Int) == 0) = false := beq_eq_false_iff_ne.2 (by omega)
            have HS := Lib.hid hst
            have HT := Lib.hid hlt2
            have hnn : (c.toNat : Int) = (n : Int) := by rw [hn]
            have HN := Lib.hid hnn
            have h7b : 7 * (k : Int) ≤ 56 := by omega
            have hm128 : (m : Int) < 128 := by omega
            clear hnn hn hinv hbig hyn hacc hsm hz hz' hy hzz hzx hst hlt2 hz64 hc hc256 hm hnm
            go_wp2_with (first | (go_at_call 18; go_must (refine (Byte_rs c hrs hll3).mono ?_); rintro e w1 ⟨rfl, h2, o2⟩; rw [HN.out]) | (go_at_call 31; go_must (refine (Err_rs h2).mono ?_); rintro e w2 ⟨rfl, rfl⟩))
            go_roundw
            case rel => exact ⟨k + 1, f, z, l', rfl, by go_num, by omega, HT.out, HS.out, HL.out, h2, hon.trans o2⟩
            case measure => simp [intOf]; omega

theorem number_bad (bits : Int) {q : Int} (hq : q ≠ 0) (h : RS w b [] q) :
    Calls Try.prog 29 #[.pointer (some ⟨b, 0, none⟩), .int .i64 bits] w fun e w' => e = .returned (.int .u64 0) ∧ w = w' := by
  have HQ := Lib.hid hq
  have tq : (q != 0) = true := by simp [hq]
  clear hq
  go_enter Try.func29, Try.ntmps29
  go_wp2_with fail
  go_loopw [5, 6] (fun v sh wr => v = .int .u64 0 ∧ sh = .int .i64 0 ∧ w = wr) (fun _ sh _ => 100 - (intOf sh).toNat)
  case atStart => exact ⟨rfl, rfl, rfl⟩
  case round =>
    obtain ⟨rfl, rfl, rfl⟩ := hrel
    go_wp2_with (first | (go_at_call 18; go_must (refine (Byte_bad HQ.out h).mono ?_); rintro e w1 ⟨rfl, rfl⟩) | (go_at_call 31; go_must (refine (Err_rs h).mono ?_); rintro e w2 ⟨rfl, rfl⟩))
    go_ret
    exact ⟨rfl, rfl⟩

/-- A signed number that begins the bytes, or none. -/
def ReadsTo (l : List UInt8) (w' : World) (b : Nat) (e : Ending) : Prop :=
  (∃ x rest, (-9223372036854775808 ≤ x ∧ x ≤ 9223372036854775807) ∧ l = enc (zg x) ++ rest ∧ e = .returned (.int .i64 x) ∧ RS w' b rest 0) ∨
  ((∀ x rest, (-9223372036854775808 ≤ x ∧ x ≤ 9223372036854775807) → l ≠ enc (zg x) ++ rest) ∧ e = .returned (.int .i64 0) ∧ ∃ q, Wrong q ∧ RS w' b [] q)
/-- Each number is some signed number's. -/
theorem zg_all (u : Nat) (hu : u < 18446744073709551616) : ∃ x : Int, (-9223372036854775808 ≤ x ∧ x ≤ 9223372036854775807) ∧ zg x = u := by
  by_cases h : u % 2 = 0
  · exact ⟨(u / 2 : Nat), by omega, by unfold zg; rw [if_neg (by omega)]; omega⟩
  · exact ⟨-((u / 2 : Nat) : Int) - 1, by omega, by unfold zg; rw [if_pos (by omega)]; omega⟩

set_option maxHeartbeats 1000000 in
theorem Sign_rs (hl : l.length ≤ 10000) (h : RS w b l 0) : Calls Try.prog 20 #[.pointer (some ⟨b, 0, none⟩)] w fun e w' => ReadsTo l w' b e ∧ Only b w w' := by
  have hn := number_rs 64 (.inr rfl) hl h
  have h0 := fun W => unfold_any 0 (by omega) W
  rw [show zg 0 = 0 from rfl] at h0
  go_enter Try.func20, Try.ntmps20
  go_wp2_with fail
  go_at_call 29
  refine hn.mono ?_
  clear hn
  rintro e w1 ⟨⟨x, rest, hx, hxe, rfl, hr⟩ | ⟨hno, rfl, q, hq, hr⟩, ho⟩
  · have hx64 : x < 18446744073709551616 := by omega
    obtain ⟨v, hv, hz⟩ := zg_all x hx64
    have hu := fun W => unfold_any v hv W
    rw [hz] at hu
    have HX := Lib.hid hxe
    have HZ := Lib.hid hz
    have HV := Lib.hid hv
    clear hx hx64 hxe hz hv h0
    go_wp2_with (go_at_call 30; go_must (refine (hu _).mono ?_); rintro e w2 ⟨rfl, rfl⟩)
    go_ret
    exact ⟨.inl ⟨v, rest, HV.out, by rw [HZ.out]; exact HX.out, rfl, hr⟩, ho⟩
  · have HN := Lib.hid hno
    have HQ := Lib.hid hq
    clear hno hq
    go_wp2_with (go_at_call 30; go_must (refine (h0 _).mono ?_); rintro e w2 ⟨rfl, rfl⟩)
    go_ret
    exact ⟨.inr ⟨fun x rest hx => HN.out _ _ (zg_lt hx), rfl, q, HQ.out, hr⟩, ho⟩

theorem Sign_bad {q : Int} (hq : q ≠ 0) (h : RS w b [] q) : Calls Try.prog 20 #[.pointer (some ⟨b, 0, none⟩)] w fun e w' => e = .returned (.int .i64 0) ∧ w = w' := by
  have hn := number_bad 64 hq h
  have h0 := fun W => unfold_any 0 (by omega) W
  rw [show zg 0 = 0 from rfl] at h0
  clear hq
  go_enter Try.func20, Try.ntmps20
  go_wp2_with (first | (go_at_call 29; go_must (refine hn.mono ?_); rintro e w1 ⟨rfl, rfl⟩) | (go_at_call 30; go_must (refine (h0 _).mono ?_); rintro e w2 ⟨rfl, rfl⟩))
  go_ret
  exact ⟨rfl, rfl⟩

/-- The end: no error just if none was and nothing is left. -/
theorem End_rs {q : Int} (hl : l.length ≤ 10000) (h : RS w b l q) (hq : q ≠ 0 → l = []) : Calls Try.prog 21 #[.pointer (some ⟨b, 0, none⟩)] w fun e w' => (∃ p, e = .returned (.int .i64 p) ∧ (q = 0 ∧ l = [] ∧ p = 0 ∨ q = 0 ∧ l ≠ [] ∧ p = 3 ∨ q ≠ 0 ∧ p = q)) ∧ Only b w w' := by
  have hL := Left_rs h
  match l, hl, h, hq, hL with
  | [], _, h, _, hL =>
    go_enter Try.func21, Try.ntmps21
    go_wp2_with (first | (go_at_call 28; go_must (refine hL.mono ?_); rintro e w1 ⟨rfl, rfl⟩) | (go_at_call 31; go_must (refine (Err_rs h).mono ?_); rintro e w2 ⟨rfl, rfl⟩))
    go_ret
    exact ⟨⟨q, rfl, by by_cases h0 : q = 0 <;> simp [h0]⟩, Only.refl _ _⟩
  | c :: l, hl, h, hq, hL =>
    obtain rfl : q = 0 := Classical.byContradiction fun hn => by cases hq hn
    clear hq
    obtain ⟨n, hn⟩ : ∃ n, n = (c :: l).length := ⟨_, rfl⟩
    have hn0 : (0 : Int) < (n : Int) := by rw [hn]; simp
    rw [← hn] at hL hl
    replace hn := Lib.hid hn
    go_enter Try.func21, Try.ntmps21
    go_wp2_with (first | (go_at_call 28; go_must (refine hL.mono ?_); rintro e w1 ⟨rfl, rfl⟩) | (go_at_call 27; go_must (refine (Fail_rs 3 (by decide) h).mono ?_); rintro e w3 ⟨rfl, h3, o3⟩) | (go_at_call 31; go_must (refine (Err_rs h3).mono ?_); rintro e w2 ⟨rfl, rfl⟩))
    go_ret
    exact ⟨⟨3, rfl, by simp⟩, o3⟩

set_option maxHeartbeats 400000 in
theorem Read_rs (v : Value) (h : BRead w v l) : Calls Try.prog 16 #[v] w fun e w' => e = .returned (.pointer (some ⟨w.heap.size, 0, none⟩)) ∧ RS w' w.heap.size l 0 ∧ Reg.Ext w w' := by
  have hcv := conv_read h
  go_enter Try.func16, Try.ntmps16
  go_wp2
  go_ret
  exact ⟨rfl, heap_alloc_new w _, (Below.refl _ _).alloc (Nat.le_refl _) _⟩
end

end Go.Proofs.Ytpdnppncdfialaa
