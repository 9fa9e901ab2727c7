/-
  Own walk: a reply's bytes, by the program.
-/
import Derived.Test.YtpdnppncdfialaaRyI
import Derived.Test.YtpdnppncdfialaaRyC
namespace Go.Proofs.Ytpdnppncdfialaa
open Go.RowKit Go.Lib

/-- What is appended: bytes of the call's own. -/
theorem src_own {w : World} {B : Nat} {v : Value} {l : List UInt8} (h : BOwn w B v l) : Src Try.prog 1 25 v l.length (bv l) w := by
  have h1 : (bv l).length = l.length * 1 := by rw [bv_length, Nat.mul_one]
  have hone : ∀ u ∈ bv l, u.oneCell' = true := fun u hu => by
    obtain ⟨c, _, rfl⟩ := List.mem_map.1 hu
    rfl
  rcases id h.2 with ⟨rfl, h0⟩ | ⟨g, cap, cur, rfl, _⟩
  · have hl := List.eq_nil_of_length_eq_zero h0
    subst hl
    exact Src.ofNil _ Try.underlying25 0
  · exact Src.ofSlice _ Try.underlying25 ⟨g, 0, none⟩ l.length cap (bv l) h1 (fun j u hu => World.ownsRow.cells h (g := g) rfl j u hu) hone
theorem own_past {w w' : World} {B : Nat} {v : Value} {l : List UInt8} (h : BOwn w B v l) (hb : Below w.heap.size w w') : BOwn w' B v l := ownsRow_block h fun k hk => hb.block k (h.lt k hk).2

theorem ofInt_i64 (a : Nat) (ha : a < 9223372036854775808) : (BitVec.ofInt 64 (a : Int)).toNat = a := by
  rw [BitVec.ofInt_natCast, BitVec.toNat_ofNat]; exact Nat.mod_eq_of_lt (by omega)
theorem i64_or_nat (a b : Nat) (ha : a < 9223372036854775808) (hb : b < 9223372036854775808) : bits .or .i64 (a : Int) (b : Int) = ((a ||| b : Nat) : Int) := by
  have hx : a ||| b < 2 ^ 63 := Nat.or_lt_two_pow (by omega) (by omega)
  show IntKind.i64.wrap ((BitVec.ofInt 64 (a : Int) ||| BitVec.ofInt 64 (b : Int)).toNat : Int) = _
  rw [BitVec.toNat_or, ofInt_i64 a ha, ofInt_i64 b hb, IntKind.wrap_i64]
  omega
theorem i64_and_nat (a b : Nat) (ha : a < 9223372036854775808) (hb : b < 9223372036854775808) : bits .and .i64 (a : Int) (b : Int) = ((a &&& b : Nat) : Int) := by
  have hx : a &&& b < 2 ^ 63 := Nat.and_lt_two_pow _ (by omega)
  show IntKind.i64.wrap ((BitVec.ofInt 64 (a : Int) &&& BitVec.ofInt 64 (b : Int)).toNat : Int) = _
  rw [BitVec.toNat_and, ofInt_i64 a ha, ofInt_i64 b hb, IntKind.wrap_i64]
  omega

set_option maxRecDepth 100000 in
theorem index_any (r : Ry) (k : Nat) (hk : k < 9) (w : World) : (Instr.index 40 (.agg (cellsY r)) (.int .i64 (k : Int))).run Try.prog w = .ok (.int .i64 ((numsY r).getD k 0)) w := by
  rcases (show k = 0 ∨ k = 1 ∨ k = 2 ∨ k = 3 ∨ k = 4 ∨ k = 5 ∨ k = 6 ∨ k = 7 ∨ k = 8 by omega) with rfl | rfl | rfl | rfl | rfl | rfl | rfl | rfl | rfl <;> kernel_rfl

set_option maxRecDepth 1000000 in
set_option maxHeartbeats 4000000 in
theorem Bytes_fn (r : Ry) (w : World) (hf : FitsY r) : Calls Try.prog 6 #[.agg (encY r).toArray] w fun e w' => ∃ v, e = .returned v ∧ RowAt encB 1 w' v (encYb r) ∧ Below w.heap.size w w' := by
  obtain ⟨i0, hi, hz0, hz1, hz2⟩ := info_parts infoB
  have zR := zE_ry
  have lR := encY_len r
  obtain ⟨k9, hk9⟩ : ∃ k, k = 9 := ⟨_, rfl⟩
  rw [← hk9] at zR lR
  replace hk9 := Lib.hid hk9
  obtain ⟨wA, hwA⟩ : ∃ wA, wA = w.alloc (.cells (encY r).toArray 24) := ⟨_, rfl⟩
  have hb0 : Below w.heap.size w wA := by rw [hwA]; exact (Below.refl _ _).alloc (Nat.le_refl _) _
  have hR0 : wA.heap[w.heap.size]? = some (.cells (encY r).toArray 24 (0, 0)) := by rw [hwA]; exact heap_alloc_new w _
  have ld0 := ry_load (k := k9) hR0 lR
  have h1 := numbers_fn r wA
  rw [hwA] at ld0 h1
  have hsA : wA.heap.size = w.heap.size + 1 := by rw [hwA]; simp
  have hL9 : (numsY r).length = 9 := rfl
  have hE : encYb r = ([byt 184] ++ enc (maskF (numsY r))) ++ restF (numsY r) := by unfold encYb; rw [List.cons_append, List.nil_append, List.cons_append]
  have hat : Hid (∀ k : Nat, k < 9 → ∀ w, (Instr.index 40 (.agg (cellsY r)) (.int .i64 (k : Int))).run Try.prog w = .ok (.int .i64 ((numsY r).getD k 0)) w) := fun k hk w => index_any r k hk w
  have hm9 := mask9 r
  have hrl := restF_length (numsY r)
  rw [hL9] at hrl
  rw [hE]
  clear hE
  have hFit : Hid (∀ z ∈ numsY r, -9223372036854775808 ≤ z ∧ z ≤ 9223372036854775807) := hf
  clear hf
  generalize numsY r = L at *
  generalize cellsY r = CA at *
  replace hrl := Lib.hid hrl
  replace hm9 := Lib.hid hm9
  go_enter Try.func6, Try.ntmps6
  go_wp2_with fail
  go_at_call 13
  refine h1.mono ?_
  clear h1 ld0
  rintro e w1 ⟨rfl, hB1⟩
  rw [← hwA] at hB1
  have hb1 : Hid (Below w.heap.size w w1) := hb0.trans (hB1.mono (by omega))
  replace hwA := Lib.hid hwA
  clear hB1 hb0 hR0 hsA lR
  go_wp2_with fail
  go_loopw [3, 4, 5, 6, 9] (fun mm rr _ _ ii wr => ∃ k M : Nat, k ≤ 9 ∧ ii = .int .i64 k ∧ mm = .int .i64 M ∧ Hid (M = maskF (L.take k)) ∧ BOwn wr w1.heap.size rr (restF (L.take k)) ∧ Below w1.heap.size w1 wr) (fun _ _ _ _ ii _ => 9 - (intOf ii).toNat)
  case atStart => exact ⟨0, 0, Nat.zero_le _, rfl, rfl, rfl, World.ownsRow_nil _ _ _ 1, Below.refl _ _⟩
  case round =>
    obtain ⟨k, M, hk, rfl, rfl, hM, hbuf, hbel⟩ := hrel
    have hMk : M < 2 ^ k := by
      rw [hM.out]
      have h1 := maskF_lt (L.take k)
      rw [List.length_take, Nat.min_eq_left (by omega)] at h1
      exact h1
    by_cases hlt : k < 9
    · have b2 : (k : Int) < 9 := by omega
      have wi : IntKind.i64.wrap ((k : Int) + 1) = (k : Int) + 1 := by rw [IntKind.wrap_i64]; omega
      have c := hat.out k hlt
      have htk := take_more (L := L) (k := k) (by omega)
      have hlen : (L.take k).length = k := by rw [List.length_take]; omega
      have hmk : Hid (maskF (L.take (k + 1)) = M + if L.getD k 0 = 0 then 0 else 2 ^ k) := by
        show _ = _
        rw [htk, maskF_snoc, hlen, hM.out]
      have hrk : Hid (restF (L.take (k + 1)) = restF (L.take k) ++ if L.getD k 0 = 0 then [] else enc (zg (L.getD k 0))) := by
        show _ = _
        rw [htk, restF_snoc]
      have hzf : -9223372036854775808 ≤ L.getD k 0 ∧ L.getD k 0 ≤ 9223372036854775807 := hFit.out _ (by
        have h9 : k < L.length := by omega
        simp [List.getD, h9])
      have hrl := restF_length (L.take k)
      rw [hlen] at hrl
      generalize L.getD k 0 = z at *
      clear htk hlen
      by_cases hz : z = 0
      · have tz : (z != 0) = false := by simp [hz]
        have hmk2 : Hid (maskF (L.take (k + 1)) = M) := by show _ = _; rw [hmk.out, if_pos hz]; rfl
        have hrk2 : Hid (restF (L.take (k + 1)) = restF (L.take k)) := by show _ = _; rw [hrk.out, if_pos hz, List.append_nil]
        clear hz hmk hrk hzf hrl hMk
        go_wp2_with fail
        go_roundw
        case rel => exact ⟨k + 1, M, by omega, by go_num, rfl, hmk2.out.symm, by rw [hrk2.out]; exact hbuf, hbel⟩
        case measure => simp [intOf]; omega
      · have tz : (z != 0) = true := by simp [hz]
        obtain ⟨U, hU⟩ : ∃ U, U = 2 ^ k := ⟨_, rfl⟩
        have hU512 : U ≤ 256 := by
          rw [hU]
          exact Nat.pow_le_pow_right (by decide) (show k ≤ 8 by omega)
        have hmk2 : Hid (maskF (L.take (k + 1)) = M + U) := by show _ = _; rw [hmk.out, if_neg hz, hU]
        have hrk2 : Hid (restF (L.take (k + 1)) = restF (L.take k) ++ enc (zg z)) := by show _ = _; rw [hrk.out, if_neg hz]
        have hsg := fun (hb : w1.heap.size ≤ wr.heap.size) => Sign_any z hzf (restF (L.take k)) _ w1.heap.size wr hbuf.buf (by omega) hb
        replace hsg := hsg hbel.size
        have hshl : IntKind.i64.wrap (1 * 2 ^ k) = (U : Int) := by
          rw [IntKind.wrap_i64]
          have : (2 : Int) ^ k = (U : Int) := by rw [hU]; simp
          rw [this]
          omega
        have hor : Go.bits BinOp.or IntKind.i64 (M : Int) (U : Int) = ((M + U : Nat) : Int) := by
          rw [i64_or_nat _ _ (by omega) (by omega)]
          congr 1
          rw [hU, Nat.or_comm]
          have := (Nat.two_pow_add_eq_or_of_lt hMk 1).symm
          rw [Nat.mul_one] at this
          rw [this]
          omega
        have hsh2 : Go.RowKit.wrap64 ((2 : Int) ^ k) = (U : Int) := by
          have h9 : (2 : Int) ^ k = (U : Int) := by rw [hU]; simp
          rw [h9]; exact IntWalk.wrap64_in _ ⟨by omega, by omega⟩
        clear hz hmk hrk hzf hrl hbuf hMk hU
        go_wp2_with fail
        go_at_call 14
        refine hsg.mono ?_
        clear hsg
        rintro e w2 ⟨v2, rfl, hown, hB2⟩
        go_wp2_with fail
        go_roundw
        case rel => exact ⟨k + 1, M + U, by omega, by go_num, by go_num, hmk2.out.symm, by rw [hrk2.out]; exact hown, hbel.trans hB2⟩
        case measure => simp [intOf]; omega
    · obtain rfl : k = 9 := by omega
      have hL : L.take 9 = L := List.take_of_length_le (by omega)
      rw [hL] at hM hbuf
      have hb2 : Hid (Below w.heap.size w wr) := hb1.out.trans (hbel.mono hb1.out.size)
      have hMl : M ≤ 511 := by have := hm9.out; have := hM.out; omega
      obtain ⟨w3, hw3⟩ : ∃ w3, w3 = wr.alloc (.cells #[.int .u8 184] 5) := ⟨_, rfl⟩
      have hb3 : Below w.heap.size w w3 := by rw [hw3]; exact hb2.out.alloc hb2.out.size _
      have hnew : w3.heap[wr.heap.size]? = some (.cells #[.int .u8 184] 5 (0, 0)) := by rw [hw3]; exact heap_alloc_new wr _
      have htail : BOwn w3 w1.heap.size u4 (restF L) := by rw [hw3]; exact hbuf.alloc _
      have hput := Put_any (M : Int) (by omega) [byt 184] (.slice (some ⟨wr.heap.size, 0, none⟩) 1 1) w3.heap.size w3 (Or.inr ⟨⟨wr.heap.size, 0, none⟩, rfl, rfl, fun j u hj => by
        rw [Addr.add_lit]
        rcases j with _ | j
        · have : u = .int .u8 184 := by simpa [bv, byt_toNat] using hj.symm
          subst this
          simp [World.cell?, hnew]
        · simp [bv] at hj⟩) (by simp) (Nat.le_refl _)
      rw [Int.toNat_natCast] at hput
      rw [hw3] at hput
      have hel := (enc_length M).2
      have hrl2 := hrl.out
      clear hbel hnew hbuf hb1
      go_wp2_with fail
      go_at_call 15
      refine hput.mono ?_
      clear hput
      rintro e w4 ⟨v4, rfl, hown4, hB4⟩
      rw [← hw3] at hown4 hB4
      replace hw3 := Lib.hid hw3
      have htail4 : BOwn w4 w1.heap.size u4 (restF L) := own_past htail hB4
      have hb4 : Hid (Below w.heap.size w w4) := hb3.trans (hB4.mono hb3.size)
      have hs4 := hB4.size
      have hlv : ([byt 184] ++ enc M).length ≤ 11 := by rw [List.length_append]; simp only [List.length_cons, List.length_nil]; omega
      have hsrc := src_own htail4
      clear hB4 hb3 htail
      obtain ⟨E, hE⟩ : ∃ E, E = [byt 184] ++ enc M := ⟨_, rfl⟩
      rw [← hE] at hown4 hlv
      rw [hM.out] at hE
      replace hE := Lib.hid hE
      replace hb4 := Lib.hid hb4
      go_wp2_with (at_builtin; go_must (refine wpList_append_src _ rfl (.tmp 25) (.tmp 26) 25 25 rfl w3.heap.size 5 i0 (.int .u8 0) 1 1 Try.underlying25 hi hz0 hz1 hz2 rfl v4 E.length (bv E) rfl hown4 u4 (restF L).length (bv (restF L)) rfl hsrc ?g1 ?g2 ?g3 ?g4))
      case g1 => unfold maxLen; omega
      case g2 => omega
      case g3 => exact hs4
      case g4 =>
        intro v5 w5 hown5 hg5
        have hby : Hid (BOwn w5 w3.heap.size v5 (E ++ restF L)) := by
          show w5.ownsRow _ _ _ _ _ _
          rw [bv_append, List.length_append]
          exact hown5
        have hfin : Hid (Below w.heap.size w w5) := by
          refine hb4.out.out.grown hg5 (by have := hb2.out.size; have h3 := congrArg (fun W : World => W.heap.size) hw3.out; simp at h3; omega) fun k hk => Nat.le_trans (by have := hb2.out.size; have h3 := congrArg (fun W : World => W.heap.size) hw3.out; simp at h3; omega) (hown4.lt k hk).1
        clear hown5 hg5 hown4
        go_wp2
        go_ret
        exact ⟨v5, rfl, by have h9 := hby.out.row; rw [hE.out] at h9; exact h9, hfin.out⟩

end Go.Proofs.Ytpdnppncdfialaa
