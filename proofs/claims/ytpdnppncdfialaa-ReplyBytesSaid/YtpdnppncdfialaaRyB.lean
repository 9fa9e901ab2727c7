/-
  Own walk: the statement's own bytes of a reply.
-/
import Derived.Test.YtpdnppncdfialaaRyA
import Derived.Test.YtpdnppncdfialaaReg
namespace Go.Proofs.Ytpdnppncdfialaa
open Go.RowKit

theorem take_more {L : List Int} {k : Nat} (h : k < L.length) : L.take (k + 1) = L.take k ++ [L.getD k 0] := by
  rw [List.take_succ_eq_append_getElem h]
  simp [List.getD, h]

set_option maxRecDepth 1000000 in
set_option maxHeartbeats 4000000 in
theorem bytesY_any (r : Ry) (hf : FitsY r) (w : World) : Calls Try.prog 8 #[.agg (encY r).toArray] w fun e w' => e = .returned (.string (str (encYb r))) ∧ Below w.heap.size w w' := by
  have zR := zE_ry
  have lR := encY_len r
  obtain ⟨k9, hk9⟩ : ∃ k, k = 9 := ⟨_, rfl⟩
  rw [← hk9] at zR lR
  replace hk9 := Lib.hid hk9
  obtain ⟨wA, hwA⟩ : ∃ wA, wA = w.alloc (.cells (encY r).toArray 24) := ⟨_, rfl⟩
  have hb0 : Below w.heap.size w wA := by rw [hwA]; exact (Below.refl _ _).alloc (Nat.le_refl _) _
  have hR0 : wA.heap[w.heap.size]? = some (.cells (encY r).toArray 24 (0, 0)) := by rw [hwA]; exact heap_alloc_new w _
  have ld0 := ry_load (k := k9) hR0 lR
  have hsA : wA.heap.size = w.heap.size + 1 := by rw [hwA]; simp
  have h1 := list_any r wA
  rw [hsA] at h1
  rw [hwA] at ld0 h1
  have hL9 : (numsY r).length = 9 := rfl
  have hE : encYb r = (byt 184 :: enc (maskF (numsY r))) ++ restF (numsY r) := rfl
  have hat := fun i hi => cellsY_at r i hi
  have hm9 := mask9 r
  have hrl := restF_length (numsY r)
  rw [hL9] at hrl
  rw [hE]
  clear hE
  have hFit : Hid (∀ z ∈ numsY r, -9223372036854775808 ≤ z ∧ z ≤ 9223372036854775807) := hf
  clear hf
  generalize numsY r = L at *
  have hst : str (byt 184 :: enc (maskF L)) ++ str (restF L) = str ((byt 184 :: enc (maskF L)) ++ restF L) := str_cat _ _
  have hst2 : str [byt 184] ++ str (enc (maskF L)) = str (byt 184 :: enc (maskF L)) := str_cat _ _
  have h184 : str [byt 184] = { data := #[184] } := rfl
  rw [h184] at hst2
  rw [← hst, ← hst2]
  have hz1 : (str (enc (maskF L))).size ≤ 10 := by rw [str_size]; exact (enc_length _).2
  have hz2 : (str (restF L)).size ≤ 90 := by rw [str_size]; omega
  have hz3 : (({ data := #[184] } : ByteArray) ++ str (enc (maskF L))).size ≤ 11 := by rw [hst2, str_size, List.length_cons]; have := (enc_length (maskF L)).2; omega
  clear hst hst2 h184 hrl
  obtain ⟨TM, hTM⟩ : ∃ T, T = str (enc (maskF L)) := ⟨_, rfl⟩
  obtain ⟨TR, hTR⟩ : ∃ T, T = str (restF L) := ⟨_, rfl⟩
  rw [← hTM] at hz1 hz3 ⊢
  rw [← hTR] at hz2 ⊢
  replace hTM := Lib.hid hTM
  replace hTR := Lib.hid hTR
  go_enter Try.func8, Try.ntmps8
  go_wp2_with fail
  go_at_call 23
  refine h1.mono ?_
  clear h1 ld0
  rintro e w1 ⟨rfl, hX, hB1⟩
  rw [← hwA] at hB1
  have hb1 : Hid (Below w.heap.size w w1) := hb0.trans (hB1.mono (by omega))
  have hcell : Hid (∀ W, Below w1.heap.size w1 W → ∀ i, i < 9 → W.cell? ⟨w.heap.size + 2, i, none⟩ = some (.int .i64 (L.getD i 0))) := fun W hW i hi => by
    simp only [World.cell?, (hW.block _ (lt_of_at hX)).trans hX]
    simpa using hat i hi
  replace hwA := Lib.hid hwA
  clear hB1 hb0 hR0 hsA hX hat lR
  go_wp2_with fail
  go_loopw [4, 5, 6, 7] (fun mm uu rr ii wr => ∃ k M U : Nat, k ≤ 9 ∧ ii = .int .i64 k ∧ mm = .int .i64 M ∧ uu = .int .i64 U ∧ Hid (M = maskF (L.take k)) ∧ Hid (U = 2 ^ k) ∧ BOwn wr w1.heap.size rr (restF (L.take k)) ∧ Below w1.heap.size w1 wr) (fun _ _ _ ii _ => 9 - (intOf ii).toNat)
  case atStart => exact ⟨0, 0, 1, Nat.zero_le _, rfl, rfl, rfl, rfl, rfl, World.ownsRow_nil _ _ _ 1, Below.refl _ _⟩
  case round =>
    obtain ⟨k, M, U, hk, rfl, rfl, rfl, hM, hU, hbuf, hbel⟩ := hrel
    have hM512 : M ≤ 512 := by
      rw [hM.out]
      have h1 := maskF_lt (L.take k)
      have h2 : 2 ^ (L.take k).length ≤ 2 ^ 9 := Nat.pow_le_pow_right (by decide) (by rw [List.length_take]; omega)
      omega
    have hU512 : U ≤ 512 := by
      rw [hU.out]
      have h2 : 2 ^ k ≤ 2 ^ 9 := Nat.pow_le_pow_right (by decide) hk
      omega
    by_cases hlt : k < 9
    · have b2 : (k : Int) < 9 := by omega
      have wi : IntKind.i64.wrap ((k : Int) + 1) = (k : Int) + 1 := by rw [IntKind.wrap_i64]; omega
      have c := hcell.out wr hbel k hlt
      have htk := take_more (L := L) (k := k) (by omega)
      have hlen : (L.take k).length = k := by rw [List.length_take]; omega
      have hmk : Hid (maskF (L.take (k + 1)) = M + if L.getD k 0 = 0 then 0 else U) := by
        show _ = _
        rw [htk, maskF_snoc, hlen, hM.out, hU.out]
      have hrk : Hid (restF (L.take (k + 1)) = restF (L.take k) ++ if L.getD k 0 = 0 then [] else enc (zg (L.getD k 0))) := by
        show _ = _
        rw [htk, restF_snoc]
      have hU2 : Hid (2 * U = 2 ^ (k + 1)) := by show _ = _; rw [hU.out, Nat.pow_succ]; omega
      have hzf : -9223372036854775808 ≤ L.getD k 0 ∧ L.getD k 0 ≤ 9223372036854775807 := hFit.out _ (by
        have h9 : k < L.length := by omega
        simp [List.getD, h9])
      have hrl := restF_length (L.take k)
      rw [hlen] at hrl
      generalize L.getD k 0 = z at *
      clear htk hlen
      by_cases hz : z = 0
      · have tz : (z == 0) = true := beq_iff_eq.2 hz
        have hmk2 : Hid (maskF (L.take (k + 1)) = M) := by show _ = _; rw [hmk.out, if_pos hz]; rfl
        have hrk2 : Hid (restF (L.take (k + 1)) = restF (L.take k)) := by show _ = _; rw [hrk.out, if_pos hz, List.append_nil]
        clear hz hmk hrk hzf hrl
        go_wp2_with fail
        go_roundw
        case rel => exact ⟨k + 1, M, 2 * U, by omega, by go_num, rfl, by go_num, hmk2.out.symm, hU2.out, by rw [hrk2.out]; exact hbuf, hbel⟩
        case measure => simp [intOf]; omega
      · have tz : (z == 0) = false := beq_eq_false_iff_ne.2 hz
        have hmk2 : Hid (maskF (L.take (k + 1)) = M + U) := by show _ = _; rw [hmk.out, if_neg hz]
        have hrk2 : Hid (restF (L.take (k + 1)) = restF (L.take k) ++ enc (zg z)) := by show _ = _; rw [hrk.out, if_neg hz]
        have hsg := fun (hb : w1.heap.size ≤ wr.heap.size) => Sign_any z hzf (restF (L.take k)) _ w1.heap.size wr hbuf.buf (by omega) hb
        replace hsg := hsg hbel.size
        clear hz hmk hrk hzf hrl hbuf
        go_wp2_with fail
        go_at_call 14
        refine hsg.mono ?_
        clear hsg
        rintro e w2 ⟨v2, rfl, hown, hB2⟩
        go_wp2_with fail
        go_roundw
        case rel => exact ⟨k + 1, M + U, 2 * U, by omega, by go_num, by go_num, by go_num, hmk2.out.symm, hU2.out, by rw [hrk2.out]; exact hown, hbel.trans hB2⟩
        case measure => simp [intOf]; omega
    · obtain rfl : k = 9 := by omega
      have hL : L.take 9 = L := List.take_of_length_le (by omega)
      rw [hL] at hM hbuf
      have hb2 : Hid (Below w.heap.size w wr) := hb1.out.trans (hbel.mono hb1.out.size)
      have hMl : maskF L ≤ 511 := by omega
      have hput := fun (W : World) => Put_any (M : Int) (by omega) [] (.slice none 0 0) W.heap.size W (BBuf.none _ _) (by simp) (Nat.le_refl _)
      rw [Int.toNat_natCast, List.nil_append, hM.out] at hput
      rw [hM.out]
      have hrd : Hid (BRead wr u6 (restF L)) := hbuf.read
      have hcv : Hid (∀ W, Below wr.heap.size wr W → (convert 25 9 u6).run Try.prog W = .ok (.string TR) W) := fun W hW => by rw [hTR.out]; exact conv_read (hrd.out.keeps (Keeps.of_ext hW))
      have hcm : Hid (∀ v W, BRead W v (enc (maskF L)) → (convert 25 9 v).run Try.prog W = .ok (.string TM) W) := fun v W hW => by rw [hTM.out]; exact conv_read hW
      clear hcell hbel hM hU hbuf hrd hTR hTM
      replace hMl := Lib.hid hMl
      replace hm9 := Lib.hid hm9
      generalize enc (maskF L) = EM at *
      generalize ((maskF L : Nat) : Int) = MI at *
      go_wp2_with fail
      refine Reg.region_mk 6 39 [[], [true], [true, true], [true, true, true], [false, false, false, false], [false, false, false, false, true]] [0, 1, 1, 0, 0, 1]
        [.pure, .minor Value undef id (fun v W => BRead W v EM), .minor Unit () (fun _ => .string TM) (fun _ _ => True), .pure, .pure, .minor Unit () (fun _ => .string TR) (fun _ _ => True)]
        (fun W => Below wr.heap.size wr W) (fun _ _ => True) (fun a b => Below a.heap.size a b) (by kernel_rfl) (by kernel_rfl) rfl rfl (fun vs a b h hs => trivial) ?_ ?_ ?_ ?_ ?_ ?_
      · intro a b he hb; exact hb.trans (Below.mono he hb.size)
      · intro a b he hb; exact hb.trans (Below.mono he hb.size)
      · exact ⟨trivial, ⟨fun x a b he hx => hx.keeps (Keeps.of_ext he), fun x a b he hx => hx.keeps (Keeps.of_ext he)⟩, ⟨fun _ _ _ _ _ => trivial, fun _ _ _ _ _ => trivial⟩, trivial, trivial, ⟨fun _ _ _ _ _ => trivial, fun _ _ _ _ _ => trivial⟩, trivial⟩
      · exact ⟨rfl, rfl, rfl, Nat.le_refl _, fun _ _ => rfl⟩
      · trivial
      dsimp only [Reg.mk, List.zip, List.zipWith, List.take]
      repeat (refine' Reg.pass_is _ (by rfl) (fun wz => ?_) ?_; rotate_left; (go_simp; first | rfl | rw [if_neg (by omega)]); simp only [Act.put, List.setIfInBounds_toArray, List.set_cons_zero, List.set_cons_succ]; (try simp only [List.nil_append]); (try simp only [List.cons_append]); (try simp only [id]))
      refine Reg.pass_minor (by rfl) (fun wz hI hF => ?_) (fun r1 => ?_)
      · unfold Reg.One
        go_wp2_with (go_at_call 15; go_must (refine (hput _).mono ?_); rintro e w' ⟨v', rfl, hown, hb5⟩)
        exact ⟨_, rfl, ⟨v', rfl, hown.read⟩, hb5⟩
      simp only [Act.put, List.setIfInBounds_toArray, List.set_cons_zero, List.set_cons_succ]; (try simp only [List.nil_append]); (try simp only [List.cons_append]); (try simp only [id])
      refine Reg.pass_minor (by rfl) (fun wz hI hF => ?_) (fun r2 => ?_)
      · unfold Reg.One
        have hcv1 := hcm.out _ _ hF.2.1
        go_wp2_with fail
        first | exact ⟨_, rfl, rfl, Reg.Ext.refl _⟩ | exact ⟨_, rfl, ⟨(), rfl, trivial⟩, Reg.Ext.refl _⟩
      simp only [Act.put, List.setIfInBounds_toArray, List.set_cons_zero, List.set_cons_succ]; (try simp only [List.nil_append]); (try simp only [List.cons_append]); (try simp only [id])
      repeat (refine' Reg.pass_is _ (by rfl) (fun wz => ?_) ?_; rotate_left; (go_simp; first | rfl | rw [if_neg (by omega)]); simp only [Act.put, List.setIfInBounds_toArray, List.set_cons_zero, List.set_cons_succ]; (try simp only [List.nil_append]); (try simp only [List.cons_append]); (try simp only [id]))
      refine Reg.pass_minor (by rfl) (fun wz hI hF => ?_) (fun r5 => ?_)
      · unfold Reg.One
        have hcv1 := hcv.out wz hI
        go_wp2_with fail
        first | exact ⟨_, rfl, rfl, Reg.Ext.refl _⟩ | exact ⟨_, rfl, ⟨(), rfl, trivial⟩, Reg.Ext.refl _⟩
      simp only [Act.put, List.setIfInBounds_toArray, List.set_cons_zero, List.set_cons_succ]; (try simp only [List.nil_append]); (try simp only [List.cons_append]); (try simp only [id])
      refine Reg.pass_end ?_
      intro w5 HI5 _ HF5
      clear HF5
      have hb5 := hb2.out.trans (HI5.mono hb2.out.size)
      dsimp only [List.drop]
      go_wp2_with fail
      go_ret
      exact ⟨rfl, hb5⟩

end Go.Proofs.Ytpdnppncdfialaa
