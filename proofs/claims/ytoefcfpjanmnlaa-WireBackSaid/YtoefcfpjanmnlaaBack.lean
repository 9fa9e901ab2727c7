/-
  The statement that what was put is read as it was: its walk.
-/
import Derived.Test.YtoefcfpjanmnlaaWireD
namespace Go.Proofs.Ytoefcfpjanmnlaa
open Go.RowKit

set_option maxHeartbeats 2000000 in
set_option maxRecDepth 100000 in
theorem back_mid (s : ByteArray) (w : World) (zs : List Int) (b off cap : Nat) (a1 : Bool) (hlen : zs.length ≤ 40) (hbw : b < w.heap.size) (hcell : ∀ i, i < zs.length → w.cell? ⟨b, off + i, none⟩ = some (.int .i64 (zs.getD i 0))) (hfit : ∀ i, i < zs.length → -9223372036854775808 ≤ zs.getD i 0 ∧ zs.getD i 0 ≤ 9223372036854775807) (hs : s.size ≤ maxLen) :
    Calls Try.prog 4 #[.slice (some ⟨b, off, none⟩) zs.length cap, .bool a1, .string s] w fun e w' => e = .returned (.bool true) ∧ Below w.heap.size w w' := by
  have hcs : (cut200 s).size ≤ 200 := cut200_size s
  have hs' : s.size ≤ 9223372036854775807 := by unfold maxLen at hs; omega
  clear hs
  go_enter Try.func4, Try.ntmps4
  go_wp2_with (go_at_call 6; go_must (refine (cut_any s hs' _).mono ?_); rintro e w1 ⟨rfl, rfl⟩)
  go_loopw [7, 8] (fun q i wr => ∃ (k : Nat), k ≤ zs.length ∧ i = .int .i64 k ∧ BBuf wr w.heap.size q (encPairs (zs.take k)) ∧ Below w.heap.size w wr) (fun _ i _ => zs.length - (intOf i).toNat)
  case atStart => exact ⟨0, Nat.zero_le _, rfl, BBuf.none _ _, Below.refl _ _⟩
  case round =>
    obtain ⟨k, hk, rfl, hbuf, hbel⟩ := hrel
    by_cases hlt : k < zs.length
    · obtain ⟨z, hz⟩ : ∃ z, z = zs.getD k 0 := ⟨_, rfl⟩
      have hzb : -9223372036854775808 ≤ z ∧ z ≤ 9223372036854775807 := by rw [hz]; exact hfit k hlt
      have hcw : w.cell? ⟨b, off + k, none⟩ = some (.int .i64 z) := by rw [hz]; exact hcell k hlt
      have htk : Hid (encPairs (zs.take (k + 1)) = encPairs (zs.take k) ++ enc (zg z) ++ putP z) := by
          show _ = _
          rw [List.take_succ_eq_append_getElem (by omega), ← encPairs_snoc, hz, getD_lt (by omega)]
      have hXl : (encPairs (zs.take k)).length ≤ 20 * k := by
          have := encPairs_length (zs.take k)
          have := List.length_take_le k zs
          omega
      have hzl := (enc_length (zg z)).2
      have hkM : (k : Int) < (zs.length : Int) := by omega
      have hk0 : (0 : Int) ≤ (k : Int) := by omega
      have hsz := hbel.size
      clear hz
      go_wp2_with fail
      refine Reg.region_mk 11 94 [[], [false], [false, false], [false, true, true], [false, true, true, true], [true, true, true, true, true], [false, false, false, false, false, false], [false, false, false, false, false, false, false], [false, false, false, false, false, false, true, true], [false, false, false, false, false, false, true, true, true], [true, true, true, true, true, true, true, true, true, true]] [0, 0, 0, 0, 1, 3, 0, 0, 0, 1, 3]
        [.pure, .pure, .pure, .pure, .minor Unit () (fun _ => .int .i64 z) (fun _ _ => True), .major Value undef id, .pure, .pure, .pure, .minor Unit () (fun _ => .int .i64 z) (fun _ _ => True), .major Value undef id]
        (fun W => Below w.heap.size w W) (SApp w.heap.size u7 (encPairs (zs.take k)) ((encPairs (zs.take k)) ++ enc (zg z)) ((encPairs (zs.take k)) ++ enc (zg z) ++ putP z)) (Below w.heap.size) (by kernel_rfl) (by kernel_rfl) rfl rfl SApp.ext ?_ ?_ ?_ ?_ ?_ ?_
      · intro w1 w2 he hb; exact hb.trans (he.mono hb.size)
      · intro w1 w2 hg hb; exact hb.trans hg
      · refine ⟨trivial, trivial, trivial, trivial, ⟨?_, ?_⟩, trivial, trivial, trivial, trivial, ⟨?_, ?_⟩, trivial, trivial⟩
        all_goals (intro x w1 w2 _ hx; exact trivial)
      · exact hbel.drew
      · exact BBuf.ext hbuf (Below.refl _ _).drew
      dsimp only [Reg.mk, List.zip, List.zipWith, List.take]
      repeat (refine' Reg.pass_is _ (by rfl) (fun wz => ?_) ?_; rotate_left; (go_simp; first | rfl | rw [if_neg (by omega)]); simp only [Act.put, List.setIfInBounds_toArray, List.set_cons_zero, List.set_cons_succ]; (try simp only [List.nil_append]); (try simp only [List.cons_append]))
      refine Reg.pass_minor (by rfl) (fun wz hI hF => ?_) (fun x4 => ?_)
      · unfold Reg.One
        have hcz : wz.cell? ⟨b, off + k, none⟩ = some (.int .i64 z) := by rw [Below.cell hI hbw]; exact hcw
        go_wp2_with fail
        exact ⟨_, rfl, ⟨(), rfl, trivial⟩, Reg.Ext.refl _⟩
      simp only [Act.put, List.setIfInBounds_toArray, List.set_cons_zero, List.set_cons_succ]; (try simp only [List.nil_append]); (try simp only [List.cons_append]); (try simp only [id])
      refine Reg.pass_major (by rfl) (fun wz hI hS hF => ?_) (fun x5 => ?_)
      · unfold Reg.One
        go_wp2_with (go_at_call 9; go_must (refine (Sign_any z hzb _ _ w.heap.size wz hS (by omega) hI.size).mono ?_); rintro e w1 ⟨v1, rfl, hown1, hbl1⟩)
        exact ⟨_, rfl, ⟨⟨_, rfl⟩, hown1.buf⟩, hbl1⟩
      simp only [Act.put, List.setIfInBounds_toArray, List.set_cons_zero, List.set_cons_succ]; (try simp only [List.nil_append]); (try simp only [List.cons_append]); (try simp only [id])
      repeat (refine' Reg.pass_is _ (by rfl) (fun wz => ?_) ?_; rotate_left; (go_simp; first | rfl | rw [if_neg (by omega)]); simp only [Act.put, List.setIfInBounds_toArray, List.set_cons_zero, List.set_cons_succ]; (try simp only [List.nil_append]); (try simp only [List.cons_append]))
      refine Reg.pass_minor (by rfl) (fun wz hI hF => ?_) (fun x9 => ?_)
      · unfold Reg.One
        have hcz : wz.cell? ⟨b, off + k, none⟩ = some (.int .i64 z) := by rw [Below.cell hI hbw]; exact hcw
        go_wp2_with fail
        exact ⟨_, rfl, ⟨(), rfl, trivial⟩, Reg.Ext.refl _⟩
      simp only [Act.put, List.setIfInBounds_toArray, List.set_cons_zero, List.set_cons_succ]; (try simp only [List.nil_append]); (try simp only [List.cons_append]); (try simp only [id])
      refine Reg.pass_major (by rfl) (fun wz hI hS hF => ?_) (fun x10 => ?_)
      · unfold Reg.One
        go_wp2_with (go_at_call 8; go_must (refine (PutB_any z hzb _ _ w.heap.size wz hS (by rw [List.length_append]; omega) hI.size).mono ?_); rintro e w1 ⟨v1, rfl, hown1, hbl1⟩)
        exact ⟨_, rfl, ⟨⟨_, rfl⟩, hown1⟩, hbl1⟩
      simp only [Act.put, List.setIfInBounds_toArray, List.set_cons_zero, List.set_cons_succ]; (try simp only [List.nil_append]); (try simp only [List.cons_append]); (try simp only [id])
      refine Reg.pass_end ?_
      intro w3 HI3 HS3 _
      have HB3 : BBuf w3 w.heap.size x10 (encPairs (zs.take (k + 1))) := by rw [htk.out]; exact HS3
      go_wp2_with fail
      go_roundw
      case rel => exact ⟨k + 1, by omega, by go_num, HB3, HI3⟩
      case measure => simp [intOf]; omega
    · obtain rfl : k = zs.length := by omega
      rw [List.take_of_length_le (by first | omega | simp)] at hbuf
      have hL0 : List.length zs ≤ 40 := by first | omega | decide
      have hXl : (encPairs zs).length ≤ 800 := by have := encPairs_length zs; omega
      have hsz := hbel.size
      go_wp2_with (first | (go_at_call 12; go_must (refine (Bool_any a1 _ _ w.heap.size wr hbuf (by omega) hsz).mono ?_); rintro e w4 ⟨v4, rfl, hown4, hbl4⟩) | (go_at_call 13; go_must (refine (Text_any (cut200 s) (by omega) _ _ w.heap.size w4 hown4.buf (by rw [List.length_append]; simp; omega) (by have := hbl4.size; omega)).mono ?_); rintro e w5 ⟨v5, rfl, hown5, hbl5⟩) | (go_at_call 15; go_must (refine (Read_any _ _ w5 hown5.read).mono ?_); rintro e w6 ⟨rb, rfl, hrb, hrd6, hbl6⟩))
      have hB6 : Below w.heap.size w w6 := ((hbel.trans hbl4).trans hbl5).trans (Below.mono hbl6 (by have := hbl4.size; have := hbl5.size; omega))
      have hrbB : w.heap.size ≤ rb := by have := hbl4.size; have := hbl5.size; omega
      have hT : encPairs zs ++ [if a1 then 1 else 0] ++ enc (cut200 s).size ++ tb (cut200 s) = encPairs (zs.drop 0) ++ ([if a1 then 1 else 0] ++ (enc (cut200 s).size ++ tb (cut200 s))) := by simp
      rw [hT] at hrd6
      have HT6 := hrd6
      clear hT hrd6 hown4 hown5 hbuf hbl4 hbl5 hbl6 hrb hbel hsz
      have htlb : (tb (cut200 s)).length ≤ 200 := by rw [tb_length]; exact hcs
      have hel := (enc_length (cut200 s).size).2
      go_loopw [10] (fun i wr => ∃ (k : Nat), k ≤ zs.length ∧ i = .int .i64 k ∧ Rd wr rb (encPairs (zs.drop k) ++ ([if a1 then 1 else 0] ++ (enc (cut200 s).size ++ tb (cut200 s)))) ∧ Below w.heap.size w wr) (fun i _ => zs.length - (intOf i).toNat)
      case atStart => exact ⟨0, Nat.zero_le _, rfl, HT6, hB6⟩
      case round =>
        obtain ⟨k, hk, rfl, hrd, hbel⟩ := hrel
        by_cases hlt2 : k < zs.length
        · obtain ⟨z, hz⟩ : ∃ z, z = zs.getD k 0 := ⟨_, rfl⟩
          have hzb : -9223372036854775808 ≤ z ∧ z ≤ 9223372036854775807 := by rw [hz]; exact hfit k hlt2
          have hcw : w.cell? ⟨b, off + k, none⟩ = some (.int .i64 z) := by rw [hz]; exact hcell k hlt2
          obtain ⟨R, hR⟩ : ∃ R, R = encPairs (zs.drop (k + 1)) ++ ([if a1 then 1 else 0] ++ (enc (cut200 s).size ++ tb (cut200 s))) := ⟨_, rfl⟩
          have hY : encPairs (zs.drop k) ++ ([if a1 then 1 else 0] ++ (enc (cut200 s).size ++ tb (cut200 s))) = enc (zg z) ++ (putP z ++ R) := by rw [List.drop_eq_getElem_cons (by omega), encPairs_cons, hR, hz, getD_lt (by omega)]; simp only [List.append_assoc]
          rw [hY] at hrd
          have hRl : R.length ≤ 1100 := by rw [hR]; have := encPairs_length (zs.drop (k + 1)); rw [List.length_drop] at this; simp only [List.length_append, List.length_cons, List.length_nil]; omega
          have hzl := putP_length z
          have hkM : (k : Int) < (zs.length : Int) := by omega
          have hk0 : (0 : Int) ≤ (k : Int) := by omega
          have HR := Lib.hid hR
          clear hz hY hR
          by_cases hzn : 0 ≤ z
          · have hd : decide (0 ≤ z) = true := by simp [hzn]
            have HP : Hid (putP z = enc z.toNat) := by show _ = _; unfold putP; rw [if_neg (by omega)]
            go_wp2_with fail
            refine Reg.region_mk 23 94 [[], [true], [false, false], [false, false, false], [false, false, true, true], [false, false, true, true, true], [true, true, true, true, true, true], [true, true, true, true, true, true, true], [true, true, true, true, true, true, true, true], [true, true, true, true, true, true, true, true, false], [true, true, true, true, true, true, true, true, true, true], [true, true, true, true, true, true, true, true, true, true, true], [true, true, true, true, true, true, true, true, true, true, true, true], [true, true, true, true, true, true, true, true, true, true, true, true, true], [true, true, true, true, true, true, true, true, true, true, true, true, true, true], [true, true, true, true, true, true, true, true, true, true, true, true, true, true, true], [true, true, true, true, true, true, true, true, true, true, true, true, true, true, false, false], [true, true, true, true, true, true, true, true, true, true, true, true, true, true, false, false, false], [true, true, true, true, true, true, true, true, true, true, true, true, true, true, false, false, true, true], [true, true, true, true, true, true, true, true, true, true, true, true, true, true, false, false, true, true, true], [true, true, true, true, true, true, true, true, true, true, true, true, true, true, true, true, true, true, true, true], [true, true, true, true, true, true, true, true, true, true, true, true, true, true, true, true, true, true, true, true, true], [true, true, true, true, true, true, true, true, true, true, true, true, true, true, true, true, true, true, true, true, true, true]] [0, 3, 0, 0, 0, 1, 0, 0, 0, 0, 0, 1, 0, 0, 0, 3, 0, 0, 0, 1, 0, 0, 0]
              [.pure, .major Unit () (fun _ => .int .i64 z), .pure, .pure, .pure, .minor Unit () (fun _ => .int .i64 z) (fun _ _ => True), .pure, .pure, .pure, .pure, .pure, .minor Unit () (fun _ => .int .i64 z) (fun _ _ => True), .pure, .pure, .pure, .major Unit () (fun _ => .int .i64 z), .pure, .pure, .pure, .minor Unit () (fun _ => .int .i64 z) (fun _ _ => True), .pure, .pure, .pure]
              (fun W => Below w.heap.size w W) (SRd rb (enc (zg z) ++ (putP z ++ R)) (putP z ++ R) R) (Only rb) (by kernel_rfl) (by kernel_rfl) rfl rfl SRd.ext ?_ ?_ ?_ ?_ ?_ ?_
            · intro w1 w2 he hb; exact hb.trans (he.mono hb.size)
            · intro w1 w2 hg hb; exact hb.trans (hg.below hrbB)
            · refine ⟨trivial, trivial, trivial, trivial, trivial, ⟨?_, ?_⟩, trivial, trivial, trivial, trivial, trivial, ⟨?_, ?_⟩, trivial, trivial, trivial, trivial, trivial, trivial, trivial, ⟨?_, ?_⟩, trivial, trivial, trivial, trivial⟩
              all_goals (intro x w1 w2 _ hx; exact trivial)
            · exact hbel.drew
            · exact Rd.ext hrd (Below.refl _ _).drew
            dsimp only [Reg.mk, List.zip, List.zipWith, List.take]
            repeat (refine' Reg.pass_is _ (by rfl) (fun wz => ?_) ?_; rotate_left; (go_simp; first | rfl | rw [if_neg (by omega)]); simp only [Act.put, List.setIfInBounds_toArray, List.set_cons_zero, List.set_cons_succ]; (try simp only [List.nil_append]); (try simp only [List.cons_append]))
            refine Reg.pass_major (by rfl) (fun wz hI hS hF => ?_) (fun x1 => ?_)
            · unfold Reg.One
              go_wp2_with (go_at_call 16; go_must (refine (RSign_any z hzb _ (by rw [List.length_append]; omega) rb wz hS).mono ?_); rintro e w1 ⟨rfl, hrd1, hon1⟩)
              exact ⟨_, rfl, ⟨⟨(), rfl⟩, hrd1⟩, hon1⟩
            simp only [Act.put, List.setIfInBounds_toArray, List.set_cons_zero, List.set_cons_succ]; (try simp only [List.nil_append]); (try simp only [List.cons_append]); (try simp only [id])
            repeat (refine' Reg.pass_is _ (by rfl) (fun wz => ?_) ?_; rotate_left; (go_simp; first | rfl | rw [if_neg (by omega)]); simp only [Act.put, List.setIfInBounds_toArray, List.set_cons_zero, List.set_cons_succ]; (try simp only [List.nil_append]); (try simp only [List.cons_append]))
            refine Reg.pass_minor (by rfl) (fun wz hI hF => ?_) (fun x5 => ?_)
            · unfold Reg.One
              have hcz : wz.cell? ⟨b, off + k, none⟩ = some (.int .i64 z) := by rw [Below.cell hI hbw]; exact hcw
              go_wp2_with fail
              exact ⟨_, rfl, ⟨(), rfl, trivial⟩, Reg.Ext.refl _⟩
            simp only [Act.put, List.setIfInBounds_toArray, List.set_cons_zero, List.set_cons_succ]; (try simp only [List.nil_append]); (try simp only [List.cons_append]); (try simp only [id])
            repeat (refine' Reg.pass_is _ (by rfl) (fun wz => ?_) ?_; rotate_left; (go_simp; first | rfl | rw [if_neg (by omega)]); simp only [Act.put, List.setIfInBounds_toArray, List.set_cons_zero, List.set_cons_succ]; (try simp only [List.nil_append]); (try simp only [List.cons_append]))
            refine Reg.pass_minor (by rfl) (fun wz hI hF => ?_) (fun x11 => ?_)
            · unfold Reg.One
              have hcz : wz.cell? ⟨b, off + k, none⟩ = some (.int .i64 z) := by rw [Below.cell hI hbw]; exact hcw
              go_wp2_with fail
              exact ⟨_, rfl, ⟨(), rfl, trivial⟩, Reg.Ext.refl _⟩
            simp only [Act.put, List.setIfInBounds_toArray, List.set_cons_zero, List.set_cons_succ]; (try simp only [List.nil_append]); (try simp only [List.cons_append]); (try simp only [id])
            repeat (refine' Reg.pass_is _ (by rfl) (fun wz => ?_) ?_; rotate_left; (go_simp; first | rfl | rw [if_neg (by omega)]); simp only [Act.put, List.setIfInBounds_toArray, List.set_cons_zero, List.set_cons_succ]; (try simp only [List.nil_append]); (try simp only [List.cons_append]))
            refine Reg.pass_major (by rfl) (fun wz hI hS hF => ?_) (fun x15 => ?_)
            · unfold Reg.One
              go_wp2_with (go_at_call 17; go_must (refine (RNum_any z ⟨hzn, hzb.2⟩ R (by omega) rb wz (by have h9 : Rd wz rb (putP z ++ R) := hS; rw [HP.out] at h9; exact h9)).mono ?_); rintro e w1 ⟨rfl, hrd1, hon1⟩)
              exact ⟨_, rfl, ⟨⟨(), rfl⟩, hrd1⟩, hon1⟩
            simp only [Act.put, List.setIfInBounds_toArray, List.set_cons_zero, List.set_cons_succ]; (try simp only [List.nil_append]); (try simp only [List.cons_append]); (try simp only [id])
            repeat (refine' Reg.pass_is _ (by rfl) (fun wz => ?_) ?_; rotate_left; (go_simp; first | rfl | rw [if_neg (by omega)]); simp only [Act.put, List.setIfInBounds_toArray, List.set_cons_zero, List.set_cons_succ]; (try simp only [List.nil_append]); (try simp only [List.cons_append]))
            refine Reg.pass_minor (by rfl) (fun wz hI hF => ?_) (fun x19 => ?_)
            · unfold Reg.One
              have hcz : wz.cell? ⟨b, off + k, none⟩ = some (.int .i64 z) := by rw [Below.cell hI hbw]; exact hcw
              go_wp2_with fail
              exact ⟨_, rfl, ⟨(), rfl, trivial⟩, Reg.Ext.refl _⟩
            simp only [Act.put, List.setIfInBounds_toArray, List.set_cons_zero, List.set_cons_succ]; (try simp only [List.nil_append]); (try simp only [List.cons_append]); (try simp only [id])
            repeat (refine' Reg.pass_is _ (by rfl) (fun wz => ?_) ?_; rotate_left; (go_simp; first | rfl | rw [if_neg (by omega)]); simp only [Act.put, List.setIfInBounds_toArray, List.set_cons_zero, List.set_cons_succ]; (try simp only [List.nil_append]); (try simp only [List.cons_append]))
            refine Reg.pass_end ?_
            intro w3 HI3 HS3 _
            have HB3 : Rd w3 rb (encPairs (zs.drop (k + 1)) ++ ([if a1 then 1 else 0] ++ (enc (cut200 s).size ++ tb (cut200 s)))) := by rw [← HR.out]; exact HS3
            show wpList _ _ _ [] _ _
            go_wp2_with fail
            go_roundw
            case rel => exact ⟨k + 1, by omega, by go_num, HB3, HI3⟩
            case measure => simp [intOf]; omega
          · have hd : decide (0 ≤ z) = false := by simp [hzn]
            have HP : Hid (putP z = []) := by show _ = _; unfold putP; rw [if_pos (by omega)]
            go_wp2_with fail
            refine Reg.region_mk 23 94 [[], [true], [false, false], [false, false, false], [false, false, true, true], [false, false, true, true, true], [true, true, true, true, true, true], [true, true, true, true, true, true, true], [true, true, true, true, true, true, true, true], [true, true, true, true, true, true, true, true, false], [true, true, true, true, true, true, true, true, true, true], [true, true, true, true, true, true, true, true, true, true, true], [true, true, true, true, true, true, true, true, true, true, true, true], [true, true, true, true, true, true, true, true, true, true, true, true, true], [true, true, true, true, true, true, true, true, true, true, true, true, true, true], [true, true, true, true, true, true, true, true, true, true, true, true, true, true, true], [true, true, true, true, true, true, true, true, true, true, true, true, true, true, false, false], [true, true, true, true, true, true, true, true, true, true, true, true, true, true, false, false, false], [true, true, true, true, true, true, true, true, true, true, true, true, true, true, false, false, true, true], [true, true, true, true, true, true, true, true, true, true, true, true, true, true, false, false, true, true, true], [true, true, true, true, true, true, true, true, true, true, true, true, true, true, true, true, true, true, true, true], [true, true, true, true, true, true, true, true, true, true, true, true, true, true, true, true, true, true, true, true, true], [true, true, true, true, true, true, true, true, true, true, true, true, true, true, true, true, true, true, true, true, true, true]] [0, 3, 0, 0, 0, 1, 0, 0, 0, 0, 0, 1, 0, 0, 0, 3, 0, 0, 0, 1, 0, 0, 0]
              [.pure, .major Unit () (fun _ => .int .i64 z), .pure, .pure, .pure, .minor Unit () (fun _ => .int .i64 z) (fun _ _ => True), .pure, .pure, .pure, .pure, .pure, .minor Unit () (fun _ => .int .i64 z) (fun _ _ => True), .pure, .pure, .pure, .major Unit () (fun _ => .int .i64 z), .pure, .pure, .pure, .minor Unit () (fun _ => .int .i64 z) (fun _ _ => True), .pure, .pure, .pure]
              (fun W => Below w.heap.size w W) (SRd rb (enc (zg z) ++ (putP z ++ R)) (putP z ++ R) R) (Only rb) (by kernel_rfl) (by kernel_rfl) rfl rfl SRd.ext ?_ ?_ ?_ ?_ ?_ ?_
            · intro w1 w2 he hb; exact hb.trans (he.mono hb.size)
            · intro w1 w2 hg hb; exact hb.trans (hg.below hrbB)
            · refine ⟨trivial, trivial, trivial, trivial, trivial, ⟨?_, ?_⟩, trivial, trivial, trivial, trivial, trivial, ⟨?_, ?_⟩, trivial, trivial, trivial, trivial, trivial, trivial, trivial, ⟨?_, ?_⟩, trivial, trivial, trivial, trivial⟩
              all_goals (intro x w1 w2 _ hx; exact trivial)
            · exact hbel.drew
            · exact Rd.ext hrd (Below.refl _ _).drew
            dsimp only [Reg.mk, List.zip, List.zipWith, List.take]
            repeat (refine' Reg.pass_is _ (by rfl) (fun wz => ?_) ?_; rotate_left; (go_simp; first | rfl | rw [if_neg (by omega)]); simp only [Act.put, List.setIfInBounds_toArray, List.set_cons_zero, List.set_cons_succ]; (try simp only [List.nil_append]); (try simp only [List.cons_append]))
            refine Reg.pass_major (by rfl) (fun wz hI hS hF => ?_) (fun x1 => ?_)
            · unfold Reg.One
              go_wp2_with (go_at_call 16; go_must (refine (RSign_any z hzb _ (by rw [List.length_append]; omega) rb wz hS).mono ?_); rintro e w1 ⟨rfl, hrd1, hon1⟩)
              exact ⟨_, rfl, ⟨⟨(), rfl⟩, hrd1⟩, hon1⟩
            simp only [Act.put, List.setIfInBounds_toArray, List.set_cons_zero, List.set_cons_succ]; (try simp only [List.nil_append]); (try simp only [List.cons_append]); (try simp only [id])
            repeat (refine' Reg.pass_is _ (by rfl) (fun wz => ?_) ?_; rotate_left; (go_simp; first | rfl | rw [if_neg (by omega)]); simp only [Act.put, List.setIfInBounds_toArray, List.set_cons_zero, List.set_cons_succ]; (try simp only [List.nil_append]); (try simp only [List.cons_append]))
            refine Reg.pass_minor (by rfl) (fun wz hI hF => ?_) (fun x5 => ?_)
            · unfold Reg.One
              have hcz : wz.cell? ⟨b, off + k, none⟩ = some (.int .i64 z) := by rw [Below.cell hI hbw]; exact hcw
              go_wp2_with fail
              exact ⟨_, rfl, ⟨(), rfl, trivial⟩, Reg.Ext.refl _⟩
            simp only [Act.put, List.setIfInBounds_toArray, List.set_cons_zero, List.set_cons_succ]; (try simp only [List.nil_append]); (try simp only [List.cons_append]); (try simp only [id])
            repeat (refine' Reg.pass_is _ (by rfl) (fun wz => ?_) ?_; rotate_left; (go_simp; first | rfl | rw [if_neg (by omega)]); simp only [Act.put, List.setIfInBounds_toArray, List.set_cons_zero, List.set_cons_succ]; (try simp only [List.nil_append]); (try simp only [List.cons_append]))
            refine Reg.pass_minor (by rfl) (fun wz hI hF => ?_) (fun x11 => ?_)
            · unfold Reg.One
              have hcz : wz.cell? ⟨b, off + k, none⟩ = some (.int .i64 z) := by rw [Below.cell hI hbw]; exact hcw
              go_wp2_with fail
              exact ⟨_, rfl, ⟨(), rfl, trivial⟩, Reg.Ext.refl _⟩
            simp only [Act.put, List.setIfInBounds_toArray, List.set_cons_zero, List.set_cons_succ]; (try simp only [List.nil_append]); (try simp only [List.cons_append]); (try simp only [id])
            repeat (refine' Reg.pass_is _ (by rfl) (fun wz => ?_) ?_; rotate_left; (go_simp; first | rfl | rw [if_neg (by omega)]); simp only [Act.put, List.setIfInBounds_toArray, List.set_cons_zero, List.set_cons_succ]; (try simp only [List.nil_append]); (try simp only [List.cons_append]))
            refine Reg.pass_not (by rfl) ?_
            simp only [Act.put, List.setIfInBounds_toArray, List.set_cons_zero, List.set_cons_succ]; (try simp only [List.nil_append]); (try simp only [List.cons_append]); (try simp only [id])
            refine Reg.pass_major_no (by rfl) (fun wz hI hS => ?_) ?_
            · exact (show Rd wz rb R from (by have h9 : Rd wz rb (putP z ++ R) := hS; rw [HP.out] at h9; exact h9))
            simp only [Act.put, List.setIfInBounds_toArray, List.set_cons_zero, List.set_cons_succ]; (try simp only [List.nil_append]); (try simp only [List.cons_append]); (try simp only [id])
            refine Reg.pass_not (by rfl) ?_
            simp only [Act.put, List.setIfInBounds_toArray, List.set_cons_zero, List.set_cons_succ]; (try simp only [List.nil_append]); (try simp only [List.cons_append]); (try simp only [id])
            refine Reg.pass_not (by rfl) ?_
            simp only [Act.put, List.setIfInBounds_toArray, List.set_cons_zero, List.set_cons_succ]; (try simp only [List.nil_append]); (try simp only [List.cons_append]); (try simp only [id])
            refine Reg.pass_not (by rfl) ?_
            simp only [Act.put, List.setIfInBounds_toArray, List.set_cons_zero, List.set_cons_succ]; (try simp only [List.nil_append]); (try simp only [List.cons_append]); (try simp only [id])
            refine Reg.pass_minor_no (by rfl) ?_
            simp only [Act.put, List.setIfInBounds_toArray, List.set_cons_zero, List.set_cons_succ]; (try simp only [List.nil_append]); (try simp only [List.cons_append]); (try simp only [id])
            refine Reg.pass_not (by rfl) ?_
            simp only [Act.put, List.setIfInBounds_toArray, List.set_cons_zero, List.set_cons_succ]; (try simp only [List.nil_append]); (try simp only [List.cons_append]); (try simp only [id])
            repeat (refine' Reg.pass_is _ (by rfl) (fun wz => ?_) ?_; rotate_left; (go_simp; first | rfl | rw [if_neg (by omega)]); simp only [Act.put, List.setIfInBounds_toArray, List.set_cons_zero, List.set_cons_succ]; (try simp only [List.nil_append]); (try simp only [List.cons_append]))
            refine Reg.pass_end ?_
            intro w3 HI3 HS3 _
            have HB3 : Rd w3 rb (encPairs (zs.drop (k + 1)) ++ ([if a1 then 1 else 0] ++ (enc (cut200 s).size ++ tb (cut200 s)))) := by rw [← HR.out]; exact HS3
            show wpList _ _ _ [] _ _
            go_wp2_with fail
            go_roundw
            case rel => exact ⟨k + 1, by omega, by go_num, HB3, HI3⟩
            case measure => simp [intOf]; omega
        · have hkM : k = zs.length := by omega
          subst hkM
          rw [List.drop_eq_nil_of_le (by first | omega | simp)] at hrd
          have hrd0 : Rd wr rb ((if a1 then 1 else 0) :: (enc (cut200 s).size ++ tb (cut200 s))) := hrd
          clear hrd hcell hfit HT6
          go_wp2_with (first | (go_at_call 18; go_must (refine (RBool_any a1 _ (by rw [List.length_append]; omega) rb wr hrd0).mono ?_); rintro e w7 ⟨rfl, hrd7, hon7⟩) | (go_at_call 19; go_must (refine (RText_any (cut200 s) hcs rb w7 hrd7).mono ?_); rintro e w8 ⟨rfl, hrd8, hon8⟩) | (go_at_call 20; go_must (refine (Left_any w8 rb [] hrd8).mono ?_); rintro e w9 ⟨rfl, rfl⟩) | (go_at_call 21; go_must (refine (REnd_any rb w8 hrd8).mono ?_); rintro e w9 ⟨rfl, rfl⟩) | (go_at_call 14; go_must (refine (awake_any w8).mono ?_); rintro e w9 ⟨rfl, hbl9⟩))
          go_ret
          have hB8 := (hbel.trans (hon7.below hrbB)).trans (hon8.below hrbB)
          exact ⟨rfl, hB8.trans (hbl9.mono hB8.size)⟩

set_option maxHeartbeats 2000000 in
set_option maxRecDepth 100000 in
theorem back_big (s : ByteArray) (w : World) (zs : List Int) (b off n cap : Nat) (a1 : Bool) (hlen : zs.length = 40) (hn : 40 < n) (hnc : n ≤ cap) (hcm : cap ≤ 9223372036854775807) (hbw : b < w.heap.size) (hcell : ∀ i, i < 40 → w.cell? ⟨b, off + i, none⟩ = some (.int .i64 (zs.getD i 0))) (hfit : ∀ i, i < 40 → -9223372036854775808 ≤ zs.getD i 0 ∧ zs.getD i 0 ≤ 9223372036854775807) (hs : s.size ≤ maxLen) :
    Calls Try.prog 4 #[.slice (some ⟨b, off, none⟩) n cap, .bool a1, .string s] w fun e w' => e = .returned (.bool true) ∧ Below w.heap.size w w' := by
  have hcs : (cut200 s).size ≤ 200 := cut200_size s
  have hs' : s.size ≤ 9223372036854775807 := by unfold maxLen at hs; omega
  clear hs
  have hd40 : decide ((40 : Int) < (n : Int)) = true := by simp; omega
  go_enter Try.func4, Try.ntmps4
  go_wp2_with (go_at_call 6; go_must (refine (cut_any s hs' _).mono ?_); rintro e w1 ⟨rfl, rfl⟩)
  go_loopw [7, 8] (fun q i wr => ∃ (k : Nat), k ≤ 40 ∧ i = .int .i64 k ∧ BBuf wr w.heap.size q (encPairs (zs.take k)) ∧ Below w.heap.size w wr) (fun _ i _ => 40 - (intOf i).toNat)
  case atStart => exact ⟨0, Nat.zero_le _, rfl, BBuf.none _ _, Below.refl _ _⟩
  case round =>
    obtain ⟨k, hk, rfl, hbuf, hbel⟩ := hrel
    by_cases hlt : k < 40
    · obtain ⟨z, hz⟩ : ∃ z, z = zs.getD k 0 := ⟨_, rfl⟩
      have hzb : -9223372036854775808 ≤ z ∧ z ≤ 9223372036854775807 := by rw [hz]; exact hfit k hlt
      have hcw : w.cell? ⟨b, off + k, none⟩ = some (.int .i64 z) := by rw [hz]; exact hcell k hlt
      have htk : Hid (encPairs (zs.take (k + 1)) = encPairs (zs.take k) ++ enc (zg z) ++ putP z) := by
          show _ = _
          rw [List.take_succ_eq_append_getElem (by omega), ← encPairs_snoc, hz, getD_lt (by omega)]
      have hXl : (encPairs (zs.take k)).length ≤ 20 * k := by
          have := encPairs_length (zs.take k)
          have := List.length_take_le k zs
          omega
      have hzl := (enc_length (zg z)).2
      have hkM : (k : Int) < (40 : Int) := by omega
      have hk0 : (0 : Int) ≤ (k : Int) := by omega
      have hsz := hbel.size
      clear hz
      go_wp2_with fail
      refine Reg.region_mk 11 94 [[], [false], [false, false], [false, true, true], [false, true, true, true], [true, true, true, true, true], [false, false, false, false, false, false], [false, false, false, false, false, false, false], [false, false, false, false, false, false, true, true], [false, false, false, false, false, false, true, true, true], [true, true, true, true, true, true, true, true, true, true]] [0, 0, 0, 0, 1, 3, 0, 0, 0, 1, 3]
        [.pure, .pure, .pure, .pure, .minor Unit () (fun _ => .int .i64 z) (fun _ _ => True), .major Value undef id, .pure, .pure, .pure, .minor Unit () (fun _ => .int .i64 z) (fun _ _ => True), .major Value undef id]
        (fun W => Below w.heap.size w W) (SApp w.heap.size u7 (encPairs (zs.take k)) ((encPairs (zs.take k)) ++ enc (zg z)) ((encPairs (zs.take k)) ++ enc (zg z) ++ putP z)) (Below w.heap.size) (by kernel_rfl) (by kernel_rfl) rfl rfl SApp.ext ?_ ?_ ?_ ?_ ?_ ?_
      · intro w1 w2 he hb; exact hb.trans (he.mono hb.size)
      · intro w1 w2 hg hb; exact hb.trans hg
      · refine ⟨trivial, trivial, trivial, trivial, ⟨?_, ?_⟩, trivial, trivial, trivial, trivial, ⟨?_, ?_⟩, trivial, trivial⟩
        all_goals (intro x w1 w2 _ hx; exact trivial)
      · exact hbel.drew
      · exact BBuf.ext hbuf (Below.refl _ _).drew
      dsimp only [Reg.mk, List.zip, List.zipWith, List.take]
      repeat (refine' Reg.pass_is _ (by rfl) (fun wz => ?_) ?_; rotate_left; (go_simp; first | rfl | rw [if_neg (by omega)]); simp only [Act.put, List.setIfInBounds_toArray, List.set_cons_zero, List.set_cons_succ]; (try simp only [List.nil_append]); (try simp only [List.cons_append]))
      refine Reg.pass_minor (by rfl) (fun wz hI hF => ?_) (fun x4 => ?_)
      · unfold Reg.One
        have hcz : wz.cell? ⟨b, off + k, none⟩ = some (.int .i64 z) := by rw [Below.cell hI hbw]; exact hcw
        go_wp2_with fail
        exact ⟨_, rfl, ⟨(), rfl, trivial⟩, Reg.Ext.refl _⟩
      simp only [Act.put, List.setIfInBounds_toArray, List.set_cons_zero, List.set_cons_succ]; (try simp only [List.nil_append]); (try simp only [List.cons_append]); (try simp only [id])
      refine Reg.pass_major (by rfl) (fun wz hI hS hF => ?_) (fun x5 => ?_)
      · unfold Reg.One
        go_wp2_with (go_at_call 9; go_must (refine (Sign_any z hzb _ _ w.heap.size wz hS (by omega) hI.size).mono ?_); rintro e w1 ⟨v1, rfl, hown1, hbl1⟩)
        exact ⟨_, rfl, ⟨⟨_, rfl⟩, hown1.buf⟩, hbl1⟩
      simp only [Act.put, List.setIfInBounds_toArray, List.set_cons_zero, List.set_cons_succ]; (try simp only [List.nil_append]); (try simp only [List.cons_append]); (try simp only [id])
      repeat (refine' Reg.pass_is _ (by rfl) (fun wz => ?_) ?_; rotate_left; (go_simp; first | rfl | rw [if_neg (by omega)]); simp only [Act.put, List.setIfInBounds_toArray, List.set_cons_zero, List.set_cons_succ]; (try simp only [List.nil_append]); (try simp only [List.cons_append]))
      refine Reg.pass_minor (by rfl) (fun wz hI hF => ?_) (fun x9 => ?_)
      · unfold Reg.One
        have hcz : wz.cell? ⟨b, off + k, none⟩ = some (.int .i64 z) := by rw [Below.cell hI hbw]; exact hcw
        go_wp2_with fail
        exact ⟨_, rfl, ⟨(), rfl, trivial⟩, Reg.Ext.refl _⟩
      simp only [Act.put, List.setIfInBounds_toArray, List.set_cons_zero, List.set_cons_succ]; (try simp only [List.nil_append]); (try simp only [List.cons_append]); (try simp only [id])
      refine Reg.pass_major (by rfl) (fun wz hI hS hF => ?_) (fun x10 => ?_)
      · unfold Reg.One
        go_wp2_with (go_at_call 8; go_must (refine (PutB_any z hzb _ _ w.heap.size wz hS (by rw [List.length_append]; omega) hI.size).mono ?_); rintro e w1 ⟨v1, rfl, hown1, hbl1⟩)
        exact ⟨_, rfl, ⟨⟨_, rfl⟩, hown1⟩, hbl1⟩
      simp only [Act.put, List.setIfInBounds_toArray, List.set_cons_zero, List.set_cons_succ]; (try simp only [List.nil_append]); (try simp only [List.cons_append]); (try simp only [id])
      refine Reg.pass_end ?_
      intro w3 HI3 HS3 _
      have HB3 : BBuf w3 w.heap.size x10 (encPairs (zs.take (k + 1))) := by rw [htk.out]; exact HS3
      go_wp2_with fail
      go_roundw
      case rel => exact ⟨k + 1, by omega, by go_num, HB3, HI3⟩
      case measure => simp [intOf]; omega
    · have hkM : k = 40 := by omega
      subst hkM
      rw [List.take_of_length_le (by first | omega | simp)] at hbuf
      have hL0 : List.length zs ≤ 40 := by first | omega | decide
      have hXl : (encPairs zs).length ≤ 800 := by have := encPairs_length zs; omega
      have hsz := hbel.size
      go_wp2_with (first | (go_at_call 12; go_must (refine (Bool_any a1 _ _ w.heap.size wr hbuf (by omega) hsz).mono ?_); rintro e w4 ⟨v4, rfl, hown4, hbl4⟩) | (go_at_call 13; go_must (refine (Text_any (cut200 s) (by omega) _ _ w.heap.size w4 hown4.buf (by rw [List.length_append]; simp; omega) (by have := hbl4.size; omega)).mono ?_); rintro e w5 ⟨v5, rfl, hown5, hbl5⟩) | (go_at_call 15; go_must (refine (Read_any _ _ w5 hown5.read).mono ?_); rintro e w6 ⟨rb, rfl, hrb, hrd6, hbl6⟩))
      have hB6 : Below w.heap.size w w6 := ((hbel.trans hbl4).trans hbl5).trans (Below.mono hbl6 (by have := hbl4.size; have := hbl5.size; omega))
      have hrbB : w.heap.size ≤ rb := by have := hbl4.size; have := hbl5.size; omega
      have hT : encPairs zs ++ [if a1 then 1 else 0] ++ enc (cut200 s).size ++ tb (cut200 s) = encPairs (zs.drop 0) ++ ([if a1 then 1 else 0] ++ (enc (cut200 s).size ++ tb (cut200 s))) := by simp
      rw [hT] at hrd6
      have HT6 := hrd6
      clear hT hrd6 hown4 hown5 hbuf hbl4 hbl5 hbl6 hrb hbel hsz
      have htlb : (tb (cut200 s)).length ≤ 200 := by rw [tb_length]; exact hcs
      have hel := (enc_length (cut200 s).size).2
      go_loopw [10] (fun i wr => ∃ (k : Nat), k ≤ 40 ∧ i = .int .i64 k ∧ Rd wr rb (encPairs (zs.drop k) ++ ([if a1 then 1 else 0] ++ (enc (cut200 s).size ++ tb (cut200 s)))) ∧ Below w.heap.size w wr) (fun i _ => 40 - (intOf i).toNat)
      case atStart => exact ⟨0, Nat.zero_le _, rfl, HT6, hB6⟩
      case round =>
        obtain ⟨k, hk, rfl, hrd, hbel⟩ := hrel
        by_cases hlt2 : k < 40
        · obtain ⟨z, hz⟩ : ∃ z, z = zs.getD k 0 := ⟨_, rfl⟩
          have hzb : -9223372036854775808 ≤ z ∧ z ≤ 9223372036854775807 := by rw [hz]; exact hfit k hlt2
          have hcw : w.cell? ⟨b, off + k, none⟩ = some (.int .i64 z) := by rw [hz]; exact hcell k hlt2
          obtain ⟨R, hR⟩ : ∃ R, R = encPairs (zs.drop (k + 1)) ++ ([if a1 then 1 else 0] ++ (enc (cut200 s).size ++ tb (cut200 s))) := ⟨_, rfl⟩
          have hY : encPairs (zs.drop k) ++ ([if a1 then 1 else 0] ++ (enc (cut200 s).size ++ tb (cut200 s))) = enc (zg z) ++ (putP z ++ R) := by rw [List.drop_eq_getElem_cons (by omega), encPairs_cons, hR, hz, getD_lt (by omega)]; simp only [List.append_assoc]
          rw [hY] at hrd
          have hRl : R.length ≤ 1100 := by rw [hR]; have := encPairs_length (zs.drop (k + 1)); rw [List.length_drop] at this; simp only [List.length_append, List.length_cons, List.length_nil]; omega
          have hzl := putP_length z
          have hkM : (k : Int) < (40 : Int) := by omega
          have hk0 : (0 : Int) ≤ (k : Int) := by omega
          have HR := Lib.hid hR
          clear hz hY hR
          by_cases hzn : 0 ≤ z
          · have hd : decide (0 ≤ z) = true := by simp [hzn]
            have HP : Hid (putP z = enc z.toNat) := by show _ = _; unfold putP; rw [if_neg (by omega)]
            go_wp2_with fail
            refine Reg.region_mk 23 94 [[], [true], [false, false], [false, false, false], [false, false, true, true], [false, false, true, true, true], [true, true, true, true, true, true], [true, true, true, true, true, true, true], [true, true, true, true, true, true, true, true], [true, true, true, true, true, true, true, true, false], [true, true, true, true, true, true, true, true, true, true], [true, true, true, true, true, true, true, true, true, true, true], [true, true, true, true, true, true, true, true, true, true, true, true], [true, true, true, true, true, true, true, true, true, true, true, true, true], [true, true, true, true, true, true, true, true, true, true, true, true, true, true], [true, true, true, true, true, true, true, true, true, true, true, true, true, true, true], [true, true, true, true, true, true, true, true, true, true, true, true, true, true, false, false], [true, true, true, true, true, true, true, true, true, true, true, true, true, true, false, false, false], [true, true, true, true, true, true, true, true, true, true, true, true, true, true, false, false, true, true], [true, true, true, true, true, true, true, true, true, true, true, true, true, true, false, false, true, true, true], [true, true, true, true, true, true, true, true, true, true, true, true, true, true, true, true, true, true, true, true], [true, true, true, true, true, true, true, true, true, true, true, true, true, true, true, true, true, true, true, true, true], [true, true, true, true, true, true, true, true, true, true, true, true, true, true, true, true, true, true, true, true, true, true]] [0, 3, 0, 0, 0, 1, 0, 0, 0, 0, 0, 1, 0, 0, 0, 3, 0, 0, 0, 1, 0, 0, 0]
              [.pure, .major Unit () (fun _ => .int .i64 z), .pure, .pure, .pure, .minor Unit () (fun _ => .int .i64 z) (fun _ _ => True), .pure, .pure, .pure, .pure, .pure, .minor Unit () (fun _ => .int .i64 z) (fun _ _ => True), .pure, .pure, .pure, .major Unit () (fun _ => .int .i64 z), .pure, .pure, .pure, .minor Unit () (fun _ => .int .i64 z) (fun _ _ => True), .pure, .pure, .pure]
              (fun W => Below w.heap.size w W) (SRd rb (enc (zg z) ++ (putP z ++ R)) (putP z ++ R) R) (Only rb) (by kernel_rfl) (by kernel_rfl) rfl rfl SRd.ext ?_ ?_ ?_ ?_ ?_ ?_
            · intro w1 w2 he hb; exact hb.trans (he.mono hb.size)
            · intro w1 w2 hg hb; exact hb.trans (hg.below hrbB)
            · refine ⟨trivial, trivial, trivial, trivial, trivial, ⟨?_, ?_⟩, trivial, trivial, trivial, trivial, trivial, ⟨?_, ?_⟩, trivial, trivial, trivial, trivial, trivial, trivial, trivial, ⟨?_, ?_⟩, trivial, trivial, trivial, trivial⟩
              all_goals (intro x w1 w2 _ hx; exact trivial)
            · exact hbel.drew
            · exact Rd.ext hrd (Below.refl _ _).drew
            dsimp only [Reg.mk, List.zip, List.zipWith, List.take]
            repeat (refine' Reg.pass_is _ (by rfl) (fun wz => ?_) ?_; rotate_left; (go_simp; first | rfl | rw [if_neg (by omega)]); simp only [Act.put, List.setIfInBounds_toArray, List.set_cons_zero, List.set_cons_succ]; (try simp only [List.nil_append]); (try simp only [List.cons_append]))
            refine Reg.pass_major (by rfl) (fun wz hI hS hF => ?_) (fun x1 => ?_)
            · unfold Reg.One
              go_wp2_with (go_at_call 16; go_must (refine (RSign_any z hzb _ (by rw [List.length_append]; omega) rb wz hS).mono ?_); rintro e w1 ⟨rfl, hrd1, hon1⟩)
              exact ⟨_, rfl, ⟨⟨(), rfl⟩, hrd1⟩, hon1⟩
            simp only [Act.put, List.setIfInBounds_toArray, List.set_cons_zero, List.set_cons_succ]; (try simp only [List.nil_append]); (try simp only [List.cons_append]); (try simp only [id])
            repeat (refine' Reg.pass_is _ (by rfl) (fun wz => ?_) ?_; rotate_left; (go_simp; first | rfl | rw [if_neg (by omega)]); simp only [Act.put, List.setIfInBounds_toArray, List.set_cons_zero, List.set_cons_succ]; (try simp only [List.nil_append]); (try simp only [List.cons_append]))
            refine Reg.pass_minor (by rfl) (fun wz hI hF => ?_) (fun x5 => ?_)
            · unfold Reg.One
              have hcz : wz.cell? ⟨b, off + k, none⟩ = some (.int .i64 z) := by rw [Below.cell hI hbw]; exact hcw
              go_wp2_with fail
              exact ⟨_, rfl, ⟨(), rfl, trivial⟩, Reg.Ext.refl _⟩
            simp only [Act.put, List.setIfInBounds_toArray, List.set_cons_zero, List.set_cons_succ]; (try simp only [List.nil_append]); (try simp only [List.cons_append]); (try simp only [id])
            repeat (refine' Reg.pass_is _ (by rfl) (fun wz => ?_) ?_; rotate_left; (go_simp; first | rfl | rw [if_neg (by omega)]); simp only [Act.put, List.setIfInBounds_toArray, List.set_cons_zero, List.set_cons_succ]; (try simp only [List.nil_append]); (try simp only [List.cons_append]))
            refine Reg.pass_minor (by rfl) (fun wz hI hF => ?_) (fun x11 => ?_)
            · unfold Reg.One
              have hcz : wz.cell? ⟨b, off + k, none⟩ = some (.int .i64 z) := by rw [Below.cell hI hbw]; exact hcw
              go_wp2_with fail
              exact ⟨_, rfl, ⟨(), rfl, trivial⟩, Reg.Ext.refl _⟩
            simp only [Act.put, List.setIfInBounds_toArray, List.set_cons_zero, List.set_cons_succ]; (try simp only [List.nil_append]); (try simp only [List.cons_append]); (try simp only [id])
            repeat (refine' Reg.pass_is _ (by rfl) (fun wz => ?_) ?_; rotate_left; (go_simp; first | rfl | rw [if_neg (by omega)]); simp only [Act.put, List.setIfInBounds_toArray, List.set_cons_zero, List.set_cons_succ]; (try simp only [List.nil_append]); (try simp only [List.cons_append]))
            refine Reg.pass_major (by rfl) (fun wz hI hS hF => ?_) (fun x15 => ?_)
            · unfold Reg.One
              go_wp2_with (go_at_call 17; go_must (refine (RNum_any z ⟨hzn, hzb.2⟩ R (by omega) rb wz (by have h9 : Rd wz rb (putP z ++ R) := hS; rw [HP.out] at h9; exact h9)).mono ?_); rintro e w1 ⟨rfl, hrd1, hon1⟩)
              exact ⟨_, rfl, ⟨⟨(), rfl⟩, hrd1⟩, hon1⟩
            simp only [Act.put, List.setIfInBounds_toArray, List.set_cons_zero, List.set_cons_succ]; (try simp only [List.nil_append]); (try simp only [List.cons_append]); (try simp only [id])
            repeat (refine' Reg.pass_is _ (by rfl) (fun wz => ?_) ?_; rotate_left; (go_simp; first | rfl | rw [if_neg (by omega)]); simp only [Act.put, List.setIfInBounds_toArray, List.set_cons_zero, List.set_cons_succ]; (try simp only [List.nil_append]); (try simp only [List.cons_append]))
            refine Reg.pass_minor (by rfl) (fun wz hI hF => ?_) (fun x19 => ?_)
            · unfold Reg.One
              have hcz : wz.cell? ⟨b, off + k, none⟩ = some (.int .i64 z) := by rw [Below.cell hI hbw]; exact hcw
              go_wp2_with fail
              exact ⟨_, rfl, ⟨(), rfl, trivial⟩, Reg.Ext.refl _⟩
            simp only [Act.put, List.setIfInBounds_toArray, List.set_cons_zero, List.set_cons_succ]; (try simp only [List.nil_append]); (try simp only [List.cons_append]); (try simp only [id])
            repeat (refine' Reg.pass_is _ (by rfl) (fun wz => ?_) ?_; rotate_left; (go_simp; first | rfl | rw [if_neg (by omega)]); simp only [Act.put, List.setIfInBounds_toArray, List.set_cons_zero, List.set_cons_succ]; (try simp only [List.nil_append]); (try simp only [List.cons_append]))
            refine Reg.pass_end ?_
            intro w3 HI3 HS3 _
            have HB3 : Rd w3 rb (encPairs (zs.drop (k + 1)) ++ ([if a1 then 1 else 0] ++ (enc (cut200 s).size ++ tb (cut200 s)))) := by rw [← HR.out]; exact HS3
            show wpList _ _ _ [] _ _
            go_wp2_with fail
            go_roundw
            case rel => exact ⟨k + 1, by omega, by go_num, HB3, HI3⟩
            case measure => simp [intOf]; omega
          · have hd : decide (0 ≤ z) = false := by simp [hzn]
            have HP : Hid (putP z = []) := by show _ = _; unfold putP; rw [if_pos (by omega)]
            go_wp2_with fail
            refine Reg.region_mk 23 94 [[], [true], [false, false], [false, false, false], [false, false, true, true], [false, false, true, true, true], [true, true, true, true, true, true], [true, true, true, true, true, true, true], [true, true, true, true, true, true, true, true], [true, true, true, true, true, true, true, true, false], [true, true, true, true, true, true, true, true, true, true], [true, true, true, true, true, true, true, true, true, true, true], [true, true, true, true, true, true, true, true, true, true, true, true], [true, true, true, true, true, true, true, true, true, true, true, true, true], [true, true, true, true, true, true, true, true, true, true, true, true, true, true], [true, true, true, true, true, true, true, true, true, true, true, true, true, true, true], [true, true, true, true, true, true, true, true, true, true, true, true, true, true, false, false], [true, true, true, true, true, true, true, true, true, true, true, true, true, true, false, false, false], [true, true, true, true, true, true, true, true, true, true, true, true, true, true, false, false, true, true], [true, true, true, true, true, true, true, true, true, true, true, true, true, true, false, false, true, true, true], [true, true, true, true, true, true, true, true, true, true, true, true, true, true, true, true, true, true, true, true], [true, true, true, true, true, true, true, true, true, true, true, true, true, true, true, true, true, true, true, true, true], [true, true, true, true, true, true, true, true, true, true, true, true, true, true, true, true, true, true, true, true, true, true]] [0, 3, 0, 0, 0, 1, 0, 0, 0, 0, 0, 1, 0, 0, 0, 3, 0, 0, 0, 1, 0, 0, 0]
              [.pure, .major Unit () (fun _ => .int .i64 z), .pure, .pure, .pure, .minor Unit () (fun _ => .int .i64 z) (fun _ _ => True), .pure, .pure, .pure, .pure, .pure, .minor Unit () (fun _ => .int .i64 z) (fun _ _ => True), .pure, .pure, .pure, .major Unit () (fun _ => .int .i64 z), .pure, .pure, .pure, .minor Unit () (fun _ => .int .i64 z) (fun _ _ => True), .pure, .pure, .pure]
              (fun W => Below w.heap.size w W) (SRd rb (enc (zg z) ++ (putP z ++ R)) (putP z ++ R) R) (Only rb) (by kernel_rfl) (by kernel_rfl) rfl rfl SRd.ext ?_ ?_ ?_ ?_ ?_ ?_
            · intro w1 w2 he hb; exact hb.trans (he.mono hb.size)
            · intro w1 w2 hg hb; exact hb.trans (hg.below hrbB)
            · refine ⟨trivial, trivial, trivial, trivial, trivial, ⟨?_, ?_⟩, trivial, trivial, trivial, trivial, trivial, ⟨?_, ?_⟩, trivial, trivial, trivial, trivial, trivial, trivial, trivial, ⟨?_, ?_⟩, trivial, trivial, trivial, trivial⟩
              all_goals (intro x w1 w2 _ hx; exact trivial)
            · exact hbel.drew
            · exact Rd.ext hrd (Below.refl _ _).drew
            dsimp only [Reg.mk, List.zip, List.zipWith, List.take]
            repeat (refine' Reg.pass_is _ (by rfl) (fun wz => ?_) ?_; rotate_left; (go_simp; first | rfl | rw [if_neg (by omega)]); simp only [Act.put, List.setIfInBounds_toArray, List.set_cons_zero, List.set_cons_succ]; (try simp only [List.nil_append]); (try simp only [List.cons_append]))
            refine Reg.pass_major (by rfl) (fun wz hI hS hF => ?_) (fun x1 => ?_)
            · unfold Reg.One
              go_wp2_with (go_at_call 16; go_must (refine (RSign_any z hzb _ (by rw [List.length_append]; omega) rb wz hS).mono ?_); rintro e w1 ⟨rfl, hrd1, hon1⟩)
              exact ⟨_, rfl, ⟨⟨(), rfl⟩, hrd1⟩, hon1⟩
            simp only [Act.put, List.setIfInBounds_toArray, List.set_cons_zero, List.set_cons_succ]; (try simp only [List.nil_append]); (try simp only [List.cons_append]); (try simp only [id])
            repeat (refine' Reg.pass_is _ (by rfl) (fun wz => ?_) ?_; rotate_left; (go_simp; first | rfl | rw [if_neg (by omega)]); simp only [Act.put, List.setIfInBounds_toArray, List.set_cons_zero, List.set_cons_succ]; (try simp only [List.nil_append]); (try simp only [List.cons_append]))
            refine Reg.pass_minor (by rfl) (fun wz hI hF => ?_) (fun x5 => ?_)
            · unfold Reg.One
              have hcz : wz.cell? ⟨b, off + k, none⟩ = some (.int .i64 z) := by rw [Below.cell hI hbw]; exact hcw
              go_wp2_with fail
              exact ⟨_, rfl, ⟨(), rfl, trivial⟩, Reg.Ext.refl _⟩
            simp only [Act.put, List.setIfInBounds_toArray, List.set_cons_zero, List.set_cons_succ]; (try simp only [List.nil_append]); (try simp only [List.cons_append]); (try simp only [id])
            repeat (refine' Reg.pass_is _ (by rfl) (fun wz => ?_) ?_; rotate_left; (go_simp; first | rfl | rw [if_neg (by omega)]); simp only [Act.put, List.setIfInBounds_toArray, List.set_cons_zero, List.set_cons_succ]; (try simp only [List.nil_append]); (try simp only [List.cons_append]))
            refine Reg.pass_minor (by rfl) (fun wz hI hF => ?_) (fun x11 => ?_)
            · unfold Reg.One
              have hcz : wz.cell? ⟨b, off + k, none⟩ = some (.int .i64 z) := by rw [Below.cell hI hbw]; exact hcw
              go_wp2_with fail
              exact ⟨_, rfl, ⟨(), rfl, trivial⟩, Reg.Ext.refl _⟩
            simp only [Act.put, List.setIfInBounds_toArray, List.set_cons_zero, List.set_cons_succ]; (try simp only [List.nil_append]); (try simp only [List.cons_append]); (try simp only [id])
            repeat (refine' Reg.pass_is _ (by rfl) (fun wz => ?_) ?_; rotate_left; (go_simp; first | rfl | rw [if_neg (by omega)]); simp only [Act.put, List.setIfInBounds_toArray, List.set_cons_zero, List.set_cons_succ]; (try simp only [List.nil_append]); (try simp only [List.cons_append]))
            refine Reg.pass_not (by rfl) ?_
            simp only [Act.put, List.setIfInBounds_toArray, List.set_cons_zero, List.set_cons_succ]; (try simp only [List.nil_append]); (try simp only [List.cons_append]); (try simp only [id])
            refine Reg.pass_major_no (by rfl) (fun wz hI hS => ?_) ?_
            · exact (show Rd wz rb R from (by have h9 : Rd wz rb (putP z ++ R) := hS; rw [HP.out] at h9; exact h9))
            simp only [Act.put, List.setIfInBounds_toArray, List.set_cons_zero, List.set_cons_succ]; (try simp only [List.nil_append]); (try simp only [List.cons_append]); (try simp only [id])
            refine Reg.pass_not (by rfl) ?_
            simp only [Act.put, List.setIfInBounds_toArray, List.set_cons_zero, List.set_cons_succ]; (try simp only [List.nil_append]); (try simp only [List.cons_append]); (try simp only [id])
            refine Reg.pass_not (by rfl) ?_
            simp only [Act.put, List.setIfInBounds_toArray, List.set_cons_zero, List.set_cons_succ]; (try simp only [List.nil_append]); (try simp only [List.cons_append]); (try simp only [id])
            refine Reg.pass_not (by rfl) ?_
            simp only [Act.put, List.setIfInBounds_toArray, List.set_cons_zero, List.set_cons_succ]; (try simp only [List.nil_append]); (try simp only [List.cons_append]); (try simp only [id])
            refine Reg.pass_minor_no (by rfl) ?_
            simp only [Act.put, List.setIfInBounds_toArray, List.set_cons_zero, List.set_cons_succ]; (try simp only [List.nil_append]); (try simp only [List.cons_append]); (try simp only [id])
            refine Reg.pass_not (by rfl) ?_
            simp only [Act.put, List.setIfInBounds_toArray, List.set_cons_zero, List.set_cons_succ]; (try simp only [List.nil_append]); (try simp only [List.cons_append]); (try simp only [id])
            repeat (refine' Reg.pass_is _ (by rfl) (fun wz => ?_) ?_; rotate_left; (go_simp; first | rfl | rw [if_neg (by omega)]); simp only [Act.put, List.setIfInBounds_toArray, List.set_cons_zero, List.set_cons_succ]; (try simp only [List.nil_append]); (try simp only [List.cons_append]))
            refine Reg.pass_end ?_
            intro w3 HI3 HS3 _
            have HB3 : Rd w3 rb (encPairs (zs.drop (k + 1)) ++ ([if a1 then 1 else 0] ++ (enc (cut200 s).size ++ tb (cut200 s)))) := by rw [← HR.out]; exact HS3
            show wpList _ _ _ [] _ _
            go_wp2_with fail
            go_roundw
            case rel => exact ⟨k + 1, by omega, by go_num, HB3, HI3⟩
            case measure => simp [intOf]; omega
        · have hkM : k = 40 := by omega
          subst hkM
          rw [List.drop_eq_nil_of_le (by first | omega | simp)] at hrd
          have hrd0 : Rd wr rb ((if a1 then 1 else 0) :: (enc (cut200 s).size ++ tb (cut200 s))) := hrd
          clear hrd hcell hfit HT6
          go_wp2_with (first | (go_at_call 18; go_must (refine (RBool_any a1 _ (by rw [List.length_append]; omega) rb wr hrd0).mono ?_); rintro e w7 ⟨rfl, hrd7, hon7⟩) | (go_at_call 19; go_must (refine (RText_any (cut200 s) hcs rb w7 hrd7).mono ?_); rintro e w8 ⟨rfl, hrd8, hon8⟩) | (go_at_call 20; go_must (refine (Left_any w8 rb [] hrd8).mono ?_); rintro e w9 ⟨rfl, rfl⟩) | (go_at_call 21; go_must (refine (REnd_any rb w8 hrd8).mono ?_); rintro e w9 ⟨rfl, rfl⟩) | (go_at_call 14; go_must (refine (awake_any w8).mono ?_); rintro e w9 ⟨rfl, hbl9⟩))
          go_ret
          have hB8 := (hbel.trans (hon7.below hrbB)).trans (hon8.below hrbB)
          exact ⟨rfl, hB8.trans (hbl9.mono hB8.size)⟩

set_option maxHeartbeats 2000000 in
set_option maxRecDepth 100000 in
theorem back_zero (s : ByteArray) (w : World) (ao : Option Addr) (cap : Nat) (a1 : Bool) (hs : s.size ≤ maxLen) :
    Calls Try.prog 4 #[.slice ao 0 cap, .bool a1, .string s] w fun e w' => e = .returned (.bool true) ∧ Below w.heap.size w w' := by
  have hcs : (cut200 s).size ≤ 200 := cut200_size s
  have hs' : s.size ≤ 9223372036854775807 := by unfold maxLen at hs; omega
  clear hs
  go_enter Try.func4, Try.ntmps4
  go_wp2_with (go_at_call 6; go_must (refine (cut_any s hs' _).mono ?_); rintro e w1 ⟨rfl, rfl⟩)
  go_loopw [7, 8] (fun q i wr => ∃ (k : Nat), k ≤ 0 ∧ i = .int .i64 k ∧ BBuf wr w.heap.size q (encPairs (([] : List Int).take k)) ∧ Below w.heap.size w wr) (fun _ i _ => 0 - (intOf i).toNat)
  case atStart => exact ⟨0, Nat.zero_le _, rfl, BBuf.none _ _, Below.refl _ _⟩
  case round =>
    obtain ⟨k, hk, rfl, hbuf, hbel⟩ := hrel
    by_cases hlt : k < 0
    · omega
    · have hkM : k = 0 := by omega
      subst hkM
      rw [List.take_of_length_le (by first | omega | simp)] at hbuf
      have hL0 : List.length ([] : List Int) ≤ 40 := by first | omega | decide
      have hXl : (encPairs ([] : List Int)).length ≤ 800 := by have := encPairs_length ([] : List Int); omega
      have hsz := hbel.size
      go_wp2_with (first | (go_at_call 12; go_must (refine (Bool_any a1 _ _ w.heap.size wr hbuf (by omega) hsz).mono ?_); rintro e w4 ⟨v4, rfl, hown4, hbl4⟩) | (go_at_call 13; go_must (refine (Text_any (cut200 s) (by omega) _ _ w.heap.size w4 hown4.buf (by rw [List.length_append]; simp; omega) (by have := hbl4.size; omega)).mono ?_); rintro e w5 ⟨v5, rfl, hown5, hbl5⟩) | (go_at_call 15; go_must (refine (Read_any _ _ w5 hown5.read).mono ?_); rintro e w6 ⟨rb, rfl, hrb, hrd6, hbl6⟩))
      have hB6 : Below w.heap.size w w6 := ((hbel.trans hbl4).trans hbl5).trans (Below.mono hbl6 (by have := hbl4.size; have := hbl5.size; omega))
      have hrbB : w.heap.size ≤ rb := by have := hbl4.size; have := hbl5.size; omega
      have hT : encPairs ([] : List Int) ++ [if a1 then 1 else 0] ++ enc (cut200 s).size ++ tb (cut200 s) = encPairs (([] : List Int).drop 0) ++ ([if a1 then 1 else 0] ++ (enc (cut200 s).size ++ tb (cut200 s))) := by simp
      rw [hT] at hrd6
      have HT6 := hrd6
      clear hT hrd6 hown4 hown5 hbuf hbl4 hbl5 hbl6 hrb hbel hsz
      have htlb : (tb (cut200 s)).length ≤ 200 := by rw [tb_length]; exact hcs
      have hel := (enc_length (cut200 s).size).2
      go_loopw [10] (fun i wr => ∃ (k : Nat), k ≤ 0 ∧ i = .int .i64 k ∧ Rd wr rb (encPairs (([] : List Int).drop k) ++ ([if a1 then 1 else 0] ++ (enc (cut200 s).size ++ tb (cut200 s)))) ∧ Below w.heap.size w wr) (fun i _ => 0 - (intOf i).toNat)
      case atStart => exact ⟨0, Nat.zero_le _, rfl, HT6, hB6⟩
      case round =>
        obtain ⟨k, hk, rfl, hrd, hbel⟩ := hrel
        by_cases hlt2 : k < 0
        · omega
        · have hkM : k = 0 := by omega
          subst hkM
          rw [List.drop_eq_nil_of_le (by first | omega | simp)] at hrd
          have hrd0 : Rd wr rb ((if a1 then 1 else 0) :: (enc (cut200 s).size ++ tb (cut200 s))) := hrd
          clear hrd HT6
          go_wp2_with (first | (go_at_call 18; go_must (refine (RBool_any a1 _ (by rw [List.length_append]; omega) rb wr hrd0).mono ?_); rintro e w7 ⟨rfl, hrd7, hon7⟩) | (go_at_call 19; go_must (refine (RText_any (cut200 s) hcs rb w7 hrd7).mono ?_); rintro e w8 ⟨rfl, hrd8, hon8⟩) | (go_at_call 20; go_must (refine (Left_any w8 rb [] hrd8).mono ?_); rintro e w9 ⟨rfl, rfl⟩) | (go_at_call 21; go_must (refine (REnd_any rb w8 hrd8).mono ?_); rintro e w9 ⟨rfl, rfl⟩) | (go_at_call 14; go_must (refine (awake_any w8).mono ?_); rintro e w9 ⟨rfl, hbl9⟩))
          go_ret
          have hB8 := (hbel.trans (hon7.below hrbB)).trans (hon8.below hrbB)
          exact ⟨rfl, hB8.trans (hbl9.mono hB8.size)⟩

end Go.Proofs.Ytoefcfpjanmnlaa
