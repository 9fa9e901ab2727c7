/-
  The statement on unlike numbers' bytes: its walk.
-/
import Derived.Test.YtoefcfpjanmnlaaWireB
import Derived.Test.YtoefcfpjanmnlaaReg
namespace Go.Proofs.Ytoefcfpjanmnlaa
open Go.RowKit

/-- Bytes of the call's own stay where memory only grows. -/
theorem BOwn.ext {w w' : World} {base : Nat} {v : Value} {l : List UInt8} (h : BOwn w base v l) (he : Reg.Ext w w') : BOwn w' base v l :=
  ownsRow_below h he fun k hk => (World.ownsRow.lt h k hk).2

/-- The first n bytes of unlike numbers' bytes are unlike, n the lesser length. -/
theorem take_ne {a0 a1 : Int} (h0 : -9223372036854775808 ≤ a0 ∧ a0 ≤ 9223372036854775807) (h1 : -9223372036854775808 ≤ a1 ∧ a1 ≤ 9223372036854775807) (h : a0 ≠ a1) (n : Nat)
    (hn : n = (enc (zg a0)).length ∨ n = (enc (zg a1)).length) : (enc (zg a0)).take n ≠ (enc (zg a1)).take n := by
  intro e
  refine h (zg_inj ?_)
  rcases hn with hn | hn
  · rw [List.take_of_length_le (l := enc (zg a0)) (by omega)] at e
    exact (enc_prefix (s := (enc (zg a1)).drop n) (t := []) (zg_lt h0) (zg_lt h1) (by rw [e, List.take_append_drop, List.append_nil])).1
  · rw [List.take_of_length_le (l := enc (zg a1)) (by omega)] at e
    exact (enc_prefix (s := []) (t := (enc (zg a0)).drop n) (zg_lt h0) (zg_lt h1) (by rw [← e, List.take_append_drop, List.append_nil])).1

theorem extract_toList (l : List UInt8) (n : Nat) : ((str l).extract 0 n).toList = l.take n := by
  rw [ByteArray.toList_eq]
  simp [str, ByteArray.data_extract]

theorem ne_left {a0 a1 : Int} (h0 : -9223372036854775808 ≤ a0 ∧ a0 ≤ 9223372036854775807) (h1 : -9223372036854775808 ≤ a1 ∧ a1 ≤ 9223372036854775807) (h : a0 ≠ a1) :
    ((str (enc (zg a0))).toList == ((str (enc (zg a1))).extract 0 (str (enc (zg a0))).size).toList) = false := by
  have := take_ne h0 h1 h _ (Or.inl rfl)
  rw [List.take_of_length_le (l := enc (zg a0)) (Nat.le_refl _)] at this
  rw [extract_toList, str_toList, str_size]
  simpa using this

theorem ne_right {a0 a1 : Int} (h0 : -9223372036854775808 ≤ a0 ∧ a0 ≤ 9223372036854775807) (h1 : -9223372036854775808 ≤ a1 ∧ a1 ≤ 9223372036854775807) (h : a0 ≠ a1) :
    (((str (enc (zg a0))).extract 0 (str (enc (zg a1))).size).toList == (str (enc (zg a1))).toList) = false := by
  have := take_ne h0 h1 h _ (Or.inr rfl)
  rw [List.take_of_length_le (l := enc (zg a1)) (Nat.le_refl _)] at this
  rw [extract_toList, str_toList, str_size]
  simpa using this

set_option maxHeartbeats 1000000 in
set_option maxRecDepth 100000 in
theorem apart_walk (a0 : Int) (a1 : Int) (h0 : -9223372036854775808 ≤ a0 ∧ a0 ≤ 9223372036854775807) (h1 : -9223372036854775808 ≤ a1 ∧ a1 ≤ 9223372036854775807) (w : World) :
    Calls Try.prog 5 #[.int .i64 a0, .int .i64 a1] w fun e w' => e = .returned (.bool true) ∧ Below w.heap.size w w' := by
  have hz0 : 0 < (str (enc (zg a0))).size := by rw [str_size]; exact (enc_length _).1
  have hz1 : 0 < (str (enc (zg a1))).size := by rw [str_size]; exact (enc_length _).1
  have hm0 : (str (enc (zg a0))).size ≤ 10 := by rw [str_size]; exact (enc_length _).2
  have hm1 : (str (enc (zg a1))).size ≤ 10 := by rw [str_size]; exact (enc_length _).2
  go_enter Try.func5, Try.ntmps5
  go_wp2_with fail
  refine Reg.region_mk 8 45 [[], [true], [true, true], [false, false, false], [true, true, false, true], [true, true, false, true, true], [true, true, true, true, true, false], [true, true, true, true, true, true, true]] [0, 1, 1, 0, 1, 1, 0, 0]
    [.pure, .minor Value undef id (fun v w => BOwn w 0 v (enc (zg a0))), .minor Unit () (fun _ => .string (str (enc (zg a0)))) (fun _ _ => True), .pure, .minor Value undef id (fun v w => BOwn w 0 v (enc (zg a1))), .minor Unit () (fun _ => .string (str (enc (zg a1)))) (fun _ _ => True), .pure, .pure]
    (fun W => Below w.heap.size w W) (fun _ _ => True) (fun _ _ => False) (by kernel_rfl) (by kernel_rfl) rfl rfl (fun _ _ _ _ h => h) ?_ ?_ ?_ ?_ trivial ?_
  · intro w1 w2 he hb; exact hb.trans (he.mono hb.size)
  · intro _ _ h; exact h.elim
  · refine ⟨trivial, ⟨fun x w1 w2 he hx => hx.ext he, fun _ _ _ h => h.elim⟩, ⟨fun _ _ _ _ h => h, fun _ _ _ h => h.elim⟩, trivial, ⟨fun x w1 w2 he hx => hx.ext he, fun _ _ _ h => h.elim⟩, ⟨fun _ _ _ _ h => h, fun _ _ _ h => h.elim⟩, trivial, trivial, trivial⟩
  · exact (Below.refl _ _).drew
  dsimp only [Reg.mk, List.zip, List.zipWith, List.take]
  repeat (refine' Reg.pass_is _ (by rfl) (fun wz => ?_) ?_; rotate_left; (go_simp; rfl); simp only [Act.put, List.setIfInBounds_toArray, List.set_cons_zero, List.set_cons_succ, List.nil_append, List.cons_append])
  refine Reg.pass_minor (by rfl) (fun wz hI hF => ?_) (fun v9 => ?_)
  · unfold Reg.One
    go_wp2_with (go_at_call 9; go_must (refine (Sign_any a0 h0 [] _ wz.heap.size wz (BBuf.none _ _) (by simp) (Nat.le_refl _)).mono ?_); rintro e w1 ⟨v1, rfl, hown1, hbl1⟩)
    exact ⟨_, rfl, ⟨_, rfl, ownsRow_mono hown1 (Nat.zero_le _)⟩, hbl1⟩
  simp only [Act.put, List.setIfInBounds_toArray, List.set_cons_zero, List.set_cons_succ, List.nil_append, List.cons_append, id]
  refine Reg.pass_minor (by rfl) (fun wz hI hF => ?_) (fun _ => ?_)
  · unfold Reg.One
    have hcv := conv_own hF.2.1
    go_wp2_with fail
    exact ⟨_, rfl, ⟨(), rfl, trivial⟩, Reg.Ext.refl _⟩
  simp only [Act.put, List.setIfInBounds_toArray, List.set_cons_zero, List.set_cons_succ, List.nil_append, List.cons_append, id]
  repeat (refine' Reg.pass_is _ (by rfl) (fun wz => ?_) ?_; rotate_left; (go_simp; rfl); simp only [Act.put, List.setIfInBounds_toArray, List.set_cons_zero, List.set_cons_succ, List.nil_append, List.cons_append])
  refine Reg.pass_minor (by rfl) (fun wz hI hF => ?_) (fun v12 => ?_)
  · unfold Reg.One
    go_wp2_with (go_at_call 9; go_must (refine (Sign_any a1 h1 [] _ wz.heap.size wz (BBuf.none _ _) (by simp) (Nat.le_refl _)).mono ?_); rintro e w1 ⟨v1, rfl, hown1, hbl1⟩)
    exact ⟨_, rfl, ⟨_, rfl, ownsRow_mono hown1 (Nat.zero_le _)⟩, hbl1⟩
  simp only [Act.put, List.setIfInBounds_toArray, List.set_cons_zero, List.set_cons_succ, List.nil_append, List.cons_append, id]
  refine Reg.pass_minor (by rfl) (fun wz hI hF => ?_) (fun _ => ?_)
  · unfold Reg.One
    have hcv := conv_own hF.2.2.2.1
    go_wp2_with fail
    exact ⟨_, rfl, ⟨(), rfl, trivial⟩, Reg.Ext.refl _⟩
  simp only [Act.put, List.setIfInBounds_toArray, List.set_cons_zero, List.set_cons_succ, List.nil_append, List.cons_append, id]
  repeat (refine' Reg.pass_is _ (by rfl) (fun wz => ?_) ?_; rotate_left; (go_simp; rfl); simp only [Act.put, List.setIfInBounds_toArray, List.set_cons_zero, List.set_cons_succ, List.nil_append, List.cons_append])
  refine Reg.pass_end ?_
  intro w1 hbl _ _
  show wpList _ _ _ [] _ _
  by_cases heq : a0 = a1
  · subst heq
    have hb1 : (a0 == a0) = true := by simp
    go_wp2_with (go_at_call 14; go_must (refine (awake_any w1).mono ?_); rintro e w2 ⟨rfl, hbl2⟩)
    go_ret
    exact ⟨rfl, hbl.trans (hbl2.mono hbl.size)⟩
  have hb1 : (a0 == a1) = false := by simp [heq]
  have he0 := ne_left h0 h1 heq
  have he1 := ne_right h0 h1 heq
  clear heq
  by_cases hlt : (str (enc (zg a1))).size < (str (enc (zg a0))).size
  · have hi1 : (((str (enc (zg a1))).size : Nat) : Int) ≤ (((str (enc (zg a0))).size : Nat) : Int) := by omega
    go_wp2_with fail
    refine Reg.region_mk 15 45 [[], [true], [true, true], [true, true, true], [true, true, true, false], [true, true, true, true, true], [true, true, true, false, false, false], [true, true, true, false, false, false, false], [true, true, true, false, false, false, true, true], [true, true, true, true, true, true, true, true, true], [true, true, true, true, true, true, true, true, true, true], [true, true, true, true, true, true, true, true, true, true, true], [true, true, true, true, true, true, true, true, true, true, true, true], [true, true, true, true, true, true, true, true, true, true, true, true, true], [true, true, true, true, true, true, true, true, true, true, true, true, true, true]]
      [0, 0, 0, 0, 0, 0, 0, 0, 0, 0, 0, 0, 1, 0, 0] [.pure, .pure, .pure, .pure, .pure, .pure, .pure, .pure, .pure, .pure, .pure, .pure, .minor Unit () (fun _ => .bool true) (fun _ _ => True), .pure, .pure]
      (fun W => Below w.heap.size w W) (fun _ _ => True) (fun _ _ => False) (by kernel_rfl) (by kernel_rfl) rfl rfl (fun _ _ _ _ h => h) ?_ ?_ ?_ ?_ trivial ?_
    · intro w1 w2 he hb; exact hb.trans (he.mono hb.size)
    · intro _ _ h; exact h.elim
    · refine ⟨trivial, trivial, trivial, trivial, trivial, trivial, trivial, trivial, trivial, trivial, trivial, trivial, ⟨fun _ _ _ _ h => h, fun _ _ _ h => h.elim⟩, trivial, trivial, trivial⟩
    · exact hbl.drew
    dsimp only [Reg.mk, List.zip, List.zipWith, List.take]
    repeat (refine' Reg.pass_is _ (by rfl) (fun wz => ?_) ?_; rotate_left; (go_simp; rfl); simp only [Act.put, List.setIfInBounds_toArray, List.set_cons_zero, List.set_cons_succ, List.nil_append, List.cons_append])
    refine Reg.pass_minor (by rfl) (fun wz hI hF => ?_) (fun _ => ?_)
    · unfold Reg.One
      go_wp2_with (go_at_call 14; go_must (refine (awake_any wz).mono ?_); rintro e w2 ⟨rfl, hbl2⟩)
      exact ⟨_, rfl, ⟨(), rfl, trivial⟩, hbl2⟩
    simp only [Act.put, List.setIfInBounds_toArray, List.set_cons_zero, List.set_cons_succ, List.nil_append, List.cons_append, id]
    repeat (refine' Reg.pass_is _ (by rfl) (fun wz => ?_) ?_; rotate_left; (go_simp; rfl); simp only [Act.put, List.setIfInBounds_toArray, List.set_cons_zero, List.set_cons_succ, List.nil_append, List.cons_append])
    refine Reg.pass_end ?_
    intro w3 hbl3 _ _
    show wpList _ _ _ [] _ _
    go_wp2_with fail
    go_ret
    exact ⟨rfl, hbl3⟩
  · have hi1 : (((str (enc (zg a0))).size : Nat) : Int) ≤ (((str (enc (zg a1))).size : Nat) : Int) := by omega
    go_wp2_with fail
    refine Reg.region_mk 15 45 [[], [true], [true, true], [true, true, true], [true, true, true, false], [true, true, true, true, true], [true, true, true, false, false, false], [true, true, true, false, false, false, false], [true, true, true, false, false, false, true, true], [true, true, true, true, true, true, true, true, true], [true, true, true, true, true, true, true, true, true, true], [true, true, true, true, true, true, true, true, true, true, true], [true, true, true, true, true, true, true, true, true, true, true, true], [true, true, true, true, true, true, true, true, true, true, true, true, true], [true, true, true, true, true, true, true, true, true, true, true, true, true, true]]
      [0, 0, 0, 0, 0, 0, 0, 0, 0, 0, 0, 0, 1, 0, 0] [.pure, .pure, .pure, .pure, .pure, .pure, .pure, .pure, .pure, .pure, .pure, .pure, .minor Unit () (fun _ => .bool true) (fun _ _ => True), .pure, .pure]
      (fun W => Below w.heap.size w W) (fun _ _ => True) (fun _ _ => False) (by kernel_rfl) (by kernel_rfl) rfl rfl (fun _ _ _ _ h => h) ?_ ?_ ?_ ?_ trivial ?_
    · intro w1 w2 he hb; exact hb.trans (he.mono hb.size)
    · intro _ _ h; exact h.elim
    · refine ⟨trivial, trivial, trivial, trivial, trivial, trivial, trivial, trivial, trivial, trivial, trivial, trivial, ⟨fun _ _ _ _ h => h, fun _ _ _ h => h.elim⟩, trivial, trivial, trivial⟩
    · exact hbl.drew
    dsimp only [Reg.mk, List.zip, List.zipWith, List.take]
    repeat (refine' Reg.pass_is _ (by rfl) (fun wz => ?_) ?_; rotate_left; (go_simp; rfl); simp only [Act.put, List.setIfInBounds_toArray, List.set_cons_zero, List.set_cons_succ, List.nil_append, List.cons_append])
    refine Reg.pass_minor (by rfl) (fun wz hI hF => ?_) (fun _ => ?_)
    · unfold Reg.One
      go_wp2_with (go_at_call 14; go_must (refine (awake_any wz).mono ?_); rintro e w2 ⟨rfl, hbl2⟩)
      exact ⟨_, rfl, ⟨(), rfl, trivial⟩, hbl2⟩
    simp only [Act.put, List.setIfInBounds_toArray, List.set_cons_zero, List.set_cons_succ, List.nil_append, List.cons_append, id]
    repeat (refine' Reg.pass_is _ (by rfl) (fun wz => ?_) ?_; rotate_left; (go_simp; rfl); simp only [Act.put, List.setIfInBounds_toArray, List.set_cons_zero, List.set_cons_succ, List.nil_append, List.cons_append])
    refine Reg.pass_end ?_
    intro w3 hbl3 _ _
    show wpList _ _ _ [] _ _
    go_wp2_with fail
    go_ret
    exact ⟨rfl, hbl3⟩
end Go.Proofs.Ytoefcfpjanmnlaa
