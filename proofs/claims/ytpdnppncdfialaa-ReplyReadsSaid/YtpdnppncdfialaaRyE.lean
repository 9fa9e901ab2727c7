/-
  Own walk: the statement on what bytes are read as, over what is asked of the program.
-/
import Derived.Test.YtpdnppncdfialaaRyC
namespace Go.Proofs.Ytpdnppncdfialaa
open Go.RowKit

set_option maxRecDepth 1000000 in
set_option maxHeartbeats 8000000 in
theorem replyReads_short (S : RySpec) (v : Value) (L : List UInt8) (r : Ry) (w : World) (hrow0 : RowAt encB 1 w v L) (hL : L.length ≤ 150) (hf : FitsY r) : Calls Try.prog 4 #[v, .agg (encY r).toArray] w fun e w' => e = .returned (.bool true) ∧ Below w.heap.size w w' := by
  have zR := zE_ry
  have lR := encY_len r
  have lZ := encY_len zeroY
  have lX : Hid (∀ x : Ry, (encY x).length = 9) := encY_len
  obtain ⟨k9, hk9⟩ : ∃ k, k = 9 := ⟨_, rfl⟩
  rw [← hk9] at zR lR lZ lX
  replace hk9 := Lib.hid hk9
  obtain ⟨wA, hwA⟩ : ∃ wA, wA = w.alloc (.cells (encY r).toArray 24) := ⟨_, rfl⟩
  have hb0 : Below w.heap.size w wA := by rw [hwA]; exact (Below.refl _ _).alloc (Nat.le_refl _) _
  have hR0 : wA.heap[w.heap.size]? = some (.cells (encY r).toArray 24 (0, 0)) := by rw [hwA]; exact heap_alloc_new w _
  have hsA : wA.heap.size = w.heap.size + 1 := by rw [hwA]; simp
  have h4 := fun W => awakeY_any S W
  have hg := ry_guard
  have hz0 : ∀ W, (binOp .eql 24 (.agg (encY zeroY).toArray) (.agg #[.int .i64 0, .int .i64 0, .int .i64 0, .int .i64 0, .int .i64 0, .int .i64 0, .int .i64 0, .int .i64 0, .int .i64 0])).run Try.prog W = .ok (.bool true) W := fun W => ry_eql zeroY zeroY W
  have HS : Hid (∀ (x : Ry) (W : World), Sem.run Try.prog (storeCells ⟨W.heap.size, 0, none⟩ (encY x) 0) (W.alloc (.cells #[.int .i64 0, .int .i64 0, .int .i64 0, .int .i64 0, .int .i64 0, .int .i64 0, .int .i64 0, .int .i64 0, .int .i64 0] 24)) = .ok () (W.alloc (.cells (encY x).toArray 24))) := fun x W => store_new W W.heap.size (encY x) (encY zeroY) 24 rfl (by rw [encY_len, encY_len]) (encY_one _)
  have hrow : RowAt encB 1 wA v L := hrow0.below hb0
  clear hrow0
  obtain ⟨ao, cap, rfl, _, _, _⟩ := (show RowAt encB 1 wA v L from hrow)
  obtain ⟨m, hmL⟩ : ∃ m, L.length = m := ⟨_, rfl⟩
  rw [hmL] at hrow hL ⊢
  have hm1 := hL
  have t0 : ¬ (150 : Int) < (m : Int) := by omega
  clear hL
  have h1 := S.read _ L wA hrow (by rw [hmL]; exact hm1)
  have h5 := fun W => bytesY_any r hf W
  rw [hwA] at h1
  replace hmL := Lib.hid hmL
  replace hrow := Lib.hid hrow
  clear S
  go_enter Try.func4, Try.ntmps4
  go_wp2_with fail
  go_at_call 7
  refine h1.mono ?_
  clear h1
  rintro e w5 ⟨x, q, rfl, hxq, hB5⟩
  rw [← hwA] at hB5
  have st5 := HS.out x w5
  have hb5 : Below w.heap.size w w5 := hb0.trans (hB5.mono (by omega))
  obtain ⟨w6, hw6⟩ : ∃ w6, w6 = w5.alloc (.cells (encY x).toArray 24) := ⟨_, rfl⟩
  have hb6 : Hid (Below w.heap.size w w6) := by show Below _ _ _; rw [hw6]; exact hb5.alloc hb5.size _
  have hR6 : Hid (w6.heap[w.heap.size]? = some (.cells (encY r).toArray 24 (0, 0))) := by show _ = _; rw [hw6]; exact heap_past ((hB5.block _ (by omega)).trans hR0)
  have hX6 : Hid (w6.heap[w5.heap.size]? = some (.cells (encY x).toArray 24 (0, 0))) := by show _ = _; rw [hw6]; exact heap_alloc_new w5 _
  have hrow6 : Hid (RowAt encB 1 w6 (.slice ao m cap) L) := (hrow.out.below hB5).below (by rw [hw6]; exact (Below.refl _ _).alloc (Nat.le_refl _) _)
  have hcv : Hid (∀ W, Below w6.heap.size w6 W → (convert 25 9 (.slice ao m cap)).run Try.prog W = .ok (.string (str L)) W) := fun W hW => conv_row (hrow6.out.below hW)
  replace hwA := Lib.hid hwA
  clear hB5 hb5 hb0 hR0 hsA hrow hrow6
  rcases hxq with ⟨fx, ex, rfl⟩ | ⟨no, rfl, hq⟩
  · have lx := lX.out x
    have g2 := fun W => bytesY_any x fx W
    rw [ex] at g2
    clear fx ex
    generalize str L = TL at *
    go_wp2_with fail
    rw [← hw6]
    replace hw6 := Lib.hid hw6
    clear HS st5
    refine Reg.region_mk 4 52 [[], [true], [false, false], [false, false, true]] [1, 1, 0, 1]
      [.minor Unit () (fun _ => .agg (encY x).toArray) (fun _ _ => True), .minor Unit () (fun _ => .string TL) (fun _ _ => True), .pure, .minor Unit () (fun _ => .string TL) (fun _ _ => True)]
      (fun W => Below w6.heap.size w6 W) (fun _ _ => True) (fun a b => Below a.heap.size a b) (by kernel_rfl) (by kernel_rfl) rfl rfl (fun vs a b h hs => trivial) ?_ ?_ ?_ ?_ ?_ ?_
    · intro a b he hb; exact hb.trans (Below.mono he hb.size)
    · intro a b he hb; exact hb.trans (Below.mono he hb.size)
    · exact ⟨⟨fun _ _ _ _ _ => trivial, fun _ _ _ _ _ => trivial⟩, ⟨fun _ _ _ _ _ => trivial, fun _ _ _ _ _ => trivial⟩, trivial, ⟨fun _ _ _ _ _ => trivial, fun _ _ _ _ _ => trivial⟩, trivial⟩
    · exact ⟨rfl, rfl, rfl, Nat.le_refl _, fun _ _ => rfl⟩
    · trivial
    dsimp only [Reg.mk, List.zip, List.zipWith, List.take]
    refine Reg.pass_minor (by rfl) (fun wz hI hF => ?_) (fun r0 => ?_)
    · unfold Reg.One
      have d0 := ry_load (k := k9) ((hI.block _ (lt_of_at hX6.out)).trans hX6.out) lx
      go_wp2_with fail
      first | exact ⟨_, rfl, rfl, Reg.Ext.refl _⟩ | exact ⟨_, rfl, ⟨(), rfl, trivial⟩, Reg.Ext.refl _⟩
    simp only [Act.put, List.setIfInBounds_toArray, List.set_cons_zero, List.set_cons_succ]; (try simp only [List.nil_append]); (try simp only [List.cons_append]); (try simp only [id])
    refine Reg.pass_minor (by rfl) (fun wz hI hF => ?_) (fun r1 => ?_)
    · unfold Reg.One
      go_wp2_with (go_at_call 8; go_must (refine (g2 _).mono ?_); rintro e w' ⟨rfl, hb5⟩)
      first | exact ⟨_, rfl, ⟨(), rfl, trivial⟩, hb5⟩ | exact ⟨_, rfl, rfl, hb5⟩
    simp only [Act.put, List.setIfInBounds_toArray, List.set_cons_zero, List.set_cons_succ]; (try simp only [List.nil_append]); (try simp only [List.cons_append]); (try simp only [id])
    repeat (refine' Reg.pass_is _ (by rfl) (fun wz => ?_) ?_; rotate_left; (go_simp; first | rfl | rw [if_neg (by omega)]); simp only [Act.put, List.setIfInBounds_toArray, List.set_cons_zero, List.set_cons_succ]; (try simp only [List.nil_append]); (try simp only [List.cons_append]); (try simp only [id]))
    refine Reg.pass_minor (by rfl) (fun wz hI hF => ?_) (fun r3 => ?_)
    · unfold Reg.One
      have hcv1 := hcv.out wz hI
      go_wp2_with fail
      first | exact ⟨_, rfl, rfl, Reg.Ext.refl _⟩ | exact ⟨_, rfl, ⟨(), rfl, trivial⟩, Reg.Ext.refl _⟩
    simp only [Act.put, List.setIfInBounds_toArray, List.set_cons_zero, List.set_cons_succ]; (try simp only [List.nil_append]); (try simp only [List.cons_append]); (try simp only [id])
    refine Reg.pass_end ?_
    intro w7 HI7 _ HF7
    clear HF7
    have hb7 := hb6.out.trans (HI7.mono hb6.out.size)
    dsimp only [List.drop]
    go_wp2_with fail
    go_at_call 9
    refine (h4 _).mono ?_
    rintro e w8 ⟨rfl, hB8⟩
    have hb8 := hb7.trans (hB8.mono hb7.size)
    go_wp2_with fail
    go_ret
    exact ⟨rfl, hb8⟩
  · have hn : ((str (encYb r)).toList == (str L).toList) = false := by
      rw [ByteArray.toList_mk, ByteArray.toList_mk]
      exact beq_eq_false_iff_ne.2 (no r hf)
    clear no hf
    generalize str L = TL at *
    generalize str (encYb r) = TR at *
    rcases hq with rfl | rfl | rfl
    · go_wp2_with fail
      rw [← hw6]
      replace hw6 := Lib.hid hw6
      clear HS st5
      refine Reg.region_mk 20 52 [[], [false], [true, true], [true, true, true], [true, true, true, true], [true, true, true, true, true], [true, true, true, true, true, true], [true, true, true, true, true, true, true], [true, true, true, true, true, true, true, true], [true, true, true, true, true, true, true, true, true], [true, true, true, true, true, true, true, true, true, true], [true, true, true, true, true, true, true, true, true, true, true], [true, true, true, true, true, true, true, true, true, true, true, true], [true, true, true, true, true, true, true, true, true, true, true, true, true], [true, true, true, true, true, true, true, true, true, true, true, true, true, true], [true, true, true, true, true, true, true, true, true, true, true, true, true, true, true], [true, true, true, true, true, true, true, true, true, true, true, true, true, true, true, true], [true, true, true, true, true, true, true, true, true, true, true, true, true, true, true, true, true], [true, true, true, true, true, true, true, true, true, true, true, true, true, true, true, true, false, false], [true, true, true, true, true, true, true, true, true, true, true, true, true, true, true, true, false, false, true]] [1, 0, 0, 0, 0, 0, 0, 0, 0, 0, 0, 0, 0, 0, 0, 0, 1, 1, 0, 1]
        [.minor Unit () (fun _ => .agg (encY zeroY).toArray) (fun _ _ => True), .pure, .pure, .pure, .pure, .pure, .pure, .pure, .pure, .pure, .pure, .pure, .pure, .pure, .pure, .pure, .minor Unit () (fun _ => .agg (encY r).toArray) (fun _ _ => True), .minor Unit () (fun _ => .string TR) (fun _ _ => True), .pure, .minor Unit () (fun _ => .string TL) (fun _ _ => True)]
        (fun W => Below w6.heap.size w6 W) (fun _ _ => True) (fun a b => Below a.heap.size a b) (by kernel_rfl) (by kernel_rfl) rfl rfl (fun vs a b h hs => trivial) ?_ ?_ ?_ ?_ ?_ ?_
      · intro a b he hb; exact hb.trans (Below.mono he hb.size)
      · intro a b he hb; exact hb.trans (Below.mono he hb.size)
      · exact ⟨⟨fun _ _ _ _ _ => trivial, fun _ _ _ _ _ => trivial⟩, trivial, trivial, trivial, trivial, trivial, trivial, trivial, trivial, trivial, trivial, trivial, trivial, trivial, trivial, trivial, ⟨fun _ _ _ _ _ => trivial, fun _ _ _ _ _ => trivial⟩, ⟨fun _ _ _ _ _ => trivial, fun _ _ _ _ _ => trivial⟩, trivial, ⟨fun _ _ _ _ _ => trivial, fun _ _ _ _ _ => trivial⟩, trivial⟩
      · exact ⟨rfl, rfl, rfl, Nat.le_refl _, fun _ _ => rfl⟩
      · trivial
      dsimp only [Reg.mk, List.zip, List.zipWith, List.take]
      refine Reg.pass_minor (by rfl) (fun wz hI hF => ?_) (fun r0 => ?_)
      · unfold Reg.One
        have d0 := ry_load (k := k9) ((hI.block _ (lt_of_at hX6.out)).trans hX6.out) lZ
        go_wp2_with fail
        first | exact ⟨_, rfl, rfl, Reg.Ext.refl _⟩ | exact ⟨_, rfl, ⟨(), rfl, trivial⟩, Reg.Ext.refl _⟩
      simp only [Act.put, List.setIfInBounds_toArray, List.set_cons_zero, List.set_cons_succ]; (try simp only [List.nil_append]); (try simp only [List.cons_append]); (try simp only [id])
      repeat (refine' Reg.pass_is _ (by rfl) (fun wz => ?_) ?_; rotate_left; (go_simp; first | rfl | rw [if_neg (by omega)]); simp only [Act.put, List.setIfInBounds_toArray, List.set_cons_zero, List.set_cons_succ]; (try simp only [List.nil_append]); (try simp only [List.cons_append]); (try simp only [id]))
      refine Reg.pass_not (by rfl) ?_
      simp only [Act.put, List.setIfInBounds_toArray, List.set_cons_zero, List.set_cons_succ]; (try simp only [List.nil_append]); (try simp only [List.cons_append]); (try simp only [id])
      refine Reg.pass_not (by rfl) ?_
      simp only [Act.put, List.setIfInBounds_toArray, List.set_cons_zero, List.set_cons_succ]; (try simp only [List.nil_append]); (try simp only [List.cons_append]); (try simp only [id])
      repeat (refine' Reg.pass_is _ (by rfl) (fun wz => ?_) ?_; rotate_left; (go_simp; first | rfl | rw [if_neg (by omega)]); simp only [Act.put, List.setIfInBounds_toArray, List.set_cons_zero, List.set_cons_succ]; (try simp only [List.nil_append]); (try simp only [List.cons_append]); (try simp only [id]))
      refine Reg.pass_not (by rfl) ?_
      simp only [Act.put, List.setIfInBounds_toArray, List.set_cons_zero, List.set_cons_succ]; (try simp only [List.nil_append]); (try simp only [List.cons_append]); (try simp only [id])
      refine Reg.pass_not (by rfl) ?_
      simp only [Act.put, List.setIfInBounds_toArray, List.set_cons_zero, List.set_cons_succ]; (try simp only [List.nil_append]); (try simp only [List.cons_append]); (try simp only [id])
      repeat (refine' Reg.pass_is _ (by rfl) (fun wz => ?_) ?_; rotate_left; (go_simp; first | rfl | rw [if_neg (by omega)]); simp only [Act.put, List.setIfInBounds_toArray, List.set_cons_zero, List.set_cons_succ]; (try simp only [List.nil_append]); (try simp only [List.cons_append]); (try simp only [id]))
      refine Reg.pass_minor (by rfl) (fun wz hI hF => ?_) (fun r16 => ?_)
      · unfold Reg.One
        have d0 := ry_load (k := k9) ((hI.block _ (lt_of_at hR6.out)).trans hR6.out) lR
        go_wp2_with fail
        first | exact ⟨_, rfl, rfl, Reg.Ext.refl _⟩ | exact ⟨_, rfl, ⟨(), rfl, trivial⟩, Reg.Ext.refl _⟩
      simp only [Act.put, List.setIfInBounds_toArray, List.set_cons_zero, List.set_cons_succ]; (try simp only [List.nil_append]); (try simp only [List.cons_append]); (try simp only [id])
      refine Reg.pass_minor (by rfl) (fun wz hI hF => ?_) (fun r17 => ?_)
      · unfold Reg.One
        go_wp2_with (go_at_call 8; go_must (refine (h5 _).mono ?_); rintro e w' ⟨rfl, hb5⟩)
        first | exact ⟨_, rfl, ⟨(), rfl, trivial⟩, hb5⟩ | exact ⟨_, rfl, rfl, hb5⟩
      simp only [Act.put, List.setIfInBounds_toArray, List.set_cons_zero, List.set_cons_succ]; (try simp only [List.nil_append]); (try simp only [List.cons_append]); (try simp only [id])
      repeat (refine' Reg.pass_is _ (by rfl) (fun wz => ?_) ?_; rotate_left; (go_simp; first | rfl | rw [if_neg (by omega)]); simp only [Act.put, List.setIfInBounds_toArray, List.set_cons_zero, List.set_cons_succ]; (try simp only [List.nil_append]); (try simp only [List.cons_append]); (try simp only [id]))
      refine Reg.pass_minor (by rfl) (fun wz hI hF => ?_) (fun r19 => ?_)
      · unfold Reg.One
        have hcv1 := hcv.out wz hI
        go_wp2_with fail
        first | exact ⟨_, rfl, rfl, Reg.Ext.refl _⟩ | exact ⟨_, rfl, ⟨(), rfl, trivial⟩, Reg.Ext.refl _⟩
      simp only [Act.put, List.setIfInBounds_toArray, List.set_cons_zero, List.set_cons_succ]; (try simp only [List.nil_append]); (try simp only [List.cons_append]); (try simp only [id])
      refine Reg.pass_end ?_
      intro w7 HI7 _ HF7
      clear HF7
      have hb7 := hb6.out.trans (HI7.mono hb6.out.size)
      dsimp only [List.drop]
      go_wp2_with fail
      go_at_call 9
      refine (h4 _).mono ?_
      rintro e w8 ⟨rfl, hB8⟩
      have hb8 := hb7.trans (hB8.mono hb7.size)
      go_wp2_with fail
      go_ret
      exact ⟨rfl, hb8⟩
    · go_wp2_with fail
      rw [← hw6]
      replace hw6 := Lib.hid hw6
      clear HS st5
      refine Reg.region_mk 20 52 [[], [false], [true, true], [true, true, true], [true, true, true, true], [true, true, true, true, true], [true, true, true, true, true, true], [true, true, true, true, true, true, true], [true, true, true, true, true, true, true, true], [true, true, true, true, true, true, true, true, true], [true, true, true, true, true, true, true, true, true, true], [true, true, true, true, true, true, true, true, true, true, true], [true, true, true, true, true, true, true, true, true, true, true, true], [true, true, true, true, true, true, true, true, true, true, true, true, true], [true, true, true, true, true, true, true, true, true, true, true, true, true, true], [true, true, true, true, true, true, true, true, true, true, true, true, true, true, true], [true, true, true, true, true, true, true, true, true, true, true, true, true, true, true, true], [true, true, true, true, true, true, true, true, true, true, true, true, true, true, true, true, true], [true, true, true, true, true, true, true, true, true, true, true, true, true, true, true, true, false, false], [true, true, true, true, true, true, true, true, true, true, true, true, true, true, true, true, false, false, true]] [1, 0, 0, 0, 0, 0, 0, 0, 0, 0, 0, 0, 0, 0, 0, 0, 1, 1, 0, 1]
        [.minor Unit () (fun _ => .agg (encY zeroY).toArray) (fun _ _ => True), .pure, .pure, .pure, .pure, .pure, .pure, .pure, .pure, .pure, .pure, .pure, .pure, .pure, .pure, .pure, .minor Unit () (fun _ => .agg (encY r).toArray) (fun _ _ => True), .minor Unit () (fun _ => .string TR) (fun _ _ => True), .pure, .minor Unit () (fun _ => .string TL) (fun _ _ => True)]
        (fun W => Below w6.heap.size w6 W) (fun _ _ => True) (fun a b => Below a.heap.size a b) (by kernel_rfl) (by kernel_rfl) rfl rfl (fun vs a b h hs => trivial) ?_ ?_ ?_ ?_ ?_ ?_
      · intro a b he hb; exact hb.trans (Below.mono he hb.size)
      · intro a b he hb; exact hb.trans (Below.mono he hb.size)
      · exact ⟨⟨fun _ _ _ _ _ => trivial, fun _ _ _ _ _ => trivial⟩, trivial, trivial, trivial, trivial, trivial, trivial, trivial, trivial, trivial, trivial, trivial, trivial, trivial, trivial, trivial, ⟨fun _ _ _ _ _ => trivial, fun _ _ _ _ _ => trivial⟩, ⟨fun _ _ _ _ _ => trivial, fun _ _ _ _ _ => trivial⟩, trivial, ⟨fun _ _ _ _ _ => trivial, fun _ _ _ _ _ => trivial⟩, trivial⟩
      · exact ⟨rfl, rfl, rfl, Nat.le_refl _, fun _ _ => rfl⟩
      · trivial
      dsimp only [Reg.mk, List.zip, List.zipWith, List.take]
      refine Reg.pass_minor (by rfl) (fun wz hI hF => ?_) (fun r0 => ?_)
      · unfold Reg.One
        have d0 := ry_load (k := k9) ((hI.block _ (lt_of_at hX6.out)).trans hX6.out) lZ
        go_wp2_with fail
        first | exact ⟨_, rfl, rfl, Reg.Ext.refl _⟩ | exact ⟨_, rfl, ⟨(), rfl, trivial⟩, Reg.Ext.refl _⟩
      simp only [Act.put, List.setIfInBounds_toArray, List.set_cons_zero, List.set_cons_succ]; (try simp only [List.nil_append]); (try simp only [List.cons_append]); (try simp only [id])
      repeat (refine' Reg.pass_is _ (by rfl) (fun wz => ?_) ?_; rotate_left; (go_simp; first | rfl | rw [if_neg (by omega)]); simp only [Act.put, List.setIfInBounds_toArray, List.set_cons_zero, List.set_cons_succ]; (try simp only [List.nil_append]); (try simp only [List.cons_append]); (try simp only [id]))
      refine Reg.pass_not (by rfl) ?_
      simp only [Act.put, List.setIfInBounds_toArray, List.set_cons_zero, List.set_cons_succ]; (try simp only [List.nil_append]); (try simp only [List.cons_append]); (try simp only [id])
      refine Reg.pass_not (by rfl) ?_
      simp only [Act.put, List.setIfInBounds_toArray, List.set_cons_zero, List.set_cons_succ]; (try simp only [List.nil_append]); (try simp only [List.cons_append]); (try simp only [id])
      repeat (refine' Reg.pass_is _ (by rfl) (fun wz => ?_) ?_; rotate_left; (go_simp; first | rfl | rw [if_neg (by omega)]); simp only [Act.put, List.setIfInBounds_toArray, List.set_cons_zero, List.set_cons_succ]; (try simp only [List.nil_append]); (try simp only [List.cons_append]); (try simp only [id]))
      refine Reg.pass_minor (by rfl) (fun wz hI hF => ?_) (fun r16 => ?_)
      · unfold Reg.One
        have d0 := ry_load (k := k9) ((hI.block _ (lt_of_at hR6.out)).trans hR6.out) lR
        go_wp2_with fail
        first | exact ⟨_, rfl, rfl, Reg.Ext.refl _⟩ | exact ⟨_, rfl, ⟨(), rfl, trivial⟩, Reg.Ext.refl _⟩
      simp only [Act.put, List.setIfInBounds_toArray, List.set_cons_zero, List.set_cons_succ]; (try simp only [List.nil_append]); (try simp only [List.cons_append]); (try simp only [id])
      refine Reg.pass_minor (by rfl) (fun wz hI hF => ?_) (fun r17 => ?_)
      · unfold Reg.One
        go_wp2_with (go_at_call 8; go_must (refine (h5 _).mono ?_); rintro e w' ⟨rfl, hb5⟩)
        first | exact ⟨_, rfl, ⟨(), rfl, trivial⟩, hb5⟩ | exact ⟨_, rfl, rfl, hb5⟩
      simp only [Act.put, List.setIfInBounds_toArray, List.set_cons_zero, List.set_cons_succ]; (try simp only [List.nil_append]); (try simp only [List.cons_append]); (try simp only [id])
      repeat (refine' Reg.pass_is _ (by rfl) (fun wz => ?_) ?_; rotate_left; (go_simp; first | rfl | rw [if_neg (by omega)]); simp only [Act.put, List.setIfInBounds_toArray, List.set_cons_zero, List.set_cons_succ]; (try simp only [List.nil_append]); (try simp only [List.cons_append]); (try simp only [id]))
      refine Reg.pass_minor (by rfl) (fun wz hI hF => ?_) (fun r19 => ?_)
      · unfold Reg.One
        have hcv1 := hcv.out wz hI
        go_wp2_with fail
        first | exact ⟨_, rfl, rfl, Reg.Ext.refl _⟩ | exact ⟨_, rfl, ⟨(), rfl, trivial⟩, Reg.Ext.refl _⟩
      simp only [Act.put, List.setIfInBounds_toArray, List.set_cons_zero, List.set_cons_succ]; (try simp only [List.nil_append]); (try simp only [List.cons_append]); (try simp only [id])
      refine Reg.pass_end ?_
      intro w7 HI7 _ HF7
      clear HF7
      have hb7 := hb6.out.trans (HI7.mono hb6.out.size)
      dsimp only [List.drop]
      go_wp2_with fail
      go_at_call 9
      refine (h4 _).mono ?_
      rintro e w8 ⟨rfl, hB8⟩
      have hb8 := hb7.trans (hB8.mono hb7.size)
      go_wp2_with fail
      go_ret
      exact ⟨rfl, hb8⟩
    · go_wp2_with fail
      rw [← hw6]
      replace hw6 := Lib.hid hw6
      clear HS st5
      refine Reg.region_mk 20 52 [[], [false], [true, true], [true, true, true], [true, true, true, true], [true, true, true, true, true], [true, true, true, true, true, true], [true, true, true, true, true, true, true], [true, true, true, true, true, true, true, true], [true, true, true, true, true, true, true, true, true], [true, true, true, true, true, true, true, true, true, true], [true, true, true, true, true, true, true, true, true, true, true], [true, true, true, true, true, true, true, true, true, true, true, true], [true, true, true, true, true, true, true, true, true, true, true, true, true], [true, true, true, true, true, true, true, true, true, true, true, true, true, true], [true, true, true, true, true, true, true, true, true, true, true, true, true, true, true], [true, true, true, true, true, true, true, true, true, true, true, true, true, true, true, true], [true, true, true, true, true, true, true, true, true, true, true, true, true, true, true, true, true], [true, true, true, true, true, true, true, true, true, true, true, true, true, true, true, true, false, false], [true, true, true, true, true, true, true, true, true, true, true, true, true, true, true, true, false, false, true]] [1, 0, 0, 0, 0, 0, 0, 0, 0, 0, 0, 0, 0, 0, 0, 0, 1, 1, 0, 1]
        [.minor Unit () (fun _ => .agg (encY zeroY).toArray) (fun _ _ => True), .pure, .pure, .pure, .pure, .pure, .pure, .pure, .pure, .pure, .pure, .pure, .pure, .pure, .pure, .pure, .minor Unit () (fun _ => .agg (encY r).toArray) (fun _ _ => True), .minor Unit () (fun _ => .string TR) (fun _ _ => True), .pure, .minor Unit () (fun _ => .string TL) (fun _ _ => True)]
        (fun W => Below w6.heap.size w6 W) (fun _ _ => True) (fun a b => Below a.heap.size a b) (by kernel_rfl) (by kernel_rfl) rfl rfl (fun vs a b h hs => trivial) ?_ ?_ ?_ ?_ ?_ ?_
      · intro a b he hb; exact hb.trans (Below.mono he hb.size)
      · intro a b he hb; exact hb.trans (Below.mono he hb.size)
      · exact ⟨⟨fun _ _ _ _ _ => trivial, fun _ _ _ _ _ => trivial⟩, trivial, trivial, trivial, trivial, trivial, trivial, trivial, trivial, trivial, trivial, trivial, trivial, trivial, trivial, trivial, ⟨fun _ _ _ _ _ => trivial, fun _ _ _ _ _ => trivial⟩, ⟨fun _ _ _ _ _ => trivial, fun _ _ _ _ _ => trivial⟩, trivial, ⟨fun _ _ _ _ _ => trivial, fun _ _ _ _ _ => trivial⟩, trivial⟩
      · exact ⟨rfl, rfl, rfl, Nat.le_refl _, fun _ _ => rfl⟩
      · trivial
      dsimp only [Reg.mk, List.zip, List.zipWith, List.take]
      refine Reg.pass_minor (by rfl) (fun wz hI hF => ?_) (fun r0 => ?_)
      · unfold Reg.One
        have d0 := ry_load (k := k9) ((hI.block _ (lt_of_at hX6.out)).trans hX6.out) lZ
        go_wp2_with fail
        first | exact ⟨_, rfl, rfl, Reg.Ext.refl _⟩ | exact ⟨_, rfl, ⟨(), rfl, trivial⟩, Reg.Ext.refl _⟩
      simp only [Act.put, List.setIfInBounds_toArray, List.set_cons_zero, List.set_cons_succ]; (try simp only [List.nil_append]); (try simp only [List.cons_append]); (try simp only [id])
      repeat (refine' Reg.pass_is _ (by rfl) (fun wz => ?_) ?_; rotate_left; (go_simp; first | rfl | rw [if_neg (by omega)]); simp only [Act.put, List.setIfInBounds_toArray, List.set_cons_zero, List.set_cons_succ]; (try simp only [List.nil_append]); (try simp only [List.cons_append]); (try simp only [id]))
      refine Reg.pass_minor (by rfl) (fun wz hI hF => ?_) (fun r16 => ?_)
      · unfold Reg.One
        have d0 := ry_load (k := k9) ((hI.block _ (lt_of_at hR6.out)).trans hR6.out) lR
        go_wp2_with fail
        first | exact ⟨_, rfl, rfl, Reg.Ext.refl _⟩ | exact ⟨_, rfl, ⟨(), rfl, trivial⟩, Reg.Ext.refl _⟩
      simp only [Act.put, List.setIfInBounds_toArray, List.set_cons_zero, List.set_cons_succ]; (try simp only [List.nil_append]); (try simp only [List.cons_append]); (try simp only [id])
      refine Reg.pass_minor (by rfl) (fun wz hI hF => ?_) (fun r17 => ?_)
      · unfold Reg.One
        go_wp2_with (go_at_call 8; go_must (refine (h5 _).mono ?_); rintro e w' ⟨rfl, hb5⟩)
        first | exact ⟨_, rfl, ⟨(), rfl, trivial⟩, hb5⟩ | exact ⟨_, rfl, rfl, hb5⟩
      simp only [Act.put, List.setIfInBounds_toArray, List.set_cons_zero, List.set_cons_succ]; (try simp only [List.nil_append]); (try simp only [List.cons_append]); (try simp only [id])
      repeat (refine' Reg.pass_is _ (by rfl) (fun wz => ?_) ?_; rotate_left; (go_simp; first | rfl | rw [if_neg (by omega)]); simp only [Act.put, List.setIfInBounds_toArray, List.set_cons_zero, List.set_cons_succ]; (try simp only [List.nil_append]); (try simp only [List.cons_append]); (try simp only [id]))
      refine Reg.pass_minor (by rfl) (fun wz hI hF => ?_) (fun r19 => ?_)
      · unfold Reg.One
        have hcv1 := hcv.out wz hI
        go_wp2_with fail
        first | exact ⟨_, rfl, rfl, Reg.Ext.refl _⟩ | exact ⟨_, rfl, ⟨(), rfl, trivial⟩, Reg.Ext.refl _⟩
      simp only [Act.put, List.setIfInBounds_toArray, List.set_cons_zero, List.set_cons_succ]; (try simp only [List.nil_append]); (try simp only [List.cons_append]); (try simp only [id])
      refine Reg.pass_end ?_
      intro w7 HI7 _ HF7
      clear HF7
      have hb7 := hb6.out.trans (HI7.mono hb6.out.size)
      dsimp only [List.drop]
      go_wp2_with fail
      go_at_call 9
      refine (h4 _).mono ?_
      rintro e w8 ⟨rfl, hB8⟩
      have hb8 := hb7.trans (hB8.mono hb7.size)
      go_wp2_with fail
      go_ret
      exact ⟨rfl, hb8⟩

set_option maxRecDepth 1000000 in
set_option maxHeartbeats 8000000 in
theorem replyReads_long (S : RySpec) (v : Value) (L0 : List UInt8) (r : Ry) (w : World) (hrow0 : RowAt encB 1 w v L0) (hL : 150 < L0.length) (hf : FitsY r) : Calls Try.prog 4 #[v, .agg (encY r).toArray] w fun e w' => e = .returned (.bool true) ∧ Below w.heap.size w w' := by
  have zR := zE_ry
  have lR := encY_len r
  have lZ := encY_len zeroY
  have lX : Hid (∀ x : Ry, (encY x).length = 9) := encY_len
  obtain ⟨k9, hk9⟩ : ∃ k, k = 9 := ⟨_, rfl⟩
  rw [← hk9] at zR lR lZ lX
  replace hk9 := Lib.hid hk9
  obtain ⟨wA, hwA⟩ : ∃ wA, wA = w.alloc (.cells (encY r).toArray 24) := ⟨_, rfl⟩
  have hb0 : Below w.heap.size w wA := by rw [hwA]; exact (Below.refl _ _).alloc (Nat.le_refl _) _
  have hR0 : wA.heap[w.heap.size]? = some (.cells (encY r).toArray 24 (0, 0)) := by rw [hwA]; exact heap_alloc_new w _
  have hsA : wA.heap.size = w.heap.size + 1 := by rw [hwA]; simp
  have h4 := fun W => awakeY_any S W
  have hg := ry_guard
  have hz0 : ∀ W, (binOp .eql 24 (.agg (encY zeroY).toArray) (.agg #[.int .i64 0, .int .i64 0, .int .i64 0, .int .i64 0, .int .i64 0, .int .i64 0, .int .i64 0, .int .i64 0, .int .i64 0])).run Try.prog W = .ok (.bool true) W := fun W => ry_eql zeroY zeroY W
  have HS : Hid (∀ (x : Ry) (W : World), Sem.run Try.prog (storeCells ⟨W.heap.size, 0, none⟩ (encY x) 0) (W.alloc (.cells #[.int .i64 0, .int .i64 0, .int .i64 0, .int .i64 0, .int .i64 0, .int .i64 0, .int .i64 0, .int .i64 0, .int .i64 0] 24)) = .ok () (W.alloc (.cells (encY x).toArray 24))) := fun x W => store_new W W.heap.size (encY x) (encY zeroY) 24 rfl (by rw [encY_len, encY_len]) (encY_one _)
  have hrow1 : RowAt encB 1 wA v L0 := hrow0.below hb0
  clear hrow0
  obtain ⟨ao, cap, rfl, hc1, hc2, hc3⟩ := (show RowAt encB 1 wA v L0 from hrow1)
  obtain ⟨b, off, rfl, _, _⟩ := hc3 (by omega)
  have hrow2 := hrow1.cut (n := 150) (by omega)
  have hmL0 : (L0.take 150).length = 150 := by rw [List.length_take]; omega
  obtain ⟨L, hLL⟩ : ∃ L, L = L0.take 150 := ⟨_, rfl⟩
  rw [← hLL] at hrow2 hmL0
  obtain ⟨n, hn⟩ : ∃ n, L0.length = n := ⟨_, rfl⟩
  rw [hn] at hL hc1 ⊢
  have t0 : (150 : Int) < (n : Int) := by omega
  have hcap : 150 ≤ cap := by omega
  have hcM : cap ≤ 9223372036854775807 := by unfold maxLen at hc2; omega
  clear hrow1 hc2 hn hLL hL
  obtain ⟨ao, hao⟩ : ∃ ao, ao = some (⟨b, off, none⟩ : Addr) := ⟨_, rfl⟩
  obtain ⟨m, hmm⟩ : ∃ m : Nat, m = 150 := ⟨_, rfl⟩
  have hrow : RowAt encB 1 wA (.slice ao m cap) L := by rw [hao, hmm]; exact hrow2
  have hmL : L.length = m := by rw [hmL0, hmm]
  have hm1 : m ≤ 150 := by omega
  subst hao hmm
  clear hrow2 hmL0
  have h1 := S.read _ L wA hrow (by rw [hmL]; exact hm1)
  have h5 := fun W => bytesY_any r hf W
  rw [hwA] at h1
  replace hmL := Lib.hid hmL
  replace hrow := Lib.hid hrow
  clear S
  go_enter Try.func4, Try.ntmps4
  go_wp2_with fail
  go_at_call 7
  refine h1.mono ?_
  clear h1
  rintro e w5 ⟨x, q, rfl, hxq, hB5⟩
  rw [← hwA] at hB5
  have st5 := HS.out x w5
  have hb5 : Below w.heap.size w w5 := hb0.trans (hB5.mono (by omega))
  obtain ⟨w6, hw6⟩ : ∃ w6, w6 = w5.alloc (.cells (encY x).toArray 24) := ⟨_, rfl⟩
  have hb6 : Hid (Below w.heap.size w w6) := by show Below _ _ _; rw [hw6]; exact hb5.alloc hb5.size _
  have hR6 : Hid (w6.heap[w.heap.size]? = some (.cells (encY r).toArray 24 (0, 0))) := by show _ = _; rw [hw6]; exact heap_past ((hB5.block _ (by omega)).trans hR0)
  have hX6 : Hid (w6.heap[w5.heap.size]? = some (.cells (encY x).toArray 24 (0, 0))) := by show _ = _; rw [hw6]; exact heap_alloc_new w5 _
  have hrow6 : Hid (RowAt encB 1 w6 (.slice (some ⟨b, off, none⟩) 150 cap) L) := (hrow.out.below hB5).below (by rw [hw6]; exact (Below.refl _ _).alloc (Nat.le_refl _) _)
  have hcv : Hid (∀ W, Below w6.heap.size w6 W → (convert 25 9 (.slice (some ⟨b, off, none⟩) 150 cap)).run Try.prog W = .ok (.string (str L)) W) := fun W hW => conv_row (hrow6.out.below hW)
  replace hwA := Lib.hid hwA
  clear hB5 hb5 hb0 hR0 hsA hrow hrow6
  rcases hxq with ⟨fx, ex, rfl⟩ | ⟨no, rfl, hq⟩
  · have lx := lX.out x
    have g2 := fun W => bytesY_any x fx W
    rw [ex] at g2
    clear fx ex
    generalize str L = TL at *
    go_wp2_with fail
    rw [← hw6]
    replace hw6 := Lib.hid hw6
    clear HS st5
    refine Reg.region_mk 4 52 [[], [true], [false, false], [false, false, true]] [1, 1, 0, 1]
      [.minor Unit () (fun _ => .agg (encY x).toArray) (fun _ _ => True), .minor Unit () (fun _ => .string TL) (fun _ _ => True), .pure, .minor Unit () (fun _ => .string TL) (fun _ _ => True)]
      (fun W => Below w6.heap.size w6 W) (fun _ _ => True) (fun a b => Below a.heap.size a b) (by kernel_rfl) (by kernel_rfl) rfl rfl (fun vs a b h hs => trivial) ?_ ?_ ?_ ?_ ?_ ?_
    · intro a b he hb; exact hb.trans (Below.mono he hb.size)
    · intro a b he hb; exact hb.trans (Below.mono he hb.size)
    · exact ⟨⟨fun _ _ _ _ _ => trivial, fun _ _ _ _ _ => trivial⟩, ⟨fun _ _ _ _ _ => trivial, fun _ _ _ _ _ => trivial⟩, trivial, ⟨fun _ _ _ _ _ => trivial, fun _ _ _ _ _ => trivial⟩, trivial⟩
    · exact ⟨rfl, rfl, rfl, Nat.le_refl _, fun _ _ => rfl⟩
    · trivial
    dsimp only [Reg.mk, List.zip, List.zipWith, List.take]
    refine Reg.pass_minor (by rfl) (fun wz hI hF => ?_) (fun r0 => ?_)
    · unfold Reg.One
      have d0 := ry_load (k := k9) ((hI.block _ (lt_of_at hX6.out)).trans hX6.out) lx
      go_wp2_with fail
      first | exact ⟨_, rfl, rfl, Reg.Ext.refl _⟩ | exact ⟨_, rfl, ⟨(), rfl, trivial⟩, Reg.Ext.refl _⟩
    simp only [Act.put, List.setIfInBounds_toArray, List.set_cons_zero, List.set_cons_succ]; (try simp only [List.nil_append]); (try simp only [List.cons_append]); (try simp only [id])
    refine Reg.pass_minor (by rfl) (fun wz hI hF => ?_) (fun r1 => ?_)
    · unfold Reg.One
      go_wp2_with (go_at_call 8; go_must (refine (g2 _).mono ?_); rintro e w' ⟨rfl, hb5⟩)
      first | exact ⟨_, rfl, ⟨(), rfl, trivial⟩, hb5⟩ | exact ⟨_, rfl, rfl, hb5⟩
    simp only [Act.put, List.setIfInBounds_toArray, List.set_cons_zero, List.set_cons_succ]; (try simp only [List.nil_append]); (try simp only [List.cons_append]); (try simp only [id])
    repeat (refine' Reg.pass_is _ (by rfl) (fun wz => ?_) ?_; rotate_left; (go_simp; first | rfl | rw [if_neg (by omega)]); simp only [Act.put, List.setIfInBounds_toArray, List.set_cons_zero, List.set_cons_succ]; (try simp only [List.nil_append]); (try simp only [List.cons_append]); (try simp only [id]))
    refine Reg.pass_minor (by rfl) (fun wz hI hF => ?_) (fun r3 => ?_)
    · unfold Reg.One
      have hcv1 := hcv.out wz hI
      go_wp2_with fail
      first | exact ⟨_, rfl, rfl, Reg.Ext.refl _⟩ | exact ⟨_, rfl, ⟨(), rfl, trivial⟩, Reg.Ext.refl _⟩
    simp only [Act.put, List.setIfInBounds_toArray, List.set_cons_zero, List.set_cons_succ]; (try simp only [List.nil_append]); (try simp only [List.cons_append]); (try simp only [id])
    refine Reg.pass_end ?_
    intro w7 HI7 _ HF7
    clear HF7
    have hb7 := hb6.out.trans (HI7.mono hb6.out.size)
    dsimp only [List.drop]
    go_wp2_with fail
    go_at_call 9
    refine (h4 _).mono ?_
    rintro e w8 ⟨rfl, hB8⟩
    have hb8 := hb7.trans (hB8.mono hb7.size)
    go_wp2_with fail
    go_ret
    exact ⟨rfl, hb8⟩
  · have hn : ((str (encYb r)).toList == (str L).toList) = false := by
      rw [ByteArray.toList_mk, ByteArray.toList_mk]
      exact beq_eq_false_iff_ne.2 (no r hf)
    clear no hf
    generalize str L = TL at *
    generalize str (encYb r) = TR at *
    rcases hq with rfl | rfl | rfl
    · go_wp2_with fail
      rw [← hw6]
      replace hw6 := Lib.hid hw6
      clear HS st5
      refine Reg.region_mk 20 52 [[], [false], [true, true], [true, true, true], [true, true, true, true], [true, true, true, true, true], [true, true, true, true, true, true], [true, true, true, true, true, true, true], [true, true, true, true, true, true, true, true], [true, true, true, true, true, true, true, true, true], [true, true, true, true, true, true, true, true, true, true], [true, true, true, true, true, true, true, true, true, true, true], [true, true, true, true, true, true, true, true, true, true, true, true], [true, true, true, true, true, true, true, true, true, true, true, true, true], [true, true, true, true, true, true, true, true, true, true, true, true, true, true], [true, true, true, true, true, true, true, true, true, true, true, true, true, true, true], [true, true, true, true, true, true, true, true, true, true, true, true, true, true, true, true], [true, true, true, true, true, true, true, true, true, true, true, true, true, true, true, true, true], [true, true, true, true, true, true, true, true, true, true, true, true, true, true, true, true, false, false], [true, true, true, true, true, true, true, true, true, true, true, true, true, true, true, true, false, false, true]] [1, 0, 0, 0, 0, 0, 0, 0, 0, 0, 0, 0, 0, 0, 0, 0, 1, 1, 0, 1]
        [.minor Unit () (fun _ => .agg (encY zeroY).toArray) (fun _ _ => True), .pure, .pure, .pure, .pure, .pure, .pure, .pure, .pure, .pure, .pure, .pure, .pure, .pure, .pure, .pure, .minor Unit () (fun _ => .agg (encY r).toArray) (fun _ _ => True), .minor Unit () (fun _ => .string TR) (fun _ _ => True), .pure, .minor Unit () (fun _ => .string TL) (fun _ _ => True)]
        (fun W => Below w6.heap.size w6 W) (fun _ _ => True) (fun a b => Below a.heap.size a b) (by kernel_rfl) (by kernel_rfl) rfl rfl (fun vs a b h hs => trivial) ?_ ?_ ?_ ?_ ?_ ?_
      · intro a b he hb; exact hb.trans (Below.mono he hb.size)
      · intro a b he hb; exact hb.trans (Below.mono he hb.size)
      · exact ⟨⟨fun _ _ _ _ _ => trivial, fun _ _ _ _ _ => trivial⟩, trivial, trivial, trivial, trivial, trivial, trivial, trivial, trivial, trivial, trivial, trivial, trivial, trivial, trivial, trivial, ⟨fun _ _ _ _ _ => trivial, fun _ _ _ _ _ => trivial⟩, ⟨fun _ _ _ _ _ => trivial, fun _ _ _ _ _ => trivial⟩, trivial, ⟨fun _ _ _ _ _ => trivial, fun _ _ _ _ _ => trivial⟩, trivial⟩
      · exact ⟨rfl, rfl, rfl, Nat.le_refl _, fun _ _ => rfl⟩
      · trivial
      dsimp only [Reg.mk, List.zip, List.zipWith, List.take]
      refine Reg.pass_minor (by rfl) (fun wz hI hF => ?_) (fun r0 => ?_)
      · unfold Reg.One
        have d0 := ry_load (k := k9) ((hI.block _ (lt_of_at hX6.out)).trans hX6.out) lZ
        go_wp2_with fail
        first | exact ⟨_, rfl, rfl, Reg.Ext.refl _⟩ | exact ⟨_, rfl, ⟨(), rfl, trivial⟩, Reg.Ext.refl _⟩
      simp only [Act.put, List.setIfInBounds_toArray, List.set_cons_zero, List.set_cons_succ]; (try simp only [List.nil_append]); (try simp only [List.cons_append]); (try simp only [id])
      repeat (refine' Reg.pass_is _ (by rfl) (fun wz => ?_) ?_; rotate_left; (go_simp; first | rfl | rw [if_neg (by omega)]); simp only [Act.put, List.setIfInBounds_toArray, List.set_cons_zero, List.set_cons_succ]; (try simp only [List.nil_append]); (try simp only [List.cons_append]); (try simp only [id]))
      refine Reg.pass_not (by rfl) ?_
      simp only [Act.put, List.setIfInBounds_toArray, List.set_cons_zero, List.set_cons_succ]; (try simp only [List.nil_append]); (try simp only [List.cons_append]); (try simp only [id])
      refine Reg.pass_not (by rfl) ?_
      simp only [Act.put, List.setIfInBounds_toArray, List.set_cons_zero, List.set_cons_succ]; (try simp only [List.nil_append]); (try simp only [List.cons_append]); (try simp only [id])
      repeat (refine' Reg.pass_is _ (by rfl) (fun wz => ?_) ?_; rotate_left; (go_simp; first | rfl | rw [if_neg (by omega)]); simp only [Act.put, List.setIfInBounds_toArray, List.set_cons_zero, List.set_cons_succ]; (try simp only [List.nil_append]); (try simp only [List.cons_append]); (try simp only [id]))
      refine Reg.pass_not (by rfl) ?_
      simp only [Act.put, List.setIfInBounds_toArray, List.set_cons_zero, List.set_cons_succ]; (try simp only [List.nil_append]); (try simp only [List.cons_append]); (try simp only [id])
      refine Reg.pass_not (by rfl) ?_
      simp only [Act.put, List.setIfInBounds_toArray, List.set_cons_zero, List.set_cons_succ]; (try simp only [List.nil_append]); (try simp only [List.cons_append]); (try simp only [id])
      repeat (refine' Reg.pass_is _ (by rfl) (fun wz => ?_) ?_; rotate_left; (go_simp; first | rfl | rw [if_neg (by omega)]); simp only [Act.put, List.setIfInBounds_toArray, List.set_cons_zero, List.set_cons_succ]; (try simp only [List.nil_append]); (try simp only [List.cons_append]); (try simp only [id]))
      refine Reg.pass_minor (by rfl) (fun wz hI hF => ?_) (fun r16 => ?_)
      · unfold Reg.One
        have d0 := ry_load (k := k9) ((hI.block _ (lt_of_at hR6.out)).trans hR6.out) lR
        go_wp2_with fail
        first | exact ⟨_, rfl, rfl, Reg.Ext.refl _⟩ | exact ⟨_, rfl, ⟨(), rfl, trivial⟩, Reg.Ext.refl _⟩
      simp only [Act.put, List.setIfInBounds_toArray, List.set_cons_zero, List.set_cons_succ]; (try simp only [List.nil_append]); (try simp only [List.cons_append]); (try simp only [id])
      refine Reg.pass_minor (by rfl) (fun wz hI hF => ?_) (fun r17 => ?_)
      · unfold Reg.One
        go_wp2_with (go_at_call 8; go_must (refine (h5 _).mono ?_); rintro e w' ⟨rfl, hb5⟩)
        first | exact ⟨_, rfl, ⟨(), rfl, trivial⟩, hb5⟩ | exact ⟨_, rfl, rfl, hb5⟩
      simp only [Act.put, List.setIfInBounds_toArray, List.set_cons_zero, List.set_cons_succ]; (try simp only [List.nil_append]); (try simp only [List.cons_append]); (try simp only [id])
      repeat (refine' Reg.pass_is _ (by rfl) (fun wz => ?_) ?_; rotate_left; (go_simp; first | rfl | rw [if_neg (by omega)]); simp only [Act.put, List.setIfInBounds_toArray, List.set_cons_zero, List.set_cons_succ]; (try simp only [List.nil_append]); (try simp only [List.cons_append]); (try simp only [id]))
      refine Reg.pass_minor (by rfl) (fun wz hI hF => ?_) (fun r19 => ?_)
      · unfold Reg.One
        have hcv1 := hcv.out wz hI
        go_wp2_with fail
        first | exact ⟨_, rfl, rfl, Reg.Ext.refl _⟩ | exact ⟨_, rfl, ⟨(), rfl, trivial⟩, Reg.Ext.refl _⟩
      simp only [Act.put, List.setIfInBounds_toArray, List.set_cons_zero, List.set_cons_succ]; (try simp only [List.nil_append]); (try simp only [List.cons_append]); (try simp only [id])
      refine Reg.pass_end ?_
      intro w7 HI7 _ HF7
      clear HF7
      have hb7 := hb6.out.trans (HI7.mono hb6.out.size)
      dsimp only [List.drop]
      go_wp2_with fail
      go_at_call 9
      refine (h4 _).mono ?_
      rintro e w8 ⟨rfl, hB8⟩
      have hb8 := hb7.trans (hB8.mono hb7.size)
      go_wp2_with fail
      go_ret
      exact ⟨rfl, hb8⟩
    · go_wp2_with fail
      rw [← hw6]
      replace hw6 := Lib.hid hw6
      clear HS st5
      refine Reg.region_mk 20 52 [[], [false], [true, true], [true, true, true], [true, true, true, true], [true, true, true, true, true], [true, true, true, true, true, true], [true, true, true, true, true, true, true], [true, true, true, true, true, true, true, true], [true, true, true, true, true, true, true, true, true], [true, true, true, true, true, true, true, true, true, true], [true, true, true, true, true, true, true, true, true, true, true], [true, true, true, true, true, true, true, true, true, true, true, true], [true, true, true, true, true, true, true, true, true, true, true, true, true], [true, true, true, true, true, true, true, true, true, true, true, true, true, true], [true, true, true, true, true, true, true, true, true, true, true, true, true, true, true], [true, true, true, true, true, true, true, true, true, true, true, true, true, true, true, true], [true, true, true, true, true, true, true, true, true, true, true, true, true, true, true, true, true], [true, true, true, true, true, true, true, true, true, true, true, true, true, true, true, true, false, false], [true, true, true, true, true, true, true, true, true, true, true, true, true, true, true, true, false, false, true]] [1, 0, 0, 0, 0, 0, 0, 0, 0, 0, 0, 0, 0, 0, 0, 0, 1, 1, 0, 1]
        [.minor Unit () (fun _ => .agg (encY zeroY).toArray) (fun _ _ => True), .pure, .pure, .pure, .pure, .pure, .pure, .pure, .pure, .pure, .pure, .pure, .pure, .pure, .pure, .pure, .minor Unit () (fun _ => .agg (encY r).toArray) (fun _ _ => True), .minor Unit () (fun _ => .string TR) (fun _ _ => True), .pure, .minor Unit () (fun _ => .string TL) (fun _ _ => True)]
        (fun W => Below w6.heap.size w6 W) (fun _ _ => True) (fun a b => Below a.heap.size a b) (by kernel_rfl) (by kernel_rfl) rfl rfl (fun vs a b h hs => trivial) ?_ ?_ ?_ ?_ ?_ ?_
      · intro a b he hb; exact hb.trans (Below.mono he hb.size)
      · intro a b he hb; exact hb.trans (Below.mono he hb.size)
      · exact ⟨⟨fun _ _ _ _ _ => trivial, fun _ _ _ _ _ => trivial⟩, trivial, trivial, trivial, trivial, trivial, trivial, trivial, trivial, trivial, trivial, trivial, trivial, trivial, trivial, trivial, ⟨fun _ _ _ _ _ => trivial, fun _ _ _ _ _ => trivial⟩, ⟨fun _ _ _ _ _ => trivial, fun _ _ _ _ _ => trivial⟩, trivial, ⟨fun _ _ _ _ _ => trivial, fun _ _ _ _ _ => trivial⟩, trivial⟩
      · exact ⟨rfl, rfl, rfl, Nat.le_refl _, fun _ _ => rfl⟩
      · trivial
      dsimp only [Reg.mk, List.zip, List.zipWith, List.take]
      refine Reg.pass_minor (by rfl) (fun wz hI hF => ?_) (fun r0 => ?_)
      · unfold Reg.One
        have d0 := ry_load (k := k9) ((hI.block _ (lt_of_at hX6.out)).trans hX6.out) lZ
        go_wp2_with fail
        first | exact ⟨_, rfl, rfl, Reg.Ext.refl _⟩ | exact ⟨_, rfl, ⟨(), rfl, trivial⟩, Reg.Ext.refl _⟩
      simp only [Act.put, List.setIfInBounds_toArray, List.set_cons_zero, List.set_cons_succ]; (try simp only [List.nil_append]); (try simp only [List.cons_append]); (try simp only [id])
      repeat (refine' Reg.pass_is _ (by rfl) (fun wz => ?_) ?_; rotate_left; (go_simp; first | rfl | rw [if_neg (by omega)]); simp only [Act.put, List.setIfInBounds_toArray, List.set_cons_zero, List.set_cons_succ]; (try simp only [List.nil_append]); (try simp only [List.cons_append]); (try simp only [id]))
      refine Reg.pass_not (by rfl) ?_
      simp only [Act.put, List.setIfInBounds_toArray, List.set_cons_zero, List.set_cons_succ]; (try simp only [List.nil_append]); (try simp only [List.cons_append]); (try simp only [id])
      refine Reg.pass_not (by rfl) ?_
      simp only [Act.put, List.setIfInBounds_toArray, List.set_cons_zero, List.set_cons_succ]; (try simp only [List.nil_append]); (try simp only [List.cons_append]); (try simp only [id])
      repeat (refine' Reg.pass_is _ (by rfl) (fun wz => ?_) ?_; rotate_left; (go_simp; first | rfl | rw [if_neg (by omega)]); simp only [Act.put, List.setIfInBounds_toArray, List.set_cons_zero, List.set_cons_succ]; (try simp only [List.nil_append]); (try simp only [List.cons_append]); (try simp only [id]))
      refine Reg.pass_minor (by rfl) (fun wz hI hF => ?_) (fun r16 => ?_)
      · unfold Reg.One
        have d0 := ry_load (k := k9) ((hI.block _ (lt_of_at hR6.out)).trans hR6.out) lR
        go_wp2_with fail
        first | exact ⟨_, rfl, rfl, Reg.Ext.refl _⟩ | exact ⟨_, rfl, ⟨(), rfl, trivial⟩, Reg.Ext.refl _⟩
      simp only [Act.put, List.setIfInBounds_toArray, List.set_cons_zero, List.set_cons_succ]; (try simp only [List.nil_append]); (try simp only [List.cons_append]); (try simp only [id])
      refine Reg.pass_minor (by rfl) (fun wz hI hF => ?_) (fun r17 => ?_)
      · unfold Reg.One
        go_wp2_with (go_at_call 8; go_must (refine (h5 _).mono ?_); rintro e w' ⟨rfl, hb5⟩)
        first | exact ⟨_, rfl, ⟨(), rfl, trivial⟩, hb5⟩ | exact ⟨_, rfl, rfl, hb5⟩
      simp only [Act.put, List.setIfInBounds_toArray, List.set_cons_zero, List.set_cons_succ]; (try simp only [List.nil_append]); (try simp only [List.cons_append]); (try simp only [id])
      repeat (refine' Reg.pass_is _ (by rfl) (fun wz => ?_) ?_; rotate_left; (go_simp; first | rfl | rw [if_neg (by omega)]); simp only [Act.put, List.setIfInBounds_toArray, List.set_cons_zero, List.set_cons_succ]; (try simp only [List.nil_append]); (try simp only [List.cons_append]); (try simp only [id]))
      refine Reg.pass_minor (by rfl) (fun wz hI hF => ?_) (fun r19 => ?_)
      · unfold Reg.One
        have hcv1 := hcv.out wz hI
        go_wp2_with fail
        first | exact ⟨_, rfl, rfl, Reg.Ext.refl _⟩ | exact ⟨_, rfl, ⟨(), rfl, trivial⟩, Reg.Ext.refl _⟩
      simp only [Act.put, List.setIfInBounds_toArray, List.set_cons_zero, List.set_cons_succ]; (try simp only [List.nil_append]); (try simp only [List.cons_append]); (try simp only [id])
      refine Reg.pass_end ?_
      intro w7 HI7 _ HF7
      clear HF7
      have hb7 := hb6.out.trans (HI7.mono hb6.out.size)
      dsimp only [List.drop]
      go_wp2_with fail
      go_at_call 9
      refine (h4 _).mono ?_
      rintro e w8 ⟨rfl, hB8⟩
      have hb8 := hb7.trans (hB8.mono hb7.size)
      go_wp2_with fail
      go_ret
      exact ⟨rfl, hb8⟩
    · go_wp2_with fail
      rw [← hw6]
      replace hw6 := Lib.hid hw6
      clear HS st5
      refine Reg.region_mk 20 52 [[], [false], [true, true], [true, true, true], [true, true, true, true], [true, true, true, true, true], [true, true, true, true, true, true], [true, true, true, true, true, true, true], [true, true, true, true, true, true, true, true], [true, true, true, true, true, true, true, true, true], [true, true, true, true, true, true, true, true, true, true], [true, true, true, true, true, true, true, true, true, true, true], [true, true, true, true, true, true, true, true, true, true, true, true], [true, true, true, true, true, true, true, true, true, true, true, true, true], [true, true, true, true, true, true, true, true, true, true, true, true, true, true], [true, true, true, true, true, true, true, true, true, true, true, true, true, true, true], [true, true, true, true, true, true, true, true, true, true, true, true, true, true, true, true], [true, true, true, true, true, true, true, true, true, true, true, true, true, true, true, true, true], [true, true, true, true, true, true, true, true, true, true, true, true, true, true, true, true, false, false], [true, true, true, true, true, true, true, true, true, true, true, true, true, true, true, true, false, false, true]] [1, 0, 0, 0, 0, 0, 0, 0, 0, 0, 0, 0, 0, 0, 0, 0, 1, 1, 0, 1]
        [.minor Unit () (fun _ => .agg (encY zeroY).toArray) (fun _ _ => True), .pure, .pure, .pure, .pure, .pure, .pure, .pure, .pure, .pure, .pure, .pure, .pure, .pure, .pure, .pure, .minor Unit () (fun _ => .agg (encY r).toArray) (fun _ _ => True), .minor Unit () (fun _ => .string TR) (fun _ _ => True), .pure, .minor Unit () (fun _ => .string TL) (fun _ _ => True)]
        (fun W => Below w6.heap.size w6 W) (fun _ _ => True) (fun a b => Below a.heap.size a b) (by kernel_rfl) (by kernel_rfl) rfl rfl (fun vs a b h hs => trivial) ?_ ?_ ?_ ?_ ?_ ?_
      · intro a b he hb; exact hb.trans (Below.mono he hb.size)
      · intro a b he hb; exact hb.trans (Below.mono he hb.size)
      · exact ⟨⟨fun _ _ _ _ _ => trivial, fun _ _ _ _ _ => trivial⟩, trivial, trivial, trivial, trivial, trivial, trivial, trivial, trivial, trivial, trivial, trivial, trivial, trivial, trivial, trivial, ⟨fun _ _ _ _ _ => trivial, fun _ _ _ _ _ => trivial⟩, ⟨fun _ _ _ _ _ => trivial, fun _ _ _ _ _ => trivial⟩, trivial, ⟨fun _ _ _ _ _ => trivial, fun _ _ _ _ _ => trivial⟩, trivial⟩
      · exact ⟨rfl, rfl, rfl, Nat.le_refl _, fun _ _ => rfl⟩
      · trivial
      dsimp only [Reg.mk, List.zip, List.zipWith, List.take]
      refine Reg.pass_minor (by rfl) (fun wz hI hF => ?_) (fun r0 => ?_)
      · unfold Reg.One
        have d0 := ry_load (k := k9) ((hI.block _ (lt_of_at hX6.out)).trans hX6.out) lZ
        go_wp2_with fail
        first | exact ⟨_, rfl, rfl, Reg.Ext.refl _⟩ | exact ⟨_, rfl, ⟨(), rfl, trivial⟩, Reg.Ext.refl _⟩
      simp only [Act.put, List.setIfInBounds_toArray, List.set_cons_zero, List.set_cons_succ]; (try simp only [List.nil_append]); (try simp only [List.cons_append]); (try simp only [id])
      repeat (refine' Reg.pass_is _ (by rfl) (fun wz => ?_) ?_; rotate_left; (go_simp; first | rfl | rw [if_neg (by omega)]); simp only [Act.put, List.setIfInBounds_toArray, List.set_cons_zero, List.set_cons_succ]; (try simp only [List.nil_append]); (try simp only [List.cons_append]); (try simp only [id]))
      refine Reg.pass_minor (by rfl) (fun wz hI hF => ?_) (fun r16 => ?_)
      · unfold Reg.One
        have d0 := ry_load (k := k9) ((hI.block _ (lt_of_at hR6.out)).trans hR6.out) lR
        go_wp2_with fail
        first | exact ⟨_, rfl, rfl, Reg.Ext.refl _⟩ | exact ⟨_, rfl, ⟨(), rfl, trivial⟩, Reg.Ext.refl _⟩
      simp only [Act.put, List.setIfInBounds_toArray, List.set_cons_zero, List.set_cons_succ]; (try simp only [List.nil_append]); (try simp only [List.cons_append]); (try simp only [id])
      refine Reg.pass_minor (by rfl) (fun wz hI hF => ?_) (fun r17 => ?_)
      · unfold Reg.One
        go_wp2_with (go_at_call 8; go_must (refine (h5 _).mono ?_); rintro e w' ⟨rfl, hb5⟩)
        first | exact ⟨_, rfl, ⟨(), rfl, trivial⟩, hb5⟩ | exact ⟨_, rfl, rfl, hb5⟩
      simp only [Act.put, List.setIfInBounds_toArray, List.set_cons_zero, List.set_cons_succ]; (try simp only [List.nil_append]); (try simp only [List.cons_append]); (try simp only [id])
      repeat (refine' Reg.pass_is _ (by rfl) (fun wz => ?_) ?_; rotate_left; (go_simp; first | rfl | rw [if_neg (by omega)]); simp only [Act.put, List.setIfInBounds_toArray, List.set_cons_zero, List.set_cons_succ]; (try simp only [List.nil_append]); (try simp only [List.cons_append]); (try simp only [id]))
      refine Reg.pass_minor (by rfl) (fun wz hI hF => ?_) (fun r19 => ?_)
      · unfold Reg.One
        have hcv1 := hcv.out wz hI
        go_wp2_with fail
        first | exact ⟨_, rfl, rfl, Reg.Ext.refl _⟩ | exact ⟨_, rfl, ⟨(), rfl, trivial⟩, Reg.Ext.refl _⟩
      simp only [Act.put, List.setIfInBounds_toArray, List.set_cons_zero, List.set_cons_succ]; (try simp only [List.nil_append]); (try simp only [List.cons_append]); (try simp only [id])
      refine Reg.pass_end ?_
      intro w7 HI7 _ HF7
      clear HF7
      have hb7 := hb6.out.trans (HI7.mono hb6.out.size)
      dsimp only [List.drop]
      go_wp2_with fail
      go_at_call 9
      refine (h4 _).mono ?_
      rintro e w8 ⟨rfl, hB8⟩
      have hb8 := hb7.trans (hB8.mono hb7.size)
      go_wp2_with fail
      go_ret
      exact ⟨rfl, hb8⟩

theorem replyReads_walk (S : RySpec) (v : Value) (L : List UInt8) (r : Ry) (w : World) (hrow : RowAt encB 1 w v L) (hf : FitsY r) : Calls Try.prog 4 #[v, .agg (encY r).toArray] w fun e w' => e = .returned (.bool true) ∧ Below w.heap.size w w' := by
  by_cases h : L.length ≤ 150
  · exact replyReads_short S v L r w hrow h hf
  · exact replyReads_long S v L r w hrow (by omega) hf

end Go.Proofs.Ytpdnppncdfialaa
