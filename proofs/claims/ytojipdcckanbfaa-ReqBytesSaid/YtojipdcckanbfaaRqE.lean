/-
  Own walk: the statement on requests' bytes, over what is asked of the program.
-/
import Derived.Test.YtojipdcckanbfaaRqD
namespace Go.Proofs.Ytojipdcckanbfaa
open Go.RowKit

set_option maxRecDepth 1000000 in
set_option maxHeartbeats 8000000 in
theorem reqBytes_walk (S : RqSpec) (r : Rq) (w : World) (hf : FitsR r) : Calls Try.prog 3 #[.agg (encR r).toArray] w fun e w' => e = .returned (.bool true) ∧ Below w.heap.size w w' := by
  have zR := zE_req
  have lR := encR_len r
  obtain ⟨k9, hk9⟩ : ∃ k, k = 9 := ⟨_, rfl⟩
  rw [← hk9] at zR lR
  have hLR := lR
  replace hLR := Lib.hid hLR
  replace hk9 := Lib.hid hk9
  obtain ⟨wA, hwA⟩ : ∃ wA, wA = w.alloc (.cells (encR r).toArray 23) := ⟨_, rfl⟩
  have hb0 : Below w.heap.size w wA := by rw [hwA]; exact (Below.refl _ _).alloc (Nat.le_refl _) _
  have hR0 : wA.heap[w.heap.size]? = some (.cells (encR r).toArray 23 (0, 0)) := by rw [hwA]; exact heap_alloc_new w _
  have ld0 := req_load (k := k9) hR0 lR
  have hsA : wA.heap.size = w.heap.size + 1 := by rw [hwA]; simp
  have h2 := fun W => S.right r W
  have h3 := fun W => right_any r W
  have h4 := fun W => awakeQ_any S W
  by_cases hq : rightQ r = true
  · have h1 := S.put r wA hf hq
    have h5 := fun W => bytes_any r hf (by unfold rightQ at hq; simp at hq; omega) (by unfold rightQ at hq; simp at hq; omega) W
    have h6 := fun (v : Value) (W : World) (hv : RowAt encB 1 W v (encQ r)) => S.read v (encQ r) W hv (by have := (encQ_length r).2; omega)
    have hsame : ∀ (x : Rq) (q : Int), ReadP (encQ r) x q → r = x ∧ 0 = q := by
      intro x q h
      have hl := encQ_length r
      rcases h with ⟨h, _⟩ | ⟨h, _⟩ | ⟨_, _, ⟨fx, rx, ex, q0⟩ | ⟨no, _⟩⟩
      · omega
      · omega
      · exact ⟨(encQ_inj fx hf rx hq ex).symm, q0.symm⟩
      · exact absurd rfl (no r hf hq)
    replace hsame := Lib.hid hsame
    have hlen := (encQ_length r).2
    have hlen0 := (encQ_length r).1
    have heq := fun W => req_eql r r W
    rw [decide_eq_true rfl] at heq
    have hg := req_guard
    have HS : Hid (∀ W : World, Sem.run Try.prog (storeCells ⟨W.heap.size, 0, none⟩ (encR r) 0) (W.alloc (.cells #[.int .i64 0, .int .i64 0, .int .i64 0, .int .i64 0, .int .i64 0, .int .i64 0, .bool false, .int .i64 0, .int .i64 0] 23)) = .ok () (W.alloc (.cells (encR r).toArray 23))) := fun W => store_new W W.heap.size (encR r) (encR zeroR) 23 rfl (by rw [encR_len, encR_len]) (encR_one _)
    rw [hq] at h2 h3
    rw [hwA] at h1 ld0
    clear hq hf S
    go_enter Try.func3, Try.ntmps3
    go_wp2_with fail
    go_at_call 6
    refine h1.mono ?_
    clear h1 ld0
    rintro e w1 ⟨v1, rfl, hv1, hB1⟩
    rw [← hwA] at hB1
    have hb1 : Hid (Below w.heap.size w w1) := hb0.trans (hB1.mono (by omega))
    have hR1 : Hid (w1.heap[w.heap.size]? = some (.cells (encR r).toArray 23 (0, 0))) := (hB1.block _ (by omega)).trans hR0
    replace hv1 := Lib.hid hv1
    replace hwA := Lib.hid hwA
    clear hB1 hb0 hR0 hsA
    go_wp2_with fail
    refine Reg.region_mk 3 63 [[], [true], [false, false]] [1, 1, 1]
      [.minor Unit () (fun _ => .agg (encR r).toArray) (fun _ _ => True), .minor Unit () (fun _ => .bool true) (fun _ _ => True), .minor Unit () (fun _ => .agg (encR r).toArray) (fun _ _ => True)]
      (fun W => Below w1.heap.size w1 W) (fun _ _ => True) (fun a b => Below a.heap.size a b) (by kernel_rfl) (by kernel_rfl) rfl rfl (fun vs a b h hs => trivial) ?_ ?_ ?_ ?_ ?_ ?_
    · intro a b he hb; exact hb.trans (Below.mono he hb.size)
    · intro a b he hb; exact hb.trans (Below.mono he hb.size)
    · exact ⟨⟨fun _ _ _ _ _ => trivial, fun _ _ _ _ _ => trivial⟩, ⟨fun _ _ _ _ _ => trivial, fun _ _ _ _ _ => trivial⟩, ⟨fun _ _ _ _ _ => trivial, fun _ _ _ _ _ => trivial⟩, trivial⟩
    · exact ⟨rfl, rfl, rfl, Nat.le_refl _, fun _ _ => rfl⟩
    · trivial
    dsimp only [Reg.mk, List.zip, List.zipWith, List.take]
    refine Reg.pass_minor (by rfl) (fun wz hI hF => ?_) (fun r0 => ?_)
    · unfold Reg.One
      have d0 := req_load (k := k9) ((hI.block _ (lt_of_at hR1.out)).trans hR1.out) lR
      go_wp2_with fail
      first | exact ⟨_, rfl, rfl, Reg.Ext.refl _⟩ | exact ⟨_, rfl, ⟨(), rfl, trivial⟩, Reg.Ext.refl _⟩
    simp only [Act.put, List.setIfInBounds_toArray, List.set_cons_zero, List.set_cons_succ]; (try simp only [List.nil_append]); (try simp only [List.cons_append]); (try simp only [id])
    refine Reg.pass_minor (by rfl) (fun wz hI hF => ?_) (fun r1 => ?_)
    · unfold Reg.One
      go_wp2_with (go_at_call 7; go_must (refine (h2 _).mono ?_); rintro e w' ⟨rfl, hb5⟩)
      first | exact ⟨_, rfl, ⟨(), rfl, trivial⟩, hb5⟩ | exact ⟨_, rfl, rfl, hb5⟩
    simp only [Act.put, List.setIfInBounds_toArray, List.set_cons_zero, List.set_cons_succ]; (try simp only [List.nil_append]); (try simp only [List.cons_append]); (try simp only [id])
    refine Reg.pass_minor (by rfl) (fun wz hI hF => ?_) (fun r2 => ?_)
    · unfold Reg.One
      have d0 := req_load (k := k9) ((hI.block _ (lt_of_at hR1.out)).trans hR1.out) lR
      go_wp2_with fail
      first | exact ⟨_, rfl, rfl, Reg.Ext.refl _⟩ | exact ⟨_, rfl, ⟨(), rfl, trivial⟩, Reg.Ext.refl _⟩
    simp only [Act.put, List.setIfInBounds_toArray, List.set_cons_zero, List.set_cons_succ]; (try simp only [List.nil_append]); (try simp only [List.cons_append]); (try simp only [id])
    refine Reg.pass_end ?_
    intro w2 HI2 _ HF2
    clear HF2
    have hb2 : Hid (Below w.heap.size w w2) := hb1.out.trans (HI2.mono hb1.out.size)
    have hR2 : Hid (w2.heap[w.heap.size]? = some (.cells (encR r).toArray 23 (0, 0))) := (HI2.block _ (lt_of_at hR1.out)).trans hR1.out
    have hv2 : Hid (RowAt encB 1 w2 v1 (encQ r)) := hv1.out.below HI2
    clear HI2 hb1 hR1 hv1
    dsimp only [List.drop]
    go_wp2_with fail
    go_at_call 8
    refine (h3 _).mono ?_
    rintro e w3 ⟨rfl, hB3⟩
    have hb3 : Hid (Below w.heap.size w w3) := hb2.out.trans (hB3.mono hb2.out.size)
    have hR3 : Hid (w3.heap[w.heap.size]? = some (.cells (encR r).toArray 23 (0, 0))) := (hB3.block _ (lt_of_at hR2.out)).trans hR2.out
    have hv3 : Hid (RowAt encB 1 w3 v1 (encQ r)) := hv2.out.below hB3
    have ld3 := req_load (k := k9) hR3.out lR
    clear hB3 hb2 hR2 hv2
    go_wp2_with fail
    go_at_call 8
    refine (h3 _).mono ?_
    rintro e w4 ⟨rfl, hB4⟩
    have hb4 : Hid (Below w.heap.size w w4) := hb3.out.trans (hB4.mono hb3.out.size)
    have hR4 : Hid (w4.heap[w.heap.size]? = some (.cells (encR r).toArray 23 (0, 0))) := (hB4.block _ (lt_of_at hR3.out)).trans hR3.out
    have hv4 : Hid (RowAt encB 1 w4 v1 (encQ r)) := hv3.out.below hB4
    clear hB4 hb3 hR3 hv3 ld3 h3
    go_wp2_with fail
    go_at_call 10
    refine (h6 _ _ hv4.out).mono ?_
    clear h6
    rintro e w5 ⟨x, q, rfl, hxq, hB5⟩
    obtain ⟨rfl, rfl⟩ := hsame.out x q hxq
    have hb5 : Hid (Below w.heap.size w w5) := hb4.out.trans (hB5.mono hb4.out.size)
    have hR5 : Hid (w5.heap[w.heap.size]? = some (.cells (encR r).toArray 23 (0, 0))) := (hB5.block _ (lt_of_at hR4.out)).trans hR4.out
    have hv5 : Hid (RowAt encB 1 w5 v1 (encQ r)) := hv4.out.below hB5
    have st5 := HS.out w5
    clear hB5 hb4 hR4 hv4 hxq hsame
    go_wp2_with fail
    obtain ⟨w6, hw6⟩ : ∃ w6, w6 = w5.alloc (.cells (encR r).toArray 23) := ⟨_, rfl⟩
    have hb6 : Hid (Below w.heap.size w w6) := by show Below _ _ _; rw [hw6]; exact hb5.out.alloc hb5.out.size _
    have hR6 : Hid (w6.heap[w.heap.size]? = some (.cells (encR r).toArray 23 (0, 0))) := by show _ = _; rw [hw6]; exact heap_past hR5.out
    have hX6 : Hid (w6.heap[w5.heap.size]? = some (.cells (encR r).toArray 23 (0, 0))) := by show _ = _; rw [hw6]; exact heap_alloc_new w5 _
    have hv6 : RowAt encB 1 w6 v1 (encQ r) := hv5.out.below (by rw [hw6]; exact (Below.refl _ _).alloc (Nat.le_refl _) _)
    have hrd : Hid (BRead w6 v1 (encQ r)) := row_bread hv6 (by omega)
    obtain ⟨ao, cap, rfl, _, _, _⟩ := hv6
    rw [← hw6]
    replace hw6 := Lib.hid hw6
    clear hb5 hR5 hv5 st5 h2 HS hwA
    have hcv : Hid (∀ W, Below w6.heap.size w6 W → (convert 24 9 (.slice ao (encQ r).length cap)).run Try.prog W = .ok (.string (str (encQ r))) W) := fun W hW => conv_read (hrd.out.keeps (Keeps.of_ext hW))
    clear hrd
    generalize str (encQ r) = T at *
    generalize (encQ r).length = n at *
    have hd : decide ((n : Int) ≤ 64) = true := decide_eq_true (by omega)

    refine Reg.region_mk 23 63 [[], [true], [true, true], [true, true, true], [true, true, true, true], [true, true, true, false, false], [true, true, true, false, false, true], [true, true, true, true, true, true, true], [true, true, true, true, true, true, true, true], [true, true, true, true, true, true, true, true, true], [true, true, true, true, true, true, true, true, true, true], [true, true, true, true, true, true, true, true, true, true, true], [true, true, true, true, true, true, true, true, true, true, true, true], [true, true, true, true, true, true, true, true, true, true, true, true, true], [true, true, true, true, true, true, true, true, true, true, true, true, true, true], [true, true, true, true, true, true, true, true, true, true, true, true, true, true, true], [true, true, true, true, true, true, true, true, true, true, true, true, true, true, true, true], [true, true, true, true, true, true, true, true, true, true, true, true, true, true, true, true, true], [true, true, true, true, true, true, true, true, true, true, true, true, true, true, true, true, true, true], [true, true, true, true, true, true, true, true, true, true, true, true, true, true, true, true, true, true, true], [true, true, true, true, true, true, true, true, true, true, true, true, true, true, true, true, true, true, true, true], [true, true, true, true, true, true, true, true, true, true, true, true, true, true, true, true, true, true, true, true, true], [true, true, true, true, true, true, true, true, true, true, true, true, true, true, true, true, true, true, true, true, true, false]] [0, 0, 0, 0, 1, 1, 1, 0, 0, 0, 0, 0, 0, 0, 0, 0, 0, 0, 0, 0, 0, 1, 1]
      [.pure, .pure, .pure, .pure, .minor Unit () (fun _ => .string T) (fun _ _ => True), .minor Unit () (fun _ => .agg (encR r).toArray) (fun _ _ => True), .minor Unit () (fun _ => .string T) (fun _ _ => True), .pure, .pure, .pure, .pure, .pure, .pure, .pure, .pure, .pure, .pure, .pure, .pure, .pure, .pure, .minor Unit () (fun _ => .agg (encR r).toArray) (fun _ _ => True), .minor Unit () (fun _ => .agg (encR r).toArray) (fun _ _ => True)]
      (fun W => Below w6.heap.size w6 W) (fun _ _ => True) (fun a b => Below a.heap.size a b) (by kernel_rfl) (by kernel_rfl) rfl rfl (fun vs a b h hs => trivial) ?_ ?_ ?_ ?_ ?_ ?_
    · intro a b he hb; exact hb.trans (Below.mono he hb.size)
    · intro a b he hb; exact hb.trans (Below.mono he hb.size)
    · exact ⟨trivial, trivial, trivial, trivial, ⟨fun _ _ _ _ _ => trivial, fun _ _ _ _ _ => trivial⟩, ⟨fun _ _ _ _ _ => trivial, fun _ _ _ _ _ => trivial⟩, ⟨fun _ _ _ _ _ => trivial, fun _ _ _ _ _ => trivial⟩, trivial, trivial, trivial, trivial, trivial, trivial, trivial, trivial, trivial, trivial, trivial, trivial, trivial, trivial, ⟨fun _ _ _ _ _ => trivial, fun _ _ _ _ _ => trivial⟩, ⟨fun _ _ _ _ _ => trivial, fun _ _ _ _ _ => trivial⟩, trivial⟩
    · exact ⟨rfl, rfl, rfl, Nat.le_refl _, fun _ _ => rfl⟩
    · trivial
    dsimp only [Reg.mk, List.zip, List.zipWith, List.take]
    repeat (refine' Reg.pass_is _ (by rfl) (fun wz => ?_) ?_; rotate_left; (go_simp; first | rfl | rw [if_neg (by omega)]); simp only [Act.put, List.setIfInBounds_toArray, List.set_cons_zero, List.set_cons_succ]; (try simp only [List.nil_append]); (try simp only [List.cons_append]); (try simp only [id]))
    refine Reg.pass_minor (by rfl) (fun wz hI hF => ?_) (fun r4 => ?_)
    · unfold Reg.One
      have hcv1 := hcv.out wz hI
      go_wp2_with fail
      first | exact ⟨_, rfl, rfl, Reg.Ext.refl _⟩ | exact ⟨_, rfl, ⟨(), rfl, trivial⟩, Reg.Ext.refl _⟩
    simp only [Act.put, List.setIfInBounds_toArray, List.set_cons_zero, List.set_cons_succ]; (try simp only [List.nil_append]); (try simp only [List.cons_append]); (try simp only [id])
    refine Reg.pass_minor (by rfl) (fun wz hI hF => ?_) (fun r5 => ?_)
    · unfold Reg.One
      have d0 := req_load (k := k9) ((hI.block _ (lt_of_at hR6.out)).trans hR6.out) lR
      go_wp2_with fail
      first | exact ⟨_, rfl, rfl, Reg.Ext.refl _⟩ | exact ⟨_, rfl, ⟨(), rfl, trivial⟩, Reg.Ext.refl _⟩
    simp only [Act.put, List.setIfInBounds_toArray, List.set_cons_zero, List.set_cons_succ]; (try simp only [List.nil_append]); (try simp only [List.cons_append]); (try simp only [id])
    refine Reg.pass_minor (by rfl) (fun wz hI hF => ?_) (fun r6 => ?_)
    · unfold Reg.One
      go_wp2_with (go_at_call 11; go_must (refine (h5 _).mono ?_); rintro e w' ⟨rfl, hb5⟩)
      first | exact ⟨_, rfl, ⟨(), rfl, trivial⟩, hb5⟩ | exact ⟨_, rfl, rfl, hb5⟩
    simp only [Act.put, List.setIfInBounds_toArray, List.set_cons_zero, List.set_cons_succ]; (try simp only [List.nil_append]); (try simp only [List.cons_append]); (try simp only [id])
    repeat (refine' Reg.pass_is _ (by rfl) (fun wz => ?_) ?_; rotate_left; (go_simp; first | rfl | rw [if_neg (by omega)]); simp only [Act.put, List.setIfInBounds_toArray, List.set_cons_zero, List.set_cons_succ]; (try simp only [List.nil_append]); (try simp only [List.cons_append]); (try simp only [id]))
    refine Reg.pass_minor (by rfl) (fun wz hI hF => ?_) (fun r21 => ?_)
    · unfold Reg.One
      have d0 := req_load (k := k9) ((hI.block _ (lt_of_at hX6.out)).trans hX6.out) lR
      go_wp2_with fail
      first | exact ⟨_, rfl, rfl, Reg.Ext.refl _⟩ | exact ⟨_, rfl, ⟨(), rfl, trivial⟩, Reg.Ext.refl _⟩
    simp only [Act.put, List.setIfInBounds_toArray, List.set_cons_zero, List.set_cons_succ]; (try simp only [List.nil_append]); (try simp only [List.cons_append]); (try simp only [id])
    refine Reg.pass_minor (by rfl) (fun wz hI hF => ?_) (fun r22 => ?_)
    · unfold Reg.One
      have d0 := req_load (k := k9) ((hI.block _ (lt_of_at hR6.out)).trans hR6.out) lR
      go_wp2_with fail
      first | exact ⟨_, rfl, rfl, Reg.Ext.refl _⟩ | exact ⟨_, rfl, ⟨(), rfl, trivial⟩, Reg.Ext.refl _⟩
    simp only [Act.put, List.setIfInBounds_toArray, List.set_cons_zero, List.set_cons_succ]; (try simp only [List.nil_append]); (try simp only [List.cons_append]); (try simp only [id])
    refine Reg.pass_end ?_
    intro w7 HI7 _ HF7
    clear HF7
    have hb7 := hb6.out.trans (HI7.mono hb6.out.size)
    dsimp only [List.drop]
    go_wp2_with fail
    go_at_call 9
    refine (h4 _).mono ?_
    rintro e w8 ⟨rfl, hB8⟩
    have hb8 := hb7.trans (hB8.mono hb7.size)
    go_wp2_with fail
    go_ret
    exact ⟨rfl, hb8⟩
  · have hq : rightQ r = false := by simpa using hq
    have h1 := S.bad r wA hf hq
    rw [hq] at h2 h3
    rw [hwA] at h1 ld0
    clear hq hf S
    go_enter Try.func3, Try.ntmps3
    go_wp2_with fail
    go_at_call 6
    refine h1.mono ?_
    clear h1 ld0
    rintro e w1 ⟨ao, cap, rfl, hB1⟩
    rw [← hwA] at hB1
    have hb1 : Hid (Below w.heap.size w w1) := hb0.trans (hB1.mono (by omega))
    have hR1 : Hid (w1.heap[w.heap.size]? = some (.cells (encR r).toArray 23 (0, 0))) := (hB1.block _ (by omega)).trans hR0
    replace hwA := Lib.hid hwA
    clear hB1 hb0 hR0 hsA
    go_wp2_with fail

    refine Reg.region_mk 3 63 [[], [true], [false, false]] [1, 1, 1]
      [.minor Unit () (fun _ => .agg (encR r).toArray) (fun _ _ => True), .minor Unit () (fun _ => .bool false) (fun _ _ => True), .minor Unit () (fun _ => .agg (encR r).toArray) (fun _ _ => True)]
      (fun W => Below w1.heap.size w1 W) (fun _ _ => True) (fun a b => Below a.heap.size a b) (by kernel_rfl) (by kernel_rfl) rfl rfl (fun vs a b h hs => trivial) ?_ ?_ ?_ ?_ ?_ ?_
    · intro a b he hb; exact hb.trans (Below.mono he hb.size)
    · intro a b he hb; exact hb.trans (Below.mono he hb.size)
    · exact ⟨⟨fun _ _ _ _ _ => trivial, fun _ _ _ _ _ => trivial⟩, ⟨fun _ _ _ _ _ => trivial, fun _ _ _ _ _ => trivial⟩, ⟨fun _ _ _ _ _ => trivial, fun _ _ _ _ _ => trivial⟩, trivial⟩
    · exact ⟨rfl, rfl, rfl, Nat.le_refl _, fun _ _ => rfl⟩
    · trivial
    dsimp only [Reg.mk, List.zip, List.zipWith, List.take]
    refine Reg.pass_minor (by rfl) (fun wz hI hF => ?_) (fun r0 => ?_)
    · unfold Reg.One
      have d0 := req_load (k := k9) ((hI.block _ (lt_of_at hR1.out)).trans hR1.out) lR
      go_wp2_with fail
      first | exact ⟨_, rfl, rfl, Reg.Ext.refl _⟩ | exact ⟨_, rfl, ⟨(), rfl, trivial⟩, Reg.Ext.refl _⟩
    simp only [Act.put, List.setIfInBounds_toArray, List.set_cons_zero, List.set_cons_succ]; (try simp only [List.nil_append]); (try simp only [List.cons_append]); (try simp only [id])
    refine Reg.pass_minor (by rfl) (fun wz hI hF => ?_) (fun r1 => ?_)
    · unfold Reg.One
      go_wp2_with (go_at_call 7; go_must (refine (h2 _).mono ?_); rintro e w' ⟨rfl, hb5⟩)
      first | exact ⟨_, rfl, ⟨(), rfl, trivial⟩, hb5⟩ | exact ⟨_, rfl, rfl, hb5⟩
    simp only [Act.put, List.setIfInBounds_toArray, List.set_cons_zero, List.set_cons_succ]; (try simp only [List.nil_append]); (try simp only [List.cons_append]); (try simp only [id])
    refine Reg.pass_minor (by rfl) (fun wz hI hF => ?_) (fun r2 => ?_)
    · unfold Reg.One
      have d0 := req_load (k := k9) ((hI.block _ (lt_of_at hR1.out)).trans hR1.out) lR
      go_wp2_with fail
      first | exact ⟨_, rfl, rfl, Reg.Ext.refl _⟩ | exact ⟨_, rfl, ⟨(), rfl, trivial⟩, Reg.Ext.refl _⟩
    simp only [Act.put, List.setIfInBounds_toArray, List.set_cons_zero, List.set_cons_succ]; (try simp only [List.nil_append]); (try simp only [List.cons_append]); (try simp only [id])
    refine Reg.pass_end ?_
    intro w2 HI2 _ HF2
    clear HF2
    have hb2 : Hid (Below w.heap.size w w2) := hb1.out.trans (HI2.mono hb1.out.size)
    have hR2 : Hid (w2.heap[w.heap.size]? = some (.cells (encR r).toArray 23 (0, 0))) := (HI2.block _ (lt_of_at hR1.out)).trans hR1.out
    clear HI2 hb1 hR1
    dsimp only [List.drop]
    go_wp2_with fail
    go_at_call 8
    refine (h3 _).mono ?_
    rintro e w3 ⟨rfl, hB3⟩
    have hb3 : Hid (Below w.heap.size w w3) := hb2.out.trans (hB3.mono hb2.out.size)
    have hR3 : Hid (w3.heap[w.heap.size]? = some (.cells (encR r).toArray 23 (0, 0))) := (hB3.block _ (lt_of_at hR2.out)).trans hR2.out
    have ld3 := req_load (k := k9) hR3.out lR
    clear hB3 hb2 hR2
    go_wp2_with fail
    go_at_call 8
    refine (h3 _).mono ?_
    rintro e w4 ⟨rfl, hB4⟩
    have hb4 : Hid (Below w.heap.size w w4) := hb3.out.trans (hB4.mono hb3.out.size)
    clear hB4 hb3 hR3 ld3 h3
    go_wp2_with fail
    go_at_call 9
    refine (h4 _).mono ?_
    rintro e w8 ⟨rfl, hB8⟩
    have hb8 := hb4.out.trans (hB8.mono hb4.out.size)
    go_wp2_with fail
    go_ret
    exact ⟨rfl, hb8⟩

end Go.Proofs.Ytojipdcckanbfaa
