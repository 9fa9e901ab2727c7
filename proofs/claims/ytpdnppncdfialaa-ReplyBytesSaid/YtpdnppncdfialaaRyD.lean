/-
  Own walk: the statement on replies' bytes, over what is asked of the program.
-/
import Derived.Test.YtpdnppncdfialaaRyC
namespace Go.Proofs.Ytpdnppncdfialaa
open Go.RowKit

set_option maxRecDepth 1000000 in
set_option maxHeartbeats 8000000 in
theorem replyBytes_walk (S : RySpec) (r : Ry) (w : World) (hf : FitsY r) : Calls Try.prog 3 #[.agg (encY r).toArray] w fun e w' => e = .returned (.bool true) ∧ Below w.heap.size w w' := by
  have zR := zE_ry
  have lR := encY_len r
  obtain ⟨k9, hk9⟩ : ∃ k, k = 9 := ⟨_, rfl⟩
  rw [← hk9] at zR lR
  replace hk9 := Lib.hid hk9
  obtain ⟨wA, hwA⟩ : ∃ wA, wA = w.alloc (.cells (encY r).toArray 24) := ⟨_, rfl⟩
  have hb0 : Below w.heap.size w wA := by rw [hwA]; exact (Below.refl _ _).alloc (Nat.le_refl _) _
  have hR0 : wA.heap[w.heap.size]? = some (.cells (encY r).toArray 24 (0, 0)) := by rw [hwA]; exact heap_alloc_new w _
  have ld0 := ry_load (k := k9) hR0 lR
  have hsA : wA.heap.size = w.heap.size + 1 := by rw [hwA]; simp
  have h4 := fun W => awakeY_any S W
  have h1 := S.put r wA hf
  have h5 := fun W => bytesY_any r hf W
  have h6 := fun (v : Value) (W : World) (hv : RowAt encB 1 W v (encYb r)) => S.read v (encYb r) W hv (by have := encYb_length r; omega)
  have hsame : Hid (∀ (x : Ry) (q : Int), ReadY (encYb r) x q → r = x ∧ 0 = q) := by
    show ∀ (x : Ry) (q : Int), ReadY (encYb r) x q → r = x ∧ 0 = q
    intro x q h
    rcases h with ⟨fx, ex, q0⟩ | ⟨no, _⟩
    · exact ⟨(encYb_inj fx hf ex).symm, q0.symm⟩
    · exact absurd rfl (no r hf)
  have heq := fun W => ry_eql r r W
  rw [decide_eq_true rfl] at heq
  have hg := ry_guard
  have HS : Hid (∀ (x : Ry) (W : World), Sem.run Try.prog (storeCells ⟨W.heap.size, 0, none⟩ (encY x) 0) (W.alloc (.cells #[.int .i64 0, .int .i64 0, .int .i64 0, .int .i64 0, .int .i64 0, .int .i64 0, .int .i64 0, .int .i64 0, .int .i64 0] 24)) = .ok () (W.alloc (.cells (encY x).toArray 24))) := fun x W => store_new W W.heap.size (encY x) (encY zeroY) 24 rfl (by rw [encY_len, encY_len]) (encY_one _)
  rw [hwA] at h1 ld0
  clear hf S
  go_enter Try.func3, Try.ntmps3
  go_wp2_with fail
  go_at_call 6
  refine h1.mono ?_
  clear h1 ld0
  rintro e w1 ⟨v1, rfl, hv1, hB1⟩
  rw [← hwA] at hB1
  have hb1 : Below w.heap.size w w1 := hb0.trans (hB1.mono (by omega))
  have hR1 := (hB1.block _ (by omega)).trans hR0
  replace hwA := Lib.hid hwA
  clear hB1 hb0 hR0 hsA
  replace hv1 := Lib.hid hv1
  go_wp2_with fail
  go_at_call 7
  refine (h6 _ _ hv1.out).mono ?_
  clear h6
  rintro e w5 ⟨x, q, rfl, hxq, hB5⟩
  obtain ⟨rfl, rfl⟩ := hsame.out x q hxq
  have st5 := HS.out r w5
  have hb5 : Below w.heap.size w w5 := hb1.trans (hB5.mono hb1.size)
  have hv5 : RowAt encB 1 w5 v1 (encYb r) := hv1.out.below hB5
  obtain ⟨w6, hw6⟩ : ∃ w6, w6 = w5.alloc (.cells (encY r).toArray 24) := ⟨_, rfl⟩
  have hb6 : Hid (Below w.heap.size w w6) := by show Below _ _ _; rw [hw6]; exact hb5.alloc hb5.size _
  have hR6 : Hid (w6.heap[w.heap.size]? = some (.cells (encY r).toArray 24 (0, 0))) := by show _ = _; rw [hw6]; exact heap_past ((hB5.block _ (lt_of_at hR1)).trans hR1)
  have hX6 : Hid (w6.heap[w5.heap.size]? = some (.cells (encY r).toArray 24 (0, 0))) := by show _ = _; rw [hw6]; exact heap_alloc_new w5 _
  have hv6 : Hid (RowAt encB 1 w6 v1 (encYb r)) := hv5.below (by rw [hw6]; exact (Below.refl _ _).alloc (Nat.le_refl _) _)
  have hcv : Hid (∀ W, Below w6.heap.size w6 W → (convert 25 9 v1).run Try.prog W = .ok (.string (str (encYb r))) W) := fun W hW => conv_row (hv6.out.below hW)
  clear hB5 hb5 hv5 hb1 hR1 hv1 hxq hsame hv6
  generalize str (encYb r) = TL at *
  go_wp2_with fail
  rw [← hw6]
  replace hw6 := Lib.hid hw6
  clear HS st5
  refine Reg.region_mk 12 30 [[], [true], [false, false], [false, false, true], [true, true, true, true], [true, true, true, true, true], [true, true, true, true, true, true], [true, true, true, true, true, true, true], [true, true, true, true, true, true, true, true], [true, true, true, true, true, true, true, true, true], [true, true, true, true, true, true, true, true, true, true], [true, true, true, true, true, true, true, true, true, true, false]] [0, 1, 1, 1, 0, 0, 0, 0, 0, 0, 1, 1]
    [.pure, .minor Unit () (fun _ => .string TL) (fun _ _ => True), .minor Unit () (fun _ => .agg (encY r).toArray) (fun _ _ => True), .minor Unit () (fun _ => .string TL) (fun _ _ => True), .pure, .pure, .pure, .pure, .pure, .pure, .minor Unit () (fun _ => .agg (encY r).toArray) (fun _ _ => True), .minor Unit () (fun _ => .agg (encY r).toArray) (fun _ _ => True)]
    (fun W => Below w6.heap.size w6 W) (fun _ _ => True) (fun a b => Below a.heap.size a b) (by kernel_rfl) (by kernel_rfl) rfl rfl (fun vs a b h hs => trivial) ?_ ?_ ?_ ?_ ?_ ?_
  · intro a b he hb; exact hb.trans (Below.mono he hb.size)
  · intro a b he hb; exact hb.trans (Below.mono he hb.size)
  · exact ⟨trivial, ⟨fun _ _ _ _ _ => trivial, fun _ _ _ _ _ => trivial⟩, ⟨fun _ _ _ _ _ => trivial, fun _ _ _ _ _ => trivial⟩, ⟨fun _ _ _ _ _ => trivial, fun _ _ _ _ _ => trivial⟩, trivial, trivial, trivial, trivial, trivial, trivial, ⟨fun _ _ _ _ _ => trivial, fun _ _ _ _ _ => trivial⟩, ⟨fun _ _ _ _ _ => trivial, fun _ _ _ _ _ => trivial⟩, trivial⟩
  · exact ⟨rfl, rfl, rfl, Nat.le_refl _, fun _ _ => rfl⟩
  · trivial
  dsimp only [Reg.mk, List.zip, List.zipWith, List.take]
  repeat (refine' Reg.pass_is _ (by rfl) (fun wz => ?_) ?_; rotate_left; (go_simp; first | rfl | rw [if_neg (by omega)]); simp only [Act.put, List.setIfInBounds_toArray, List.set_cons_zero, List.set_cons_succ]; (try simp only [List.nil_append]); (try simp only [List.cons_append]); (try simp only [id]))
  refine Reg.pass_minor (by rfl) (fun wz hI hF => ?_) (fun r1 => ?_)
  · unfold Reg.One
    have hcv1 := hcv.out wz hI
    go_wp2_with fail
    first | exact ⟨_, rfl, rfl, Reg.Ext.refl _⟩ | exact ⟨_, rfl, ⟨(), rfl, trivial⟩, Reg.Ext.refl _⟩
  simp only [Act.put, List.setIfInBounds_toArray, List.set_cons_zero, List.set_cons_succ]; (try simp only [List.nil_append]); (try simp only [List.cons_append]); (try simp only [id])
  refine Reg.pass_minor (by rfl) (fun wz hI hF => ?_) (fun r2 => ?_)
  · unfold Reg.One
    have d0 := ry_load (k := k9) ((hI.block _ (lt_of_at hR6.out)).trans hR6.out) lR
    go_wp2_with fail
    first | exact ⟨_, rfl, rfl, Reg.Ext.refl _⟩ | exact ⟨_, rfl, ⟨(), rfl, trivial⟩, Reg.Ext.refl _⟩
  simp only [Act.put, List.setIfInBounds_toArray, List.set_cons_zero, List.set_cons_succ]; (try simp only [List.nil_append]); (try simp only [List.cons_append]); (try simp only [id])
  refine Reg.pass_minor (by rfl) (fun wz hI hF => ?_) (fun r3 => ?_)
  · unfold Reg.One
    go_wp2_with (go_at_call 8; go_must (refine (h5 _).mono ?_); rintro e w' ⟨rfl, hb5⟩)
    first | exact ⟨_, rfl, ⟨(), rfl, trivial⟩, hb5⟩ | exact ⟨_, rfl, rfl, hb5⟩
  simp only [Act.put, List.setIfInBounds_toArray, List.set_cons_zero, List.set_cons_succ]; (try simp only [List.nil_append]); (try simp only [List.cons_append]); (try simp only [id])
  repeat (refine' Reg.pass_is _ (by rfl) (fun wz => ?_) ?_; rotate_left; (go_simp; first | rfl | rw [if_neg (by omega)]); simp only [Act.put, List.setIfInBounds_toArray, List.set_cons_zero, List.set_cons_succ]; (try simp only [List.nil_append]); (try simp only [List.cons_append]); (try simp only [id]))
  refine Reg.pass_minor (by rfl) (fun wz hI hF => ?_) (fun r10 => ?_)
  · unfold Reg.One
    have d0 := ry_load (k := k9) ((hI.block _ (lt_of_at hX6.out)).trans hX6.out) lR
    go_wp2_with fail
    first | exact ⟨_, rfl, rfl, Reg.Ext.refl _⟩ | exact ⟨_, rfl, ⟨(), rfl, trivial⟩, Reg.Ext.refl _⟩
  simp only [Act.put, List.setIfInBounds_toArray, List.set_cons_zero, List.set_cons_succ]; (try simp only [List.nil_append]); (try simp only [List.cons_append]); (try simp only [id])
  refine Reg.pass_minor (by rfl) (fun wz hI hF => ?_) (fun r11 => ?_)
  · unfold Reg.One
    have d0 := ry_load (k := k9) ((hI.block _ (lt_of_at hR6.out)).trans hR6.out) lR
    go_wp2_with fail
    first | exact ⟨_, rfl, rfl, Reg.Ext.refl _⟩ | exact ⟨_, rfl, ⟨(), rfl, trivial⟩, Reg.Ext.refl _⟩
  simp only [Act.put, List.setIfInBounds_toArray, List.set_cons_zero, List.set_cons_succ]; (try simp only [List.nil_append]); (try simp only [List.cons_append]); (try simp only [id])
  refine Reg.pass_end ?_
  intro w7 HI7 _ HF7
  clear HF7
  have hb7 := hb6.out.trans (HI7.mono hb6.out.size)
  dsimp only [List.drop]
  go_wp2_with fail
  go_at_call 9
  refine (h4 _).mono ?_
  rintro e w8 ⟨rfl, hB8⟩
  have hb8 := hb7.trans (hB8.mono hb7.size)
  go_wp2_with fail
  go_ret
  exact ⟨rfl, hb8⟩

end Go.Proofs.Ytpdnppncdfialaa
