/-
  Own words: items as arguments; no planner.
-/
import Derived.Test.YtbnpeicmbbgboaaPgI
import Derived.Test.YtbnpeicmbbgboaaStMap
namespace Go.Proofs.Ytbnpeicmbbgboaa
set_option maxRecDepth 8000
open Go.ChangeShapes Go.WideShapes Go.ChangeAt Go.RowKit Go.Sort Go.Lib

section
variable {H : Type} {enc : TypeId × Value → H} {w : World} {base : Nat} {v : Value} {d : DataW H} {ps : List MemPlace}
theorem items_of (hval : Value.okWide Try.prog w .any base 23 v) (hd : DataW.Trod enc Try.prog w 0 (fun _ => true) true 23 v d ps) : ∃ l : List It, RowAt encI 4 w v l := by
  obtain ⟨l, h, _⟩ := rows_of Try.underlying23 Try.underlying36 (by kernel_rfl) (by kernel_rfl) (by simp) hval hd encI (fun _ => True) fun s hl hf => by
    match s, hl with
    | [a0, a1, a2, a3], _ =>
      obtain ⟨_, _, t0⟩ := hf 0 _ a0 rfl rfl
      obtain ⟨_, _, t1⟩ := hf 1 _ a1 rfl rfl
      obtain ⟨_, _, t2⟩ := hf 2 _ a2 rfl rfl
      obtain ⟨_, _, t3⟩ := hf 3 _ a3 rfl rfl
      obtain ⟨x0, e0, _, _⟩ := DataW.trod_int Try.underlying3 t0
      obtain ⟨x1, e1, _, _⟩ := DataW.trod_int Try.underlying3 t1
      obtain ⟨x2, e2, _, _⟩ := DataW.trod_int Try.underlying2 t2
      obtain ⟨x3, e3, _, _⟩ := DataW.trod_int Try.underlying2 t3
      simp at e0 e1 e2 e3
      subst e0 e1 e2 e3
      exact ⟨⟨x0, x1, x2, x3⟩, rfl, trivial⟩
  exact ⟨l, h⟩
theorem item_of (hval : Value.okWide Try.prog w .any base 36 v) (hd : DataW.Trod enc Try.prog w 0 (fun _ => true) true 36 v d ps) : ∃ x : It, v = .agg (encI x).toArray := by
  obtain ⟨s, rfl, hl, hf⟩ := struct_of Try.underlying36 (by kernel_rfl) (by kernel_rfl) hval hd
  match s, hl with
  | [a0, a1, a2, a3], _ =>
    obtain ⟨_, _, t0⟩ := hf 0 _ a0 rfl rfl
    obtain ⟨_, _, t1⟩ := hf 1 _ a1 rfl rfl
    obtain ⟨_, _, t2⟩ := hf 2 _ a2 rfl rfl
    obtain ⟨_, _, t3⟩ := hf 3 _ a3 rfl rfl
    obtain ⟨x0, e0, _, _⟩ := DataW.trod_int Try.underlying3 t0
    obtain ⟨x1, e1, _, _⟩ := DataW.trod_int Try.underlying3 t1
    obtain ⟨x2, e2, _, _⟩ := DataW.trod_int Try.underlying2 t2
    obtain ⟨x3, e3, _, _⟩ := DataW.trod_int Try.underlying2 t3
    simp at e0 e1 e2 e3
    subst e0 e1 e2 e3
    exact ⟨⟨x0, x1, x2, x3⟩, rfl⟩
end

theorem Copy_none {w : World} {q : Value} (h : q = .pointer none ∨ ∃ k, q = .pointer (some ⟨k, 0, none⟩) ∧ w.cell? ⟨k, 0, none⟩ = some (.slice none 0 0)) : Calls Try.prog 25 #[q] w fun e w' => e = .returned (.pointer none) ∧ Below w.heap.size w w' := by
  rcases h with rfl | ⟨k, rfl, hk⟩
  · have h := pf_none_nil w
    go_enter Try.func25, Try.ntmps25
    go_wp2_with (go_at_call 30; go_must (refine h.mono ?_); rintro e w' ⟨rfl, rfl⟩)
    go_ret
    exact ⟨rfl, Below.refl _ _⟩
  · have h : Calls Try.prog 30 #[.pointer (some ⟨k, 0, none⟩)] w fun e w' => e = .returned (.bool true) ∧ w = w' := by
      go_enter Try.func30, Try.ntmps30
      go_wp2_with fail
      go_ret
      exact ⟨rfl, rfl⟩
    go_enter Try.func25, Try.ntmps25
    go_wp2_with (go_at_call 30; go_must (refine h.mono ?_); rintro e w' ⟨rfl, rfl⟩)
    go_ret
    exact ⟨rfl, Below.refl _ _⟩

set_option maxRecDepth 1000000 in
set_option maxHeartbeats 4000000 in
theorem nobody14_walk (n : Int) (x : It) (w : World) : Calls Try.prog 6 #[.int .i64 n, .agg (encI x).toArray] w fun e w' => e = .returned (.bool true) ∧ Below w.heap.size w w' := by
  have haw := fun W => awake14_fn W
  have hnx := fun W => Next_nil n W
  have hlf := fun W => Left_nil W
  have hch := fun W => Choices_nil W
  have hn1 := fun (W : World) (v : Value) (hv : ∃ ao n cap, v = .slice ao n cap) => planNew_none (v := v) (w := W) 1 (.inl rfl) (Copy_none (.inl rfl)) hv
  have hn2 := fun (W : World) (k : Nat) (v : Value) (hk : W.cell? ⟨k, 0, none⟩ = some (.slice none 0 0)) (hv : ∃ ao n cap, v = .slice ao n cap) => planNew_none (v := v) (w := W) 1 (.inr ⟨k, rfl⟩) (Copy_none (.inr ⟨k, rfl, hk⟩)) hv
  rw [show (encI x).toArray = #[.int .i64 x.id, .int .i64 x.wd, .int .i64 x.lim, .int .i64 x.pl] from rfl]
  replace haw := Lib.hid haw
  replace hnx := Lib.hid hnx
  replace hlf := Lib.hid hlf
  replace hch := Lib.hid hch
  replace hn1 := Lib.hid hn1
  replace hn2 := Lib.hid hn2
  obtain ⟨z, hz⟩ : ∃ z, z = w.heap.size + 1 := ⟨_, rfl⟩
  obtain ⟨ib, hib⟩ : ∃ ib, ib = w.heap.size := ⟨_, rfl⟩
  obtain ⟨wB, hwB⟩ : ∃ wB, wB = (w.alloc (.cells #[.int .i64 x.id, .int .i64 x.wd, .int .i64 x.lim, .int .i64 x.pl] 36)).alloc (.cells #[.slice none 0 0, .int .i64 0] 56) := ⟨_, rfl⟩
  have hbB : Below w.heap.size w wB := by rw [hwB]; exact ((Below.refl _ _).alloc (Nat.le_refl _) _).alloc (by simp) _
  have hI : Hid (wB.heap[ib]? = some (.cells #[.int .i64 x.id, .int .i64 x.wd, .int .i64 x.lim, .int .i64 x.pl] 36 (0, 0))) := by rw [hwB, hib]; exact heap_past (heap_alloc_new w _)
  have hZ : Hid (wB.heap[z]? = some (.cells #[.slice none 0 0, .int .i64 0] 56 (0, 0))) := by
    have := heap_alloc_new (w.alloc (.cells #[.int .i64 x.id, .int .i64 x.wd, .int .i64 x.lim, .int .i64 x.pl] 36)) (.cells #[.slice none 0 0, .int .i64 0] 56)
    rw [← hwB] at this
    rw [hz, show w.heap.size + 1 = (w.alloc (.cells #[.int .i64 x.id, .int .i64 x.wd, .int .i64 x.lim, .int .i64 x.pl] 36)).heap.size by simp]
    exact this
  go_enter Try.func6, Try.ntmps6
  go_upto_region 3 with fail
  rw [← hwB, ← hz, ← hib]
  clear hwB hz hib
  have k0 : wB.cell? ⟨ib, 0, none⟩ = some (.int .i64 x.id) := by simp [World.cell?, hI.out]
  have k1 : wB.cell? ⟨ib, 1, none⟩ = some (.int .i64 x.wd) := by simp [World.cell?, hI.out]
  have k2 : wB.cell? ⟨ib, 2, none⟩ = some (.int .i64 x.lim) := by simp [World.cell?, hI.out]
  have k3 : wB.cell? ⟨ib, 3, none⟩ = some (.int .i64 x.pl) := by simp [World.cell?, hI.out]
  go_wp2_with fail
  go_at_call 15
  refine (hn1.out _ _ ⟨_, _, _, rfl⟩).mono ?_
  rintro e w2 ⟨rfl, hb2⟩
  have hb2 : Below wB.heap.size wB w2 := ((Below.refl _ _).alloc (Nat.le_refl _) _).trans (hb2.mono (by simp))
  clear k0 k1 k2 k3
  have k0 : w2.cell? ⟨ib, 0, none⟩ = some (.int .i64 x.id) := by simp [World.cell?, (hb2.block _ (lt_of_at hI.out)).trans hI.out]
  have k1 : w2.cell? ⟨ib, 1, none⟩ = some (.int .i64 x.wd) := by simp [World.cell?, (hb2.block _ (lt_of_at hI.out)).trans hI.out]
  have k2 : w2.cell? ⟨ib, 2, none⟩ = some (.int .i64 x.lim) := by simp [World.cell?, (hb2.block _ (lt_of_at hI.out)).trans hI.out]
  have k3 : w2.cell? ⟨ib, 3, none⟩ = some (.int .i64 x.pl) := by simp [World.cell?, (hb2.block _ (lt_of_at hI.out)).trans hI.out]
  have hz2 := (hb2.block _ (lt_of_at hZ.out)).trans hZ.out
  have hcz : ∀ o, (w2.alloc o).cell? ⟨z, 0, none⟩ = some (.slice none 0 0) := fun o => by
    have := heap_past (o' := o) hz2
    simp [World.cell?, this]
  have hn3 := fun o v hv => hn2.out (w2.alloc o) z v (hcz o) hv
  replace hn3 := Lib.hid hn3
  have hbw2 := Lib.hid (hbB.trans (hb2.mono hbB.size))
  clear hb2 hz2 hcz hn2 hn1 hI hZ
  go_wp2_with fail
  go_at_call 15
  refine (hn3.out _ _ ⟨_, _, _, rfl⟩).mono ?_
  rintro e w4 ⟨rfl, hb4⟩
  have hb4 : Below w2.heap.size w2 w4 := ((Below.refl _ _).alloc (Nat.le_refl _) _).trans (hb4.mono (by simp))
  have hbw4 := Lib.hid (hbw2.out.trans (hb4.mono hbw2.out.size))
  clear hb4 k0 k1 k2 k3 hn3 hbw2
  go_wp2_with (first
    | (go_at_call 16; go_must (refine (hnx.out _).mono ?_); rintro e w' ⟨rfl, rfl⟩)
    | (go_at_call 17; go_must (refine (hlf.out _).mono ?_); rintro e w' ⟨rfl, rfl⟩)
    | (go_at_call 20; go_must (refine (hch.out _).mono ?_); rintro e w' ⟨rfl, rfl⟩))
  go_at_call 9
  refine (haw.out _).mono ?_
  rintro e w5 ⟨rfl, hb5⟩
  have hbw5 := Lib.hid (hbw4.out.trans (hb5.mono hbw4.out.size))
  clear hb5
  go_wp2_with fail
  go_ret
  exact ⟨rfl, hbw5.out⟩

end Go.Proofs.Ytbnpeicmbbgboaa
