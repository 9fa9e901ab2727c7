/-
  Own walks: == on choices; the chapter's example.
-/
import Derived.Test.YtbnpeicmbbgboaaPgF
namespace Go.Proofs.Ytbnpeicmbbgboaa
set_option maxRecDepth 8000
open Go.RowKit Go.Sort Go.Lib

theorem equalIn_choice (x y : Int × Int) (w : World) : (Op.equalIn 10000 53 (.agg #[.int .i64 x.1, .int .i64 x.2]) (.agg #[.int .i64 y.1, .int .i64 y.2])).run Try.prog w = .ok (decide (x = y)) w := by
  have u2 := Try.underlying2
  have a2 := Try.isAgg2
  have z2 := Try.sizeOf2
  have u3 := Try.underlying3
  have a3 := Try.isAgg3
  have z3 := Try.sizeOf3
  have hS : Try.prog.underlying 53 = some (.struct (Try.prog.fieldsOf 53)) := by kernel_rfl
  have hp : Try.prog.stoodInHeld 53 = false := by kernel_rfl
  rw [show (10000 : Nat) = 9999 + 1 from rfl, run_equalIn_agg w 9999 53 _ _ hS hp]
  simp only [Program.fieldsOf, Try.underlying53]
  go_simp
  obtain ⟨x1, x2⟩ := x
  obtain ⟨y1, y2⟩ := y
  by_cases h1 : x1 = y1 <;> by_cases h2 : x2 = y2 <;> simp [h1, h2]
theorem choice_eql (x y : Int) (w : World) : (binOp .eql 53 (.agg #[.int .i64 x, .int .i64 y]) (.agg #[.int .i64 x, .int .i64 y])).run Try.prog w = .ok (.bool true) w := by
  have h := equalIn_choice (x, y) (x, y) w
  rw [run_eql_struct, h]
  simp
theorem choice_neq (x y : Int) (w : World) : (binOp .neq 53 (.agg #[.int .i64 x, .int .i64 y]) (.agg #[.int .i64 x, .int .i64 y])).run Try.prog w = .ok (.bool false) w := by
  have h := equalIn_choice (x, y) (x, y) w
  rw [run_neq_struct, h]
  simp
theorem choice_guard : Try.prog.eqGuardType Try.prog.depth 53 = false := by kernel_rfl

theorem pick_ex {f : Int → Int} (x : It) (t : Int) (hp : x.pl = -1) (hw : 1 ≤ x.wd ∧ x.wd ≤ 64) (hl : 1 ≤ x.lim ∧ x.lim ≤ 1048576) (ht : 0 ≤ t ∧ t ≤ 1099511627776) (hg : ∀ u, t ≤ u → u < t + x.lim → x.wd ≤ f u ∧ f u ≤ 64) (hn : ∀ u, 0 ≤ u → u < t → ∃ y, u ≤ y ∧ y < u + x.lim ∧ f y < x.wd) :
    PlanR 0 x f (fun u => f u + had t (t + x.lim) (-x.wd) u) [(x.id, t)] := by
  refine ⟨f, 0, .inl ⟨hp, rfl, rfl⟩, .inr ⟨rfl, t, 0, .inl ⟨rfl, ht.1, ht.2, fun u h1 h2 => (hg u h1 h2).1, fun u h1 h2 h3 => ?_⟩, .inl ⟨⟨rfl, .inl hp⟩, rfl, 0, 1, .inr (.inr (.inr ⟨by omega, by omega, fun u h1 h2 => ?_, rfl, ?_, rfl⟩))⟩⟩⟩
  · obtain ⟨y, h4, h5, h6⟩ := hn u h1 h2
    have := h3 y h4 h5
    omega
  · have := hg u (by omega) h2
    omega
  · rw [show max t 0 = t by omega]
theorem exPlan : ∃ f', PlansR 0 [⟨1, 3, 10, -1⟩, ⟨2, 3, 10, -1⟩, ⟨3, 1, 10, -1⟩] (fun _ => 4) f' [(1, 0), (2, 10), (3, 0)] := by
  have h1 := pick_ex (f := fun _ => 4) ⟨1, 3, 10, -1⟩ 0 rfl (by decide) (by decide) (by omega) (fun u _ _ => by dsimp only; omega) (fun u h1 h2 => by omega)
  dsimp only at h1
  have h2 := pick_ex (f := fun u => 4 + had 0 (0 + 10) (-3) u) ⟨2, 3, 10, -1⟩ 10 rfl (by decide) (by decide) (by omega) (fun u h1 h2 => by dsimp only at h2 ⊢; unfold had; rw [if_neg (by omega)]; omega) (fun u h1 h2 => ⟨u, by omega, by dsimp only; omega, by dsimp only; unfold had; rw [if_pos (by omega)]; omega⟩)
  dsimp only at h2
  have h3 := pick_ex (f := fun u => 4 + had 0 (0 + 10) (-3) u + had 10 (10 + 10) (-3) u) ⟨3, 1, 10, -1⟩ 0 rfl (by decide) (by decide) (by omega) (fun u h1 h2 => by dsimp only at h2 ⊢; unfold had; rw [if_pos (by omega), if_neg (by omega)]; omega) (fun u h1 h2 => by omega)
  exact ⟨_, _, [(1, 0)], [(2, 10), (3, 0)], h1, ⟨_, [(2, 10)], [(3, 0)], h2, ⟨_, [(3, 0)], [], h3, ⟨rfl, rfl⟩, rfl⟩, rfl⟩, rfl⟩

set_option maxRecDepth 1000000 in
set_option maxHeartbeats 4000000 in
theorem awake14_fn (w : World) : Calls Try.prog 9 #[] w fun e w' => e = .returned (.bool true) ∧ Below w.heap.size w w' := by
  have hnw := pf_New_any 4 w (by omega)
  have hce := fun W => choice_eql 3 0 W
  have hcg := choice_guard
  go_enter Try.func9, Try.ntmps9
  go_wp2_with fail
  go_at_call 21
  refine hnw.mono ?_
  clear hnw
  rintro e w1 ⟨p, g, rfl, hP, hp, hg, hb1⟩
  obtain ⟨vs, hvs⟩ : ∃ vs : List Value, vs = [(⟨1, 3, 10, -1⟩ : It), ⟨2, 3, 10, -1⟩, ⟨3, 1, 10, -1⟩].flatMap encI := ⟨_, rfl⟩
  obtain ⟨w2, hw2⟩ : ∃ w2, w2 = w1.alloc (.cells vs.toArray 36) := ⟨_, rfl⟩
  have hal : Below w1.heap.size w1 w2 := by rw [hw2]; exact (Below.refl _ _).alloc (Nat.le_refl _) _
  have hk : PfOk w2 p g [(0, 4)] 0 0 (fun _ => 4) 1 0 := ⟨hP.kept hal, Can_new 4, fun t _ => by omega, by omega, by simp, by omega⟩
  have hrow : RowAt encI 4 w2 (.slice (some ⟨w1.heap.size, 0, none⟩) 3 3) [⟨1, 3, 10, -1⟩, ⟨2, 3, 10, -1⟩, ⟨3, 1, 10, -1⟩] := by
    rw [hw2]
    exact RowAt.of_own (own_new (vs := vs) (base := 0) rfl (Nat.zero_le _) (by rw [hvs]; rfl) (by unfold maxLen; omega)) (fun _ => rfl) hvs rfl
  have hall := All_fn 9 hk (by omega) (by omega) (by omega) hrow (by simp)
  have hb2 := hb1.trans (hal.mono hb1.size)
  rw [show vs = [.int .i64 1, .int .i64 3, .int .i64 10, .int .i64 (-1), .int .i64 2, .int .i64 3, .int .i64 10, .int .i64 (-1), .int .i64 3, .int .i64 1, .int .i64 10, .int .i64 (-1)] by rw [hvs]; rfl] at hw2
  rw [hw2] at hall
  replace hb2 := Lib.hid hb2
  clear hal hk hrow hP hvs
  go_wp2_with fail
  go_at_call 10
  refine hall.mono ?_
  clear hall
  rw [← hw2]
  rintro e w3 ⟨hb3, hr⟩
  replace hb2 := hb2.out.trans (hb3.mono hb2.out.size)
  clear hw2
  rcases hr with ⟨h1, _⟩ | ⟨_, ⟨x, hx, hno⟩, _⟩ | ⟨_, _, v, c, f', rfl, ho, hR⟩
  · omega
  · exfalso
    refine hno ?_
    simp at hx
    rcases hx with rfl | rfl | rfl <;> (unfold It.ok; dsimp only; omega)
  · obtain ⟨f2, hE⟩ := exPlan
    obtain ⟨rfl, _⟩ := PlansR.uniq _ hR hE (fun _ _ => rfl)
    obtain ⟨g3, cap, rfl, hg3⟩ := own_block ho (by simp)
    have k1 := ho.cells (g := g3) rfl 1 (.int .i64 0) rfl
    have k3 := ho.cells (g := g3) rfl 3 (.int .i64 10) rfl
    have k4 := ho.cells (g := g3) rfl 4 (.int .i64 3) rfl
    have k5 := ho.cells (g := g3) rfl 5 (.int .i64 0) rfl
    rw [Go.WideShapes.add_plain] at k1 k3 k4 k5
    simp only [Nat.zero_add] at k1 k3 k4 k5
    clear ho hR hE hb3
    go_wp2_with fail
    go_ret
    exact ⟨rfl, hb2⟩

end Go.Proofs.Ytbnpeicmbbgboaa
