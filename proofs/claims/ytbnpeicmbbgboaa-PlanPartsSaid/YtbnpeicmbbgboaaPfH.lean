/-
  Own walks: the library's Insert ahead of the end, where there is no room; and all of it.
-/
import Derived.Test.YtbnpeicmbbgboaaPfG
namespace Go.Proofs.Ytbnpeicmbbgboaa
set_option maxRecDepth 8000
open Go.RowKit Go.Sort Go.Lib

section
variable {w : World} {g cap : Nat} {L : List (Int × Int)}

set_option maxRecDepth 100000 in
set_option maxHeartbeats 1000000 in
theorem insert_mid_grow (x : Int × Int) (k vb : Nat) (ho : w.ownsRow 0 49 2 (.slice (some ⟨g, 0, none⟩) L.length cap) L.length (prV L)) (hl : L.length ≤ 1000) (hk : k < L.length) (hr : cap < L.length + 1) (hv : One1 w vb x) :
    Calls Try.prog 53 #[.slice (some ⟨g, 0, none⟩) L.length cap, .int .i64 k, .slice (some ⟨vb, 0, none⟩) 1 1] w (InsPost w g L k x) := by
  have hmix := pf_mixed
  obtain ⟨i0, hi0, hz0, hz1, hz2⟩ := info_parts pf_infoStep
  obtain ⟨_, _, hnc, hcm, _⟩ := own_heap ho
  obtain rfl : cap = L.length := by omega
  clear hcm
  have hgw : g < w.heap.size := (ho.lt g rfl).2
  have hvw : vb < w.heap.size := pf_lt_of_heap hv
  have hpl := prV_length L
  have hold : (Builtin.firstCells i0.size k (.slice (some ⟨g, 0, none⟩) k L.length)).run Try.prog w.drew = .ok (prV (L.take k)).toArray w.drew := by
    rw [hz1]
    exact run_firstCells_some w.drew 2 k ⟨g, 0, none⟩ k L.length (prV (L.take k)) (by rw [prV_length, List.length_take]; omega) (fun j v hj => by
      rw [prV_take, List.getElem?_take] at hj
      split at hj
      · exact ho.cells (g := g) rfl _ _ hj
      · cases hj)
  have hik : k + (L.length + 1 - k) = L.length + 1 := by omega
  have hkk : (L.length : Int) + 1 - (k : Int) = ((L.length + 1 - k : Nat) : Int) := by omega
  have hrz : ∀ ty, (Builtin.append_ #[46, 3] ty #[.slice (some ⟨g, 0, none⟩) k L.length, .int .i64 ((L.length : Int) + 1 - (k : Int))]).run Try.prog w =
      .ok (.slice (some ⟨w.heap.size, 0, none⟩) (L.length + 1) (grownCap w (L.length + 1) L.length 49)) (w.drew.alloc (.cells ((prV (L.take k)).toArray ++ Builtin.zeroCells (Value.agg #[.int .i64 0, .int .i64 0]).cells (L.length + 1 - k) ++ Builtin.zeroCells (Value.agg #[.int .i64 0, .int .i64 0]).cells (grownCap w (L.length + 1) L.length 49 - (L.length + 1))) 49)) := fun ty => by
    have h := Lib.run_append_grow_zeros (P := Try.prog) w 46 3 ty 49 i0 _ .i64 .i64 Try.underlying46 Try.underlying3 hi0 hz0 (some ⟨g, 0, none⟩) k L.length (prV (L.take k)) hold (L.length + 1 - k) (by omega) (by omega) (by omega) (by omega) (by rw [hz2]; omega) (by rw [hz2, hik]; exact growslice_fits hr (by omega))
    rw [hik] at h
    rw [hkk]
    exact h
  obtain ⟨G, hG⟩ : ∃ G, G = grownCap w (L.length + 1) L.length 49 := ⟨_, rfl⟩
  have hGn : L.length + 1 ≤ G := by rw [hG]; exact grownCap_ge w _ _ _
  have hGm : G ≤ maxLen := by rw [hG]; exact grownCap_le_maxLen w _ _ _ (by unfold maxLen; omega)
  have hG63 : G ≤ 9223372036854775807 := by unfold maxLen at hGm; omega
  rw [← hG] at hrz
  obtain ⟨ROW, hROW⟩ : ∃ ROW : Array Value, ROW = (prV (L.take k)).toArray ++ Builtin.zeroCells (Value.agg #[.int .i64 0, .int .i64 0]).cells (L.length + 1 - k) ++ Builtin.zeroCells (Value.agg #[.int .i64 0, .int .i64 0]).cells (G - (L.length + 1)) := ⟨_, rfl⟩
  rw [← hROW] at hrz
  obtain ⟨Z, hZ⟩ : ∃ Z : List Value, Z = (Builtin.zeroCells (Value.agg #[.int .i64 0, .int .i64 0]).cells (L.length + 1 - k)).toList := ⟨_, rfl⟩
  have hZl : Z.length = (L.length + 1 - k) * 2 := by rw [hZ, Array.length_toList, size_zeroCells]; rfl
  have htl : (prV (L.take k)).length = k * 2 := by rw [prV_length, List.length_take]; omega
  obtain ⟨W1, hW1⟩ : ∃ W1, W1 = w.drew.alloc (.cells ROW 49) := ⟨_, rfl⟩
  rw [← hW1] at hrz
  have hom : W1.ownsRow 0 49 2 (.slice (some ⟨w.heap.size, 0, none⟩) (L.length + 1) G) (L.length + 1) (prV (L.take k) ++ Z) := by
    rw [hW1]
    refine ⟨by rw [List.length_append, htl, hZl]; omega, .inr ⟨w.heap.size, G, ROW, rfl, Nat.zero_le _, heap_alloc_new w.drew _, hGn, hGm, ?_, ?_⟩⟩
    · rw [hROW, Array.size_append, Array.size_append, size_zeroCells, size_zeroCells, List.size_toArray, htl]
      have : (Value.agg #[Value.int .i64 0, Value.int .i64 0]).cells.size = 2 := rfl
      rw [this]; omega
    · rw [hROW, Array.toList_append, Array.toList_append, ← hZ]
      have : (L.length + 1) * 2 = ((prV (L.take k)).toArray.toList ++ Z).length := by rw [List.length_append, hZl]; simp only [htl]; omega
      rw [this, List.take_left]
  have hb1 : Below w.heap.size w W1 := by rw [hW1]; exact ((Below.refl _ w).drew).alloc (Nat.le_refl _) _
  have hv1 : One1 W1 vb x := hv.off (p := w.heap.size) (q := w.heap.size) (Off.of_below hb1) ⟨by omega, by omega⟩
  obtain ⟨W2, hcp1, ho2, hoff2⟩ := copy_put (P := Try.prog) (sz := 2) 46 46 Try.underlying46 (by kernel_rfl) hom (k * 2) (enc2 x) (by simp [enc2]; omega) (one_enc2 x) ⟨vb, 0, none⟩ 1 rfl hv1.cells
  have hdl : (prV (L.drop k)).length = (L.length - k) * 2 := by rw [prV_length, List.length_drop]
  have hfin : ∀ W : World, W.ownsRow 0 49 2 (.slice (some ⟨w.heap.size, 0, none⟩) (L.length + 1) G) (L.length + 1) (((prV (L.take k) ++ Z).take (k * 2) ++ enc2 x ++ (prV (L.take k) ++ Z).drop (k * 2 + (enc2 x).length)).take ((k + 1) * 2) ++ prV (L.drop k) ++ ((prV (L.take k) ++ Z).take (k * 2) ++ enc2 x ++ (prV (L.take k) ++ Z).drop (k * 2 + (enc2 x).length)).drop ((k + 1) * 2 + (prV (L.drop k)).length)) → W.ownsRow 0 49 2 (.slice (some ⟨w.heap.size, 0, none⟩) (L.length + 1) G) (L.length + 1) (prV (insL L k x)) := by
    intro W hW
    have e1 : ((prV (L.take k) ++ Z).take (k * 2) ++ enc2 x ++ (prV (L.take k) ++ Z).drop (k * 2 + (enc2 x).length)).take ((k + 1) * 2) ++ prV (L.drop k) ++ ((prV (L.take k) ++ Z).take (k * 2) ++ enc2 x ++ (prV (L.take k) ++ Z).drop (k * 2 + (enc2 x).length)).drop ((k + 1) * 2 + (prV (L.drop k)).length) = prV (insL L k x) := by
      have hA : (prV (L.take k) ++ Z).take (k * 2) = prV (L.take k) := by rw [← htl, List.take_left]
      rw [hA]
      have hB : (prV (L.take k) ++ enc2 x ++ (prV (L.take k) ++ Z).drop (k * 2 + (enc2 x).length)).drop ((k + 1) * 2 + (prV (L.drop k)).length) = [] := List.drop_eq_nil_of_le (by
        simp only [List.length_append, List.length_drop, htl, hZl, hdl]; simp [enc2]; omega)
      have hC : (prV (L.take k) ++ enc2 x).length = (k + 1) * 2 := by rw [List.length_append, htl]; simp [enc2]; omega
      rw [hB, List.append_nil, ← hC, List.take_left, prV_insL, prV_take, prV_drop]
    rw [e1] at hW
    exact hW
  have hpost : Hid (∀ (W3 W4 : World), Below W2.heap.size W2 W3 → W4.ownsRow 0 49 2 (.slice (some ⟨w.heap.size, 0, none⟩) (L.length + 1) G) (L.length + 1) (prV (insL L k x)) → Off w.heap.size w.heap.size W3 W4 → InsPost w g L k x (.returned (.slice (some ⟨w.heap.size, 0, none⟩) (L.length + 1) G)) W4) := by
    intro W3 W4 h3 h4 h5
    refine ⟨w.heap.size, G, rfl, .inr (Nat.le_refl _), h4, ?_⟩
    have hall : Below w.heap.size w W4 := (hb1.trans (hoff2.below (Nat.le_refl _) (Nat.le_refl _) hb1.size)).trans ((h3.mono (Nat.le_trans hb1.size hoff2.size)).trans (h5.below (Nat.le_refl _) (Nat.le_refl _) (Nat.le_trans hb1.size (Nat.le_trans hoff2.size h3.size))))
    exact Off.of_below hall
  have hsrc : Hid (∀ (W3 : World), Below W2.heap.size W2 W3 → ∀ j v, (prV (L.drop k))[j]? = some v → W3.cell? ((⟨g, k * 2, none⟩ : Addr).add j) = some v) := by
    intro W3 h3 j v hj
    rw [prV_drop, List.getElem?_drop] at hj
    have := ho.cells (g := g) rfl _ _ hj
    rw [Go.WideShapes.add_plain] at this ⊢
    have hW2g : g < W2.heap.size := by have := hoff2.size; have := hb1.size; omega
    rw [h3.cell (p := ⟨g, _, none⟩) hW2g, hoff2.cell (a := ⟨g, _, none⟩) (by have := hb1.size; show g < _; omega) (by show g ≠ _; omega) (by show g ≠ _; omega), hb1.cell (p := ⟨g, _, none⟩) hgw]
    simpa using this
  have hc1 := fun ty dc sc => hcp1 ty (L.length + 1 - k) dc 1 sc (by simp only [Nat.min_def]; split <;> omega)
  have w1 : IntKind.i64.wrap ((L.length : Int) + 1) = (L.length : Int) + 1 := IntWalk.i64_in _ (by omega)
  have w2 : IntKind.i64.wrap ((k : Int) + 1) = (k : Int) + 1 := IntWalk.i64_in _ (by omega)
  have w3' : IntKind.i64.wrap ((L.length : Int) + 1 - (k : Int)) = (L.length : Int) + 1 - (k : Int) := IntWalk.i64_in _ (by omega)
  have b0 : (0 : Int) ≤ (k : Int) := by omega
  have b1 : ¬ ((k : Int) = (L.length : Int)) := by omega
  have b2 : (k : Int) ≤ (L.length : Int) := by omega
  have b3 : ((L.length : Int) < (L.length : Int) + 1) := by omega
  have b4 : ¬ (L.length = k) := by omega
  have b5 : ¬ (G = k) := by omega
  have b6 : ¬ (G = k + 1) := by omega
  have b7 : (0 : Int) ≤ (k : Int) + 1 := by omega
  have b8 : ((k : Int) + 1).toNat = k + 1 := by omega
  have b9 : (k : Int) + 1 ≤ (L.length : Int) + 1 := by omega
  have b10 : (k : Int) ≤ (L.length : Int) + 1 := by omega
  have b11 : k ≤ L.length + 1 := by omega
  have b12 : k + 1 ≤ L.length + 1 := by omega
  have ho2' := Lib.hid ho2
  have hfin' := Lib.hid hfin
  clear ho hr hcp1 hkk hik hold hROW hG hZ hZl hom hb1 hv1 hv hfin ho2 hoff2 hW1 hpl htl
  replace hdl := Lib.hid hdl
  go_enter Try.func53, Try.ntmps53
  go_wp2_with (at_builtin; refine Lib.wpList_append_run _ rfl _ _ _ _ rfl _ _ rfl rfl _ _ (hrz _) ?_)
  refine Reg.region_mk 8 95 [[], [false], [false, false], [false, true, true], [true, true, true, true], [false, false, false, false, false], [false, false, false, false, false, false], [false, false, false, false, false, true, true]] [0, 0, 0, 0, 0, 0, 0, 0]
    [.pure, .pure, .pure, .pure, .pure, .pure, .pure, .pure]
    (fun W => Below W2.heap.size W2 W) (fun _ _ => True) (fun _ _ => False) (by kernel_rfl) (by kernel_rfl) rfl rfl (fun _ _ _ _ h => h) ?_ ?_ ?_ ?_ ?_ ?_
  · intro w1 w2 he hb; exact hb.trans (he.mono hb.size)
  · intro _ _ h; exact h.elim
  · refine ⟨trivial, trivial, trivial, trivial, trivial, trivial, trivial, trivial, trivial⟩
  · exact (Below.refl _ _).drew
  · exact trivial
  dsimp only [Reg.mk, List.zip, List.zipWith, List.take]
  repeat (refine' Reg.pass_is _ (by rfl) (fun wz => ?_) ?_; rotate_left; (go_simp; first | rfl | rw [if_neg (by omega)]); simp only [Act.put, List.setIfInBounds_toArray, List.set_cons_zero, List.set_cons_succ]; (try simp only [List.nil_append]); (try simp only [List.cons_append]))
  refine Reg.pass_end ?_
  intro w3 HI3 _ HF3
  clear HF3
  have ho3 := pf_own_kept ho2'.out HI3
  obtain ⟨w4, hcp2, ho4, hoff4⟩ := copy_put (P := Try.prog) (sz := 2) 46 46 Try.underlying46 (by kernel_rfl) ho3 ((k + 1) * 2) (prV (L.drop k)) (by rw [hdl.out]; omega) (prV_one _) ⟨g, k * 2, none⟩ (L.length - k) hdl.out (hsrc.out w3 HI3)
  have hp := hpost.out w3 w4 HI3 (hfin'.out w4 ho4) hoff4
  replace hp := Lib.hid hp
  clear hpost ho3 ho4 hoff4 hsrc hfin' ho2' HI3
  dsimp only [List.drop]
  show wpList _ _ _ [_] _ _
  refine wpList_copy_eq _ rfl _ _ _ _ rfl _ _ rfl rfl (hcp2 _ _ _ _ _ ?hm1) ?_
  case hm1 => simp only [Nat.min_def]; split <;> omega
  clear hcp2 hc1 hrz
  go_wp2_with fail
  go_ret
  exact hp.out

theorem insert_any (x : Int × Int) (k vb : Nat) (ho : w.ownsRow 0 49 2 (.slice (some ⟨g, 0, none⟩) L.length cap) L.length (prV L)) (hl : L.length ≤ 1000) (hk : k ≤ L.length) (hv : One1 w vb x) (hne : vb ≠ g) :
    Calls Try.prog 53 #[.slice (some ⟨g, 0, none⟩) L.length cap, .int .i64 k, .slice (some ⟨vb, 0, none⟩) 1 1] w (InsPost w g L k x) := by
  by_cases hlt : k < L.length
  · by_cases hr : L.length + 1 ≤ cap
    · exact insert_mid_room x k vb ho hl hlt hr hv hne
    · exact insert_mid_grow x k vb ho hl hlt (by omega) hv
  · obtain rfl : k = L.length := by omega
    by_cases hr : L.length + 1 ≤ cap
    · exact insert_end_room x vb ho hl hr hv
    · exact insert_end_grow x vb ho hl (by omega) hv
end

end Go.Proofs.Ytbnpeicmbbgboaa
