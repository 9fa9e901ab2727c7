/-
  Own walks: the library's Insert ahead of the end.
-/
import Derived.Test.YtbnpeicmbbgboaaPfF
namespace Go.Proofs.Ytbnpeicmbbgboaa
set_option maxRecDepth 8000
open Go.RowKit Go.Sort Go.Lib

section
variable {w : World} {g cap : Nat} {L : List (Int × Int)}

theorem overlaps_no {w : World} (vb g o lb cb : Nat) (x : Int × Int) (hv : One1 w vb x) (hne : vb ≠ g) (hg : ∃ t k, w.shape? g = some (t, k) ∧ k ≠ 0) :
    (callFunc 55 #[.slice (some ⟨vb, 0, none⟩) 1 1, .slice (some ⟨g, o, none⟩) lb cb]).run Try.prog w = .ok (.value (.bool false)) w := by
  obtain ⟨t, k, hs, hk⟩ := hg
  have hfr : ∀ j, w.frozen? ⟨vb, j, none⟩ = false := fun j => by simp [World.frozen?, show w.heap[vb]? = _ from hv]
  rw [run_callFunc_extern Try.func55 (by kernel_rfl) (by kernel_rfl) (by kernel_rfl) (e := Extern.SlicesOverlaps.overlaps #[46, 46] #[4]) (by kernel_rfl),
      Lib.run_overlaps_apart w 46 4 49 Try.underlying46 2 (fun w => by kernel_rfl) ⟨vb, 0, none⟩ ⟨g, o, none⟩ 1 1 lb cb hne 49 t 2 k (by simp [World.shape?, show w.heap[vb]? = _ from hv]) hs hk (hfr 0) (hfr 2)]
  rfl

set_option maxRecDepth 100000 in
set_option maxHeartbeats 1000000 in
theorem insert_mid_room (x : Int × Int) (k vb : Nat) (ho : w.ownsRow 0 49 2 (.slice (some ⟨g, 0, none⟩) L.length cap) L.length (prV L)) (hl : L.length ≤ 1000) (hk : k < L.length) (hr : L.length + 1 ≤ cap) (hv : One1 w vb x) (hne : vb ≠ g) :
    Calls Try.prog 53 #[.slice (some ⟨g, 0, none⟩) L.length cap, .int .i64 k, .slice (some ⟨vb, 0, none⟩) 1 1] w (InsPost w g L k x) := by
  have hmix := pf_mixed
  obtain ⟨_, _, hnc, hcm, _⟩ := own_heap ho
  have hcm' : cap ≤ 9223372036854775807 := by unfold maxLen at hcm; omega
  clear hcm
  have hov : ∀ o lb cb, (callFunc 55 #[.slice (some ⟨vb, 0, none⟩) 1 1, .slice (some ⟨g, o, none⟩) lb cb]).run Try.prog w = .ok (.value (.bool false)) w := fun o lb cb => by
    obtain ⟨cur, hg, _, _, hs, _⟩ := own_heap ho
    exact overlaps_no vb g o lb cb x hv hne ⟨49, cur.size, by simp [World.shape?, hg], by omega⟩
  have b0 : (0 : Int) ≤ (k : Int) := by omega
  have b1 : ¬ ((k : Int) = (L.length : Int)) := by omega
  have b2 : (k : Int) ≤ (L.length : Int) := by omega
  have b3 : ¬ ((cap : Int) < (L.length : Int) + 1) := by omega
  have b4 : ¬ (cap = k) := by omega
  have b5 : ¬ (cap = k + 1) := by omega
  have w1 : IntKind.i64.wrap ((L.length : Int) + 1) = (L.length : Int) + 1 := IntWalk.i64_in _ (by omega)
  have w2 : IntKind.i64.wrap ((k : Int) + 1) = (k : Int) + 1 := IntWalk.i64_in _ (by omega)
  have b6 : (0 : Int) ≤ (L.length : Int) + 1 := by omega
  have b7 : (L.length : Int) + 1 ≤ (cap : Int) := by omega
  have b8 : ((L.length : Int) + 1).toNat = L.length + 1 := by omega
  have b9 : (0 : Int) ≤ (k : Int) + 1 := by omega
  have b10 : ((k : Int) + 1).toNat = k + 1 := by omega
  have b11 : (k : Int) + 1 ≤ (L.length : Int) + 1 := by omega
  have b12 : (k : Int) ≤ (L.length : Int) + 1 := by omega
  have b13 : k ≤ L.length + 1 := by omega
  have b14 : k + 1 ≤ L.length + 1 := by omega
  go_enter Try.func53, Try.ntmps53
  go_wp2_with (simp only [hov])
  refine Reg.region_mk 8 95 [[], [false], [false, false], [false, true, true], [true, true, true, true], [false, false, false, false, false], [false, false, false, false, false, false], [false, false, false, false, false, true, true]] [0, 0, 0, 0, 0, 0, 0, 0]
    [.pure, .pure, .pure, .pure, .pure, .pure, .pure, .pure]
    (fun W => Below w.heap.size w W) (fun _ _ => True) (fun _ _ => False) (by kernel_rfl) (by kernel_rfl) rfl rfl (fun _ _ _ _ h => h) ?_ ?_ ?_ ?_ ?_ ?_
  · intro w1 w2 he hb; exact hb.trans (he.mono hb.size)
  · intro _ _ h; exact h.elim
  · refine ⟨trivial, trivial, trivial, trivial, trivial, trivial, trivial, trivial, trivial⟩
  · exact (Below.refl _ _).drew
  · exact trivial
  dsimp only [Reg.mk, List.zip, List.zipWith, List.take]
  repeat (refine' Reg.pass_is _ (by rfl) (fun wz => ?_) ?_; rotate_left; (go_simp; first | rfl | rw [if_neg (by omega)]); simp only [Act.put, List.setIfInBounds_toArray, List.set_cons_zero, List.set_cons_succ]; (try simp only [List.nil_append]); (try simp only [List.cons_append]))
  refine Reg.pass_end ?_
  intro w3 HI3 _ HF3
  clear HF3 hov
  have ho3 := pf_own_kept ho HI3
  have hv3 : One1 w3 vb x := hv.off (p := g) (q := g) (Off.of_below HI3) ⟨hne, hne⟩
  obtain ⟨ys, hys, hom⟩ := own_more ho3 hr
  have hpl := prV_length L
  have hdl : (prV (L.drop k)).length = (L.length - k) * 2 := by rw [prV_length, List.length_drop]
  obtain ⟨w4, hcp1, ho4, hoff4⟩ := copy_put (P := Try.prog) (sz := 2) 46 46 Try.underlying46 (by kernel_rfl) hom ((k + 1) * 2) (prV (L.drop k)) (by omega) (prV_one _) ⟨g, k * 2, none⟩ (L.length - k) hdl (fun j v hj => by
    rw [prV_drop, List.getElem?_drop] at hj
    have := ho3.cells (g := g) rfl _ _ hj
    rw [Go.WideShapes.add_plain] at this ⊢
    simpa using this)
  have hv4 : One1 w4 vb x := hv3.off hoff4 ⟨hne, hne⟩
  obtain ⟨w5, hcp2, ho5, hoff5⟩ := copy_put (P := Try.prog) (sz := 2) 46 46 Try.underlying46 (by kernel_rfl) ho4 (k * 2) (enc2 x) (by simp [enc2]; omega) (one_enc2 x) ⟨vb, 0, none⟩ 1 rfl hv4.cells
  have hfin : w5.ownsRow 0 49 2 (.slice (some ⟨g, 0, none⟩) (L.length + 1) cap) (L.length + 1) (prV (insL L k x)) := by
    have e1 : ((prV L ++ ys).take ((k + 1) * 2) ++ prV (L.drop k) ++ (prV L ++ ys).drop ((k + 1) * 2 + (prV (L.drop k)).length)).take (k * 2) ++ enc2 x ++ ((prV L ++ ys).take ((k + 1) * 2) ++ prV (L.drop k) ++ (prV L ++ ys).drop ((k + 1) * 2 + (prV (L.drop k)).length)).drop (k * 2 + (enc2 x).length) = prV (insL L k x) := by
      have hnil : (prV L ++ ys).drop ((k + 1) * 2 + (prV (L.drop k)).length) = [] := List.drop_eq_nil_of_le (by rw [List.length_append, hys, hpl, hdl]; omega)
      rw [hnil, List.append_nil]
      have hA : ((prV L ++ ys).take ((k + 1) * 2)).length = (k + 1) * 2 := by rw [List.length_take, List.length_append, hys, hpl]; omega
      rw [List.take_append_of_le_length (by omega), List.take_take, Nat.min_eq_left (by omega), List.take_append_of_le_length (by omega)]
      rw [show k * 2 + (enc2 x).length = ((prV L ++ ys).take ((k + 1) * 2)).length by rw [hA]; simp [enc2]; omega, List.drop_left]
      rw [prV_insL, prV_drop]
    rw [e1] at ho5
    exact ho5
  have hpost : Hid (InsPost w g L k x (.returned (.slice (some ⟨g, 0, none⟩) (L.length + 1) cap)) w5) := ⟨g, cap, rfl, .inl rfl, hfin, ((Off.of_below HI3).trans hoff4 (.inl rfl)).trans hoff5 (.inl rfl)⟩
  clear ho hv ho3 hv3 hom ho4 hoff4 hv4 ho5 hoff5 hfin HI3 hys hpl hdl
  dsimp only [List.drop]
  have hc2 := fun ty dc sc => hcp2 ty (L.length + 1 - k) dc 1 sc (by simp only [Nat.min_def]; split <;> omega)
  clear hcp2
  show wpList _ _ _ [_] _ _
  refine wpList_copy_eq _ rfl _ _ _ _ rfl _ _ rfl rfl (hcp1 _ _ _ _ _ ?hm1) ?_
  case hm1 => simp only [Nat.min_def]; split <;> omega
  clear hcp1
  go_wp2_with fail
  go_ret
  exact hpost.out
end

end Go.Proofs.Ytbnpeicmbbgboaa
