/-
  Own walks: the library's Insert of one step.
-/
import Derived.Test.YtbnpeicmbbgboaaPfE
import Derived.ArgAppend
namespace Go.Proofs.Ytbnpeicmbbgboaa
set_option maxRecDepth 8000
open Go.RowKit Go.Sort Go.Lib

section
variable {w : World} {g cap : Nat} {L : List (Int × Int)}

/-- One step in a block of its own. -/
def One1 (w : World) (vb : Nat) (x : Int × Int) : Prop := w.heap[vb]? = some (.cells #[.int .i64 x.1, .int .i64 x.2] 49 (0, 0))
theorem One1.cells {vb : Nat} {x : Int × Int} (h : One1 w vb x) : ∀ j v, (enc2 x)[j]? = some v → w.cell? ((⟨vb, 0, none⟩ : Addr).add j) = some v := by
  intro j v hj
  rw [Go.WideShapes.add_plain]
  have hj2 : j < 2 := (List.getElem?_eq_some_iff.1 hj).1
  rcases (by omega : j = 0 ∨ j = 1) with rfl | rfl
  · simp [enc2] at hj; subst hj; simp [World.cell?, show w.heap[vb]? = _ from h]
  · simp [enc2] at hj; subst hj; simp [World.cell?, show w.heap[vb]? = _ from h]
theorem One1.off {w' : World} {vb p q : Nat} {x : Int × Int} (h : One1 w vb x) (ho : Off p q w w') (hp : vb ≠ p ∧ vb ≠ q) : One1 w' vb x := by
  unfold One1
  rw [ho.block vb (pf_lt_of_heap h) hp.1 hp.2]
  exact h
theorem prV_insL (L : List (Int × Int)) (k : Nat) (x : Int × Int) : prV (insL L k x) = (prV L).take (k * 2) ++ enc2 x ++ (prV L).drop (k * 2) := by
  unfold insL
  rw [prV_append, show x :: L.drop k = [x] ++ L.drop k from rfl, prV_append, prV_take, prV_drop]
  simp [prV]
theorem one_enc2 (x : Int × Int) : ∀ u ∈ enc2 x, u.oneCell' = true := by intro u hu; simp [enc2] at hu; rcases hu with rfl | rfl <;> rfl

/-- What Insert tells. -/
def InsPost (w : World) (g : Nat) (L : List (Int × Int)) (k : Nat) (x : Int × Int) (e : Ending) (w' : World) : Prop :=
  ∃ g' cap', e = .returned (.slice (some ⟨g', 0, none⟩) (L.length + 1) cap') ∧ (g' = g ∨ w.heap.size ≤ g') ∧ w'.ownsRow 0 49 2 (.slice (some ⟨g', 0, none⟩) (L.length + 1) cap') (L.length + 1) (prV (insL L k x)) ∧ Off g g w w'

/-- A row with room for one more. -/
theorem own_more (ho : w.ownsRow 0 49 2 (.slice (some ⟨g, 0, none⟩) L.length cap) L.length (prV L)) (hr : L.length + 1 ≤ cap) : ∃ ys : List Value, ys.length = 2 ∧ w.ownsRow 0 49 2 (.slice (some ⟨g, 0, none⟩) (L.length + 1) cap) (L.length + 1) (prV L ++ ys) := by
  rcases ho.2 with ⟨e0, _⟩ | ⟨g', cap', cur, e0, hb, hg, hn, hm, hs, ht⟩
  · cases e0
  · cases e0
    have hcl : cur.toList.length = cur.size := Array.length_toList
    have e1 : prV L ++ (cur.toList.drop (L.length * 2)).take 2 = cur.toList.take ((L.length + 1) * 2) := by
      rw [← ht, Nat.add_mul, List.take_add]
    have hy : ((cur.toList.drop (L.length * 2)).take 2).length = 2 := by rw [List.length_take, List.length_drop, hcl]; omega
    refine ⟨(cur.toList.drop (L.length * 2)).take 2, hy, ?_, .inr ⟨g, cap, cur, rfl, hb, hg, hr, hm, hs, e1.symm⟩⟩
    rw [List.length_append, hy, prV_length]; omega

set_option maxRecDepth 100000 in
set_option maxHeartbeats 1000000 in
theorem insert_end_room (x : Int × Int) (vb : Nat) (ho : w.ownsRow 0 49 2 (.slice (some ⟨g, 0, none⟩) L.length cap) L.length (prV L)) (hl : L.length ≤ 1000) (hr : L.length + 1 ≤ cap) (hv : One1 w vb x) :
    Calls Try.prog 53 #[.slice (some ⟨g, 0, none⟩) L.length cap, .int .i64 L.length, .slice (some ⟨vb, 0, none⟩) 1 1] w (InsPost w g L L.length x) := by
  obtain ⟨i0, hi0, hz0, hz1, hz2⟩ := info_parts pf_infoStep
  obtain ⟨_, _, hnc, hcm, _⟩ := own_heap ho
  have hcm' : cap ≤ 9223372036854775807 := by unfold maxLen at hcm; omega
  clear hcm
  obtain ⟨ys, hys, hom⟩ := own_more ho hr
  have hsrc : Src Try.prog 2 46 (.slice (some ⟨vb, 0, none⟩) 1 1) 1 (enc2 x) w := Src.ofSlice w Try.underlying46 _ 1 1 _ rfl hv.cells (one_enc2 x)
  obtain ⟨w2, hrun, ho2, hoff⟩ := append_put 46 46 i0 Try.underlying46 hi0 hz1 hom L.length 1 _ (Nat.le_refl _) _ hsrc
  have hfin : w2.ownsRow 0 49 2 (.slice (some ⟨g, 0, none⟩) (L.length + 1) cap) (L.length + 1) (prV (insL L L.length x)) := by
    have e1 : (prV L ++ ys).take (L.length * 2) ++ enc2 x ++ (prV L ++ ys).drop (L.length * 2 + (enc2 x).length) = prV (insL L L.length x) := by
      rw [prV_insL, ← prV_length, List.take_left, List.drop_eq_nil_of_le (by simp [enc2, hys]), List.take_length, List.drop_length]
    rw [e1] at ho2
    exact ho2
  have hpost : Hid (InsPost w g L L.length x (.returned (.slice (some ⟨g, 0, none⟩) (L.length + 1) cap)) w2) := ⟨g, cap, rfl, .inl rfl, hfin, hoff⟩
  have b1 : (0 : Int) ≤ (L.length : Int) := by omega
  clear ho hsrc ho2 hoff hfin hom hv
  by_cases hc : cap = L.length
  · omega
  · go_enter Try.func53, Try.ntmps53
    go_wp2_with (at_builtin; refine Lib.wpList_append_run _ rfl _ _ _ _ rfl _ _ rfl rfl _ _ (hrun _) ?_)
    go_ret
    exact hpost.out

set_option maxRecDepth 100000 in
set_option maxHeartbeats 1000000 in
theorem insert_end_grow (x : Int × Int) (vb : Nat) (ho : w.ownsRow 0 49 2 (.slice (some ⟨g, 0, none⟩) L.length cap) L.length (prV L)) (hl : L.length ≤ 1000) (hr : cap < L.length + 1) (hv : One1 w vb x) :
    Calls Try.prog 53 #[.slice (some ⟨g, 0, none⟩) L.length cap, .int .i64 L.length, .slice (some ⟨vb, 0, none⟩) 1 1] w (InsPost w g L L.length x) := by
  obtain ⟨i0, hi0, hz0, hz1, hz2⟩ := info_parts pf_infoStep
  obtain ⟨_, _, hnc, hcm, _⟩ := own_heap ho
  obtain rfl : cap = L.length := by omega
  clear hcm
  obtain ⟨v', w2, hrun, ho2, hgrow⟩ := run_append_arg_grows (P := Try.prog) w 46 46 49 i0 (.agg #[.int .i64 0, .int .i64 0]) 2 16 Try.underlying46 hi0 hz0 hz1 hz2 rfl (by decide) ⟨g, 0, none⟩ L.length L.length (prV L) (prV_length L) (fun j u hj => ho.cells (g := g) rfl j u hj) ⟨vb, 0, none⟩ 1 1 (enc2 x) rfl hv.cells hr (by unfold maxLen; omega) (by omega)
  obtain ⟨g', cap', rfl, hg'⟩ := own_block ho2 (by omega)
  have hfin : w2.ownsRow 0 49 2 (.slice (some ⟨g', 0, none⟩) (L.length + 1) cap') (L.length + 1) (prV (insL L L.length x)) := by
    have e1 : prV (insL L L.length x) = prV L ++ enc2 x := by rw [prV_insL, ← prV_length, List.take_length, List.drop_length, List.append_nil]
    rw [e1]
    exact ownsRow_mono ho2 (Nat.zero_le _)
  have hpost : Hid (InsPost w g L L.length x (.returned (.slice (some ⟨g', 0, none⟩) (L.length + 1) cap')) w2) := ⟨g', cap', rfl, .inr hg', hfin, ⟨hgrow.os, hgrow.tape, hgrow.output, hgrow.size, fun k hk _ _ => hgrow.block k hk (by simp)⟩⟩
  have b1 : (0 : Int) ≤ (L.length : Int) := by omega
  clear ho ho2 hgrow hfin hv
  go_enter Try.func53, Try.ntmps53
  go_wp2_with (at_builtin; refine Lib.wpList_append_run _ rfl _ _ _ _ rfl _ _ rfl rfl _ _ hrun ?_)
  go_ret
  exact hpost.out
end

end Go.Proofs.Ytbnpeicmbbgboaa
