/-
  Own walks: package span's list of times (the library's sort and compact by the kit's contracts).
-/
import Derived.Test.YtnajcgicbhohhaaSpT
import Derived.Test.YtnajcgicbhohhaaOwnK
import Derived.Test.YtnajcgicbhohhaaLay
namespace Go.Proofs.Ytnajcgicbhohhaa
open Go.RowKit Go.Sort Go.Lib

theorem sort_own {base : Nat} (v : Value) (zs : List Int) (w : World) (h : w.ownsRow base 2 1 v zs.length (intsV zs)) (hlen : zs.length ≤ 60) (hbase : base ≤ w.heap.size) :
    Calls Try.prog 20 #[v] w fun e w' => e = .returned (.tuple #[]) ∧ w'.ownsRow base 2 1 v zs.length (intsV (zs.mergeSort fun x y => decide (x ≤ y))) ∧ Below base w w' := by
  by_cases hv : v = .slice none 0 0
  · have hz : zs.length = 0 := by
      rcases h.2 with ⟨_, h0⟩ | ⟨g, cap, cur, e0, _⟩
      · exact h0
      · rw [hv] at e0; cases e0
    have hz : zs = [] := List.eq_nil_of_length_eq_zero hz
    subst hz
    subst hv
    refine (AnyG.slices_Sort_int_none Try.sortI none 0 w).mono ?_
    rintro e w' ⟨rfl, rfl⟩
    exact ⟨rfl, by simpa using h, Below.refl _ _⟩
  · obtain ⟨g, cap, rfl, hb, hlt, _, _, hz, hH⟩ := holds_of_ownsRow (enc := Value.int .i64) h hv
    refine (AnyG.slices_Sort_int Try.sortI g 0 cap zs w hH hlt (by omega)).mono ?_
    rintro e w' ⟨rfl, n, os, rfl⟩
    have hp : (zs.mergeSort fun x y => decide (x ≤ y)).length = zs.length := List.length_mergeSort _
    have h2 := ownsRow_putRow (q := n) h hp (Nat.le_refl _)
    rw [List.take_of_length_le (by omega)] at h2
    exact ⟨rfl, own_grow h2 os, below_grow (below_putRow (Below.refl _ _) hb) (by simpa [putRow, mapBlock, Sort.ahead] using hbase) os⟩

theorem zeroI (w : World) : (zeroValue 2).run Try.prog w = .ok (.int .i64 0) w := by kernel_rfl

theorem compact_own {base : Nat} (v : Value) (zs : List Int) (w : World) (h : w.ownsRow base 2 1 v zs.length (intsV zs)) (hlen : zs.length ≤ 60) :
    Calls Try.prog 21 #[v] w fun e w' => ∃ v', e = .returned v' ∧ w'.ownsRow base 2 1 v' (compact zs).length (intsV (compact zs)) ∧ Below base w w' := by
  by_cases hv : v = .slice none 0 0
  · have hz : zs.length = 0 := by
      rcases h.2 with ⟨_, h0⟩ | ⟨g, cap, cur, e0, _⟩
      · exact h0
      · rw [hv] at e0; cases e0
    have hz : zs = [] := List.eq_nil_of_length_eq_zero hz
    subst hz
    subst hv
    clear h hlen
    go_enter Try.func21, Try.ntmps21
    go_wp2_with fail
    go_ret
    exact ⟨_, rfl, World.ownsRow_nil _ _ _ _, Below.refl _ _⟩
  · obtain ⟨g, cap, rfl, hb, hlt, hlc, hcm, hz, hH⟩ := holds_of_ownsRow (enc := Value.int .i64) h hv
    refine (AnyE.slices_Compact Try.compI (Value.int .i64) (fun _ => rfl) (EqlAt.intD _ _ .i64) (NeqAt.intD _ _ .i64) 0 zeroI g 0 cap zs.toArray w hH (by simp; omega) (by simpa using hlc)).mono ?_
    rintro e w' ⟨rfl, q, rfl⟩
    have hc : compactUpTo zs.toArray zs.toArray.size = compact zs := rfl
    rw [hc]
    have hl : (compact zs).length ≤ zs.length := compact_length_le zs
    have hy : (compact zs ++ List.replicate (zs.toArray.size - (compact zs).length) 0).length = zs.length := by simp; omega
    have h2 := ownsRow_putRow (q := q) h hy hl
    rw [List.take_left] at h2
    exact ⟨_, rfl, h2, below_putRow (Below.refl _ _) hb⟩

/-- What is sorted and compacted rises, and holds what it held. -/
theorem compact_asc (zs : List Int) (hs : zs.Pairwise (· ≤ ·)) : (compact zs).Pairwise (· < ·) ∧ ∀ t, t ∈ compact zs ↔ t ∈ zs := by
  have hget : ∀ i, i < zs.length → zs.toArray[i]! = zs[i]! := by intro i hi; simp
  have key : ∀ m, m ≤ zs.length → (compactUpTo zs.toArray m).Pairwise (· < ·) ∧ (∀ t, t ∈ compactUpTo zs.toArray m ↔ t ∈ zs.take m) := by
    intro m
    induction m with
    | zero => intro _; simp [compactUpTo]
    | succ m ih =>
      intro hm
      obtain ⟨h1, h2⟩ := ih (by omega)
      have hmem : zs[m]? = some zs.toArray[m]! := by rw [hget m (by omega)]; simp [List.getElem?_eq_getElem (show m < zs.length by omega)]
      have ht : zs.take (m + 1) = zs.take m ++ [zs.toArray[m]!] := take_snoc hmem
      rw [compactUpTo_succ, ht]
      have hle : ∀ t ∈ zs.take m, t ≤ zs.toArray[m]! := by
        intro t htm
        obtain ⟨i, hi, rfl⟩ := List.mem_iff_getElem.1 htm
        have hi' : i < m := by rw [List.length_take] at hi; omega
        rw [List.getElem_take]
        have := List.pairwise_iff_getElem.1 hs i m (by omega) (by omega) hi'
        have e : zs.toArray[m]! = zs[m]'(by omega) := by
          rw [hget m (by omega), getElem!_pos zs m (by omega)]
        rw [e]; exact this
      by_cases hk : keeps zs.toArray m = true
      · rw [if_pos hk]
        have hlt : ∀ t ∈ zs.take m, t < zs.toArray[m]! := by
          intro t htm
          have hle' := hle t htm
          have hm0 : m ≠ 0 := by rintro rfl; simp at htm
          have hne : zs.toArray[m]! ≠ zs.toArray[m - 1]! := by
            have := of_decide_eq_true hk
            rcases this with h | h
            · exact (hm0 h).elim
            · exact h
          have hle1 : t ≤ zs.toArray[m - 1]! := by
            obtain ⟨i, hi, rfl⟩ := List.mem_iff_getElem.1 htm
            have hi' : i < m := by rw [List.length_take] at hi; omega
            rw [List.getElem_take]
            have e : zs.toArray[m - 1]! = zs[m - 1]'(by omega) := by
              rw [hget (m - 1) (by omega), getElem!_pos zs (m - 1) (by omega)]
            rw [e]
            rcases Nat.lt_or_ge i (m - 1) with hlt | hge
            · exact List.pairwise_iff_getElem.1 hs i (m - 1) (by omega) (by omega) hlt
            · have : i = m - 1 := by omega
              subst this; exact Int.le_refl _
          have hle2 : zs.toArray[m - 1]! ≤ zs.toArray[m]! := by
            apply hle
            rw [hget (m - 1) (by omega), getElem!_pos zs (m - 1) (by omega)]
            exact List.mem_iff_getElem.2 ⟨m - 1, by rw [List.length_take]; omega, by rw [List.getElem_take]⟩
          omega
        refine ⟨?_, fun t => ?_⟩
        · rw [List.pairwise_append]
          refine ⟨h1, by simp, fun a ha b hb => ?_⟩
          simp at hb
          rw [hb]
          simpa using hlt a ((h2 a).1 ha)
        · rw [List.mem_append, List.mem_append, h2]
      · rw [if_neg hk, List.append_nil]
        refine ⟨h1, fun t => ?_⟩
        rw [List.mem_append, h2]
        constructor
        · exact Or.inl
        · rintro (h | h)
          · exact h
          · have hkf : ¬ (m = 0 ∨ zs.toArray[m]! ≠ zs.toArray[m - 1]!) := fun hh => hk (decide_eq_true hh)
            have hm0 : m ≠ 0 := fun hh => hkf (Or.inl hh)
            have he : zs.toArray[m]! = zs.toArray[m - 1]! := Classical.byContradiction fun hh => hkf (Or.inr hh)
            simp only [List.mem_singleton] at h
            rw [h, he, hget (m - 1) (by omega), getElem!_pos zs (m - 1) (by omega)]
            exact List.mem_iff_getElem.2 ⟨m - 1, by rw [List.length_take]; omega, by rw [List.getElem_take]⟩
  have := key zs.length (Nat.le_refl _)
  rw [List.take_of_length_le (Nat.le_refl _)] at this
  exact this
theorem compact_sort (l : List Sp) : IsT l (compact ((allT l).mergeSort fun x y => decide (x ≤ y))) := by
  have hs : ((allT l).mergeSort fun x y => decide (x ≤ y)).Pairwise (fun a b => decide (a ≤ b) = true) := List.pairwise_mergeSort (by intro a b c; simp; omega) (by intro a b; simp; omega) _
  have hs' : ((allT l).mergeSort fun x y => decide (x ≤ y)).Pairwise (· ≤ ·) := hs.imp fun h => by simpa using h
  obtain ⟨h1, h2⟩ := compact_asc _ hs'
  exact ⟨h1, fun t => by rw [h2, (List.mergeSort_perm _ _).mem_iff]⟩

end Go.Proofs.Ytnajcgicbhohhaa
