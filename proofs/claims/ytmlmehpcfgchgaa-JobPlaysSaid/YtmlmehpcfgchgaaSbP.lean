/-
  Own arithmetic: where each element stands behind a stable sort. Nothing of a program is said here.
-/
import Derived.Test.YtmlmehpcfgchgaaSbO
namespace Go.Proofs.Ytmlmehpcfgchgaa
namespace Sb
open Go.Sort

theorem countP_at {β : Type} (f : β → β → Bool) (L : List β) (hp : L.Pairwise fun x y => f x y = true ∧ f y x = false) (hi : ∀ x, f x x = false) (p : Nat) (h : p < L.length) : L.countP (fun u => f u L[p]) = p := by
  have e : L = L.take p ++ (L[p] :: L.drop (p + 1)) := by rw [List.getElem_cons_drop, List.take_append_drop]
  have h1 : ∀ x ∈ L.take p, f x L[p] = true := fun x hx => by
    obtain ⟨i, hi2, rfl⟩ := List.mem_iff_getElem.1 hx
    have hlt : i < p := by simp at hi2; omega
    rw [List.getElem_take]
    exact (List.pairwise_iff_getElem.1 hp i p (by omega) h hlt).1
  have h2 : ∀ x ∈ L.drop (p + 1), f x L[p] = false := fun x hx => by
    obtain ⟨i, hi2, rfl⟩ := List.mem_iff_getElem.1 hx
    rw [List.getElem_drop]
    exact (List.pairwise_iff_getElem.1 hp p (p + 1 + i) h (by simp at hi2; omega) (by omega)).2
  generalize L[p] = t at *
  rw [e, List.countP_append, List.countP_cons]
  have c1 : List.countP (fun u => f u t) (L.take p) = (L.take p).length := List.countP_eq_length.2 h1
  have c2 : List.countP (fun u => f u t) (L.drop (p + 1)) = 0 := List.countP_eq_zero.2 fun x hx => by rw [h2 x hx]; decide
  rw [c1, c2, hi t, List.length_take]
  simp
  omega

variable {α : Type} [Inhabited α] {lt : α → α → Bool}

/-- How many of the first k come ahead of what stands at i: they are less, or not more and stand ahead. -/
def posK (lt : α → α → Bool) (l : List α) (i k : Nat) : Nat := (List.range k).countP fun j => lt l[j]! l[i]! || (!lt l[i]! l[j]! && decide (j < i))
theorem posK_succ (l : List α) (i k : Nat) : posK lt l i (k + 1) = posK lt l i k + if (lt l[k]! l[i]! || (!lt l[i]! l[k]! && decide (k < i))) = true then 1 else 0 := by
  unfold posK
  rw [List.range_succ, List.countP_append, List.countP_cons, List.countP_nil]
  simp
theorem posK_le (l : List α) (i k : Nat) : posK lt l i k ≤ k := by
  have : posK lt l i k ≤ (List.range k).length := List.countP_le_length
  simpa using this

/-- Elements with their places. -/
def tagged (l : List α) : List (α × Nat) := (List.range l.length).map fun i => (l[i]!, i)
theorem tagged_length (l : List α) : (tagged l).length = l.length := by simp [tagged]
theorem tagged_get (l : List α) {i : Nat} (h : i < l.length) : (tagged l)[i]? = some (l[i]!, i) := by simp [tagged, h]
theorem tagged_fst (l : List α) : (tagged l).map (·.1) = l := by
  refine List.ext_getElem (by simp [tagged]) fun i h1 h2 => ?_
  simp [tagged, h2]

theorem stab_pos (hS : SWO lt) (l : List α) : ∃ r : Array (α × Nat), r = stab (fun x y : α × Nat => lt x.1 y.1) (tagged l).toArray ∧ r.size = l.length ∧ (∀ i, i < l.length → posK lt l i l.length < l.length ∧ (r[posK lt l i l.length]!).1 = l[i]!) ∧ (r.toList.map (·.1)).Perm l ∧ (r.toList.map (·.1)).Pairwise (fun x y => lt y x = false) := by
  refine ⟨_, rfl, ?_⟩
  have hS1 : SWO (fun x y : α × Nat => lt x.1 y.1) := ⟨fun x => hS.irrefl _, fun x y z h1 h2 => hS.trans _ _ _ h1 h2, fun x y z h1 h2 => hS.ntrans _ _ _ h1 h2⟩
  have hn : (tagged l).toArray.size = l.length := by simp [tagged_length]
  obtain ⟨q1, q2, q3, q4⟩ := stab_spec (tg := fun x : α × Nat => x.2) hS1 (tagged l).toArray (fun i hi => by
    rw [hn] at hi
    have := tagged_get l hi
    simp [Array.getElem!_eq_getD, Array.getD_eq_getD_getElem?, this])
  rw [hn] at q1 q4
  generalize stab (fun x y : α × Nat => lt x.1 y.1) (tagged l).toArray = r at *
  have hrs : r.size = l.length := by rw [q2]; exact hn
  have hperm : r.toList.Perm (tagged l) := by
    have e1 : r.extract 0 l.length = r := by rw [← hrs]; exact Array.extract_size
    have e2 : (tagged l).toArray.extract 0 l.length = (tagged l).toArray := by rw [← hn]; exact Array.extract_size
    rw [e1, e2] at q4
    exact q4
  refine ⟨hrs, fun i hi => ?_, ?_, ?_⟩
  · let f : α × Nat → α × Nat → Bool := fun x y => lt x.1 y.1 || (!lt y.1 x.1 && decide (x.2 < y.2))
    have hR : ∀ x y, R (fun x y : α × Nat => lt x.1 y.1) (fun x => x.2) x y → f x y = true ∧ f y x = false := fun x y h => by
      rcases h with h | ⟨h, ht⟩
      · have h2 := hS.asymmA h
        exact ⟨by simp [f, h], by simp [f, h, h2]⟩
      · have ht : x.2 < y.2 := ht
        by_cases h2 : lt x.1 y.1 = true
        · have h3 := hS.asymmA h2
          exact ⟨by simp [f, h2], by simp [f, h2, h3]⟩
        · have h2' : lt x.1 y.1 = false := by simpa using h2
          exact ⟨by simp [f, h, ht], by simp only [f, h, h2', Bool.false_or, Bool.not_false, Bool.true_and, decide_eq_false_iff_not]; omega⟩
    have hpw : r.toList.Pairwise fun x y => f x y = true ∧ f y x = false := by
      rw [List.pairwise_iff_getElem]
      intro a b ha hb hab
      have := hR _ _ (q1 a b (Nat.zero_le _) hab (by simpa [hrs] using hb))
      rw [getElem!_pos r a (by simpa using ha), getElem!_pos r b (by simpa using hb)] at this
      simpa using this
    have hmem : (l[i]!, i) ∈ r.toList := hperm.mem_iff.2 (List.mem_of_getElem? (tagged_get l hi))
    obtain ⟨p, hp, hpe⟩ := List.mem_iff_getElem.1 hmem
    have hc := countP_at f r.toList hpw (fun x => by simp [f, hS.irrefl]) p hp
    rw [hpe, hperm.countP_eq] at hc
    have hpk : posK lt l i l.length = p := by
      rw [← hc]
      unfold posK tagged
      rw [List.countP_map]
      rfl
    rw [hpk]
    have hp2 : p < r.size := by simpa using hp
    refine ⟨by omega, ?_⟩
    rw [getElem!_pos r p hp2]
    have : r[p] = (l[i]!, i) := by simpa using hpe
    rw [this]
  · have := hperm.map (·.1)
    rw [tagged_fst] at this
    exact this
  · rw [List.pairwise_map, List.pairwise_iff_getElem]
    intro a b ha hb hab
    have h1 := q1 a b (Nat.zero_le _) hab (by simpa [hrs] using hb)
    rw [getElem!_pos r a (by simpa using ha), getElem!_pos r b (by simpa using hb)] at h1
    simp only [Array.getElem_toList]
    rcases h1 with h | ⟨h, _⟩
    · exact hS.asymmA h
    · exact h
end Sb
end Go.Proofs.Ytmlmehpcfgchgaa
