/-
  Own arithmetic: heaps that lie in a row. Nothing of a program is said here.
-/
import Derived.Test.YtenpdglmmbkmkaaSbM
import Derived.Sort.Lot0
namespace Go.Proofs.Ytenpdglmmbkmkaa
namespace Hp
open Go.Sort
variable {α : Type} [Inhabited α] {lt : α → α → Bool} {n i : Nat} {d : Array α}

/-- No element comes ahead of its parent. -/
def Heap (lt : α → α → Bool) (n : Nat) (d : Array α) : Prop := ∀ c, 0 < c → c < n → lt d[c]! d[(c - 1) / 2]! = false
/-- So it is, but perhaps for what stands at i; what stands below i does not come ahead of what stands above i. -/
def Up (lt : α → α → Bool) (n i : Nat) (d : Array α) : Prop :=
  (∀ c, 0 < c → c < n → c ≠ i → lt d[c]! d[(c - 1) / 2]! = false) ∧ ∀ c, 0 < c → c < n → (c - 1) / 2 = i → 0 < i → lt d[c]! d[(i - 1) / 2]! = false
/-- So it is, but perhaps for what stands below i. -/
def Dn (lt : α → α → Bool) (n i : Nat) (d : Array α) : Prop :=
  (∀ c, 0 < c → c < n → (c - 1) / 2 ≠ i → lt d[c]! d[(c - 1) / 2]! = false) ∧ ∀ c, 0 < c → c < n → (c - 1) / 2 = i → 0 < i → lt d[c]! d[(i - 1) / 2]! = false

theorem Up.stop (h : Up lt n i d) (hs : i = 0 ∨ lt d[i]! d[(i - 1) / 2]! = false) : Heap lt n d := by
  intro c h0 hc
  by_cases e : c = i
  · subst e
    rcases hs with hs | hs
    · omega
    · exact hs
  · exact h.1 c h0 hc e

theorem Up.go (hS : SWO lt) (h : Up lt n i d) (hi : 0 < i) (hin : i < n) (hn : n ≤ d.size) (hl : lt d[i]! d[(i - 1) / 2]! = true) : Up lt n ((i - 1) / 2) (swp d i ((i - 1) / 2)) := by
  obtain ⟨p, hp⟩ : ∃ p, p = (i - 1) / 2 := ⟨_, rfl⟩
  rw [← hp] at hl ⊢
  have hpi : p < i := by omega
  have si : (swp d i p)[i]! = d[p]! := swp_left d i p (by omega) (by omega)
  have sp : (swp d i p)[p]! = d[i]! := swp_right d i p (by omega)
  have so : ∀ k, k ≠ i → k ≠ p → (swp d i p)[k]! = d[k]! := fun k h1 h2 => swp_other d i p k h1 h2
  have has := hS.asymmA hl
  refine ⟨fun c h0 hc hne => ?_, fun c h0 hc hpar hp0 => ?_⟩
  · by_cases e : c = i
    · subst e
      rw [si, ← hp, sp]
      exact has
    · rw [so c e hne]
      by_cases e1 : (c - 1) / 2 = i
      · rw [e1, si, hp]
        exact h.2 c h0 hc e1 hi
      · by_cases e2 : (c - 1) / 2 = p
        · rw [e2, sp]
          have h1 := h.1 c h0 hc e
          rw [e2] at h1
          cases hx : lt d[c]! d[i]! with
          | false => rfl
          | true =>
            have := hS.trans _ _ _ hx hl
            rw [h1] at this
            cases this
        · rw [so _ e1 e2]
          exact h.1 c h0 hc e
  · have q1 : (p - 1) / 2 ≠ i := by omega
    have q2 : (p - 1) / 2 ≠ p := by omega
    rw [so _ q1 q2]
    have h2 := h.1 p hp0 (by omega) (by omega)
    by_cases e : c = i
    · subst e
      rw [si]
      exact h2
    · rw [so c e (by omega)]
      have h1 := h.1 c h0 hc e
      rw [hpar] at h1
      exact hS.ntrans _ _ _ h1 h2

/-- The best so far: of what stands at i and of its first t children. -/
structure Bst (lt : α → α → Bool) (n i : Nat) (d : Array α) (t f : Nat) : Prop where
  inn : f ≠ i → f < n
  one : f = i ∨ f = 2 * i + 1 ∨ f = 2 * i + 2
  up : f ≠ i → lt d[f]! d[i]! = true
  all : ∀ j, j < t → 2 * i + 1 + j < n → lt d[2 * i + 1 + j]! d[f]! = false

theorem Bst.start : Bst lt n i d 0 i := ⟨fun h => absurd rfl h, .inl rfl, fun h => absurd rfl h, fun j hj => by omega⟩
theorem Bst.yes (hS : SWO lt) {t f : Nat} (h : Bst lt n i d t f) (ht : t < 2) (hc : 2 * i + 1 + t < n) (hl : lt d[2 * i + 1 + t]! d[f]! = true) : Bst lt n i d (t + 1) (2 * i + 1 + t) := by
  refine ⟨fun _ => hc, by omega, fun _ => ?_, fun j hj hjn => ?_⟩
  · by_cases e : f = i
    · rw [e] at hl; exact hl
    · exact hS.trans _ _ _ hl (h.up e)
  · by_cases e : j = t
    · subst e
      exact hS.irrefl _
    · have h1 := h.all j (by omega) hjn
      cases hx : lt d[2 * i + 1 + j]! d[2 * i + 1 + t]! with
      | false => rfl
      | true =>
        have := hS.trans _ _ _ hx hl
        rw [h1] at this
        cases this
theorem Bst.no {t f : Nat} (h : Bst lt n i d t f) (hl : 2 * i + 1 + t < n → lt d[2 * i + 1 + t]! d[f]! = false) : Bst lt n i d (t + 1) f :=
  ⟨h.inn, h.one, h.up, fun j hj hjn => by
    by_cases e : j = t
    · subst e; exact hl hjn
    · exact h.all j (by omega) hjn⟩

theorem Dn.stop (h : Dn lt n i d) (hb : Bst lt n i d 2 i) : Heap lt n d := by
  intro c h0 hc
  by_cases e : (c - 1) / 2 = i
  · obtain ⟨j, hj, rfl⟩ : ∃ j, j < 2 ∧ c = 2 * i + 1 + j := ⟨c - (2 * i + 1), by omega, by omega⟩
    rw [e]
    exact hb.all j hj hc
  · exact h.1 c h0 hc e

theorem Dn.go (hS : SWO lt) {f : Nat} (h : Dn lt n i d) (hb : Bst lt n i d 2 f) (hf : f ≠ i) (hn : n ≤ d.size) : Dn lt n f (swp d i f) := by
  have hfp : (f - 1) / 2 = i := by have := hb.one; omega
  have hfi : i < f := by have := hb.one; omega
  have hfn := hb.inn hf
  have si : (swp d i f)[i]! = d[f]! := swp_left d i f (by omega) (by omega)
  have sp : (swp d i f)[f]! = d[i]! := swp_right d i f (by omega)
  have so : ∀ k, k ≠ i → k ≠ f → (swp d i f)[k]! = d[k]! := fun k h1 h2 => swp_other d i f k h1 h2
  have hl := hb.up hf
  have has := hS.asymmA hl
  refine ⟨fun c h0 hc hne => ?_, fun c h0 hc hpar _ => ?_⟩
  · by_cases e1 : (c - 1) / 2 = i
    · rw [e1, si]
      by_cases e : c = f
      · subst e
        rw [sp]
        exact has
      · rw [so c (by omega) e]
        obtain ⟨j, hj, rfl⟩ : ∃ j, j < 2 ∧ c = 2 * i + 1 + j := ⟨c - (2 * i + 1), by omega, by omega⟩
        exact hb.all j hj hc
    · rw [so _ e1 hne]
      by_cases e : c = i
      · subst e
        rw [si]
        exact h.2 f (by omega) hfn hfp h0
      · rw [so c e (by rintro rfl; exact e1 hfp)]
        exact h.1 c h0 hc e1
  · rw [hfp, si, so c (by omega) (by omega)]
    have := h.1 c h0 hc (by omega)
    rw [hpar] at this
    exact this

/-- What stands on top: none comes ahead of it. -/
theorem Heap.top (hS : SWO lt) (h : Heap lt n d) : ∀ c, c < n → lt d[c]! d[0]! = false := by
  intro c
  induction c using Nat.strongRecOn with
  | _ c ih =>
    intro hc
    by_cases h0 : c = 0
    · subst h0; exact hS.irrefl _
    · exact hS.ntrans _ _ _ (h c (by omega) hc) (ih ((c - 1) / 2) (by omega) (by omega))

theorem swp_perm (d : Array α) {i j : Nat} (hi : i < d.size) (hj : j < d.size) : (swp d i j).toList.Perm d.toList := by
  have h := (swp_permIn (α := α) d 0 d.size i j (Nat.zero_le _) hi (Nat.zero_le _) hj (Nat.le_refl _)).2.2
  have e1 : (swp d i j).extract 0 d.size = swp d i j := by
    rw [← size_swp d i j]; exact Array.extract_size
  have e2 : d.extract 0 d.size = d := Array.extract_size
  rw [e1, e2] at h
  exact h

/-- One more at the end. -/
theorem Up.push {L : List α} (x : α) (h : Heap lt L.length L.toArray) : Up lt (L.length + 1) L.length (L ++ [x]).toArray := by
  have g : ∀ k, k < L.length → (L ++ [x]).toArray[k]! = L.toArray[k]! := fun k hk => by
    simp [Array.getElem!_eq_getD, Array.getD_eq_getD_getElem?, List.getElem?_append_left hk]
  refine ⟨fun c h0 hc hne => ?_, fun c h0 hc hpar _ => by omega⟩
  rw [g c (by omega), g _ (by omega)]
  exact h c h0 (by omega)

/-- The last one in the first one's place. -/
theorem Dn.pop {L : List α} (h : Heap lt L.length L.toArray) (hL : 0 < L.length) : Dn lt (L.length - 1) 0 ((L.set 0 L[L.length - 1]!).take (L.length - 1)).toArray := by
  have g : ∀ k, 0 < k → k < L.length - 1 → ((L.set 0 L[L.length - 1]!).take (L.length - 1)).toArray[k]! = L.toArray[k]! := fun k h0 hk => by
    simp [Array.getElem!_eq_getD, Array.getD_eq_getD_getElem?, List.getElem?_take, hk, List.getElem?_set, show ¬ 0 = k by omega, show k < L.length by omega]
  refine ⟨fun c h0 hc hne => ?_, fun c h0 hc hpar h00 => by omega⟩
  rw [g c h0 hc, g _ (by omega) (by omega)]
  exact h c h0 (by omega)

theorem pop_perm {L : List α} (hL : 0 < L.length) : L.Perm (L[0]! :: (L.set 0 L[L.length - 1]!).take (L.length - 1)) := by
  match L, hL with
  | x :: M, _ =>
    rcases List.eq_nil_or_concat M with rfl | ⟨N, y, rfl⟩
    · simp
    · have e1 : (x :: (N ++ [y]))[(x :: (N ++ [y])).length - 1]! = y := by
        simp [List.getElem!_eq_getElem?_getD]
      simp only [List.concat_eq_append] at *
      rw [e1]
      have e2 : ((x :: (N ++ [y])).set 0 y).take ((x :: (N ++ [y])).length - 1) = y :: N := by
        simp
      rw [e2]
      have : (x :: (N ++ [y]))[0]! = x := rfl
      rw [this]
      refine List.Perm.cons x ?_
      exact List.perm_append_comm

end Hp
end Go.Proofs.Ytenpdglmmbkmkaa
