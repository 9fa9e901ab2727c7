/-
  Own arithmetic: slices.SortStableFunc sorts and keeps alike ones as they stand. Nothing of a program is said here.
-/
import Derived.Test.YtmlmehpcfgchgaaSbN
namespace Go.Proofs.Ytmlmehpcfgchgaa
namespace Sb
open Go.Sort
variable {α : Type} [Inhabited α] {lt : α → α → Bool} {tg : α → Nat}

structure In (lt : α → α → Bool) (tg : α → Nat) (a j i : Nat) (d : Array α) : Prop where
  o : ∀ x y, a ≤ x → x < y → y ≤ i → x ≠ j → y ≠ j → R lt tg d[x]! d[y]!
  g : ∀ y, j < y → y ≤ i → R lt tg d[j]! d[y]!
  t : ∀ x, a ≤ x → x < j → tg d[x]! < tg d[j]!
theorem inner_spec (hS : SWO lt) (a i : Nat) : ∀ (j : Nat) (d : Array α), a ≤ j → j ≤ i → i < d.size → In lt tg a j i d → Sr lt tg a (i + 1) (insInner lt a j d) ∧ PermIn a (i + 1) d (insInner lt a j d) := by
  intro j
  induction j with
  | zero =>
    intro d haj hji hi h
    rw [insInner_stop lt a 0 d (.inl (by omega))]
    refine ⟨fun x y h1 h2 h3 => ?_, permIn_refl _ _ _⟩
    by_cases c : x = 0
    · subst c; exact h.g y h2 (by omega)
    · exact h.o x y h1 h2 (by omega) c (by omega)
  | succ j ih =>
    intro d haj hji hi h
    by_cases hs : j + 1 ≤ a ∨ lt d[j + 1]! d[j]! = false
    · rw [insInner_stop lt a (j + 1) d (by simpa using hs)]
      refine ⟨fun x y h1 h2 h3 => ?_, permIn_refl _ _ _⟩
      by_cases c : x = j + 1
      · subst c; exact h.g y h2 (by omega)
      · by_cases c2 : y = j + 1
        · subst c2
          have hn : lt d[j + 1]! d[j]! = false := by
            rcases hs with hs | hs
            · omega
            · exact hs
          have h4 : R lt tg d[j]! d[j + 1]! := R_of_no (h.t j (by omega) (by omega)) hn
          by_cases c3 : x = j
          · rw [c3]; exact h4
          · exact (h.o x j h1 (by omega) (by omega) c (by omega)).trans hS h4
        · exact h.o x y h1 h2 (by omega) c c2
    · have hja : a < j + 1 := by omega
      have hl : lt d[j + 1]! d[j]! = true := by
        cases hx : lt d[j + 1]! d[j]! with
        | true => rfl
        | false => exact absurd (.inr hx) hs
      rw [insInner_go lt a (j + 1) d hja hl, Nat.add_sub_cancel]
      have gt := fun k => swp_get d (show j + 1 < d.size by omega) (show j < d.size by omega) k
      have h1 := ih (swp d (j + 1) j) (by omega) (by omega) (by rw [swp_size]; exact hi) ⟨fun x y h1 h2 h3 h4 h5 => ?_, fun y h1 h2 => ?_, fun x h1 h2 => ?_⟩
      · exact ⟨h1.1, permIn_trans _ _ _ _ _ (swp_permIn d a (i + 1) (j + 1) j (by omega) (by omega) (by omega) (by omega) (by omega)) h1.2⟩
      · rw [gt x, gt y, if_neg h4, if_neg h5]
        by_cases c : y = j + 1
        · rw [if_neg (by omega), if_pos c]; exact h.o x j h1 (by omega) (by omega) (by omega) (by omega)
        · rw [if_neg c]
          by_cases c2 : x = j + 1
          · rw [if_pos c2]; exact h.o j y (by omega) (by omega) h3 (by omega) c
          · rw [if_neg c2]; exact h.o x y h1 h2 h3 c2 c
      · rw [gt j, gt y, if_pos rfl, if_neg (by omega)]
        by_cases c : y = j + 1
        · rw [if_pos c]; exact R_of_lt hl
        · rw [if_neg c]; exact h.g y (by omega) h2
      · rw [gt x, gt j, if_pos rfl, if_neg (by omega), if_neg (by omega)]
        exact h.t x h1 (by omega)
theorem outer_spec (hS : SWO lt) (a b : Nat) : ∀ (t i : Nat) (d : Array α), b - i = t → a < i → i ≤ b → b ≤ d.size → Sr lt tg a i d → (∀ x y, a ≤ x → x < y → i ≤ y → y < b → tg d[x]! < tg d[y]!) →
    Sr lt tg a b (insOuter lt a b i d) ∧ PermIn a b d (insOuter lt a b i d) := by
  intro t
  induction t with
  | zero =>
    intro i d ht ha hi hb hs _
    rw [insOuter_stop lt a b i d (by omega)]
    obtain rfl : i = b := by omega
    exact ⟨hs, permIn_refl _ _ _⟩
  | succ t ih =>
    intro i d ht ha hi hb hs htg
    rw [insOuter_go lt a b i d (by omega)]
    obtain ⟨h1, h2⟩ := inner_spec (tg := tg) hS a i i d (by omega) (Nat.le_refl _) (by omega) ⟨fun x y h1 h2 h3 h4 h5 => hs x y h1 h2 (by omega), fun y h1 h2 => by omega, fun x h1 h2 => htg x i h1 h2 (Nat.le_refl _) (by omega)⟩
    have w : ∀ k, i + 1 ≤ k → (insInner lt a i d)[k]! = d[k]! := fun k hk => h2.2.1 k (.inr hk)
    have ha2 : ∀ x, a ≤ x → x < i + 1 → ∀ y, i + 1 ≤ y → y < b → tg (insInner lt a i d)[x]! < tg d[y]! :=
      permIn_all d _ a (i + 1) (fun u => ∀ y, i + 1 ≤ y → y < b → tg u < tg d[y]!) (by omega) h2 (fun x h3 h4 y h5 h6 => htg x y h3 (by omega) (by omega) h6)
    obtain ⟨h3, h4⟩ := ih (i + 1) (insInner lt a i d) (by omega) (by omega) (by omega) (by rw [h2.1]; exact hb) h1 (fun x y h3 h4 h5 h6 => by
      rw [w y h5]
      by_cases c : x < i + 1
      · exact ha2 x h3 c y h5 h6
      · rw [w x (by omega)]; exact htg x y h3 h4 (by omega) h6)
    exact ⟨h3, permIn_trans _ _ _ _ _ (permIn_mono d _ a (i + 1) a b (Nat.le_refl _) (by omega) hb h2) h4⟩
theorem ins_spec (hS : SWO lt) {a b : Nat} {d : Array α} (hab : a ≤ b) (hb : b ≤ d.size) (htg : ∀ x y, a ≤ x → x < y → y < b → tg d[x]! < tg d[y]!) : Sr lt tg a b (insertionSort lt d a b) ∧ PermIn a b d (insertionSort lt d a b) := by
  unfold insertionSort
  by_cases c : a < b
  · exact outer_spec hS a b (b - (a + 1)) (a + 1) d rfl (by omega) (by omega) hb (fun x y h1 h2 h3 => by omega) (fun x y h1 h2 _ h3 => htg x y h1 h2 h3)
  · rw [insOuter_stop lt a b (a + 1) d (by omega)]
    exact ⟨fun x y h1 h2 h3 => by omega, permIn_refl _ _ _⟩

/-- A stretch that is sorted and has just its own. -/
def Ok (lt : α → α → Bool) (tg : α → Nat) (a b : Nat) (d : Array α) : Prop := Sr lt tg a b d ∧ ∀ i, a ≤ i → i < b → a ≤ tg d[i]! ∧ tg d[i]! < b
theorem Ok.same {a b : Nat} {d d' : Array α} (h : Ok lt tg a b d) (hs : ∀ i, a ≤ i → i < b → d'[i]! = d[i]!) : Ok lt tg a b d' :=
  ⟨fun i j h1 h2 h3 => by rw [hs i h1 (by omega), hs j (by omega) h3]; exact h.1 i j h1 h2 h3, fun i h1 h2 => by rw [hs i h1 h2]; exact h.2 i h1 h2⟩
theorem Ok.none {a b : Nat} {d : Array α} (h : b ≤ a) : Ok lt tg a b d := ⟨fun i j h1 h2 h3 => by omega, fun i h1 h2 => by omega⟩
theorem Ok.merge (hS : SWO lt) {a m b f : Nat} {d : Array α} (h1 : Ok lt tg a m d) (h2 : Ok lt tg m b d) (ham : a < m) (hmb : m < b) (hb : b ≤ d.size) (hf : b - a ≤ f) : Ok lt tg a b (symF lt f a m b d) ∧ PermIn a b d (symF lt f a m b d) := by
  obtain ⟨q1, q2⟩ := sym_spec (tg := tg) hS f a m b d hf ⟨ham, hmb, hb, h1.1, h2.1, fun i j a1 a2 a3 a4 => by have := (h1.2 i a1 a2).2; have := (h2.2 j a3 a4).1; omega⟩
  refine ⟨⟨q1, permIn_all d _ a b (fun u => a ≤ tg u ∧ tg u < b) hb q2 fun i a1 a2 => ?_⟩, q2⟩
  by_cases c : i < m
  · have := h1.2 i a1 c; omega
  · have := h2.2 i (by omega) a2; omega

theorem next_dvd {s a c : Nat} (ha : s ∣ a) (hc : s ∣ c) (h : a < c) : a + s ≤ c := by
  have := Nat.le_of_dvd (by omega) (Nat.dvd_sub hc ha)
  omega

theorem insB_spec (hS : SWO lt) (n : Nat) : ∀ (t a : Nat) (d : Array α), n - a ≤ t → 20 ∣ a → a ≤ n → n = d.size → (∀ c, 20 ∣ c → c < a → Ok lt tg c (c + 20) d) → (∀ i, a ≤ i → i < n → tg d[i]! = i) →
    (∀ c, 20 ∣ c → c < n → Ok lt tg c (min (c + 20) n) (insB lt n a d)) ∧ PermIn 0 n d (insB lt n a d) := by
  intro t
  induction t with
  | zero =>
    intro a d ht ha han hn h1 h2
    rw [insB, if_neg (by omega)]
    obtain ⟨q1, q2⟩ := ins_spec (tg := tg) (d := d) hS han (by omega) (fun x y a1 a2 a3 => by rw [h2 x a1 (by omega), h2 y (by omega) a3]; exact a2)
    refine ⟨fun c hc hcn => ?_, permIn_mono d _ a n 0 n (Nat.zero_le _) (Nat.le_refl _) (by omega) q2⟩
    have := next_dvd hc ha (by omega)
    rw [Nat.min_eq_left (by omega)]
    exact (h1 c hc (by omega)).same fun i a1 a2 => q2.2.1 i (.inl (by omega))
  | succ t ih =>
    intro a d ht ha han hn h1 h2
    by_cases c : a + 20 ≤ n
    · rw [insB, if_pos c]
      obtain ⟨q1, q2⟩ := ins_spec (tg := tg) hS (show a ≤ a + 20 by omega) (show a + 20 ≤ d.size by omega) (fun x y a1 a2 a3 => by rw [h2 x a1 (by omega), h2 y (by omega) (by omega)]; exact a2)
      obtain ⟨q3, q4⟩ := ih (a + 20) (insertionSort lt d a (a + 20)) (by omega) (Nat.dvd_add ha (Nat.dvd_refl _)) c (by rw [q2.1]; exact hn) (fun e he hea => by
        by_cases c2 : e < a
        · have := next_dvd he ha c2
          exact (h1 e he c2).same fun i a1 a2 => q2.2.1 i (.inl (by omega))
        · have : e = a := by
            rcases Nat.lt_or_ge a e with h3 | h3
            · have := next_dvd ha he h3; omega
            · omega
          subst this
          refine ⟨q1, permIn_all d _ e (e + 20) (fun u => e ≤ tg u ∧ tg u < e + 20) (by omega) q2 fun i a1 a2 => ?_⟩
          rw [h2 i a1 (by omega)]; exact ⟨a1, a2⟩) (fun i a1 a2 => by rw [q2.2.1 i (.inr a1)]; exact h2 i (by omega) a2)
      exact ⟨q3, permIn_trans _ _ _ _ _ (permIn_mono d _ a (a + 20) 0 n (Nat.zero_le _) c (by omega) q2) q4⟩
    · rw [insB, if_neg c]
      obtain ⟨q1, q2⟩ := ins_spec (tg := tg) (d := d) hS han (by omega) (fun x y a1 a2 a3 => by rw [h2 x a1 (by omega), h2 y (by omega) a3]; exact a2)
      refine ⟨fun e he hen => ?_, permIn_mono d _ a n 0 n (Nat.zero_le _) (Nat.le_refl _) (by omega) q2⟩
      by_cases c2 : e < a
      · have := next_dvd he ha c2
        rw [Nat.min_eq_left (by omega)]
        exact (h1 e he c2).same fun i a1 a2 => q2.2.1 i (.inl (by omega))
      · have : e = a := by
          rcases Nat.lt_or_ge a e with h3 | h3
          · have := next_dvd ha he h3; omega
          · omega
        subst this
        rw [Nat.min_eq_right (by omega)]
        refine ⟨q1, permIn_all d _ e n (fun u => e ≤ tg u ∧ tg u < n) (by omega) q2 fun i a1 a2 => ?_⟩
        rw [h2 i a1 a2]; exact ⟨a1, a2⟩

theorem mrgB_spec (hS : SWO lt) (s n : Nat) (hs : 0 < s) : ∀ (t a : Nat) (d : Array α), n - a ≤ t → 2 * s ∣ a → a ≤ n → n = d.size → (∀ c, 2 * s ∣ c → c < a → Ok lt tg c (c + 2 * s) d) → (∀ c, s ∣ c → a ≤ c → c < n → Ok lt tg c (min (c + s) n) d) →
    (∀ c, 2 * s ∣ c → c < n → Ok lt tg c (min (c + 2 * s) n) (mrgB lt s n a d)) ∧ PermIn 0 n d (mrgB lt s n a d) := by
  intro t
  induction t with
  | zero =>
    intro a d ht ha han hn h1 h2
    rw [mrgB, if_neg (by omega), if_neg (by omega)]
    refine ⟨fun c hc hcn => ?_, permIn_refl _ _ _⟩
    have := next_dvd hc ha (by omega)
    rw [Nat.min_eq_left (by omega)]
    exact h1 c hc (by omega)
  | succ t ih =>
    intro a d ht ha han hn h1 h2
    have hsa : s ∣ a := Nat.dvd_trans (Nat.dvd_mul_left s 2) ha
    have hsas : s ∣ a + s := Nat.dvd_add hsa (Nat.dvd_refl _)
    have heq : ∀ e, 2 * s ∣ e → ¬ e < a → e < a + 2 * s → e = a := fun e he c2 c3 => by
      rcases Nat.lt_or_ge a e with h3 | h3
      · have := next_dvd ha he h3; omega
      · omega
    by_cases c : a + 2 * s ≤ n
    · rw [mrgB, if_pos ⟨hs, c⟩]
      have b1 := h2 a hsa (Nat.le_refl _) (by omega)
      have b2 := h2 (a + s) hsas (by omega) (by omega)
      rw [Nat.min_eq_left (by omega)] at b1 b2
      obtain ⟨q1, q2⟩ := b1.merge hS (f := 2 * s) (b := a + 2 * s) (by rw [show a + 2 * s = a + s + s by omega]; exact b2) (by omega) (by omega) (by omega) (by omega)
      obtain ⟨q3, q4⟩ := ih (a + 2 * s) (symF lt (2 * s) a (a + s) (a + 2 * s) d) (by omega) (Nat.dvd_add ha (Nat.dvd_refl _)) c (by rw [q2.1]; exact hn) (fun e he hea => by
        by_cases c2 : e < a
        · have := next_dvd he ha c2
          exact (h1 e he c2).same fun i a1 a2 => q2.2.1 i (.inl (by omega))
        · have := heq e he c2 hea
          subst this
          exact q1) (fun e he hae hen => (h2 e he (by omega) hen).same fun i a1 a2 => q2.2.1 i (.inr (by omega)))
      exact ⟨q3, permIn_trans _ _ _ _ _ (permIn_mono d _ a (a + 2 * s) 0 n (Nat.zero_le _) c (by omega) q2) q4⟩
    · rw [mrgB, if_neg (by omega)]
      by_cases c4 : a + s < n
      · rw [if_pos c4]
        have b1 := h2 a hsa (Nat.le_refl _) (by omega)
        have b2 := h2 (a + s) hsas (by omega) c4
        rw [Nat.min_eq_left (by omega)] at b1
        rw [Nat.min_eq_right (by omega)] at b2
        obtain ⟨q1, q2⟩ := b1.merge hS (f := n - a) b2 (by omega) c4 (by omega) (Nat.le_refl _)
        refine ⟨fun e he hen => ?_, permIn_mono d _ a n 0 n (Nat.zero_le _) (Nat.le_refl _) (by omega) q2⟩
        by_cases c2 : e < a
        · have := next_dvd he ha c2
          rw [Nat.min_eq_left (by omega)]
          exact (h1 e he c2).same fun i a1 a2 => q2.2.1 i (.inl (by omega))
        · have := heq e he c2 (by omega)
          subst this
          rw [Nat.min_eq_right (by omega)]
          exact q1
      · rw [if_neg c4]
        refine ⟨fun e he hen => ?_, permIn_refl _ _ _⟩
        by_cases c2 : e < a
        · have := next_dvd he ha c2
          rw [Nat.min_eq_left (by omega)]
          exact h1 e he c2
        · have := heq e he c2 (by omega)
          subst this
          have b1 := h2 e hsa (Nat.le_refl _) hen
          rw [Nat.min_eq_right (by omega)] at b1
          rw [Nat.min_eq_right (by omega)]
          exact b1

theorem dblB_spec (hS : SWO lt) (n : Nat) : ∀ (t s : Nat) (d : Array α), n - s ≤ t → 0 < s → n = d.size → (∀ c, s ∣ c → c < n → Ok lt tg c (min (c + s) n) d) → Ok lt tg 0 n (dblB lt n s d) ∧ PermIn 0 n d (dblB lt n s d) := by
  intro t
  induction t with
  | zero =>
    intro s d ht hs hn h
    rw [dblB, if_neg (by omega)]
    refine ⟨?_, permIn_refl _ _ _⟩
    by_cases c : 0 < n
    · have := h 0 (Nat.dvd_zero s) c
      rw [Nat.min_eq_right (by omega)] at this
      exact this
    · exact Ok.none (by omega)
  | succ t ih =>
    intro s d ht hs hn h
    by_cases c : s < n
    · rw [dblB, if_pos ⟨hs, c⟩]
      obtain ⟨q1, q2⟩ := mrgB_spec (tg := tg) hS s n hs n 0 d (by omega) (Nat.dvd_zero _) (Nat.zero_le _) hn (fun c _ hc => by omega) (fun c hc _ hcn => h c hc hcn)
      obtain ⟨q3, q4⟩ := ih (2 * s) (mrgB lt s n 0 d) (by omega) (by omega) (by rw [q2.1]; exact hn) q1
      exact ⟨q3, permIn_trans _ _ _ _ _ q2 q4⟩
    · rw [dblB, if_neg (by omega)]
      refine ⟨?_, permIn_refl _ _ _⟩
      by_cases c : 0 < n
      · have := h 0 (Nat.dvd_zero s) c
        rw [Nat.min_eq_right (by omega)] at this
        exact this
      · exact Ok.none (by omega)

/-- What the whole does: sorted, alike ones as they stood, and the same ones. -/
theorem stab_spec (hS : SWO lt) (d : Array α) (htg : ∀ i, i < d.size → tg d[i]! = i) : Sr lt tg 0 d.size (stab lt d) ∧ PermIn 0 d.size d (stab lt d) := by
  unfold stab
  obtain ⟨q1, q2⟩ := insB_spec (tg := tg) hS d.size d.size 0 d (by omega) (Nat.dvd_zero _) (Nat.zero_le _) rfl (fun c _ hc => by omega) (fun i _ hi => htg i hi)
  obtain ⟨q3, q4⟩ := dblB_spec (tg := tg) hS d.size d.size 20 (insB lt d.size 0 d) (by omega) (by omega) q2.1.symm q1
  exact ⟨q3.1, permIn_trans _ _ _ _ _ q2 q4⟩
end Sb
end Go.Proofs.Ytmlmehpcfgchgaa
