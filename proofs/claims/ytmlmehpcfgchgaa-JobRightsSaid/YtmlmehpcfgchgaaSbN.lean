/-
  Own arithmetic: merging in place keeps alike ones as they stand. Nothing of a program is said here.
-/
import Derived.Test.YtmlmehpcfgchgaaSbM
namespace Go.Proofs.Ytmlmehpcfgchgaa
namespace Sb
open Go.Sort
variable {α : Type} {lt : α → α → Bool} {tg : α → Nat}

/-- x comes ahead of y: it is less, or y is not less and x stood ahead. -/
def R (lt : α → α → Bool) (tg : α → Nat) (x y : α) : Prop := lt x y = true ∨ (lt y x = false ∧ tg x < tg y)
theorem R.trans (hS : SWO lt) {x y z : α} (h : R lt tg x y) (h' : R lt tg y z) : R lt tg x z := by
  rcases h with h | ⟨h, ht⟩ <;> rcases h' with h' | ⟨h', ht'⟩
  · exact .inl (hS.trans _ _ _ h h')
  · left
    cases hx : lt x z with
    | true => rfl
    | false => have := hS.ntrans _ _ _ hx h'; rw [h] at this; cases this
  · left
    cases hx : lt x z with
    | true => rfl
    | false => have := hS.ntrans _ _ _ h hx; rw [h'] at this; cases this
  · exact .inr ⟨hS.ntrans _ _ _ h' h, by omega⟩
theorem R_of_lt {x y : α} (h : lt x y = true) : R lt tg x y := .inl h
theorem R_yes {x y : α} (ht : tg x < tg y) (h : R lt tg y x) : lt y x = true := by
  rcases h with h | ⟨_, h⟩
  · exact h
  · omega
theorem R_no (hS : SWO lt) {x y : α} (h : R lt tg x y) : lt y x = false := by
  rcases h with h | ⟨h, _⟩
  · exact hS.asymmA h
  · exact h
theorem R_of_no {x y : α} (ht : tg x < tg y) (h : lt y x = false) : R lt tg x y := .inr ⟨h, ht⟩

variable [Inhabited α]

/-- Sorted, and alike ones as they stood. -/
def Sr (lt : α → α → Bool) (tg : α → Nat) (a b : Nat) (d : Array α) : Prop := ∀ i j, a ≤ i → i < j → j < b → R lt tg d[i]! d[j]!
theorem Sr.sub {a b a' b' : Nat} {d : Array α} (h : Sr lt tg a b d) (h1 : a ≤ a') (h2 : b' ≤ b) : Sr lt tg a' b' d := fun i j x y z => h i j (by omega) y (by omega)
theorem Sr.le (hS : SWO lt) {a b : Nat} {d : Array α} (h : Sr lt tg a b d) {x y : Nat} {z : α} (hx : a ≤ x) (hxy : x ≤ y) (hy : y < b) (hr : R lt tg d[y]! z) : R lt tg d[x]! z := by
  rcases Nat.lt_or_ge x y with h1 | h1
  · exact (h x y hx h1 hy).trans hS hr
  · obtain rfl : x = y := by omega
    exact hr
theorem Sr.ge (hS : SWO lt) {a b : Nat} {d : Array α} (h : Sr lt tg a b d) {x y : Nat} {z : α} (hx : a ≤ x) (hxy : x ≤ y) (hy : y < b) (hr : R lt tg z d[x]!) : R lt tg z d[y]! := by
  rcases Nat.lt_or_ge x y with h1 | h1
  · exact hr.trans hS (h x y hx h1 hy)
  · obtain rfl : x = y := by omega
    exact hr

/-- What a merge asks. -/
structure Pre (lt : α → α → Bool) (tg : α → Nat) (a m b : Nat) (d : Array α) : Prop where
  am : a < m
  mb : m < b
  bs : b ≤ d.size
  l : Sr lt tg a m d
  r : Sr lt tg m b d
  t : ∀ i j, a ≤ i → i < m → m ≤ j → j < b → tg d[i]! < tg d[j]!

theorem one_left (hS : SWO lt) {a m b : Nat} {d : Array α} (p : Pre lt tg a m b d) (h1 : m - a = 1) :
    Sr lt tg a b (upF (bsr (fun h => lt d[h]! d[a]!) m b - 1) a d) ∧ PermIn a b d (upF (bsr (fun h => lt d[h]! d[a]!) m b - 1) a d) := by
  have am := p.am; have mb := p.mb; have bs := p.bs
  obtain ⟨s1, s2, s3, s4⟩ := bsr_spec (fun h => lt d[h]! d[a]!) (b - m) m b (Nat.le_refl _) (by omega) (fun x y hx hxy hy hf => by
    refine R_yes (p.t a x (by omega) am hx (by omega)) (p.r.le hS hx hxy hy ?_)
    exact R_of_lt hf)
  generalize bsr (fun h => lt d[h]! d[a]!) m b = s at *
  obtain ⟨u1, u2, u3⟩ := upF_spec (s - 1) (s - 1 - a) a d rfl (by omega) (by omega)
  refine ⟨fun i j hi hij hj => ?_, u3 a b (Nat.le_refl _) (by omega) bs⟩
  rw [u2 i, u2 j]
  have hyes : ∀ h, m ≤ h → h < s → R lt tg d[h]! d[a]! := fun h h2 h3 => R_of_lt (s3 h h2 h3)
  have hno : ∀ h, s ≤ h → h < b → R lt tg d[a]! d[h]! := fun h h2 h3 => R_of_no (p.t a h (by omega) am (by omega) h3) (s4 h h2 h3)
  by_cases c1 : j < s - 1
  · rw [if_pos (by omega), if_pos (by omega)]
    exact p.r (i + 1) (j + 1) (by omega) (by omega) (by omega)
  · by_cases c2 : j = s - 1
    · rw [if_pos (by omega), if_neg (by omega), if_pos c2]
      exact hyes (i + 1) (by omega) (by omega)
    · rw [if_neg (show ¬ (a ≤ j ∧ j < s - 1) by omega), if_neg c2]
      by_cases c3 : i < s - 1
      · rw [if_pos (by omega)]
        exact p.r (i + 1) j (by omega) (by omega) hj
      · rw [if_neg (by omega)]
        by_cases c4 : i = s - 1
        · rw [if_pos c4]; exact hno j (by omega) hj
        · rw [if_neg c4]; exact p.r i j (by omega) hij hj

theorem one_right (hS : SWO lt) {a m b : Nat} {d : Array α} (p : Pre lt tg a m b d) (h1 : b - m = 1) :
    Sr lt tg a b (dnF (bsr (fun h => !lt d[m]! d[h]!) a m) m d) ∧ PermIn a b d (dnF (bsr (fun h => !lt d[m]! d[h]!) a m) m d) := by
  have am := p.am; have mb := p.mb; have bs := p.bs
  obtain ⟨s1, s2, s3, s4⟩ := bsr_spec (fun h => !lt d[m]! d[h]!) (m - a) a m (Nat.le_refl _) (by omega) (fun x y hx hxy hy hf => by
    have h2 : R lt tg d[y]! d[m]! := R_of_no (p.t y m (by omega) hy (Nat.le_refl _) mb) (by simpa using hf)
    have h3 := R_no hS (p.l.le hS hx hxy hy h2)
    simp [h3])
  generalize bsr (fun h => !lt d[m]! d[h]!) a m = s at *
  obtain ⟨u1, u2, u3⟩ := dnF_spec s (m - s) m d rfl (by omega) (by omega)
  refine ⟨fun i j hi hij hj => ?_, u3 a b (by omega) mb bs⟩
  rw [u2 i, u2 j]
  have hyes : ∀ h, a ≤ h → h < s → R lt tg d[h]! d[m]! := fun h h2 h3 => R_of_no (p.t h m h2 (by omega) (Nat.le_refl _) mb) (by simpa using s3 h h2 h3)
  have hno : ∀ h, s ≤ h → h < m → R lt tg d[m]! d[h]! := fun h h2 h3 => R_of_lt (by simpa using s4 h h2 h3)
  by_cases c1 : j < s
  · rw [if_neg (by omega), if_neg (by omega), if_neg (by omega), if_neg (by omega)]
    exact p.l i j hi hij (by omega)
  · by_cases c2 : j = s
    · rw [if_neg (by omega), if_neg (by omega), if_neg (by omega), if_pos c2]
      exact hyes i hi (by omega)
    · rw [if_pos (show s < j ∧ j ≤ m by omega)]
      by_cases c3 : i < s
      · rw [if_neg (by omega), if_neg (by omega)]
        exact p.l i (j - 1) hi (by omega) (by omega)
      · by_cases c4 : i = s
        · rw [if_neg (by omega), if_pos c4]; exact hno (j - 1) (by omega) (by omega)
        · rw [if_pos (by omega)]; exact p.l (i - 1) (j - 1) (by omega) (by omega) (by omega)

/-- Where the halves are cut, and what holds there. -/
theorem cut_spec (hS : SWO lt) {a m b : Nat} {d : Array α} (p : Pre lt tg a m b d) :
    ∃ s, s = cutF lt a m b d ∧ a ≤ s ∧ s ≤ m ∧ s ≤ (a + b) / 2 ∧ (a + b) / 2 + m - s ≤ b ∧ m ≤ (a + b) / 2 + m - s ∧
      (∀ x y, a ≤ x → x < s → (a + b) / 2 + m - s ≤ y → y < b → R lt tg d[x]! d[y]!) ∧ (∀ x y, m ≤ x → x < (a + b) / 2 + m - s → s ≤ y → y < m → R lt tg d[x]! d[y]!) := by
  have am := p.am; have mb := p.mb; have bs := p.bs
  obtain ⟨mid, hmid⟩ : ∃ mid, mid = (a + b) / 2 := ⟨_, rfl⟩
  have key : ∀ lo hi, a ≤ lo → lo ≤ hi → hi ≤ m → hi ≤ mid → mid + m - b ≤ lo → (lo = a ∨ mid + m - lo = b) → (hi = m ∨ hi = mid) →
      ∃ s, s = bsr (fun c => !lt d[mid + m - 1 - c]! d[c]!) lo hi ∧ a ≤ s ∧ s ≤ m ∧ s ≤ mid ∧ mid + m - s ≤ b ∧ m ≤ mid + m - s ∧
      (∀ x y, a ≤ x → x < s → mid + m - s ≤ y → y < b → R lt tg d[x]! d[y]!) ∧ (∀ x y, m ≤ x → x < mid + m - s → s ≤ y → y < m → R lt tg d[x]! d[y]!) := by
    intro lo hi h1 h2 h3 h4 h5 h6 h7
    have hR : ∀ c, lo ≤ c → c < hi → tg d[c]! < tg d[mid + m - 1 - c]! := fun c c1 c2 => p.t c (mid + m - 1 - c) (by omega) (by omega) (by omega) (by omega)
    obtain ⟨s1, s2, s3, s4⟩ := bsr_spec (fun c => !lt d[mid + m - 1 - c]! d[c]!) (hi - lo) lo hi (Nat.le_refl _) h2 (fun x y hx hxy hy hf => by
      have h8 : R lt tg d[y]! d[mid + m - 1 - y]! := R_of_no (hR y (by omega) hy) (by simpa using hf)
      have h9 : R lt tg d[y]! d[mid + m - 1 - x]! := p.r.ge hS (by omega) (by omega) (by omega) h8
      have h10 := R_no hS (p.l.le hS (by omega) hxy (by omega) h9)
      simp [h10])
    generalize bsr (fun c => !lt d[mid + m - 1 - c]! d[c]!) lo hi = s at *
    refine ⟨s, rfl, by omega, by omega, by omega, by omega, by omega, fun x y hx hxs hy hyb => ?_, fun x y hx hxe hy hym => ?_⟩
    · have hslo : lo < s := by omega
      have h8 : R lt tg d[s - 1]! d[mid + m - 1 - (s - 1)]! := R_of_no (hR (s - 1) (by omega) (by omega)) (by simpa using s3 (s - 1) (by omega) (by omega))
      exact p.l.le hS hx (by omega) (by omega) (p.r.ge hS (by omega) (by omega) hyb h8)
    · have hshi : s < hi := by omega
      have h8 : R lt tg d[mid + m - 1 - s]! d[s]! := R_of_lt (by simpa using s4 s (Nat.le_refl _) hshi)
      exact p.r.le hS hx (by omega) (by omega) (p.l.ge hS (by omega) hy hym h8)
  unfold cutF
  rw [← hmid]
  by_cases c : mid < m
  · rw [if_pos c]
    exact key (mid + m - b) mid (by omega) (by omega) (by omega) (Nat.le_refl _) (Nat.le_refl _) (by omega) (.inr rfl)
  · rw [if_neg c]
    exact key a m (Nat.le_refl _) (by omega) (Nat.le_refl _) (by omega) (by omega) (.inl rfl) (.inl rfl)

theorem sym_spec (hS : SWO lt) : ∀ (f a m b : Nat) (d : Array α), b - a ≤ f → Pre lt tg a m b d → Sr lt tg a b (symF lt f a m b d) ∧ PermIn a b d (symF lt f a m b d) := by
  intro f
  induction f with
  | zero => intro a m b d hf p; have := p.am; have := p.mb; omega
  | succ f ih =>
    intro a m b d hf p
    have am := p.am; have mb := p.mb; have bs := p.bs
    unfold symF
    by_cases c1 : m - a = 1
    · rw [if_pos c1]; exact one_left hS p c1
    · rw [if_neg c1]
      by_cases c2 : b - m = 1
      · rw [if_pos c2]; exact one_right hS p c2
      · rw [if_neg c2]
        obtain ⟨s, hs, has, sm, sd, eb, me, hx1, hx2⟩ := cut_spec hS p
        simp only [← hs]
        obtain ⟨mid, hmid⟩ : ∃ mid, mid = (a + b) / 2 := ⟨_, rfl⟩
        rw [← hmid] at sd eb me hx1 hx2
        simp only [← hmid]
        obtain ⟨e, he⟩ : ∃ e, e = mid + m - s := ⟨_, rfl⟩
        rw [← he] at eb me hx1 hx2
        simp only [← he]
        clear hs
        obtain ⟨d1, hd1⟩ : ∃ d1, d1 = if s < m ∧ m < e then rot m (m - s) (e - m) d else d := ⟨_, rfl⟩
        rw [← hd1]
        have hrot : d1.size = d.size ∧ (∀ k, d1[k]! = if s ≤ k ∧ k < mid then d[k + (m - s)]! else if mid ≤ k ∧ k < e then d[k - (e - m)]! else d[k]!) ∧ PermIn a b d d1 := by
          by_cases c3 : s < m ∧ m < e
          · rw [if_pos c3] at hd1
            obtain ⟨r1, r2, r3⟩ := rot_spec (m - s + (e - m)) m (m - s) (e - m) d (Nat.le_refl _) (by omega) (by omega) (by omega) (by omega)
            rw [hd1]
            refine ⟨r1, fun k => ?_, r3 a b (by omega) (by omega) bs⟩
            rw [r2 k, show m - (m - s) = s by omega, show s + (e - m) = mid by omega, show m + (e - m) = e by omega]
          · rw [if_neg c3] at hd1
            rw [hd1]
            refine ⟨rfl, fun k => ?_, permIn_refl _ _ _⟩
            by_cases c4 : s ≤ k ∧ k < mid
            · rw [if_pos c4, show m - s = 0 by omega, Nat.add_zero]
            · rw [if_neg c4]
              by_cases c5 : mid ≤ k ∧ k < e
              · rw [if_pos c5, show e - m = 0 by omega, Nat.sub_zero]
              · rw [if_neg c5]
        clear hd1
        obtain ⟨z1, g1, q1⟩ := hrot
        have v1 : ∀ k, a ≤ k → k < s → d1[k]! = d[k]! := fun k h1 h2 => by rw [g1 k, if_neg (by omega), if_neg (by omega)]
        have v2 : ∀ k, s ≤ k → k < mid → d1[k]! = d[k + (m - s)]! := fun k h1 h2 => by rw [g1 k, if_pos ⟨h1, h2⟩]
        have v3 : ∀ k, mid ≤ k → k < e → d1[k]! = d[k - (e - m)]! := fun k h1 h2 => by rw [g1 k, if_neg (by omega), if_pos ⟨h1, h2⟩]
        have v4 : ∀ k, e ≤ k → d1[k]! = d[k]! := fun k h1 => by rw [g1 k, if_neg (by omega), if_neg (by omega)]
        have o1 : Sr lt tg a s d1 := fun i j h1 h2 h3 => by rw [v1 i h1 (by omega), v1 j (by omega) h3]; exact p.l i j h1 h2 (by omega)
        have o2 : Sr lt tg s mid d1 := fun i j h1 h2 h3 => by rw [v2 i h1 (by omega), v2 j (by omega) h3]; exact p.r _ _ (by omega) (by omega) (by omega)
        have o3 : Sr lt tg mid e d1 := fun i j h1 h2 h3 => by rw [v3 i h1 (by omega), v3 j (by omega) h3]; exact p.l _ _ (by omega) (by omega) (by omega)
        have o4 : Sr lt tg e b d1 := fun i j h1 h2 h3 => by rw [v4 i h1, v4 j (by omega)]; exact p.r i j (by omega) h2 h3
        have cross : ∀ x y, a ≤ x → x < mid → mid ≤ y → y < b → R lt tg d1[x]! d1[y]! := fun x y h1 h2 h3 h4 => by
          by_cases c5 : x < s
          · rw [v1 x h1 c5]
            by_cases c6 : y < e
            · rw [v3 y h3 c6]; exact p.l _ _ h1 (by omega) (by omega)
            · rw [v4 y (by omega)]; exact hx1 x y h1 c5 (by omega) h4
          · rw [v2 x (by omega) h2]
            by_cases c6 : y < e
            · rw [v3 y h3 c6]; exact hx2 _ _ (by omega) (by omega) (by omega) (by omega)
            · rw [v4 y (by omega)]; exact p.r _ _ (by omega) (by omega) h4
        obtain ⟨d2, hd2⟩ : ∃ d2, d2 = if a < s ∧ s < mid then symF lt f a s mid d1 else d1 := ⟨_, rfl⟩
        rw [← hd2]
        have hp2 : Sr lt tg a mid d2 ∧ PermIn a mid d1 d2 := by
          by_cases c3 : a < s ∧ s < mid
          · rw [if_pos c3] at hd2
            rw [hd2]
            refine ih a s mid d1 (by omega) ⟨c3.1, c3.2, by omega, o1, o2, fun i j h1 h2 h3 h4 => ?_⟩
            rw [v1 i h1 h2, v2 j h3 h4]
            exact p.t _ _ h1 (by omega) (by omega) (by omega)
          · rw [if_neg c3] at hd2
            rw [hd2]
            refine ⟨?_, permIn_refl _ _ _⟩
            by_cases c4 : a < s
            · exact o1.sub (Nat.le_refl _) (by omega)
            · exact o2.sub (by omega) (Nat.le_refl _)
        clear hd2
        obtain ⟨o5, q2⟩ := hp2
        have w2 : ∀ k, mid ≤ k → d2[k]! = d1[k]! := fun k h1 => q2.2.1 k (.inr h1)
        obtain ⟨d3, hd3⟩ : ∃ d3, d3 = if mid < e ∧ e < b then symF lt f mid e b d2 else d2 := ⟨_, rfl⟩
        rw [← hd3]
        have hp3 : Sr lt tg mid b d3 ∧ PermIn mid b d2 d3 := by
          have o3' : Sr lt tg mid e d2 := fun i j h1 h2 h3 => by rw [w2 i h1, w2 j (by omega)]; exact o3 i j h1 h2 h3
          have o4' : Sr lt tg e b d2 := fun i j h1 h2 h3 => by rw [w2 i (by omega), w2 j (by omega)]; exact o4 i j h1 h2 h3
          by_cases c3 : mid < e ∧ e < b
          · rw [if_pos c3] at hd3
            rw [hd3]
            refine ih mid e b d2 (by omega) ⟨c3.1, c3.2, by rw [q2.1, z1]; exact bs, o3', o4', fun i j h1 h2 h3 h4 => ?_⟩
            rw [w2 i h1, w2 j (by omega), v3 i h1 h2, v4 j h3]
            exact p.t _ _ (by omega) (by omega) (by omega) h4
          · rw [if_neg c3] at hd3
            rw [hd3]
            refine ⟨?_, permIn_refl _ _ _⟩
            by_cases c4 : mid < e
            · exact o3'.sub (Nat.le_refl _) (by omega)
            · exact o4'.sub (by omega) (Nat.le_refl _)
        clear hd3
        obtain ⟨o6, q3⟩ := hp3
        have w3 : ∀ k, k < mid → d3[k]! = d2[k]! := fun k h1 => q3.2.1 k (.inl h1)
        have x1 : ∀ x, a ≤ x → x < mid → ∀ y, mid ≤ y → y < b → R lt tg d2[x]! d1[y]! :=
          permIn_all d1 d2 a mid (fun u => ∀ y, mid ≤ y → y < b → R lt tg u d1[y]!) (by omega) q2 (fun x h1 h2 y h3 h4 => cross x y h1 h2 h3 h4)
        have x2 : ∀ y, mid ≤ y → y < b → ∀ x, a ≤ x → x < mid → R lt tg d2[x]! d3[y]! :=
          permIn_all d2 d3 mid b (fun v => ∀ x, a ≤ x → x < mid → R lt tg d2[x]! v) (by rw [q2.1, z1]; exact bs) q3 (fun y h3 h4 x h1 h2 => by rw [w2 y h3]; exact x1 x h1 h2 y h3 h4)
        refine ⟨fun i j h1 h2 h3 => ?_, ?_⟩
        · by_cases c5 : j < mid
          · rw [w3 i (by omega), w3 j c5]; exact o5 i j h1 h2 c5
          · by_cases c6 : i < mid
            · rw [w3 i c6]; exact x2 j (by omega) h3 i h1 c6
            · exact o6 i j (by omega) h2 h3
        · refine permIn_trans _ _ _ _ _ q1 (permIn_trans _ _ _ _ _ (permIn_mono d1 d2 a mid a b (Nat.le_refl _) (by omega) (by omega) q2) (permIn_mono d2 d3 mid b a b (by omega) (Nat.le_refl _) (by rw [q2.1, z1]; exact bs) q3))
end Sb
end Go.Proofs.Ytmlmehpcfgchgaa
