/-
  Own words (any program): items, and what planning one makes of what is free, as a relation that tells one thing alone; choices are for items, in order. Nothing of a program is said here.
-/
import Derived.Test.YtbnpeicmbbgboaaPfN
namespace Go.Proofs.Ytbnpeicmbbgboaa
set_option maxRecDepth 8000

/-- An item. -/
structure It where
  id : Int
  wd : Int
  lim : Int
  pl : Int
def encI (x : It) : List Value := [.int .i64 x.id, .int .i64 x.wd, .int .i64 x.lim, .int .i64 x.pl]
theorem encI_len (x : It) : (encI x).length = 4 := rfl
def It.fits (x : It) : Prop := i64 x.id ∧ i64 x.wd ∧ i64 x.lim ∧ i64 x.pl
/-- May it be planned? -/
def It.ok (x : It) : Prop := (1 ≤ x.wd ∧ x.wd ≤ 64) ∧ (1 ≤ x.lim ∧ x.lim ≤ 1048576) ∧ -1 ≤ x.pl ∧ x.pl ≤ 1099511627776
def okI (x : It) : Bool := decide (1 ≤ x.wd) && decide (x.wd ≤ 64) && decide (1 ≤ x.lim) && decide (x.lim ≤ 1048576) && decide (-1 ≤ x.pl) && decide (x.pl ≤ 1099511627776)
theorem okI_iff (x : It) : okI x = true ↔ x.ok := by
  simp only [okI, It.ok, Bool.and_eq_true, decide_eq_true_eq]
  omega
theorem okI_no {x : It} (h : ¬ x.ok) : okI x = false := by
  cases hx : okI x with
  | false => rfl
  | true => exact absurd ((okI_iff x).1 hx) h

/-- What is free with the item's own plan released, and what that is told. -/
def FreedR (now : Int) (x : It) (f f1 : Int → Int) (r : Int) : Prop :=
  (x.pl = -1 ∧ f1 = f ∧ r = 0) ∨ (x.pl ≠ -1 ∧ ∃ d, AddR f now x.pl (x.pl + x.lim) x.wd r f1 d)
/-- Is a time the item's choice? -/
def PickR (x : It) (t e : Int) : Prop := e = 0 ∧ (x.pl = -1 ∨ t < x.pl)
def LaidR (now : Int) (x : It) (f1 : Int → Int) (t e : Int) (f' : Int → Int) (c : List (Int × Int)) : Prop :=
  (PickR x t e ∧ c = [(x.id, t)] ∧ ∃ r d, AddR f1 now t (t + x.lim) (-x.wd) r f' d) ∨
  (¬ PickR x t e ∧ c = [] ∧ ((x.pl = -1 ∧ f' = f1) ∨ (x.pl ≠ -1 ∧ ∃ r d, AddR f1 now x.pl (x.pl + x.lim) (-x.wd) r f' d)))
def PlanR (now : Int) (x : It) (f f' : Int → Int) (c : List (Int × Int)) : Prop :=
  ∃ f1 r, FreedR now x f f1 r ∧ ((r ≠ 0 ∧ f' = f1 ∧ c = []) ∨ (r = 0 ∧ ∃ t e, EarlP f1 now x.lim x.wd t e ∧ LaidR now x f1 t e f' c))
def PlansR (now : Int) : List It → (Int → Int) → (Int → Int) → List (Int × Int) → Prop
  | [], f, f', c => f' = f ∧ c = []
  | x :: l, f, f', c => ∃ f1 c1 c2, PlanR now x f f1 c1 ∧ PlansR now l f1 f' c2 ∧ c = c1 ++ c2

theorem FreedR.uniq {now : Int} {x : It} {f g f1 f2 : Int → Int} {r s : Int} (h : FreedR now x f f1 r) (h' : FreedR now x g f2 s) (hfg : ∀ t, now ≤ t → f t = g t) : r = s ∧ ∀ t, now ≤ t → f1 t = f2 t := by
  rcases h with ⟨a1, rfl, rfl⟩ | ⟨a1, d, hA⟩ <;> rcases h' with ⟨b1, rfl, rfl⟩ | ⟨b1, d', hB⟩
  · exact ⟨rfl, hfg⟩
  · exact absurd a1 b1
  · exact absurd b1 a1
  · obtain ⟨h1, _, h3⟩ := hA.uniq hB hfg
    exact ⟨h1, h3⟩
theorem LaidR.uniq {now : Int} {x : It} {f g f1 f2 : Int → Int} {t e : Int} {c1 c2 : List (Int × Int)} (h : LaidR now x f t e f1 c1) (h' : LaidR now x g t e f2 c2) (hfg : ∀ t, now ≤ t → f t = g t) : c1 = c2 ∧ ∀ t, now ≤ t → f1 t = f2 t := by
  rcases h with ⟨a1, rfl, r, d, hA⟩ | ⟨a1, rfl, hA⟩ <;> rcases h' with ⟨b1, rfl, r', d', hB⟩ | ⟨b1, rfl, hB⟩
  · exact ⟨rfl, (hA.uniq hB hfg).2.2⟩
  · exact absurd a1 b1
  · exact absurd b1 a1
  · refine ⟨rfl, ?_⟩
    rcases hA with ⟨p1, rfl⟩ | ⟨p1, r, d, hA⟩ <;> rcases hB with ⟨q1, rfl⟩ | ⟨q1, r', d', hB⟩
    · exact hfg
    · exact absurd p1 q1
    · exact absurd q1 p1
    · exact (hA.uniq hB hfg).2.2
theorem PlanR.uniq {now : Int} {x : It} {f g f1 f2 : Int → Int} {c1 c2 : List (Int × Int)} (h : PlanR now x f f1 c1) (h' : PlanR now x g f2 c2) (hfg : ∀ t, now ≤ t → f t = g t) : c1 = c2 ∧ ∀ t, now ≤ t → f1 t = f2 t := by
  obtain ⟨a1, r, hA, hA'⟩ := h
  obtain ⟨b1, s, hB, hB'⟩ := h'
  obtain ⟨rfl, hab⟩ := hA.uniq hB hfg
  rcases hA' with ⟨r1, rfl, rfl⟩ | ⟨r1, t, e, hE, hL⟩ <;> rcases hB' with ⟨s1, rfl, rfl⟩ | ⟨s1, t', e', hE', hL'⟩
  · exact ⟨rfl, hab⟩
  · exact absurd s1 r1
  · exact absurd r1 s1
  · obtain ⟨rfl, rfl⟩ := hE.uniq hE' hab
    exact hL.uniq hL' hab
theorem PlansR.uniq {now : Int} : ∀ (l : List It) {f g f1 f2 : Int → Int} {c1 c2 : List (Int × Int)}, PlansR now l f f1 c1 → PlansR now l g f2 c2 → (∀ t, now ≤ t → f t = g t) → c1 = c2 ∧ ∀ t, now ≤ t → f1 t = f2 t
  | [], _, _, _, _, _, _, ⟨e1, e2⟩, ⟨e3, e4⟩, hfg => by subst e1; subst e2; subst e3; subst e4; exact ⟨rfl, hfg⟩
  | x :: l, _, _, _, _, _, _, ⟨a1, b1, d1, h1, k1, e1⟩, ⟨a2, b2, d2, h2, k2, e2⟩, hfg => by
    obtain ⟨rfl, h3⟩ := h1.uniq h2 hfg
    obtain ⟨rfl, h4⟩ := PlansR.uniq l k1 k2 h3
    exact ⟨e1.trans e2.symm, h4⟩
theorem PlansR.snoc {now : Int} {x : It} {f1 f2 : Int → Int} {c2 : List (Int × Int)} : ∀ (l : List It) {f : Int → Int} {c1 : List (Int × Int)}, PlansR now l f f1 c1 → PlanR now x f1 f2 c2 → PlansR now (l ++ [x]) f f2 (c1 ++ c2)
  | [], _, _, ⟨e1, e2⟩, h => by
    subst e1; subst e2
    exact ⟨_, _, _, h, ⟨rfl, rfl⟩, by simp⟩
  | y :: l, _, _, ⟨a, b, d, h1, k1, e1⟩, h => ⟨a, b, d ++ c2, h1, PlansR.snoc l k1 h, by rw [e1, List.append_assoc]⟩
theorem PlansR.app {now : Int} {f1 f2 : Int → Int} {c2 : List (Int × Int)} (r : List It) : ∀ (l : List It) {f : Int → Int} {c1 : List (Int × Int)}, PlansR now l f f1 c1 → PlansR now r f1 f2 c2 → PlansR now (l ++ r) f f2 (c1 ++ c2)
  | [], _, _, ⟨e1, e2⟩, h => by
    subst e1; subst e2
    exact h
  | y :: l, _, _, ⟨a, b, d, h1, k1, e1⟩, h => ⟨a, b, d ++ c2, h1, PlansR.app r l k1 h, by rw [e1, List.append_assoc]⟩

/-- An item's choice is one. -/
theorem PlanR.len {now : Int} {x : It} {f f' : Int → Int} {c : List (Int × Int)} (h : PlanR now x f f' c) : c.length ≤ 1 := by
  obtain ⟨_, _, _, ⟨_, _, rfl⟩ | ⟨_, _, _, _, hL⟩⟩ := h
  · exact Nat.zero_le _
  · rcases hL with ⟨_, rfl, _⟩ | ⟨_, rfl, _⟩
    · exact Nat.le_refl _
    · exact Nat.zero_le _
theorem PlansR.len {now : Int} : ∀ (l : List It) {f f' : Int → Int} {c : List (Int × Int)}, PlansR now l f f' c → c.length ≤ l.length
  | [], _, _, _, ⟨_, e⟩ => by rw [e]; exact Nat.zero_le _
  | x :: l, _, _, _, ⟨_, _, _, h1, h2, e⟩ => by
    rw [e, List.length_append, List.length_cons]
    have := h1.len
    have := PlansR.len l h2
    omega

/-- A choice is for an item. -/
def ForI (x : It) (a : Int × Int) : Prop := x.id = a.1 ∧ (x.pl < 0 ∨ a.2 < x.pl) ∧ 0 ≤ a.2
inductive SubI : List It → List (Int × Int) → Prop
  | nil : SubI [] []
  | skip (x : It) {l : List It} {c : List (Int × Int)} : SubI l c → SubI (x :: l) c
  | take {x : It} {a : Int × Int} {l : List It} {c : List (Int × Int)} : ForI x a → SubI l c → SubI (x :: l) (a :: c)
theorem SubI.drop {l : List It} {c : List (Int × Int)} (h : SubI l c) : ∀ {a : Int × Int} {d : List (Int × Int)}, c = a :: d → SubI l d := by
  induction h with
  | nil => intro a d h; cases h
  | skip x _ ih => intro a d h; exact .skip x (ih h)
  | take _ h2 _ => intro a d h; cases h; exact .skip _ h2
theorem SubI.hit {x : It} {a : Int × Int} {l : List It} {c : List (Int × Int)} (h : SubI (x :: l) (a :: c)) : SubI l c := by
  generalize e : a :: c = d at h
  cases h with
  | skip _ h => exact h.drop e.symm
  | take _ h => cases e; exact h
theorem SubI.miss {x : It} {a : Int × Int} {l : List It} {c : List (Int × Int)} (h : SubI (x :: l) (a :: c)) (hn : ¬ ForI x a) : SubI l (a :: c) := by
  generalize e : a :: c = d at h
  cases h with
  | skip _ h => exact h
  | take hf h => cases e; exact absurd hf hn
theorem SubI.none {c : List (Int × Int)} (h : SubI [] c) : c = [] := by cases h; rfl
theorem PlanR.sub {now : Int} {x : It} {f f' : Int → Int} {c : List (Int × Int)} (h : PlanR now x f f' c) (h0 : 0 ≤ now) : c = [] ∨ ∃ a, c = [a] ∧ ForI x a := by
  obtain ⟨_, _, _, ⟨_, _, rfl⟩ | ⟨_, t, e, hE, hL⟩⟩ := h
  · exact .inl rfl
  · rcases hL with ⟨⟨h1, h2⟩, rfl, _⟩ | ⟨_, rfl, _⟩
    · refine .inr ⟨_, rfl, rfl, ?_, ?_⟩
      · rcases h2 with h2 | h2
        · exact .inl (by omega)
        · exact .inr h2
      · rcases hE with ⟨_, h3, _⟩ | ⟨h3, _⟩
        · exact Int.le_trans h0 h3
        · omega
    · exact .inl rfl
theorem PlansR.sub {now : Int} (h0 : 0 ≤ now) : ∀ (l : List It) {f f' : Int → Int} {c : List (Int × Int)}, PlansR now l f f' c → SubI l c
  | [], _, _, _, ⟨_, e⟩ => by rw [e]; exact .nil
  | x :: l, _, _, _, ⟨_, c1, c2, h1, h2, e⟩ => by
    have h3 := PlansR.sub h0 l h2
    rw [e]
    rcases h1.sub h0 with rfl | ⟨a, rfl, ha⟩
    · exact .skip x h3
    · exact .take ha h3

end Go.Proofs.Ytbnpeicmbbgboaa
