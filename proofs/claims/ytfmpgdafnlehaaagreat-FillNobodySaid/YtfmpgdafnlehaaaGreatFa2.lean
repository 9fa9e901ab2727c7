/-
 Own words and walks, merged: part 2 of 3.
-/
import Derived.Shelf.SlSortCmp.QuietGrown
import Derived.Deep.QuietTactic
import Derived.BigQuiet
import Derived.Test.YtfmpgdafnlehaaaGreatChecked
import Derived.WalkKit
import Derived.WalkSpells
import Derived.WalkLawsBesides
import Derived.Lib.Hide
import Derived.Deep.DeepMust
import Derived.BigRegion
import Derived.Shelf.SlSortCmp.InsertionK
import Derived.Shelf.SlGeneric
import Derived.Ground.SlsfProg
import Derived.Test.YtfmpgdafnlehaaaGreatProg
import Derived.Shelf.SlSortFuncK.ComposeK
import Derived.Laws.ResultCell
import Derived.Lib.MinMax
import Derived.RegionTactic
import Derived.ChangeAlike
import Derived.OwnWalk
import Derived.Laws.AppendOwn
import Derived.LaidEql
import Derived.Laws.StructEq
import Derived.Shelf.SlicesQ.Load
import Derived.Deep.LoopGhost
import Derived.Test.YtfmpgdafnlehaaaGreatFa1
set_option maxRecDepth 1000000
set_option maxHeartbeats 8000000
set_option linter.all false
namespace Go.Proofs.YtfmpgdafnlehaaaGreat
namespace Sb
open Go.Sort
variable {α : Type} {lt : α → α → Bool} {tg : α → Nat}
def R (lt : α → α → Bool) (tg : α → Nat) (x y : α) : Prop := lt x y = true ∨ (lt y x = false ∧ tg x < tg y)
theorem R.trans (hS : SWO lt) {x y z : α} (h : R lt tg x y) (h' : R lt tg y z) : R lt tg x z := by
 rcases h with h | ⟨h, ht⟩ <;> rcases h' with h' | ⟨h', ht'⟩
 ·exact .inl (hS.trans _ _ _ h h')
 ·left
  cases hx : lt x z with
  | true => rfl
  | false => have := hS.ntrans _ _ _ hx h'; rw [h] at this; cases this
 ·left
  cases hx : lt x z with
  | true => rfl
  | false => have := hS.ntrans _ _ _ h hx; rw [h'] at this; cases this
 ·exact .inr ⟨hS.ntrans _ _ _ h' h, by omega⟩
theorem dN {x y : α} (h : lt x y = true) : R lt tg x y := .inl h
theorem tQ {x y : α} (ht : tg x < tg y) (h : R lt tg y x) : lt y x = true := by
 rcases h with h | ⟨_, h⟩
 ·exact h
 ·omega
theorem sK (hS : SWO lt) {x y : α} (h : R lt tg x y) : lt y x = false := by
 rcases h with h | ⟨h, _⟩
 ·exact hS.asymmA h
 ·exact h
theorem dm {x y : α} (ht : tg x < tg y) (h : lt y x = false) : R lt tg x y := .inr ⟨h, ht⟩
variable [Inhabited α]
def Sr (lt : α → α → Bool) (tg : α → Nat) (a b : Nat) (d : Array α) : Prop := ∀ i j, a ≤ i → i < j → j < b → R lt tg d[i]! d[j]!
theorem Sr.sub {a b a' b' : Nat} {d : Array α} (h : Sr lt tg a b d) (h1 : a ≤ a') (h2 : b' ≤ b) : Sr lt tg a' b' d := fun i j x y z => h i j (by omega) y (by omega)
theorem Sr.le (hS : SWO lt) {a b : Nat} {d : Array α} (h : Sr lt tg a b d) {x y : Nat} {z : α} (hx : a ≤ x) (hxy : x ≤ y) (hy : y < b) (hr : R lt tg d[y]! z) : R lt tg d[x]! z := by
 rcases Nat.lt_or_ge x y with h1 | h1
 ·exact (h x y hx h1 hy).trans hS hr
 ·obtain rfl : x = y := by omega
  exact hr
theorem Sr.ge (hS : SWO lt) {a b : Nat} {d : Array α} (h : Sr lt tg a b d) {x y : Nat} {z : α} (hx : a ≤ x) (hxy : x ≤ y) (hy : y < b) (hr : R lt tg z d[x]!) : R lt tg z d[y]! := by
 rcases Nat.lt_or_ge x y with h1 | h1
 ·exact hr.trans hS (h x y hx h1 hy)
 ·obtain rfl : x = y := by omega
  exact hr
structure Pre (lt : α → α → Bool) (tg : α → Nat) (a m b : Nat) (d : Array α) : Prop where
 am : a < m
 mb : m < b
 bs : b ≤ d.size
 l : Sr lt tg a m d
 r : Sr lt tg m b d
 t : ∀ i j, a ≤ i → i < m → m ≤ j → j < b → tg d[i]! < tg d[j]!
theorem oC (hS : SWO lt) {a m b : Nat} {d : Array α} (p : Pre lt tg a m b d) (h1 : m - a = 1) :
 Sr lt tg a b (eH (az (fun h => lt d[h]! d[a]!) m b - 1) a d) ∧ PermIn a b d (eH (az (fun h => lt d[h]! d[a]!) m b - 1) a d) := by
 have am := p.am; have mb := p.mb; have bs := p.bs
 obtain ⟨s1, s2, s3, s4⟩ := fH (fun h => lt d[h]! d[a]!) (b - m) m b (Nat.le_refl _) (by omega) (fun x y hx hxy hy hf => by
  refine tQ (p.t a x (by omega) am hx (by omega)) (p.r.le hS hx hxy hy ?_)
  exact dN hf)
 generalize az (fun h => lt d[h]! d[a]!) m b = s at *
 obtain ⟨u1, u2, u3⟩ := jf (s - 1) (s - 1 - a) a d rfl (by omega) (by omega)
 refine ⟨fun i j hi hij hj => ?_, u3 a b (Nat.le_refl _) (by omega) bs⟩
 rw [u2 i, u2 j]
 have gY : ∀ h, m ≤ h → h < s → R lt tg d[h]! d[a]! := fun h h2 h3 => dN (s3 h h2 h3)
 have hno : ∀ h, s ≤ h → h < b → R lt tg d[a]! d[h]! := fun h h2 h3 => dm (p.t a h (by omega) am (by omega) h3) (s4 h h2 h3)
 by_cases c1 : j < s - 1
 ·rw [if_pos (by omega), if_pos (by omega)]
  exact p.r (i + 1) (j + 1) (by omega) (by omega) (by omega)
 ·by_cases c2 : j = s - 1
  ·rw [if_pos (by omega), if_neg (by omega), if_pos c2]
   exact gY (i + 1) (by omega) (by omega)
  ·rw [if_neg (show ¬ (a ≤ j ∧ j < s - 1) by omega), if_neg c2]
   by_cases c3 : i < s - 1
   ·rw [if_pos (by omega)]
    exact p.r (i + 1) j (by omega) (by omega) hj
   ·rw [if_neg (by omega)]
    by_cases c4 : i = s - 1
    ·rw [if_pos c4]; exact hno j (by omega) hj
    ·rw [if_neg c4]; exact p.r i j (by omega) hij hj
theorem l6 (hS : SWO lt) {a m b : Nat} {d : Array α} (p : Pre lt tg a m b d) (h1 : b - m = 1) :
 Sr lt tg a b (eO (az (fun h => !lt d[m]! d[h]!) a m) m d) ∧ PermIn a b d (eO (az (fun h => !lt d[m]! d[h]!) a m) m d) := by
 have am := p.am; have mb := p.mb; have bs := p.bs
 obtain ⟨s1, s2, s3, s4⟩ := fH (fun h => !lt d[m]! d[h]!) (m - a) a m (Nat.le_refl _) (by omega) (fun x y hx hxy hy hf => by
  have h2 : R lt tg d[y]! d[m]! := dm (p.t y m (by omega) hy (Nat.le_refl _) mb) (by simpa using hf)
  have h3 := sK hS (p.l.le hS hx hxy hy h2)
  simp [h3])
 generalize az (fun h => !lt d[m]! d[h]!) a m = s at *
 obtain ⟨u1, u2, u3⟩ := jg s (m - s) m d rfl (by omega) (by omega)
 refine ⟨fun i j hi hij hj => ?_, u3 a b (by omega) mb bs⟩
 rw [u2 i, u2 j]
 have gY : ∀ h, a ≤ h → h < s → R lt tg d[h]! d[m]! := fun h h2 h3 => dm (p.t h m h2 (by omega) (Nat.le_refl _) mb) (by simpa using s3 h h2 h3)
 have hno : ∀ h, s ≤ h → h < m → R lt tg d[m]! d[h]! := fun h h2 h3 => dN (by simpa using s4 h h2 h3)
 by_cases c1 : j < s
 ·rw [if_neg (by omega), if_neg (by omega), if_neg (by omega), if_neg (by omega)]
  exact p.l i j hi hij (by omega)
 ·by_cases c2 : j = s
  ·rw [if_neg (by omega), if_neg (by omega), if_neg (by omega), if_pos c2]
   exact gY i hi (by omega)
  ·rw [if_pos (show s < j ∧ j ≤ m by omega)]
   by_cases c3 : i < s
   ·rw [if_neg (by omega), if_neg (by omega)]
    exact p.l i (j - 1) hi (by omega) (by omega)
   ·by_cases c4 : i = s
    ·rw [if_neg (by omega), if_pos c4]; exact hno (j - 1) (by omega) (by omega)
    ·rw [if_pos (by omega)]; exact p.l (i - 1) (j - 1) (by omega) (by omega) (by omega)
theorem oD (hS : SWO lt) {a m b : Nat} {d : Array α} (p : Pre lt tg a m b d) :
 ∃ s, s = dM lt a m b d ∧ a ≤ s ∧ s ≤ m ∧ s ≤ (a + b) / 2 ∧ (a + b) / 2 + m - s ≤ b ∧ m ≤ (a + b) / 2 + m - s ∧
  (∀ x y, a ≤ x → x < s → (a + b) / 2 + m - s ≤ y → y < b → R lt tg d[x]! d[y]!) ∧ (∀ x y, m ≤ x → x < (a + b) / 2 + m - s → s ≤ y → y < m → R lt tg d[x]! d[y]!) := by
 have am := p.am; have mb := p.mb; have bs := p.bs
 obtain ⟨mid, hmid⟩ : ∃ mid, mid = (a + b) / 2 := ⟨_, rfl⟩
 have key : ∀ lo hi, a ≤ lo → lo ≤ hi → hi ≤ m → hi ≤ mid → mid + m - b ≤ lo → (lo = a ∨ mid + m - lo = b) → (hi = m ∨ hi = mid) →
  ∃ s, s = az (fun c => !lt d[mid + m - 1 - c]! d[c]!) lo hi ∧ a ≤ s ∧ s ≤ m ∧ s ≤ mid ∧ mid + m - s ≤ b ∧ m ≤ mid + m - s ∧
  (∀ x y, a ≤ x → x < s → mid + m - s ≤ y → y < b → R lt tg d[x]! d[y]!) ∧ (∀ x y, m ≤ x → x < mid + m - s → s ≤ y → y < m → R lt tg d[x]! d[y]!) := by
  intro lo hi h1 h2 h3 h4 h5 h6 h7
  have hR : ∀ c, lo ≤ c → c < hi → tg d[c]! < tg d[mid + m - 1 - c]! := fun c c1 c2 => p.t c (mid + m - 1 - c) (by omega) (by omega) (by omega) (by omega)
  obtain ⟨s1, s2, s3, s4⟩ := fH (fun c => !lt d[mid + m - 1 - c]! d[c]!) (hi - lo) lo hi (Nat.le_refl _) h2 (fun x y hx hxy hy hf => by
   have h8 : R lt tg d[y]! d[mid + m - 1 - y]! := dm (hR y (by omega) hy) (by simpa using hf)
   have h9 : R lt tg d[y]! d[mid + m - 1 - x]! := p.r.ge hS (by omega) (by omega) (by omega) h8
   have h10 := sK hS (p.l.le hS (by omega) hxy (by omega) h9)
   simp [h10])
  generalize az (fun c => !lt d[mid + m - 1 - c]! d[c]!) lo hi = s at *
  refine ⟨s, rfl, by omega, by omega, by omega, by omega, by omega, fun x y hx hxs hy hyb => ?_, fun x y hx hxe hy hym => ?_⟩
  ·have vL : lo < s := by omega
   have h8 : R lt tg d[s - 1]! d[mid + m - 1 - (s - 1)]! := dm (hR (s - 1) (by omega) (by omega)) (by simpa using s3 (s - 1) (by omega) (by omega))
   exact p.l.le hS hx (by omega) (by omega) (p.r.ge hS (by omega) (by omega) hyb h8)
  ·have uy : s < hi := by omega
   have h8 : R lt tg d[mid + m - 1 - s]! d[s]! := dN (by simpa using s4 s (Nat.le_refl _) uy)
   exact p.r.le hS hx (by omega) (by omega) (p.l.ge hS (by omega) hy hym h8)
 unfold dM
 rw [← hmid]
 by_cases c : mid < m
 ·rw [if_pos c]
  exact key (mid + m - b) mid (by omega) (by omega) (by omega) (Nat.le_refl _) (Nat.le_refl _) (by omega) (.inr rfl)
 ·rw [if_neg c]
  exact key a m (Nat.le_refl _) (by omega) (Nat.le_refl _) (by omega) (by omega) (.inl rfl) (.inl rfl)
theorem oF (hS : SWO lt) : ∀ (f a m b : Nat) (d : Array α), b - a ≤ f → Pre lt tg a m b d → Sr lt tg a b (symF lt f a m b d) ∧ PermIn a b d (symF lt f a m b d) := by
 intro f
 induction f with
 | zero => intro a m b d hf p; have := p.am; have := p.mb; omega
 | succ f ih =>
   intro a m b d hf p
   have am := p.am; have mb := p.mb; have bs := p.bs
   unfold symF
   by_cases c1 : m - a = 1
   ·rw [if_pos c1]; exact oC hS p c1
   ·rw [if_neg c1]
    by_cases c2 : b - m = 1
    ·rw [if_pos c2]; exact l6 hS p c2
    ·rw [if_neg c2]
     obtain ⟨s, hs, has, sm, sd, eb, me, hx1, hx2⟩ := oD hS p
     simp only [← hs]
     obtain ⟨mid, hmid⟩ : ∃ mid, mid = (a + b) / 2 := ⟨_, rfl⟩
     rw [← hmid] at sd eb me hx1 hx2
     simp only [← hmid]
     obtain ⟨e, he⟩ : ∃ e, e = mid + m - s := ⟨_, rfl⟩
     rw [← he] at eb me hx1 hx2
     simp only [← he]
     clear hs
     obtain ⟨d1, hd1⟩ : ∃ d1, d1 = if s < m ∧ m < e then bD m (m - s) (e - m) d else d := ⟨_, rfl⟩
     rw [← hd1]
     have uz : d1.size = d.size ∧ (∀ k, d1[k]! = if s ≤ k ∧ k < mid then d[k + (m - s)]! else if mid ≤ k ∧ k < e then d[k - (e - m)]! else d[k]!) ∧ PermIn a b d d1 := by
      by_cases c3 : s < m ∧ m < e
      ·rw [if_pos c3] at hd1
       obtain ⟨r1, r2, r3⟩ := fG (m - s + (e - m)) m (m - s) (e - m) d (Nat.le_refl _) (by omega) (by omega) (by omega) (by omega)
       rw [hd1]
       refine ⟨r1, fun k => ?_, r3 a b (by omega) (by omega) bs⟩
       rw [r2 k, show m - (m - s) = s by omega, show s + (e - m) = mid by omega, show m + (e - m) = e by omega]
      ·rw [if_neg c3] at hd1
       rw [hd1]
       refine ⟨rfl, fun k => ?_, permIn_refl _ _ _⟩
       by_cases c4 : s ≤ k ∧ k < mid
       ·rw [if_pos c4, show m - s = 0 by omega, Nat.add_zero]
       ·rw [if_neg c4]
        by_cases c5 : mid ≤ k ∧ k < e
        ·rw [if_pos c5, show e - m = 0 by omega, Nat.sub_zero]
        ·rw [if_neg c5]
     clear hd1
     obtain ⟨z1, g1, q1⟩ := uz
     have v1 : ∀ k, a ≤ k → k < s → d1[k]! = d[k]! := fun k h1 h2 => by rw [g1 k, if_neg (by omega), if_neg (by omega)]
     have v2 : ∀ k, s ≤ k → k < mid → d1[k]! = d[k + (m - s)]! := fun k h1 h2 => by rw [g1 k, if_pos ⟨h1, h2⟩]
     have v3 : ∀ k, mid ≤ k → k < e → d1[k]! = d[k - (e - m)]! := fun k h1 h2 => by rw [g1 k, if_neg (by omega), if_pos ⟨h1, h2⟩]
     have v4 : ∀ k, e ≤ k → d1[k]! = d[k]! := fun k h1 => by rw [g1 k, if_neg (by omega), if_neg (by omega)]
     have o1 : Sr lt tg a s d1 := fun i j h1 h2 h3 => by rw [v1 i h1 (by omega), v1 j (by omega) h3]; exact p.l i j h1 h2 (by omega)
     have o2 : Sr lt tg s mid d1 := fun i j h1 h2 h3 => by rw [v2 i h1 (by omega), v2 j (by omega) h3]; exact p.r _ _ (by omega) (by omega) (by omega)
     have o3 : Sr lt tg mid e d1 := fun i j h1 h2 h3 => by rw [v3 i h1 (by omega), v3 j (by omega) h3]; exact p.l _ _ (by omega) (by omega) (by omega)
     have o4 : Sr lt tg e b d1 := fun i j h1 h2 h3 => by rw [v4 i h1, v4 j (by omega)]; exact p.r i j (by omega) h2 h3
     have cross : ∀ x y, a ≤ x → x < mid → mid ≤ y → y < b → R lt tg d1[x]! d1[y]! := fun x y h1 h2 h3 h4 => by
      by_cases c5 : x < s
      ·rw [v1 x h1 c5]
       by_cases c6 : y < e
       ·rw [v3 y h3 c6]; exact p.l _ _ h1 (by omega) (by omega)
       ·rw [v4 y (by omega)]; exact hx1 x y h1 c5 (by omega) h4
      ·rw [v2 x (by omega) h2]
       by_cases c6 : y < e
       ·rw [v3 y h3 c6]; exact hx2 _ _ (by omega) (by omega) (by omega) (by omega)
       ·rw [v4 y (by omega)]; exact p.r _ _ (by omega) (by omega) h4
     obtain ⟨d2, hd2⟩ : ∃ d2, d2 = if a < s ∧ s < mid then symF lt f a s mid d1 else d1 := ⟨_, rfl⟩
     rw [← hd2]
     have hp2 : Sr lt tg a mid d2 ∧ PermIn a mid d1 d2 := by
      by_cases c3 : a < s ∧ s < mid
      ·rw [if_pos c3] at hd2
       rw [hd2]
       refine ih a s mid d1 (by omega) ⟨c3.1, c3.2, by omega, o1, o2, fun i j h1 h2 h3 h4 => ?_⟩
       rw [v1 i h1 h2, v2 j h3 h4]
       exact p.t _ _ h1 (by omega) (by omega) (by omega)
      ·rw [if_neg c3] at hd2
       rw [hd2]
       refine ⟨?_, permIn_refl _ _ _⟩
       by_cases c4 : a < s
       ·exact o1.sub (Nat.le_refl _) (by omega)
       ·exact o2.sub (by omega) (Nat.le_refl _)
     clear hd2
     obtain ⟨o5, q2⟩ := hp2
     have w2 : ∀ k, mid ≤ k → d2[k]! = d1[k]! := fun k h1 => q2.2.1 k (.inr h1)
     obtain ⟨d3, hd3⟩ : ∃ d3, d3 = if mid < e ∧ e < b then symF lt f mid e b d2 else d2 := ⟨_, rfl⟩
     rw [← hd3]
     have hp3 : Sr lt tg mid b d3 ∧ PermIn mid b d2 d3 := by
      have uA : Sr lt tg mid e d2 := fun i j h1 h2 h3 => by rw [w2 i h1, w2 j (by omega)]; exact o3 i j h1 h2 h3
      have uB : Sr lt tg e b d2 := fun i j h1 h2 h3 => by rw [w2 i (by omega), w2 j (by omega)]; exact o4 i j h1 h2 h3
      by_cases c3 : mid < e ∧ e < b
      ·rw [if_pos c3] at hd3
       rw [hd3]
       refine ih mid e b d2 (by omega) ⟨c3.1, c3.2, by rw [q2.1, z1]; exact bs, uA, uB, fun i j h1 h2 h3 h4 => ?_⟩
       rw [w2 i h1, w2 j (by omega), v3 i h1 h2, v4 j h3]
       exact p.t _ _ (by omega) (by omega) (by omega) h4
      ·rw [if_neg c3] at hd3
       rw [hd3]
       refine ⟨?_, permIn_refl _ _ _⟩
       by_cases c4 : mid < e
       ·exact uA.sub (Nat.le_refl _) (by omega)
       ·exact uB.sub (by omega) (Nat.le_refl _)
     clear hd3
     obtain ⟨o6, q3⟩ := hp3
     have w3 : ∀ k, k < mid → d3[k]! = d2[k]! := fun k h1 => q3.2.1 k (.inl h1)
     have x1 : ∀ x, a ≤ x → x < mid → ∀ y, mid ≤ y → y < b → R lt tg d2[x]! d1[y]! :=
      permIn_all d1 d2 a mid (fun u => ∀ y, mid ≤ y → y < b → R lt tg u d1[y]!) (by omega) q2 (fun x h1 h2 y h3 h4 => cross x y h1 h2 h3 h4)
     have x2 : ∀ y, mid ≤ y → y < b → ∀ x, a ≤ x → x < mid → R lt tg d2[x]! d3[y]! :=
      permIn_all d2 d3 mid b (fun v => ∀ x, a ≤ x → x < mid → R lt tg d2[x]! v) (by rw [q2.1, z1]; exact bs) q3 (fun y h3 h4 x h1 h2 => by rw [w2 y h3]; exact x1 x h1 h2 y h3 h4)
     refine ⟨fun i j h1 h2 h3 => ?_, ?_⟩
     ·by_cases c5 : j < mid
      ·rw [w3 i (by omega), w3 j c5]; exact o5 i j h1 h2 c5
      ·by_cases c6 : i < mid
       ·rw [w3 i c6]; exact x2 j (by omega) h3 i h1 c6
       ·exact o6 i j (by omega) h2 h3
     ·refine permIn_trans _ _ _ _ _ q1 (permIn_trans _ _ _ _ _ (permIn_mono d1 d2 a mid a b (Nat.le_refl _) (by omega) (by omega) q2) (permIn_mono d2 d3 mid b a b (by omega) (Nat.le_refl _) (by rw [q2.1, z1]; exact bs) q3))
end Sb
end Go.Proofs.YtfmpgdafnlehaaaGreat

namespace Go.Proofs.YtfmpgdafnlehaaaGreat
namespace Sb
open Go.Sort
variable {α : Type} [Inhabited α] {lt : α → α → Bool} {tg : α → Nat}
structure In (lt : α → α → Bool) (tg : α → Nat) (a j i : Nat) (d : Array α) : Prop where
 o : ∀ x y, a ≤ x → x < y → y ≤ i → x ≠ j → y ≠ j → R lt tg d[x]! d[y]!
 g : ∀ y, j < y → y ≤ i → R lt tg d[j]! d[y]!
 t : ∀ x, a ≤ x → x < j → tg d[x]! < tg d[j]!
theorem kH (hS : SWO lt) (a i : Nat) : ∀ (j : Nat) (d : Array α), a ≤ j → j ≤ i → i < d.size → In lt tg a j i d → Sr lt tg a (i + 1) (insInner lt a j d) ∧ PermIn a (i + 1) d (insInner lt a j d) := by
 intro j
 induction j with
 | zero =>
   intro d haj hji hi h
   rw [insInner_stop lt a 0 d (.inl (by omega))]
   refine ⟨fun x y h1 h2 h3 => ?_, permIn_refl _ _ _⟩
   by_cases c : x = 0
   ·subst c; exact h.g y h2 (by omega)
   ·exact h.o x y h1 h2 (by omega) c (by omega)
 | succ j ih =>
   intro d haj hji hi h
   by_cases hs : j + 1 ≤ a ∨ lt d[j + 1]! d[j]! = false
   ·rw [insInner_stop lt a (j + 1) d (by simpa using hs)]
    refine ⟨fun x y h1 h2 h3 => ?_, permIn_refl _ _ _⟩
    by_cases c : x = j + 1
    ·subst c; exact h.g y h2 (by omega)
    ·by_cases c2 : y = j + 1
     ·subst c2
      have hn : lt d[j + 1]! d[j]! = false := by
       rcases hs with hs | hs
       ·omega
       ·exact hs
      have h4 : R lt tg d[j]! d[j + 1]! := dm (h.t j (by omega) (by omega)) hn
      by_cases c3 : x = j
      ·rw [c3]; exact h4
      ·exact (h.o x j h1 (by omega) (by omega) c (by omega)).trans hS h4
     ·exact h.o x y h1 h2 (by omega) c c2
   ·have hja : a < j + 1 := by omega
    have hl : lt d[j + 1]! d[j]! = true := by
     cases hx : lt d[j + 1]! d[j]! with
     | true => rfl
     | false => exact absurd (.inr hx) hs
    rw [insInner_go lt a (j + 1) d hja hl, Nat.add_sub_cancel]
    have gt := fun k => swp_get d (show j + 1 < d.size by omega) (show j < d.size by omega) k
    have h1 := ih (swp d (j + 1) j) (by omega) (by omega) (by rw [swp_size]; exact hi) ⟨fun x y h1 h2 h3 h4 h5 => ?_, fun y h1 h2 => ?_, fun x h1 h2 => ?_⟩
    ·exact ⟨h1.1, permIn_trans _ _ _ _ _ (swp_permIn d a (i + 1) (j + 1) j (by omega) (by omega) (by omega) (by omega) (by omega)) h1.2⟩
    ·rw [gt x, gt y, if_neg h4, if_neg h5]
     by_cases c : y = j + 1
     ·rw [if_neg (by omega), if_pos c]; exact h.o x j h1 (by omega) (by omega) (by omega) (by omega)
     ·rw [if_neg c]
      by_cases c2 : x = j + 1
      ·rw [if_pos c2]; exact h.o j y (by omega) (by omega) h3 (by omega) c
      ·rw [if_neg c2]; exact h.o x y h1 h2 h3 c2 c
    ·rw [gt j, gt y, if_pos rfl, if_neg (by omega)]
     by_cases c : y = j + 1
     ·rw [if_pos c]; exact dN hl
     ·rw [if_neg c]; exact h.g y (by omega) h2
    ·rw [gt x, gt j, if_pos rfl, if_neg (by omega), if_neg (by omega)]
     exact h.t x h1 (by omega)
theorem kI (hS : SWO lt) (a b : Nat) : ∀ (t i : Nat) (d : Array α), b - i = t → a < i → i ≤ b → b ≤ d.size → Sr lt tg a i d → (∀ x y, a ≤ x → x < y → i ≤ y → y < b → tg d[x]! < tg d[y]!) →
 Sr lt tg a b (insOuter lt a b i d) ∧ PermIn a b d (insOuter lt a b i d) := by
 intro t
 induction t with
 | zero =>
   intro i d ht ha hi hb hs _
   rw [insOuter_stop lt a b i d (by omega)]
   obtain rfl : i = b := by omega
   exact ⟨hs, permIn_refl _ _ _⟩
 | succ t ih =>
   intro i d ht ha hi hb hs l7
   rw [insOuter_go lt a b i d (by omega)]
   obtain ⟨h1, h2⟩ := kH (tg := tg) hS a i i d (by omega) (Nat.le_refl _) (by omega) ⟨fun x y h1 h2 h3 h4 h5 => hs x y h1 h2 (by omega), fun y h1 h2 => by omega, fun x h1 h2 => l7 x i h1 h2 (Nat.le_refl _) (by omega)⟩
   have w : ∀ k, i + 1 ≤ k → (insInner lt a i d)[k]! = d[k]! := fun k hk => h2.2.1 k (.inr hk)
   have ha2 : ∀ x, a ≤ x → x < i + 1 → ∀ y, i + 1 ≤ y → y < b → tg (insInner lt a i d)[x]! < tg d[y]! :=
    permIn_all d _ a (i + 1) (fun u => ∀ y, i + 1 ≤ y → y < b → tg u < tg d[y]!) (by omega) h2 (fun x h3 h4 y h5 h6 => l7 x y h3 (by omega) (by omega) h6)
   obtain ⟨h3, h4⟩ := ih (i + 1) (insInner lt a i d) (by omega) (by omega) (by omega) (by rw [h2.1]; exact hb) h1 (fun x y h3 h4 h5 h6 => by
    rw [w y h5]
    by_cases c : x < i + 1
    ·exact ha2 x h3 c y h5 h6
    ·rw [w x (by omega)]; exact l7 x y h3 h4 (by omega) h6)
   exact ⟨h3, permIn_trans _ _ _ _ _ (permIn_mono d _ a (i + 1) a b (Nat.le_refl _) (by omega) hb h2) h4⟩
theorem fI (hS : SWO lt) {a b : Nat} {d : Array α} (hab : a ≤ b) (hb : b ≤ d.size) (l7 : ∀ x y, a ≤ x → x < y → y < b → tg d[x]! < tg d[y]!) : Sr lt tg a b (insertionSort lt d a b) ∧ PermIn a b d (insertionSort lt d a b) := by
 unfold insertionSort
 by_cases c : a < b
 ·exact kI hS a b (b - (a + 1)) (a + 1) d rfl (by omega) (by omega) hb (fun x y h1 h2 h3 => by omega) (fun x y h1 h2 _ h3 => l7 x y h1 h2 h3)
 ·rw [insOuter_stop lt a b (a + 1) d (by omega)]
  exact ⟨fun x y h1 h2 h3 => by omega, permIn_refl _ _ _⟩
def Ok (lt : α → α → Bool) (tg : α → Nat) (a b : Nat) (d : Array α) : Prop := Sr lt tg a b d ∧ ∀ i, a ≤ i → i < b → a ≤ tg d[i]! ∧ tg d[i]! < b
theorem Ok.same {a b : Nat} {d d' : Array α} (h : Ok lt tg a b d) (hs : ∀ i, a ≤ i → i < b → d'[i]! = d[i]!) : Ok lt tg a b d' :=
 ⟨fun i j h1 h2 h3 => by rw [hs i h1 (by omega), hs j (by omega) h3]; exact h.1 i j h1 h2 h3, fun i h1 h2 => by rw [hs i h1 h2]; exact h.2 i h1 h2⟩
theorem Ok.none {a b : Nat} {d : Array α} (h : b ≤ a) : Ok lt tg a b d := ⟨fun i j h1 h2 h3 => by omega, fun i h1 h2 => by omega⟩
theorem Ok.merge (hS : SWO lt) {a m b f : Nat} {d : Array α} (h1 : Ok lt tg a m d) (h2 : Ok lt tg m b d) (qp : a < m) (hmb : m < b) (hb : b ≤ d.size) (hf : b - a ≤ f) : Ok lt tg a b (symF lt f a m b d) ∧ PermIn a b d (symF lt f a m b d) := by
 obtain ⟨q1, q2⟩ := oF (tg := tg) hS f a m b d hf ⟨qp, hmb, hb, h1.1, h2.1, fun i j a1 a2 a3 a4 => by have := (h1.2 i a1 a2).2; have := (h2.2 j a3 a4).1; omega⟩
 refine ⟨⟨q1, permIn_all d _ a b (fun u => a ≤ tg u ∧ tg u < b) hb q2 fun i a1 a2 => ?_⟩, q2⟩
 by_cases c : i < m
 ·have := h1.2 i a1 c; omega
 ·have := h2.2 i (by omega) a2; omega
theorem aR {s a c : Nat} (ha : s ∣ a) (hc : s ∣ c) (h : a < c) : a + s ≤ c := by
 have := Nat.le_of_dvd (by omega) (Nat.dvd_sub hc ha)
 omega
theorem l8 (hS : SWO lt) (n : Nat) : ∀ (t a : Nat) (d : Array α), n - a ≤ t → 20 ∣ a → a ≤ n → n = d.size → (∀ c, 20 ∣ c → c < a → Ok lt tg c (c + 20) d) → (∀ i, a ≤ i → i < n → tg d[i]! = i) →
 (∀ c, 20 ∣ c → c < n → Ok lt tg c (min (c + 20) n) (bF lt n a d)) ∧ PermIn 0 n d (bF lt n a d) := by
 intro t
 induction t with
 | zero =>
   intro a d ht ha kJ hn h1 h2
   rw [bF, if_neg (by omega)]
   obtain ⟨q1, q2⟩ := fI (tg := tg) (d := d) hS kJ (by omega) (fun x y a1 a2 a3 => by rw [h2 x a1 (by omega), h2 y (by omega) a3]; exact a2)
   refine ⟨fun c hc hcn => ?_, permIn_mono d _ a n 0 n (Nat.zero_le _) (Nat.le_refl _) (by omega) q2⟩
   have := aR hc ha (by omega)
   rw [Nat.min_eq_left (by omega)]
   exact (h1 c hc (by omega)).same fun i a1 a2 => q2.2.1 i (.inl (by omega))
 | succ t ih =>
   intro a d ht ha kJ hn h1 h2
   by_cases c : a + 20 ≤ n
   ·rw [bF, if_pos c]
    obtain ⟨q1, q2⟩ := fI (tg := tg) hS (show a ≤ a + 20 by omega) (show a + 20 ≤ d.size by omega) (fun x y a1 a2 a3 => by rw [h2 x a1 (by omega), h2 y (by omega) (by omega)]; exact a2)
    obtain ⟨q3, q4⟩ := ih (a + 20) (insertionSort lt d a (a + 20)) (by omega) (Nat.dvd_add ha (Nat.dvd_refl _)) c (by rw [q2.1]; exact hn) (fun e he uC => by
     by_cases c2 : e < a
     ·have := aR he ha c2
      exact (h1 e he c2).same fun i a1 a2 => q2.2.1 i (.inl (by omega))
     ·have : e = a := by
       rcases Nat.lt_or_ge a e with h3 | h3
       ·have := aR ha he h3; omega
       ·omega
      subst this
      refine ⟨q1, permIn_all d _ e (e + 20) (fun u => e ≤ tg u ∧ tg u < e + 20) (by omega) q2 fun i a1 a2 => ?_⟩
      rw [h2 i a1 (by omega)]; exact ⟨a1, a2⟩) (fun i a1 a2 => by rw [q2.2.1 i (.inr a1)]; exact h2 i (by omega) a2)
    exact ⟨q3, permIn_trans _ _ _ _ _ (permIn_mono d _ a (a + 20) 0 n (Nat.zero_le _) c (by omega) q2) q4⟩
   ·rw [bF, if_neg c]
    obtain ⟨q1, q2⟩ := fI (tg := tg) (d := d) hS kJ (by omega) (fun x y a1 a2 a3 => by rw [h2 x a1 (by omega), h2 y (by omega) a3]; exact a2)
    refine ⟨fun e he hen => ?_, permIn_mono d _ a n 0 n (Nat.zero_le _) (Nat.le_refl _) (by omega) q2⟩
    by_cases c2 : e < a
    ·have := aR he ha c2
     rw [Nat.min_eq_left (by omega)]
     exact (h1 e he c2).same fun i a1 a2 => q2.2.1 i (.inl (by omega))
    ·have : e = a := by
      rcases Nat.lt_or_ge a e with h3 | h3
      ·have := aR ha he h3; omega
      ·omega
     subst this
     rw [Nat.min_eq_right (by omega)]
     refine ⟨q1, permIn_all d _ e n (fun u => e ≤ tg u ∧ tg u < n) (by omega) q2 fun i a1 a2 => ?_⟩
     rw [h2 i a1 a2]; exact ⟨a1, a2⟩
theorem l9 (hS : SWO lt) (s n : Nat) (hs : 0 < s) : ∀ (t a : Nat) (d : Array α), n - a ≤ t → 2 * s ∣ a → a ≤ n → n = d.size → (∀ c, 2 * s ∣ c → c < a → Ok lt tg c (c + 2 * s) d) → (∀ c, s ∣ c → a ≤ c → c < n → Ok lt tg c (min (c + s) n) d) →
 (∀ c, 2 * s ∣ c → c < n → Ok lt tg c (min (c + 2 * s) n) (bB lt s n a d)) ∧ PermIn 0 n d (bB lt s n a d) := by
 intro t
 induction t with
 | zero =>
   intro a d ht ha kJ hn h1 h2
   rw [bB, if_neg (by omega), if_neg (by omega)]
   refine ⟨fun c hc hcn => ?_, permIn_refl _ _ _⟩
   have := aR hc ha (by omega)
   rw [Nat.min_eq_left (by omega)]
   exact h1 c hc (by omega)
 | succ t ih =>
   intro a d ht ha kJ hn h1 h2
   have hsa : s ∣ a := Nat.dvd_trans (Nat.dvd_mul_left s 2) ha
   have sM : s ∣ a + s := Nat.dvd_add hsa (Nat.dvd_refl _)
   have heq : ∀ e, 2 * s ∣ e → ¬ e < a → e < a + 2 * s → e = a := fun e he c2 c3 => by
    rcases Nat.lt_or_ge a e with h3 | h3
    ·have := aR ha he h3; omega
    ·omega
   by_cases c : a + 2 * s ≤ n
   ·rw [bB, if_pos ⟨hs, c⟩]
    have b1 := h2 a hsa (Nat.le_refl _) (by omega)
    have b2 := h2 (a + s) sM (by omega) (by omega)
    rw [Nat.min_eq_left (by omega)] at b1 b2
    obtain ⟨q1, q2⟩ := b1.merge hS (f := 2 * s) (b := a + 2 * s) (by rw [show a + 2 * s = a + s + s by omega]; exact b2) (by omega) (by omega) (by omega) (by omega)
    obtain ⟨q3, q4⟩ := ih (a + 2 * s) (symF lt (2 * s) a (a + s) (a + 2 * s) d) (by omega) (Nat.dvd_add ha (Nat.dvd_refl _)) c (by rw [q2.1]; exact hn) (fun e he uC => by
     by_cases c2 : e < a
     ·have := aR he ha c2
      exact (h1 e he c2).same fun i a1 a2 => q2.2.1 i (.inl (by omega))
     ·have := heq e he c2 uC
      subst this
      exact q1) (fun e he hae hen => (h2 e he (by omega) hen).same fun i a1 a2 => q2.2.1 i (.inr (by omega)))
    exact ⟨q3, permIn_trans _ _ _ _ _ (permIn_mono d _ a (a + 2 * s) 0 n (Nat.zero_le _) c (by omega) q2) q4⟩
   ·rw [bB, if_neg (by omega)]
    by_cases c4 : a + s < n
    ·rw [if_pos c4]
     have b1 := h2 a hsa (Nat.le_refl _) (by omega)
     have b2 := h2 (a + s) sM (by omega) c4
     rw [Nat.min_eq_left (by omega)] at b1
     rw [Nat.min_eq_right (by omega)] at b2
     obtain ⟨q1, q2⟩ := b1.merge hS (f := n - a) b2 (by omega) c4 (by omega) (Nat.le_refl _)
     refine ⟨fun e he hen => ?_, permIn_mono d _ a n 0 n (Nat.zero_le _) (Nat.le_refl _) (by omega) q2⟩
     by_cases c2 : e < a
     ·have := aR he ha c2
      rw [Nat.min_eq_left (by omega)]
      exact (h1 e he c2).same fun i a1 a2 => q2.2.1 i (.inl (by omega))
     ·have := heq e he c2 (by omega)
      subst this
      rw [Nat.min_eq_right (by omega)]
      exact q1
    ·rw [if_neg c4]
     refine ⟨fun e he hen => ?_, permIn_refl _ _ _⟩
     by_cases c2 : e < a
     ·have := aR he ha c2
      rw [Nat.min_eq_left (by omega)]
      exact h1 e he c2
     ·have := heq e he c2 (by omega)
      subst this
      have b1 := h2 e hsa (Nat.le_refl _) hen
      rw [Nat.min_eq_right (by omega)] at b1
      rw [Nat.min_eq_right (by omega)]
      exact b1
theorem ma (hS : SWO lt) (n : Nat) : ∀ (t s : Nat) (d : Array α), n - s ≤ t → 0 < s → n = d.size → (∀ c, s ∣ c → c < n → Ok lt tg c (min (c + s) n) d) → Ok lt tg 0 n (bZ lt n s d) ∧ PermIn 0 n d (bZ lt n s d) := by
 intro t
 induction t with
 | zero =>
   intro s d ht hs hn h
   rw [bZ, if_neg (by omega)]
   refine ⟨?_, permIn_refl _ _ _⟩
   by_cases c : 0 < n
   ·have := h 0 (Nat.dvd_zero s) c
    rw [Nat.min_eq_right (by omega)] at this
    exact this
   ·exact Ok.none (by omega)
 | succ t ih =>
   intro s d ht hs hn h
   by_cases c : s < n
   ·rw [bZ, if_pos ⟨hs, c⟩]
    obtain ⟨q1, q2⟩ := l9 (tg := tg) hS s n hs n 0 d (by omega) (Nat.dvd_zero _) (Nat.zero_le _) hn (fun c _ hc => by omega) (fun c hc _ hcn => h c hc hcn)
    obtain ⟨q3, q4⟩ := ih (2 * s) (bB lt s n 0 d) (by omega) (by omega) (by rw [q2.1]; exact hn) q1
    exact ⟨q3, permIn_trans _ _ _ _ _ q2 q4⟩
   ·rw [bZ, if_neg (by omega)]
    refine ⟨?_, permIn_refl _ _ _⟩
    by_cases c : 0 < n
    ·have := h 0 (Nat.dvd_zero s) c
     rw [Nat.min_eq_right (by omega)] at this
     exact this
    ·exact Ok.none (by omega)
theorem mf (hS : SWO lt) (d : Array α) (l7 : ∀ i, i < d.size → tg d[i]! = i) : Sr lt tg 0 d.size (fu lt d) ∧ PermIn 0 d.size d (fu lt d) := by
 unfold fu
 obtain ⟨q1, q2⟩ := l8 (tg := tg) hS d.size d.size 0 d (by omega) (Nat.dvd_zero _) (Nat.zero_le _) rfl (fun c _ hc => by omega) (fun i _ hi => l7 i hi)
 obtain ⟨q3, q4⟩ := ma (tg := tg) hS d.size d.size 20 (bF lt d.size 0 d) (by omega) (by omega) q2.1.symm q1
 exact ⟨q3.1, permIn_trans _ _ _ _ _ q2 q4⟩
end Sb
end Go.Proofs.YtfmpgdafnlehaaaGreat

namespace Go.Proofs.YtfmpgdafnlehaaaGreat
namespace Sb
open Go.Sort
theorem mg {β : Type} (f : β → β → Bool) (L : List β) (hp : L.Pairwise fun x y => f x y = true ∧ f y x = false) (hi : ∀ x, f x x = false) (p : Nat) (h : p < L.length) : L.countP (fun u => f u L[p]) = p := by
 have e : L = L.take p ++ (L[p] :: L.drop (p + 1)) := by rw [List.getElem_cons_drop, List.take_append_drop]
 have h1 : ∀ x ∈ L.take p, f x L[p] = true := fun x hx => by
  obtain ⟨i, hi2, rfl⟩ := List.mem_iff_getElem.1 hx
  have hlt : i < p := by simp at hi2; omega
  rw [List.getElem_take]
  exact (List.pairwise_iff_getElem.1 hp i p (by omega) h hlt).1
 have h2 : ∀ x ∈ L.drop (p + 1), f x L[p] = false := fun x hx => by
  obtain ⟨i, hi2, rfl⟩ := List.mem_iff_getElem.1 hx
  rw [List.getElem_drop]
  exact (List.pairwise_iff_getElem.1 hp p (p + 1 + i) h (by simp at hi2; omega) (by omega)).2
 generalize L[p] = t at *
 rw [e, List.countP_append, List.countP_cons]
 have c1 : List.countP (fun u => f u t) (L.take p) = (L.take p).length := List.countP_eq_length.2 h1
 have c2 : List.countP (fun u => f u t) (L.drop (p + 1)) = 0 := List.countP_eq_zero.2 fun x hx => by rw [h2 x hx]; decide
 rw [c1, c2, hi t, List.length_take]
 simp
 omega
variable {α : Type} [Inhabited α] {lt : α → α → Bool}
def gZ (lt : α → α → Bool) (l : List α) (i k : Nat) : Nat := (List.range k).countP fun j => lt l[j]! l[i]! || (!lt l[i]! l[j]! && decide (j < i))
def tagged (l : List α) : List (α × Nat) := (List.range l.length).map fun i => (l[i]!, i)
theorem dO (l : List α) : (tagged l).length = l.length := by simp [tagged]
theorem gm (l : List α) {i : Nat} (h : i < l.length) : (tagged l)[i]? = some (l[i]!, i) := by simp [tagged, h]
theorem gp (l : List α) : (tagged l).map (·.1) = l := by
 refine List.ext_getElem (by simp [tagged]) fun i h1 h2 => ?_
 simp [tagged, h2]
theorem oG (hS : SWO lt) (l : List α) : ∃ r : Array (α × Nat), r = fu (fun x y : α × Nat => lt x.1 y.1) (tagged l).toArray ∧ r.size = l.length ∧ (∀ i, i < l.length → gZ lt l i l.length < l.length ∧ (r[gZ lt l i l.length]!).1 = l[i]!) ∧ (r.toList.map (·.1)).Perm l ∧ (r.toList.map (·.1)).Pairwise (fun x y => lt y x = false) := by
 refine ⟨_, rfl, ?_⟩
 have hS1 : SWO (fun x y : α × Nat => lt x.1 y.1) := ⟨fun x => hS.irrefl _, fun x y z h1 h2 => hS.trans _ _ _ h1 h2, fun x y z h1 h2 => hS.ntrans _ _ _ h1 h2⟩
 have hn : (tagged l).toArray.size = l.length := by simp [dO]
 obtain ⟨q1, q2, q3, q4⟩ := mf (tg := fun x : α × Nat => x.2) hS1 (tagged l).toArray (fun i hi => by
  rw [hn] at hi
  have := gm l hi
  simp [Array.getElem!_eq_getD, Array.getD_eq_getD_getElem?, this])
 rw [hn] at q1 q4
 generalize fu (fun x y : α × Nat => lt x.1 y.1) (tagged l).toArray = r at *
 have hrs : r.size = l.length := by rw [q2]; exact hn
 have hperm : r.toList.Perm (tagged l) := by
  have e1 : r.extract 0 l.length = r := by rw [← hrs]; exact Array.extract_size
  have e2 : (tagged l).toArray.extract 0 l.length = (tagged l).toArray := by rw [← hn]; exact Array.extract_size
  rw [e1, e2] at q4
  exact q4
 refine ⟨hrs, fun i hi => ?_, ?_, ?_⟩
 ·let f : α × Nat → α × Nat → Bool := fun x y => lt x.1 y.1 || (!lt y.1 x.1 && decide (x.2 < y.2))
  have hR : ∀ x y, R (fun x y : α × Nat => lt x.1 y.1) (fun x => x.2) x y → f x y = true ∧ f y x = false := fun x y h => by
   rcases h with h | ⟨h, ht⟩
   ·have h2 := hS.asymmA h
    exact ⟨by simp [f, h], by simp [f, h, h2]⟩
   ·have ht : x.2 < y.2 := ht
    by_cases h2 : lt x.1 y.1 = true
    ·have h3 := hS.asymmA h2
     exact ⟨by simp [f, h2], by simp [f, h2, h3]⟩
    ·have h2' : lt x.1 y.1 = false := by simpa using h2
     exact ⟨by simp [f, h, ht], by simp only [f, h, h2', Bool.false_or, Bool.not_false, Bool.true_and, decide_eq_false_iff_not]; omega⟩
  have hpw : r.toList.Pairwise fun x y => f x y = true ∧ f y x = false := by
   rw [List.pairwise_iff_getElem]
   intro a b ha hb hab
   have := hR _ _ (q1 a b (Nat.zero_le _) hab (by simpa [hrs] using hb))
   rw [getElem!_pos r a (by simpa using ha), getElem!_pos r b (by simpa using hb)] at this
   simpa using this
  have hmem : (l[i]!, i) ∈ r.toList := hperm.mem_iff.2 (List.mem_of_getElem? (gm l hi))
  obtain ⟨p, hp, hpe⟩ := List.mem_iff_getElem.1 hmem
  have hc := mg f r.toList hpw (fun x => by simp [f, hS.irrefl]) p hp
  rw [hpe, hperm.countP_eq] at hc
  have hpk : gZ lt l i l.length = p := by
   rw [← hc]
   unfold gZ tagged
   rw [List.countP_map]
   rfl
  rw [hpk]
  have hp2 : p < r.size := by simpa using hp
  refine ⟨by omega, ?_⟩
  rw [getElem!_pos r p hp2]
  have : r[p] = (l[i]!, i) := by simpa using hpe
  rw [this]
 ·have := hperm.map (·.1)
  rw [gp] at this
  exact this
 ·rw [List.pairwise_map, List.pairwise_iff_getElem]
  intro a b ha hb hab
  have h1 := q1 a b (Nat.zero_le _) hab (by simpa [hrs] using hb)
  rw [getElem!_pos r a (by simpa using ha), getElem!_pos r b (by simpa using hb)] at h1
  simp only [Array.getElem_toList]
  rcases h1 with h | ⟨h, _⟩
  ·exact hS.asymmA h
  ·exact h
end Sb
end Go.Proofs.YtfmpgdafnlehaaaGreat

namespace Go.Proofs.YtfmpgdafnlehaaaGreat
open Go.RowKit Go.Lib Go.Sort
open Go.ChangeShapes Go.WideShapes Go.ChangeAt Go.Deep in
section
variable {w W : World} {v : Value} {l : List Jb}
structure ib (w : World) (b off : Nat) (l : List Jb) : Prop where
 lt : b < w.heap.size
 cell : ∀ i s j u, l[i]? = some s → (ai s)[j]? = some u → w.cell? ⟨b, off + (i * 10 + j), none⟩ = some u
theorem ib.below {b off : Nat} (h : ib w b off l) (hb : Below w.heap.size w W) : ib W b off l :=
 ⟨Nat.lt_of_lt_of_le h.lt hb.size, fun i s j u hi hj => by rw [hb.cell (p := ⟨b, _, none⟩) h.lt]; exact h.cell i s j u hi hj⟩
theorem ib.load {b off i k : Nat} (h : ib w b off l) (hk : k = 10) (hi : i < l.length) : Sem.run Tryz.prog (loadCellsFrom ⟨b, off + i * k, none⟩ 0 k #[]) w = .ok (ai l[i]!).toArray w := by
 subst hk
 refine run_loadCellsFrom_list Tryz.prog w _ _ 10 (aH _) fun j u hj => ?_
 rw [Go.WideShapes.add_plain, Nat.add_assoc]
 exact h.cell i _ j u (by rw [List.getElem?_eq_getElem hi, getElem!_pos l i hi]) hj
end
end Go.Proofs.YtfmpgdafnlehaaaGreat

namespace Go.Proofs.YtfmpgdafnlehaaaGreat
open Go.RowKit Go.Lib Go.Sort
theorem oH {α : Type} [Inhabited α] {p : α → Bool} {l : List α} {i : Nat} (hi : i < l.length) (h : p l[i]! = true) : (l.take (i + 1)).filter p = (l.take i).filter p ++ [l[i]!] := by
 have e : l[i]! = l[i] := getElem!_pos l i hi
 rw [e] at h ⊢
 rw [List.take_add_one, List.getElem?_eq_getElem hi, List.filter_append]
 simp [h]
theorem qw {α : Type} [Inhabited α] {p : α → Bool} {l : List α} {i : Nat} (hi : i < l.length) (h : p l[i]! = false) : (l.take (i + 1)).filter p = (l.take i).filter p := by
 have e : l[i]! = l[i] := getElem!_pos l i hi
 rw [e] at h
 rw [List.take_add_one, List.getElem?_eq_getElem hi, List.filter_append]
 simp [h]
end Go.Proofs.YtfmpgdafnlehaaaGreat

namespace Go.Proofs.YtfmpgdafnlehaaaGreat
open Go.RowKit Go.Lib Go.Sort
theorem kK : (Tryz.prog.info? 94).map (fun i => (i.zero, i.size, i.bytes)) = some (some (.agg (ai default).toArray), 10, 80) := by kernel_rfl
theorem fJ (l : List Jb) : (l.flatMap ai).length = l.length * 10 := by
 induction l with
 | nil => rfl
 | cons a l ih => rw [List.flatMap_cons, List.length_append, ih, aH, List.length_cons, Nat.add_mul]; omega
end Go.Proofs.YtfmpgdafnlehaaaGreat

namespace Go.Proofs.YtfmpgdafnlehaaaGreat
open Go.RowKit Go.Sort Go.Lib Go.Shelf
structure bA {α : Type} (enc : α → List Value) (k : Nat) : Prop where
 len : ∀ x, (enc x).length = k
 one : ∀ x, ∀ v ∈ enc x, v.oneCell' = true
section
variable {α : Type} [Inhabited α] {enc : α → List Value} {w : World} {blk off cap : Nat} {d d0 : Array α}
theorem bK {W : World} {k : Nat} (h : HoldsK enc k W blk off d) (hE : bA enc k) {i : Nat} (hi : i < d.size) :
 Sem.run Tryz.prog (loadCellsFrom ⟨blk, off + i * k, none⟩ 0 k #[]) W = .ok (enc d[i]!).toArray W :=
 run_loadCellsFrom_list Tryz.prog _ _ _ k (hE.len _) (HoldsK.cells h hE.len hi)
theorem ic {k n x : Nat} (hx : x < n) : x * k + k ≤ n * k := by
 have := Nat.mul_le_mul_right k (show x + 1 ≤ n from hx)
 rwa [Nat.add_mul, Nat.one_mul] at this
theorem gq {W : World} {k : Nat} (h : HoldsK enc k W blk off d) (hE : bA enc k) {i j : Nat} (hi : i < d.size) (hj : j < d.size) (x y : α) :
 Sem.run Tryz.prog (storeCells ⟨blk, off + i * k, none⟩ (enc x) 0) W = .ok () (W.setCells blk (off + i * k) (enc x)) ∧
 Sem.run Tryz.prog (storeCells ⟨blk, off + j * k, none⟩ (enc y) 0) (W.setCells blk (off + i * k) (enc x)) = .ok () ((W.setCells blk (off + i * k) (enc x)).setCells blk (off + j * k) (enc y)) :=
 ⟨stores_of_holds Tryz.prog h (i * k) _ (by rw [hE.len, size_flatK]; exact ic hi) (hE.one _),
  stores_of_holds Tryz.prog (holds_setCells_c h (i * k) _ (by rw [hE.len, size_flatK]; exact ic hi)) (j * k) _ (by rw [hE.len, size_setMany, size_flatK]; exact ic hj) (hE.one _)⟩
theorem iM (k : Nat) (zE : ∀ w, Sem.run Tryz.prog (Go.sizeOf 94) w = .ok k w) (g : Value) (a b n m : Nat) (os : Array Obj) (hE : bA enc k) (hH : HoldsK enc k w blk off d0) (hs : d.size = d0.size) (hblk : blk < w.heap.size) (hab : a + n ≤ b) (hb : b + n ≤ d.size) (hsz : d.size < 4611686018427387904) :
 Calls Tryz.prog 245 #[.slice (some ⟨blk, off, none⟩) d.size cap, .int .i64 a, .int .i64 b, .int .i64 n, g] (sortWorldK enc k w blk off m d os) fun e w' =>
  e = .returned (.tuple #[]) ∧ ∃ m', w' = sortWorldK enc k w blk off m' (Sb.bI a b n 0 d) os := by
 replace hs := Lib.hid hs
 go_enter Tryz.func245, Tryz.ntmps245
 go_wp2_with fail
 go_loopw [10] (fun ii wr => ∃ (i mi : Nat) (di : Array α), ii = .int .i64 i ∧ i ≤ n ∧ di.size = d.size ∧ wr = sortWorldK enc k w blk off mi di os ∧ Hid (Sb.bI a b n i di = Sb.bI a b n 0 d)) (fun ii _ => n - (intOf ii).toNat)
 case atStart => exact ⟨0, m, d, rfl, Nat.zero_le _, rfl, rfl, rfl⟩
 case round =>
  obtain ⟨i, mi, di, rfl, hin, hsi, rfl, HI⟩ := hrel
  by_cases hlt : i < n
  ·have b2 : (i : Int) < (n : Int) := by omega
   have hW := holdsK_sortWorldK_c enc k w blk off d0 di mi os hH hblk (by rw [hsi]; exact hs.out)
   have hnx : Hid (∀ (_ : Unit), (((sortWorldK enc k w blk off mi di os).drew.setCells blk (off + (a + i) * k) (enc di[b + i]!)).setCells blk (off + (b + i) * k) (enc di[a + i]!)) = sortWorldK enc k w blk off (mi + 1) (swp di (a + i) (b + i)) os) := fun _ => sortWorldK_swp_c enc k w blk off hE.len mi di os hblk (a + i) (b + i) (by omega) (by omega)
   have la := fun (W : World) (hW : HoldsK enc k W blk off di) => bK hW hE (i := a + i) (by omega)
   have lb := fun (W : World) (hW : HoldsK enc k W blk off di) => bK hW hE (i := b + i) (by omega)
   have st := fun (W : World) (hW : HoldsK enc k W blk off di) => gq hW hE (i := a + i) (j := b + i) (by omega) (by omega) di[b + i]! di[a + i]!
   have hsd : (swp di (a + i) (b + i)).size = d.size := by rw [swp_size]; exact hsi
   have hgo := Sb.jH (a := a) (b := b) (d := di) hlt
   generalize hwq : sortWorldK enc k w blk off mi di os = wq at hW hnx ⊢
   have ve := la wq.drew hW
   have vg := lb wq.drew hW
   obtain ⟨s1, s2⟩ := st wq.drew hW
   obtain ⟨cA, hcA⟩ : ∃ c, c = enc di[a + i]! := ⟨_, rfl⟩
   obtain ⟨cB, hcB⟩ : ∃ c, c = enc di[b + i]! := ⟨_, rfl⟩
   rw [← hcA] at ve s2 hnx
   rw [← hcB] at vg s1 s2 hnx
   have lA : cA.length = k := by rw [hcA]; exact hE.len _
   have lB : cB.length = k := by rw [hcB]; exact hE.len _
   replace hcA := Lib.hid hcA
   replace hcB := Lib.hid hcB
   clear la lb st hwq hW
   have wa : IntKind.i64.wrap ((a : Int) + (i : Int)) = (a : Int) + (i : Int) := by rw [IntKind.wrap_i64]; omega
   have wb : IntKind.i64.wrap ((b : Int) + (i : Int)) = (b : Int) + (i : Int) := by rw [IntKind.wrap_i64]; omega
   have ja : (a : Int) + (i : Int) < (d.size : Int) := by omega
   have jb : (b : Int) + (i : Int) < (d.size : Int) := by omega
   have ka : (0 : Int) ≤ (a : Int) + (i : Int) := by omega
   have kb : (0 : Int) ≤ (b : Int) + (i : Int) := by omega
   have ea : ((a : Int) + (i : Int)).toNat = a + i := by omega
   have eb : ((b : Int) + (i : Int)).toNat = b + i := by omega
   go_wp2_with fail
   go_region
   rw [hnx.out ()]
   go_wp2_with fail
   go_roundw
   case rel => exact ⟨i + 1, mi + 1, swp di (a + i) (b + i), by go_num, by omega, hsd, rfl, by show _ = _; rw [← HI.out, hgo]⟩
   case measure => simp [intOf]; omega
  ·have b2 : ¬ (i : Int) < (n : Int) := by omega
   go_wp2_with fail
   go_end0
   exact ⟨rfl, mi, by rw [← HI.out, Sb.fE hlt]⟩
theorem mh (k : Nat) (zE : ∀ w, Sem.run Tryz.prog (Go.sizeOf 94) w = .ok k w) (g : Value) (a m b q : Nat) (os : Array Obj) (hE : bA enc k) (hH : HoldsK enc k w blk off d0) (hs : d.size = d0.size) (hblk : blk < w.heap.size) (qp : a < m) (hmb : m < b) (hb : b ≤ d.size) (hsz : d.size < 4611686018427387904) :
 Calls Tryz.prog 238 #[.slice (some ⟨blk, off, none⟩) d.size cap, .int .i64 a, .int .i64 m, .int .i64 b, g] (sortWorldK enc k w blk off q d os) fun e w' =>
  e = .returned (.tuple #[]) ∧ ∃ q', w' = sortWorldK enc k w blk off q' (Sb.bD m (m - a) (b - m) d) os := by
 have hsw := fun (a b n q : Nat) (di : Array α) (h1 : a + n ≤ b) (h2 : b + n ≤ d.size) (h3 : di.size = d.size) => iM (cap := cap) (d := di) k zE g a b n q os hE hH (by rw [h3]; exact hs) hblk h1 (by rw [h3]; exact h2) (by rw [h3]; exact hsz)
 have HS : Hid _ := hsw
 clear hsw hH
 replace hs := Lib.hid hs
 have wa : IntKind.i64.wrap ((m : Int) - (a : Int)) = ((m - a : Nat) : Int) := by rw [IntKind.wrap_i64]; omega
 have wb : IntKind.i64.wrap ((b : Int) - (m : Int)) = ((b - m : Nat) : Int) := by rw [IntKind.wrap_i64]; omega
 obtain ⟨ia, hia⟩ : ∃ x, x = m - a := ⟨_, rfl⟩
 obtain ⟨jb, hjb⟩ : ∃ x, x = b - m := ⟨_, rfl⟩
 rw [← hia] at wa
 rw [← hjb] at wb
 rw [← hia, ← hjb]
 have i0 : 0 < ia := by omega
 have j0 : 0 < jb := by omega
 have im : ia ≤ m := by omega
 have jm : m + jb ≤ d.size := by omega
 clear hia hjb qp hmb hb
 go_enter Tryz.func238, Tryz.ntmps238
 go_wp2_with fail
 go_loopw [10, 11] (fun ii jj wr => ∃ (i j qi : Nat) (di : Array α), ii = .int .i64 i ∧ jj = .int .i64 j ∧ 0 < i ∧ 0 < j ∧ i ≤ ia ∧ j ≤ jb ∧ di.size = d.size ∧ wr = sortWorldK enc k w blk off qi di os ∧ Hid (Sb.bD m i j di = Sb.bD m ia jb d)) (fun ii jj _ => (intOf ii).toNat + (intOf jj).toNat)
 case atStart => exact ⟨ia, jb, q, d, rfl, rfl, i0, j0, Nat.le_refl _, Nat.le_refl _, rfl, rfl, rfl⟩
 case round =>
  obtain ⟨i, j, qi, di, rfl, rfl, hi0, hj0, uD, hjb2, hsi, rfl, HI⟩ := hrel
  have w1 : IntKind.i64.wrap ((m : Int) - (i : Int)) = ((m - i : Nat) : Int) := by rw [IntKind.wrap_i64]; omega
  by_cases hij : i = j
  ·subst hij
   have hc := HS.out (m - i) m i qi di (by omega) (by omega) hsi
   rw [hsi] at hc
   rw [Sb.nH] at HI
   have n1 : ((i : Int) != (i : Int)) = false := by simp
   generalize sortWorldK enc k w blk off qi di os = wq at hc ⊢
   go_wp2_with (go_at_call 245; go_must (refine hc.mono ?_); rintro e w5 ⟨rfl, q5, rfl⟩)
   go_end0
   exact ⟨rfl, q5, by rw [HI.out]⟩
  ·have n1 : ((i : Int) != (j : Int)) = true := by simp; omega
   by_cases hgt : j < i
   ·have hc := HS.out (m - i) m j qi di (by omega) (by omega) hsi
    rw [hsi] at hc
    rw [Sb.nI hgt hj0] at HI
    have hsz2 := (Sb.dh (m - i) m j j 0 di rfl (Nat.zero_le _) (by omega) (by omega)).1
    have b2 : (j : Int) < (i : Int) := by omega
    have w2 : IntKind.i64.wrap ((i : Int) - (j : Int)) = ((i - j : Nat) : Int) := by rw [IntKind.wrap_i64]; omega
    generalize sortWorldK enc k w blk off qi di os = wq at hc ⊢
    go_wp2_with (go_at_call 245; go_must (refine hc.mono ?_); rintro e w5 ⟨rfl, q5, rfl⟩)
    go_roundw
    case rel => exact ⟨i - j, j, q5, Sb.bI (m - i) m j 0 di, by go_num, rfl, by omega, hj0, by omega, hjb2, by rw [hsz2, hsi], rfl, HI⟩
    case measure => simp [intOf]; omega
   ·have hc := HS.out (m - i) (m + j - i) i qi di (by omega) (by omega) hsi
    rw [hsi] at hc
    rw [Sb.nJ (by omega) hi0] at HI
    have hsz2 := (Sb.dh (m - i) (m + j - i) i i 0 di rfl (Nat.zero_le _) (by omega) (by omega)).1
    obtain ⟨x, hx⟩ : ∃ x, x = m + j - i := ⟨_, rfl⟩
    rw [← hx] at hc HI hsz2
    have b2 : ¬ (j : Int) < (i : Int) := by omega
    have w2 : IntKind.i64.wrap ((j : Int) - (i : Int)) = ((j - i : Nat) : Int) := by rw [IntKind.wrap_i64]; omega
    have w3 : IntKind.i64.wrap ((m : Int) + (j : Int)) = (m : Int) + (j : Int) := by rw [IntKind.wrap_i64]; omega
    have w4 : IntKind.i64.wrap ((m : Int) + (j : Int) - (i : Int)) = (x : Int) := by rw [IntKind.wrap_i64]; omega
    replace hx := Lib.hid hx
    generalize sortWorldK enc k w blk off qi di os = wq at hc ⊢
    go_wp2_with (go_at_call 245; go_must (refine hc.mono ?_); rintro e w5 ⟨rfl, q5, rfl⟩)
    go_roundw
    case rel => exact ⟨i, j - i, q5, Sb.bI (m - i) x i 0 di, rfl, by go_num, hi0, by omega, uD, by omega, by rw [hsz2, hsi], rfl, HI⟩
    case measure => simp [intOf]; omega
end
end Go.Proofs.YtfmpgdafnlehaaaGreat

namespace Go.Proofs.YtfmpgdafnlehaaaGreat
open Go.RowKit Go.Sort Go.Lib Go.Shelf
namespace Sb
variable {α : Type} [Inhabited α]
theorem cu (f : Nat → Bool) : ∀ (t i j : Nat), j - i ≤ t → i ≤ j → i ≤ az f i j ∧ az f i j ≤ j := by
 intro t
 induction t with
 | zero => intro i j ht hij; rw [bq (by omega)]; exact ⟨Nat.le_refl _, hij⟩
 | succ t ih =>
   intro i j ht hij
   by_cases h : i < j
   ·cases hf : f ((i + j) / 2) with
    | true => rw [df h hf]; have := ih ((i + j) / 2 + 1) j (by omega) (by omega); omega
    | false => rw [dY h hf]; have := ih i ((i + j) / 2) (by omega) (by omega); omega
   ·rw [bq h]; exact ⟨Nat.le_refl _, hij⟩
theorem gu {lt : α → α → Bool} {a m b : Nat} {d : Array α} (h1 : a < m) (h2 : m < b) : a ≤ dM lt a m b d ∧ dM lt a m b d ≤ m ∧ dM lt a m b d ≤ (a + b) / 2 ∧ (a + b) / 2 + m - b ≤ dM lt a m b d := by
 unfold dM
 by_cases c : (a + b) / 2 < m
 ·rw [if_pos c]
  have := cu (fun c => !lt d[(a + b) / 2 + m - 1 - c]! d[c]!) _ ((a + b) / 2 + m - b) ((a + b) / 2) (Nat.le_refl _) (by omega)
  omega
 ·rw [if_neg c]
  have := cu (fun c => !lt d[(a + b) / 2 + m - 1 - c]! d[c]!) _ a m (Nat.le_refl _) (by omega)
  omega
theorem eP {lt : α → α → Bool} : ∀ (f a m b : Nat) (d : Array α), a < m → m < b → b ≤ d.size → (symF lt f a m b d).size = d.size := by
 intro f
 induction f with
 | zero => intro a m b d _ _ _; rfl
 | succ f ih =>
   intro a m b d h1 h2 h3
   unfold symF
   by_cases c1 : m - a = 1
   ·rw [if_pos c1]
    have hb := cu (fun h => lt d[h]! d[a]!) _ m b (Nat.le_refl _) (by omega)
    exact (jf (az (fun h => lt d[h]! d[a]!) m b - 1) _ a d rfl (by omega) (by omega)).1
   ·rw [if_neg c1]
    by_cases c2 : b - m = 1
    ·rw [if_pos c2]
     have hb := cu (fun h => !lt d[m]! d[h]!) _ a m (Nat.le_refl _) (by omega)
     exact (jg (az (fun h => !lt d[m]! d[h]!) a m) _ m d rfl (by omega) (by omega)).1
    ·rw [if_neg c2]
     have hc := gu (lt := lt) (d := d) h1 h2
     simp only
     generalize dM lt a m b d = s at *
     have z1 : (if s < m ∧ m < (a + b) / 2 + m - s then bD m (m - s) ((a + b) / 2 + m - s - m) d else d).size = d.size := by
      by_cases c3 : s < m ∧ m < (a + b) / 2 + m - s
      ·rw [if_pos c3]; exact (fG _ m (m - s) ((a + b) / 2 + m - s - m) d (Nat.le_refl _) (by omega) (by omega) (by omega) (by omega)).1
      ·rw [if_neg c3]
     generalize (if s < m ∧ m < (a + b) / 2 + m - s then bD m (m - s) ((a + b) / 2 + m - s - m) d else d) = d1 at *
     have z2 : (if a < s ∧ s < (a + b) / 2 then symF lt f a s ((a + b) / 2) d1 else d1).size = d.size := by
      by_cases c3 : a < s ∧ s < (a + b) / 2
      ·rw [if_pos c3, ih a s _ d1 c3.1 c3.2 (by omega), z1]
      ·rw [if_neg c3, z1]
     generalize (if a < s ∧ s < (a + b) / 2 then symF lt f a s ((a + b) / 2) d1 else d1) = d2 at *
     by_cases c3 : (a + b) / 2 < (a + b) / 2 + m - s ∧ (a + b) / 2 + m - s < b
     ·rw [if_pos c3, ih _ _ b d2 c3.1 c3.2 (by omega), z2]
     ·rw [if_neg c3, z2]
end Sb
structure bS {α : Type} [Inhabited α] (P : Program) (g : Nat) (enc : α → List Value) (k : Nat) (cf : α → α → Int) (blk off size : Nat) (w : World) : Prop where
 eg : ∀ args w, Sem.run P (callFunc g args) w = .ok (.enter g args) w
 lays : CmpLays P g #[] enc k cf blk off size w
section
variable {α : Type} [Inhabited α] {enc : α → List Value} {w : World} {blk off cap : Nat} {d d0 : Array α} {cf : α → α → Int} {g : Nat}
theorem jI : Tryz.prog.follows .mixedOrders = true := by kernel_rfl
theorem eQ {k q : Nat} {os : Array Obj} (hE : bA enc k) (hC : bS Tryz.prog g enc k cf blk off d0.size w) (hH : HoldsK enc k w blk off d0) (hs : d.size = d0.size) (hblk : blk < w.heap.size) {x y : Nat} (hx : x < d.size) (hy : y < d.size) :
 (∀ n' os', grow ((sortWorldK enc k w blk off q d os).drewN n') os' = sortWorldK enc k w blk off (q + n') d (os ++ os')) ∧
 (∀ n' os', Sem.run Tryz.prog (loadCellsFrom ⟨blk, off + x * k, none⟩ 0 k #[]) (grow ((sortWorldK enc k w blk off q d os).drewN n') os') = .ok (enc d[x]!).toArray (grow ((sortWorldK enc k w blk off q d os).drewN n') os')) ∧
 (∀ n' os', Sem.run Tryz.prog (loadCellsFrom ⟨blk, off + y * k, none⟩ 0 k #[]) (grow ((sortWorldK enc k w blk off q d os).drewN n') os') = .ok (enc d[y]!).toArray (grow ((sortWorldK enc k w blk off q d os).drewN n') os')) ∧
 (∀ n' os', Calls Tryz.prog g #[.agg (enc d[x]!).toArray, .agg (enc d[y]!).toArray] (grow ((sortWorldK enc k w blk off q d os).drewN n') os') fun e w' => e = .returned (.int .i64 (cf d[x]! d[y]!)) ∧ ∃ q' os'', w' = grow ((grow ((sortWorldK enc k w blk off q d os).drewN n') os').drewN q') os'') := by
 have hcls : ∀ n' os', grow ((sortWorldK enc k w blk off q d os).drewN n') os' = sortWorldK enc k w blk off (q + n') d (os ++ os') := fun n' os' => sortWorldK_grown_c enc k w blk off q n' d os os'
 have hHc : ∀ n' os', HoldsK enc k (grow ((sortWorldK enc k w blk off q d os).drewN n') os') blk off d := fun n' os' => by rw [hcls]; exact holdsK_sortWorldK_c enc k w blk off d0 d _ _ hH hblk hs
 refine ⟨hcls, fun n' os' => bK (hHc n' os') hE hx, fun n' os' => bK (hHc n' os') hE hy, fun n' os' => ?_⟩
 rw [hcls]
 have := hC.lays (q + n') (os ++ os') d hs d[x]! d[y]!
 simpa using this
theorem gy {k q : Nat} {os : Array Obj} (hE : bA enc k) (hH : HoldsK enc k w blk off d0) (hs : d.size = d0.size) (hblk : blk < w.heap.size) {x y : Nat} (hx : x < d.size) (hy : y < d.size) :
 Sem.run Tryz.prog (loadCellsFrom ⟨blk, off + x * k, none⟩ 0 k #[]) (sortWorldK enc k w blk off q d os).drew = .ok (enc d[x]!).toArray (sortWorldK enc k w blk off q d os).drew ∧
 Sem.run Tryz.prog (loadCellsFrom ⟨blk, off + y * k, none⟩ 0 k #[]) (sortWorldK enc k w blk off q d os).drew = .ok (enc d[y]!).toArray (sortWorldK enc k w blk off q d os).drew ∧
 Sem.run Tryz.prog (storeCells ⟨blk, off + x * k, none⟩ (enc d[y]!) 0) (sortWorldK enc k w blk off q d os).drew = .ok () ((sortWorldK enc k w blk off q d os).drew.setCells blk (off + x * k) (enc d[y]!)) ∧
 Sem.run Tryz.prog (storeCells ⟨blk, off + y * k, none⟩ (enc d[x]!) 0) ((sortWorldK enc k w blk off q d os).drew.setCells blk (off + x * k) (enc d[y]!)) = .ok () (((sortWorldK enc k w blk off q d os).drew.setCells blk (off + x * k) (enc d[y]!)).setCells blk (off + y * k) (enc d[x]!)) ∧
 Hid (((sortWorldK enc k w blk off q d os).drew.setCells blk (off + x * k) (enc d[y]!)).setCells blk (off + y * k) (enc d[x]!) = sortWorldK enc k w blk off (q + 1) (swp d x y) os) := by
 have hW : HoldsK enc k (sortWorldK enc k w blk off q d os).drew blk off d := holdsK_sortWorldK_c enc k w blk off d0 d q os hH hblk hs
 obtain ⟨s1, s2⟩ := gq hW hE hx hy d[y]! d[x]!
 exact ⟨bK hW hE hx, bK hW hE hy, s1, s2, sortWorldK_swp_c enc k w blk off hE.len q d os hblk x y hx hy⟩
theorem qy (k : Nat) (zE : ∀ w, Sem.run Tryz.prog (Go.sizeOf 94) w = .ok k w) (a m b q : Nat) (os : Array Obj) (hE : bA enc k) (hC : bS Tryz.prog g enc k cf blk off d0.size w) (hH : HoldsK enc k w blk off d0) (hs : d.size = d0.size) (hblk : blk < w.heap.size) (h1 : m = a + 1) (hmb : m < b) (hb : b ≤ d.size) (hsz : d.size < 4611686018427387904) :
 Calls Tryz.prog 216 #[.slice (some ⟨blk, off, none⟩) d.size cap, .int .i64 a, .int .i64 m, .int .i64 b, .func (.func g) #[] #[]] (sortWorldK enc k w blk off q d os) fun e w' =>
  e = .returned (.tuple #[]) ∧ ∃ q' os', w' = sortWorldK enc k w blk off q' (Sb.eH (Sb.az (fun h => ltOf cf d[h]! d[a]!) m b - 1) a d) os' := by
 have eg := hC.eg
 have kG := jI
 replace hs := Lib.hid hs
 have wd : IntKind.i64.wrap ((m : Int) - (a : Int)) = 1 := by rw [IntKind.wrap_i64]; omega
 have qp : a < m := by omega
 replace h1 := Lib.hid h1
 obtain ⟨F, hF⟩ : ∃ F : Nat → Bool, F = fun h => ltOf cf d[h]! d[a]! := ⟨_, rfl⟩
 have hF2 : Hid (∀ h, F h = decide (cf d[h]! d[a]! < 0)) := fun h => by rw [hF]; rfl
 rw [← hF]
 replace hF := Lib.hid hF
 have CC : Aside _ := fun (x y q : Nat) (os : Array Obj) (hx : x < d.size) (hy : y < d.size) => eQ (q := q) (os := os) hE hC hH hs.out hblk hx hy
 have SC : Aside _ := fun (x y q : Nat) (os : Array Obj) (di : Array α) (hsi : di.size = d.size) (hx : x < di.size) (hy : y < di.size) => gy (d := di) (q := q) (os := os) hE hH (hsi.trans hs.out) hblk hx hy
 have hlen : Hid _ := hE.len
 clear hC hH hE
 go_enter Tryz.func216, Tryz.ntmps216
 go_wp2_with fail
 go_loopw [10, 11] (fun ii jj wr => ∃ (i j qi : Nat) (oi : Array Obj), ii = .int .i64 i ∧ jj = .int .i64 j ∧ m ≤ i ∧ i ≤ j ∧ j ≤ b ∧ wr = sortWorldK enc k w blk off qi d oi ∧ Hid (Sb.az F i j = Sb.az F m b)) (fun ii jj _ => (intOf jj).toNat - (intOf ii).toNat)
 case atStart => exact ⟨m, b, q, os, rfl, rfl, Nat.le_refl _, by omega, Nat.le_refl _, rfl, rfl⟩
 case round =>
  obtain ⟨i, j, qi, oi, rfl, rfl, mo, hij, hjb, rfl, HI⟩ := hrel
  by_cases hlt : i < j
  ·have b2 : (i : Int) < (j : Int) := by omega
   obtain ⟨hm, hhm⟩ : ∃ x : Nat, x = (i + j) / 2 := ⟨_, rfl⟩
   have eh : ((i : Int) + (j : Int)) / 2 = (hm : Int) := by omega
   have iL : hm < d.size := by omega
   have tT : (hm : Int) < (d.size : Int) := by omega
   have tX : (a : Int) < (d.size : Int) := by omega
   have wh : IntKind.i64.wrap ((hm : Int) + 1) = (hm : Int) + 1 := by rw [IntKind.wrap_i64]; omega
   obtain ⟨cls, lx, ly, cg⟩ := CC.out hm a qi oi iL (by omega)
   have HI2 : Hid ((F hm = true → Sb.az F (hm + 1) j = Sb.az F m b) ∧ (F hm = false → Sb.az F i hm = Sb.az F m b)) :=
    ⟨fun hf => by rw [← HI.out, Sb.df hlt (by rw [← hhm]; exact hf), hhm], fun hf => by rw [← HI.out, Sb.dY hlt (by rw [← hhm]; exact hf), hhm]⟩
   have o1 : i ≤ hm := by omega
   have o2 : hm < j := by omega
   replace hhm := Lib.hid hhm
   have CLS : Hid _ := cls
   clear cls HI
   generalize hwq : sortWorldK enc k w blk off qi d oi = wq at lx ly cg CLS ⊢
   replace hwq := Lib.hid hwq
   have dz : Hid (F hm = decide (cf d[hm]! d[a]! < 0)) := hF2.out hm
   generalize d[hm]! = X at *
   generalize d[a]! = Y at *
   by_cases hlv : cf X Y < 0
   ·have bT : F hm = true := by rw [dz.out]; exact decide_eq_true hlv
    have HI3 : Hid _ := HI2.out.1 bT
    clear HI2 dz bT
    go_wp2_with fail
    go_quiet_grown (first | (go_at_fn g; refine Calls.grown_of (cg _ _)))
    go_wp2_with fail
    go_roundw
    case rel => exact ⟨hm + 1, j, qi + nq, oi ++ osq, by go_num, rfl, by omega, by omega, hjb, CLS.out nq osq, HI3⟩
    case measure => simp [intOf]; omega
   ·have bT : F hm = false := by rw [dz.out]; exact decide_eq_false hlv
    have HI3 : Hid _ := HI2.out.2 bT
    clear HI2 dz bT
    go_wp2_with fail
    go_quiet_grown (first | (go_at_fn g; refine Calls.grown_of (cg _ _)))
    go_wp2_with fail
    go_roundw
    case rel => exact ⟨i, hm, qi + nq, oi ++ osq, rfl, by go_num, mo, o1, by omega, CLS.out nq osq, HI3⟩
    case measure => simp [intOf]; omega
  ·obtain rfl : i = j := by omega
   rw [Sb.bq hlt] at HI
   obtain ⟨e, he⟩ : ∃ e, e = i - 1 := ⟨_, rfl⟩
   have we : IntKind.i64.wrap ((i : Int) - 1) = (e : Int) := by rw [IntKind.wrap_i64]; omega
   have hae : a ≤ e := by omega
   have vY : e < b := by omega
   have HE : Hid (Sb.az F m b - 1 = e) := by show _ = _; rw [← HI.out, he]
   replace he := Lib.hid he
   clear HI
   have b2 : ¬ (i : Int) < (i : Int) := by omega
   generalize kL : sortWorldK enc k w blk off qi d oi = vk
   go_wp2_with fail
   go_loopw [13] (fun kk wr => ∃ (x qx : Nat) (dx : Array α) (ox : Array Obj), kk = .int .i64 x ∧ a ≤ x ∧ x ≤ e ∧ dx.size = d.size ∧ wr = sortWorldK enc k w blk off qx dx ox ∧ Hid (Sb.eH e x dx = Sb.eH e a d)) (fun kk _ => e - (intOf kk).toNat)
   case atStart => exact ⟨a, qi, d, oi, rfl, Nat.le_refl _, hae, rfl, kL.symm, rfl⟩
   case round =>
    obtain ⟨x, qx, dx, ox, rfl, hax, hxe, hsx, rfl, HX⟩ := hrel
    clear kL
    by_cases hlx : x < e
    ·have b3 : (x : Int) < (e : Int) := by omega
     obtain ⟨la, lb, s1, s2, hnx⟩ := SC.out x (x + 1) qx ox dx hsx (by omega) (by omega)
     have hsd : (swp dx x (x + 1)).size = d.size := by rw [swp_size]; exact hsx
     rw [Sb.nE hlx] at HX
     generalize sortWorldK enc k w blk off qx dx ox = wq at la lb s1 s2 hnx ⊢
     obtain ⟨cA, hcA⟩ : ∃ c, c = enc dx[x]! := ⟨_, rfl⟩
     obtain ⟨cB, hcB⟩ : ∃ c, c = enc dx[x + 1]! := ⟨_, rfl⟩
     have lA : cA.length = k := by rw [hcA]; exact hlen.out _
     have lB : cB.length = k := by rw [hcB]; exact hlen.out _
     rw [← hcA] at la s2 hnx
     rw [← hcB] at lb s1 s2 hnx
     replace hcA := Lib.hid hcA
     replace hcB := Lib.hid hcB
     have wx : IntKind.i64.wrap ((x : Int) + 1) = (x : Int) + 1 := by rw [IntKind.wrap_i64]; omega
     have j0 : (x : Int) < (d.size : Int) := by omega
     have j1 : (x : Int) + 1 < (d.size : Int) := by omega
     have j2 : (0 : Int) ≤ (x : Int) + 1 := by omega
     have j3 : ((x : Int) + 1).toNat = x + 1 := by omega
     go_wp2_with fail
     go_region
     rw [hnx.out]
     go_wp2_with fail
     go_roundw
     case rel => exact ⟨x + 1, qx + 1, swp dx x (x + 1), ox, by go_num, by omega, by omega, hsd, rfl, HX⟩
     case measure => simp [intOf]; omega
    ·have b3 : ¬ (x : Int) < (e : Int) := by omega
     rw [Sb.jd hlx] at HX
     go_wp2_with fail
     refine bodyPost_ret (results_none rfl _ _ _) rfl ?_
     exact ⟨rfl, qx, ox, by rw [HE.out, ← HX.out]⟩
theorem qz (k : Nat) (zE : ∀ w, Sem.run Tryz.prog (Go.sizeOf 94) w = .ok k w) (a m b q : Nat) (os : Array Obj) (hE : bA enc k) (hC : bS Tryz.prog g enc k cf blk off d0.size w) (hH : HoldsK enc k w blk off d0) (hs : d.size = d0.size) (hblk : blk < w.heap.size) (h1 : b = m + 1) (h0 : a + 1 < m) (hb : b ≤ d.size) (hsz : d.size < 4611686018427387904) :
 Calls Tryz.prog 216 #[.slice (some ⟨blk, off, none⟩) d.size cap, .int .i64 a, .int .i64 m, .int .i64 b, .func (.func g) #[] #[]] (sortWorldK enc k w blk off q d os) fun e w' =>
  e = .returned (.tuple #[]) ∧ ∃ q' os', w' = sortWorldK enc k w blk off q' (Sb.eO (Sb.az (fun h => !ltOf cf d[m]! d[h]!) a m) m d) os' := by
 have eg := hC.eg
 have kG := jI
 replace hs := Lib.hid hs
 have wd : IntKind.i64.wrap ((b : Int) - (m : Int)) = 1 := by rw [IntKind.wrap_i64]; omega
 have vo : IntKind.i64.wrap ((m : Int) - (a : Int)) = (m : Int) - (a : Int) := by rw [IntKind.wrap_i64]; omega
 have vv : ((m : Int) - (a : Int) == 1) = false := by simp; omega
 have qp : a < m := by omega
 have hmb : m < d.size := by omega
 replace h1 := Lib.hid h1
 obtain ⟨F, hF⟩ : ∃ F : Nat → Bool, F = fun h => !ltOf cf d[m]! d[h]! := ⟨_, rfl⟩
 have hF2 : Hid (∀ h, F h = !decide (cf d[m]! d[h]! < 0)) := fun h => by rw [hF]; rfl
 rw [← hF]
 replace hF := Lib.hid hF
 have CC : Aside _ := fun (x y q : Nat) (os : Array Obj) (hx : x < d.size) (hy : y < d.size) => eQ (q := q) (os := os) hE hC hH hs.out hblk hx hy
 have SC : Aside _ := fun (x y q : Nat) (os : Array Obj) (di : Array α) (hsi : di.size = d.size) (hx : x < di.size) (hy : y < di.size) => gy (d := di) (q := q) (os := os) hE hH (hsi.trans hs.out) hblk hx hy
 have hlen : Hid _ := hE.len
 clear hC hH hE
 go_enter Tryz.func216, Tryz.ntmps216
 go_wp2_with fail
 go_loopw [14, 15] (fun ii jj wr => ∃ (i j qi : Nat) (oi : Array Obj), ii = .int .i64 i ∧ jj = .int .i64 j ∧ a ≤ i ∧ i ≤ j ∧ j ≤ m ∧ wr = sortWorldK enc k w blk off qi d oi ∧ Hid (Sb.az F i j = Sb.az F a m)) (fun ii jj _ => (intOf jj).toNat - (intOf ii).toNat)
 case atStart => exact ⟨a, m, q, os, rfl, rfl, Nat.le_refl _, by omega, Nat.le_refl _, rfl, rfl⟩
 case round =>
  obtain ⟨i, j, qi, oi, rfl, rfl, mo, hij, hjb, rfl, HI⟩ := hrel
  by_cases hlt : i < j
  ·have b2 : (i : Int) < (j : Int) := by omega
   obtain ⟨hm, hhm⟩ : ∃ x : Nat, x = (i + j) / 2 := ⟨_, rfl⟩
   have eh : ((i : Int) + (j : Int)) / 2 = (hm : Int) := by omega
   have iL : hm < d.size := by omega
   have tT : (hm : Int) < (d.size : Int) := by omega
   have tX : (m : Int) < (d.size : Int) := by omega
   have wh : IntKind.i64.wrap ((hm : Int) + 1) = (hm : Int) + 1 := by rw [IntKind.wrap_i64]; omega
   obtain ⟨cls, lx, ly, cg⟩ := CC.out m hm qi oi (by omega) iL
   have HI2 : Hid ((F hm = true → Sb.az F (hm + 1) j = Sb.az F a m) ∧ (F hm = false → Sb.az F i hm = Sb.az F a m)) :=
    ⟨fun hf => by rw [← HI.out, Sb.df hlt (by rw [← hhm]; exact hf), hhm], fun hf => by rw [← HI.out, Sb.dY hlt (by rw [← hhm]; exact hf), hhm]⟩
   have o1 : i ≤ hm := by omega
   have o2 : hm < j := by omega
   replace hhm := Lib.hid hhm
   have CLS : Hid _ := cls
   clear cls HI
   generalize hwq : sortWorldK enc k w blk off qi d oi = wq at lx ly cg CLS ⊢
   replace hwq := Lib.hid hwq
   have dz : Hid (F hm = !decide (cf d[m]! d[hm]! < 0)) := hF2.out hm
   generalize d[m]! = X at *
   generalize d[hm]! = Y at *
   by_cases hlv : cf X Y < 0
   ·have bT : F hm = false := by rw [dz.out, decide_eq_true hlv]; rfl
    have nb : (!decide (cf X Y < 0)) = false := by rw [decide_eq_true hlv]; rfl
    have HI3 : Hid _ := HI2.out.2 bT
    clear HI2 dz bT
    go_wp2_with fail
    go_quiet_grown (first | (go_at_fn g; refine Calls.grown_of (cg _ _)))
    go_wp2_with fail
    go_roundw
    case rel => exact ⟨i, hm, qi + nq, oi ++ osq, rfl, by go_num, mo, o1, by omega, CLS.out nq osq, HI3⟩
    case measure => simp [intOf]; omega
   ·have bT : F hm = true := by rw [dz.out, decide_eq_false hlv]; rfl
    have nb : (!decide (cf X Y < 0)) = true := by rw [decide_eq_false hlv]; rfl
    have HI3 : Hid _ := HI2.out.1 bT
    clear HI2 dz bT
    go_wp2_with fail
    go_quiet_grown (first | (go_at_fn g; refine Calls.grown_of (cg _ _)))
    go_wp2_with fail
    go_roundw
    case rel => exact ⟨hm + 1, j, qi + nq, oi ++ osq, by go_num, rfl, by omega, by omega, hjb, CLS.out nq osq, HI3⟩
    case measure => simp [intOf]; omega
  ·obtain rfl : i = j := by omega
   rw [Sb.bq hlt] at HI
   replace HI : Hid (Sb.az F a m = i) := by show _ = _; rw [← HI.out]
   have b2 : ¬ (i : Int) < (i : Int) := by omega
   generalize kL : sortWorldK enc k w blk off qi d oi = vk
   go_wp2_with fail
   go_loopw [17] (fun kk wr => ∃ (x qx : Nat) (dx : Array α) (ox : Array Obj), kk = .int .i64 x ∧ i ≤ x ∧ x ≤ m ∧ dx.size = d.size ∧ wr = sortWorldK enc k w blk off qx dx ox ∧ Hid (Sb.eO i x dx = Sb.eO i m d)) (fun kk _ => (intOf kk).toNat)
   case atStart => exact ⟨m, qi, d, oi, rfl, hjb, Nat.le_refl _, rfl, kL.symm, rfl⟩
   case round =>
    obtain ⟨x, qx, dx, ox, rfl, hax, hxe, hsx, rfl, HX⟩ := hrel
    clear kL
    by_cases hlx : i < x
    ·obtain ⟨y, rfl⟩ : ∃ y, x = y + 1 := ⟨x - 1, by omega⟩
     have b3 : (i : Int) < (y : Int) + 1 := by omega
     obtain ⟨la, lb, s1, s2, hnx⟩ := SC.out (y + 1) y qx ox dx hsx (by omega) (by omega)
     have hsd : (swp dx (y + 1) y).size = d.size := by rw [swp_size]; exact hsx
     rw [Sb.nG hlx, Nat.add_sub_cancel] at HX
     generalize sortWorldK enc k w blk off qx dx ox = wq at la lb s1 s2 hnx ⊢
     obtain ⟨cA, hcA⟩ : ∃ c, c = enc dx[y + 1]! := ⟨_, rfl⟩
     obtain ⟨cB, hcB⟩ : ∃ c, c = enc dx[y]! := ⟨_, rfl⟩
     have lA : cA.length = k := by rw [hcA]; exact hlen.out _
     have lB : cB.length = k := by rw [hcB]; exact hlen.out _
     rw [← hcA] at la s2 hnx
     rw [← hcB] at lb s1 s2 hnx
     replace hcA := Lib.hid hcA
     replace hcB := Lib.hid hcB
     have wx : IntKind.i64.wrap (y : Int) = (y : Int) := by rw [IntKind.wrap_i64]; omega
     have j0 : (y : Int) < (d.size : Int) := by omega
     have j1 : (y : Int) + 1 < (d.size : Int) := by omega
     have j2 : (0 : Int) ≤ (y : Int) + 1 := by omega
     have j3 : ((y : Int) + 1).toNat = y + 1 := by omega
     go_wp2_with fail
     go_region
     rw [hnx.out]
     go_wp2_with fail
     go_roundw
     case rel => exact ⟨y, qx + 1, swp dx (y + 1) y, ox, by go_num, by omega, by omega, hsd, rfl, HX⟩
     case measure => simp [intOf]
    ·have b3 : ¬ (i : Int) < (x : Int) := by omega
     rw [Sb.je hlx] at HX
     go_wp2_with fail
     refine bodyPost_ret (results_none rfl _ _ _) rfl ?_
     exact ⟨rfl, qx, ox, by rw [HI.out, ← HX.out]⟩
end
end Go.Proofs.YtfmpgdafnlehaaaGreat

namespace Go.Proofs.YtfmpgdafnlehaaaGreat
open Go.RowKit Go.Sort Go.Lib Go.Shelf
section
variable {α : Type} [Inhabited α] {enc : α → List Value} {w : World} {blk off cap : Nat} {d d0 : Array α} {cf : α → α → Int} {g : Nat}
def dn (enc : α → List Value) (k : Nat) (w : World) (blk off : Nat) (r : Array α) (e : Ending) (w' : World) : Prop := e = .returned (.tuple #[]) ∧ ∃ q' os', w' = sortWorldK enc k w blk off q' r os'
def sN (lt : α → α → Bool) (f a m b mid s : Nat) (d : Array α) : Array α :=
 if mid < mid + m - s ∧ mid + m - s < b then Sb.symF lt f mid (mid + m - s) b (if a < s ∧ s < mid then Sb.symF lt f a s mid (if s < m ∧ m < mid + m - s then Sb.bD m (m - s) (mid + m - s - m) d else d) else (if s < m ∧ m < mid + m - s then Sb.bD m (m - s) (mid + m - s - m) d else d))
 else (if a < s ∧ s < mid then Sb.symF lt f a s mid (if s < m ∧ m < mid + m - s then Sb.bD m (m - s) (mid + m - s - m) d else d) else (if s < m ∧ m < mid + m - s then Sb.bD m (m - s) (mid + m - s - m) d else d))
theorem mq {lt : α → α → Bool} {f a m b : Nat} {d : Array α} (c1 : ¬ m - a = 1) (c2 : ¬ b - m = 1) : Sb.symF lt (f + 1) a m b d = sN lt f a m b ((a + b) / 2) (Sb.dM lt a m b d) d := by
 rw [Sb.symF, if_neg c1, if_neg c2]; rfl
theorem qA (k : Nat) (zE : ∀ w, Sem.run Tryz.prog (Go.sizeOf 94) w = .ok k w) (f a m b q : Nat) (os : Array Obj) (hE : bA enc k) (hC : bS Tryz.prog g enc k cf blk off d0.size w) (hH : HoldsK enc k w blk off d0) (hs : d.size = d0.size) (hblk : blk < w.heap.size)
 (h1 : a + 1 < m) (h2 : m + 1 < b) (hb : b ≤ d.size) (hsz : d.size < 4611686018427387904)
 (ih : ∀ (a m b q : Nat) (os : Array Obj) (di : Array α), b - a ≤ f → a < m → m < b → b ≤ d.size → di.size = d.size →
  Calls Tryz.prog 216 #[.slice (some ⟨blk, off, none⟩) d.size cap, .int .i64 a, .int .i64 m, .int .i64 b, .func (.func g) #[] #[]] (sortWorldK enc k w blk off q di os) (dn enc k w blk off (Sb.symF (ltOf cf) f a m b di)))
 (hf : b - a ≤ f + 1) :
 Calls Tryz.prog 216 #[.slice (some ⟨blk, off, none⟩) d.size cap, .int .i64 a, .int .i64 m, .int .i64 b, .func (.func g) #[] #[]] (sortWorldK enc k w blk off q d os) (dn enc k w blk off (Sb.symF (ltOf cf) (f + 1) a m b d)) := by
 have eg := hC.eg
 have kG := jI
 replace hs := Lib.hid hs
 rw [mq (by omega) (by omega)]
 have hcb := Sb.gu (lt := ltOf cf) (d := d) (show a < m by omega) (show m < b by omega)
 obtain ⟨s, tY⟩ : ∃ s, s = Sb.dM (ltOf cf) a m b d := ⟨_, rfl⟩
 rw [← tY] at hcb ⊢
 have hcut : Hid (s = if (a + b) / 2 < m then Sb.az (fun c => !ltOf cf d[(a + b) / 2 + m - 1 - c]! d[c]!) ((a + b) / 2 + m - b) ((a + b) / 2) else Sb.az (fun c => !ltOf cf d[(a + b) / 2 + m - 1 - c]! d[c]!) a m) := by
  show _ = _
  rw [tY]; rfl
 clear tY
 obtain ⟨mid, hmid⟩ : ∃ mid, mid = (a + b) / 2 := ⟨_, rfl⟩
 rw [← hmid] at hcb hcut ⊢
 have vM : ((a : Int) + (b : Int)) / 2 = (mid : Int) := by omega
 have vZ : a < mid := by omega
 have wo : mid < b := by omega
 have vN : 2 * mid ≤ a + b := by omega
 have vO : a + b ≤ 2 * mid + 1 := by omega
 replace hmid := Lib.hid hmid
 obtain ⟨p, hp⟩ : ∃ p, p = mid + m - 1 := ⟨_, rfl⟩
 rw [← hp] at hcut
 obtain ⟨F, hF⟩ : ∃ F : Nat → Bool, F = fun c => !ltOf cf d[p - c]! d[c]! := ⟨_, rfl⟩
 have hF2 : Hid (∀ h, F h = !decide (cf d[p - h]! d[h]! < 0)) := fun h => by rw [hF]; rfl
 rw [← hF] at hcut
 replace hF := Lib.hid hF
 obtain ⟨e, he⟩ : ∃ e, e = mid + m - s := ⟨_, rfl⟩
 have wn : IntKind.i64.wrap ((mid : Int) + (m : Int)) = (mid : Int) + (m : Int) := by rw [IntKind.wrap_i64]; omega
 have wp : IntKind.i64.wrap ((mid : Int) + (m : Int) - 1) = (p : Int) := by rw [IntKind.wrap_i64]; omega
 have we : IntKind.i64.wrap ((mid : Int) + (m : Int) - (s : Int)) = (e : Int) := by rw [IntKind.wrap_i64]; omega
 have vo : IntKind.i64.wrap ((m : Int) - (a : Int)) = (m : Int) - (a : Int) := by rw [IntKind.wrap_i64]; omega
 have vv : ((m : Int) - (a : Int) == 1) = false := by simp; omega
 have wd2 : IntKind.i64.wrap ((b : Int) - (m : Int)) = (b : Int) - (m : Int) := by rw [IntKind.wrap_i64]; omega
 have wd3 : ((b : Int) - (m : Int) == 1) = false := by simp; omega
 have hpm : m ≤ p := by omega
 have rX : Hid (p = mid + m - 1) := hp
 have hsz1 : ∀ x, x < d.size → (x : Int) < (d.size : Int) := fun x h => by omega
 obtain ⟨d1, hd1⟩ : ∃ d1, d1 = if s < m ∧ m < e then Sb.bD m (m - s) (e - m) d else d := ⟨_, rfl⟩
 obtain ⟨d2, hd2⟩ : ∃ d2, d2 = if a < s ∧ s < mid then Sb.symF (ltOf cf) f a s mid d1 else d1 := ⟨_, rfl⟩
 have z1 : d1.size = d.size := by
  rw [hd1]
  by_cases c3 : s < m ∧ m < e
  ·rw [if_pos c3]; exact (Sb.fG _ m (m - s) (e - m) d (Nat.le_refl _) (by omega) (by omega) (by omega) (by omega)).1
  ·rw [if_neg c3]
 have z2 : d2.size = d.size := by
  rw [hd2]
  by_cases c3 : a < s ∧ s < mid
  ·rw [if_pos c3, Sb.eP f a s mid d1 c3.1 c3.2 (by omega), z1]
  ·rw [if_neg c3, z1]
 obtain ⟨r, hr⟩ : ∃ r, r = sN (ltOf cf) f a m b mid s d := ⟨_, rfl⟩
 rw [← hr]
 have hr2 : Hid (r = if mid < e ∧ e < b then Sb.symF (ltOf cf) f mid e b d2 else d2) := by
  show _ = _
  rw [hr, hd2, hd1, he]; rfl
 clear hr
 have CC : Aside _ := fun (x y q : Nat) (os : Array Obj) (hx : x < d.size) (hy : y < d.size) => eQ (q := q) (os := os) hE hC hH hs.out hblk hx hy
 have RC : Aside _ := fun (s m e q : Nat) (os : Array Obj) (h1 : s < m) (h2 : m < e) (h3 : e ≤ d.size) => mh (cap := cap) k zE (.func (.func g) #[] #[]) s m e q os hE hH hs.out hblk h1 h2 h3 hsz
 have IH : Aside _ := ih
 clear hC hH hE ih hp
 obtain ⟨wu, wy, wB, wC⟩ := hcb
 have wD : m ≤ e := by omega
 have wE : e ≤ b := by omega
 have wF : mid ≤ e := by omega
 replace he := Lib.hid he
 replace hd1 := Lib.hid hd1
 replace hd2 := Lib.hid hd2
 by_cases hmm : mid < m
 ·replace hcut : Hid (s = Sb.az F (mid + m - b) mid) := by show _ = _; rw [hcut.out, if_pos hmm]
  have bm : (mid : Int) < (m : Int) := by omega
  obtain ⟨lo, hlo⟩ : ∃ lo, lo = mid + m - b := ⟨_, rfl⟩
  have wG : IntKind.i64.wrap ((mid : Int) + (m : Int) - (b : Int)) = (lo : Int) := by rw [IntKind.wrap_i64]; omega
  rw [← hlo] at hcut
  have l1 : a ≤ lo := by omega
  have l2 : lo ≤ mid := by omega
  have l3 : p < lo + b := by have := rX.out; omega
  have l4 : m + mid ≤ p + 1 := by have := rX.out; omega
  replace hlo := Lib.hid hlo
  go_enter Tryz.func216, Tryz.ntmps216
  go_wp2_with fail
  go_loopw [20, 21] (fun ii jj wr => ∃ (i j qi : Nat) (oi : Array Obj), ii = .int .i64 i ∧ jj = .int .i64 j ∧ lo ≤ i ∧ i ≤ j ∧ j ≤ mid ∧ wr = sortWorldK enc k w blk off qi d oi ∧ Hid (Sb.az F i j = s)) (fun ii jj _ => (intOf jj).toNat - (intOf ii).toNat)
  case atStart => exact ⟨lo, mid, q, os, rfl, rfl, Nat.le_refl _, l2, Nat.le_refl _, rfl, hcut.out.symm⟩
  case round =>
   obtain ⟨i, j, qi, oi, rfl, rfl, mo, hij, hjb, rfl, HI⟩ := hrel
   by_cases hlt : i < j
   ·have b2 : (i : Int) < (j : Int) := by omega
    obtain ⟨hm, hhm⟩ : ∃ x : Nat, x = (i + j) / 2 := ⟨_, rfl⟩
    have eh : ((i : Int) + (j : Int)) / 2 = (hm : Int) := by omega
    have iL : hm < d.size := by omega
    have tT : (hm : Int) < (d.size : Int) := by omega
    have wh : IntKind.i64.wrap ((hm : Int) + 1) = (hm : Int) + 1 := by rw [IntKind.wrap_i64]; omega
    obtain ⟨ph, mr⟩ : ∃ x : Nat, x = p - hm := ⟨_, rfl⟩
    have vw : IntKind.i64.wrap ((p : Int) - (hm : Int)) = (ph : Int) := by rw [IntKind.wrap_i64]; omega
    have tX : (ph : Int) < (d.size : Int) := by omega
    obtain ⟨cls, lx, ly, cg⟩ := CC.out ph hm qi oi (by omega) iL
    have HI2 : Hid ((F hm = true → Sb.az F (hm + 1) j = s) ∧ (F hm = false → Sb.az F i hm = s)) :=
     ⟨fun hf => by rw [← HI.out, Sb.df hlt (by rw [← hhm]; exact hf), hhm], fun hf => by rw [← HI.out, Sb.dY hlt (by rw [← hhm]; exact hf), hhm]⟩
    have o1 : i ≤ hm := by omega
    have o2 : hm < j := by omega
    have dz : Hid (F hm = !decide (cf d[ph]! d[hm]! < 0)) := by show _ = _; rw [mr]; exact hF2.out hm
    replace hhm := Lib.hid hhm
    replace mr := Lib.hid mr
    have CLS : Hid _ := cls
    clear cls HI
    generalize hwq : sortWorldK enc k w blk off qi d oi = wq at lx ly cg CLS ⊢
    replace hwq := Lib.hid hwq
    generalize d[ph]! = X at *
    generalize d[hm]! = Y at *
    by_cases hlv : cf X Y < 0
    ·have bT : F hm = false := by rw [dz.out, decide_eq_true hlv]; rfl
     have nb : (!decide (cf X Y < 0)) = false := by rw [decide_eq_true hlv]; rfl
     have HI3 : Hid _ := HI2.out.2 bT
     clear HI2 dz bT
     go_wp2_with fail
     go_quiet_grown (first | (go_at_fn g; refine Calls.grown_of (cg _ _)))
     go_wp2_with fail
     go_roundw
     case rel => exact ⟨i, hm, qi + nq, oi ++ osq, rfl, by go_num, mo, o1, by omega, CLS.out nq osq, HI3⟩
     case measure => simp [intOf]; omega
    ·have bT : F hm = true := by rw [dz.out, decide_eq_false hlv]; rfl
     have nb : (!decide (cf X Y < 0)) = true := by rw [decide_eq_false hlv]; rfl
     have HI3 : Hid _ := HI2.out.1 bT
     clear HI2 dz bT
     go_wp2_with fail
     go_quiet_grown (first | (go_at_fn g; refine Calls.grown_of (cg _ _)))
     go_wp2_with fail
     go_roundw
     case rel => exact ⟨hm + 1, j, qi + nq, oi ++ osq, by go_num, rfl, by omega, by omega, hjb, CLS.out nq osq, HI3⟩
     case measure => simp [intOf]; omega
   ·obtain rfl : i = j := by omega
    rw [Sb.bq hlt] at HI
    obtain rfl : i = s := HI.out
    clear HI hcut hF2
    have b2 : ¬ (i : Int) < (i : Int) := by omega
    by_cases c3 : i < m ∧ m < e
    ·have qB : (i : Int) < (m : Int) := by omega
     have tZ : (m : Int) < (e : Int) := by omega
     have qC : decide ((i : Int) < (m : Int)) = true := decide_eq_true qB
     have uf : decide ((m : Int) < (e : Int)) = true := decide_eq_true tZ
     have hc1 := RC.out i m e qi oi c3.1 c3.2 (by omega)
     replace hd1 : Hid (d1 = Sb.bD m (m - i) (e - m) d) := by show _ = _; rw [hd1.out, if_pos c3]
     rw [← hd1.out] at hc1
     generalize sortWorldK enc k w blk off qi d oi = wq at hc1 ⊢
     go_wp2_with fail
     go_at_call 238
     refine hc1.mono ?_
     clear hc1
     rintro e7 w7 ⟨rfl, q7, rfl⟩
     by_cases c4 : a < i ∧ i < mid
     ·have dP : (a : Int) < (i : Int) := by omega
      have ik : (i : Int) < (mid : Int) := by omega
      have dQ : decide ((a : Int) < (i : Int)) = true := decide_eq_true dP
      have il : decide ((i : Int) < (mid : Int)) = true := decide_eq_true ik
      have hc2 := IH.out a i mid q7 oi d1 (by omega) c4.1 c4.2 (by omega) z1
      replace hd2 : Hid (d2 = Sb.symF (ltOf cf) f a i mid d1) := by show _ = _; rw [hd2.out, if_pos c4]
      rw [← hd2.out] at hc2
      generalize sortWorldK enc k w blk off q7 d1 oi = wq at hc2 ⊢
      go_wp2_with fail
      go_at_call 216
      refine hc2.mono ?_
      clear hc2
      rintro e8 w8 ⟨rfl, q8, o8, rfl⟩
      by_cases c5 : mid < e ∧ e < b
      ·have aB : (mid : Int) < (e : Int) := by omega
       have aV : (e : Int) < (b : Int) := by omega
       have aC : decide ((mid : Int) < (e : Int)) = true := decide_eq_true aB
       have aW : decide ((e : Int) < (b : Int)) = true := decide_eq_true aV
       have hc3 := IH.out mid e b q8 o8 d2 (by omega) (by omega) (by omega) hb z2
       replace hr2 : Hid (r = Sb.symF (ltOf cf) f mid e b d2) := by show _ = _; rw [hr2.out, if_pos c5]
       generalize sortWorldK enc k w blk off q8 d2 o8 = wq at hc3 ⊢
       go_wp2_with (go_at_call 216; go_must (refine hc3.mono ?_); rintro e9 w9 ⟨rfl, q9, o9, rfl⟩)
       all_goals (go_end0; exact ⟨rfl, q9, o9, by rw [hr2.out]⟩)
      ·replace hr2 : Hid (r = d2) := by show _ = _; rw [hr2.out, if_neg c5]
       generalize hwq : sortWorldK enc k w blk off q8 d2 o8 = wq
       by_cases aB : mid < e
       ·have aC : decide ((mid : Int) < (e : Int)) = true := decide_eq_true (by omega)
        have av : ¬ (e : Int) < (b : Int) := by omega
        have aW : decide ((e : Int) < (b : Int)) = false := decide_eq_false av
        go_wp2_with fail
        all_goals (go_end0; exact ⟨rfl, _, _, by rw [hr2.out, hwq]⟩)
       ·have av : ¬ (mid : Int) < (e : Int) := by omega
        have aC : decide ((mid : Int) < (e : Int)) = false := decide_eq_false av
        go_wp2_with fail
        all_goals (go_end0; exact ⟨rfl, _, _, by rw [hr2.out, hwq]⟩)
     ·have dR : d2 = d1 := by rw [hd2.out, if_neg c4]
      subst dR
      by_cases dP : a < i
      ·have dQ : decide ((a : Int) < (i : Int)) = true := decide_eq_true (by omega)
       have bU : ¬ (i : Int) < (mid : Int) := by omega
       have il : decide ((i : Int) < (mid : Int)) = false := decide_eq_false bU
       by_cases c5 : mid < e ∧ e < b
       ·have aB : (mid : Int) < (e : Int) := by omega
        have aV : (e : Int) < (b : Int) := by omega
        have aC : decide ((mid : Int) < (e : Int)) = true := decide_eq_true aB
        have aW : decide ((e : Int) < (b : Int)) = true := decide_eq_true aV
        have hc3 := IH.out mid e b q7 oi d2 (by omega) (by omega) (by omega) hb z2
        replace hr2 : Hid (r = Sb.symF (ltOf cf) f mid e b d2) := by show _ = _; rw [hr2.out, if_pos c5]
        generalize sortWorldK enc k w blk off q7 d2 oi = wq at hc3 ⊢
        go_wp2_with (go_at_call 216; go_must (refine hc3.mono ?_); rintro e9 w9 ⟨rfl, q9, o9, rfl⟩)
        all_goals (go_end0; exact ⟨rfl, q9, o9, by rw [hr2.out]⟩)
       ·replace hr2 : Hid (r = d2) := by show _ = _; rw [hr2.out, if_neg c5]
        generalize hwq : sortWorldK enc k w blk off q7 d2 oi = wq
        by_cases aB : mid < e
        ·have aC : decide ((mid : Int) < (e : Int)) = true := decide_eq_true (by omega)
         have av : ¬ (e : Int) < (b : Int) := by omega
         have aW : decide ((e : Int) < (b : Int)) = false := decide_eq_false av
         go_wp2_with fail
         all_goals (go_end0; exact ⟨rfl, _, _, by rw [hr2.out, hwq]⟩)
        ·have av : ¬ (mid : Int) < (e : Int) := by omega
         have aC : decide ((mid : Int) < (e : Int)) = false := decide_eq_false av
         go_wp2_with fail
         all_goals (go_end0; exact ⟨rfl, _, _, by rw [hr2.out, hwq]⟩)
      ·have bU : ¬ (a : Int) < (i : Int) := by omega
       have dQ : decide ((a : Int) < (i : Int)) = false := decide_eq_false bU
       by_cases c5 : mid < e ∧ e < b
       ·have aB : (mid : Int) < (e : Int) := by omega
        have aV : (e : Int) < (b : Int) := by omega
        have aC : decide ((mid : Int) < (e : Int)) = true := decide_eq_true aB
        have aW : decide ((e : Int) < (b : Int)) = true := decide_eq_true aV
        have hc3 := IH.out mid e b q7 oi d2 (by omega) (by omega) (by omega) hb z2
        replace hr2 : Hid (r = Sb.symF (ltOf cf) f mid e b d2) := by show _ = _; rw [hr2.out, if_pos c5]
        generalize sortWorldK enc k w blk off q7 d2 oi = wq at hc3 ⊢
        go_wp2_with (go_at_call 216; go_must (refine hc3.mono ?_); rintro e9 w9 ⟨rfl, q9, o9, rfl⟩)
        all_goals (go_end0; exact ⟨rfl, q9, o9, by rw [hr2.out]⟩)
       ·replace hr2 : Hid (r = d2) := by show _ = _; rw [hr2.out, if_neg c5]
        generalize hwq : sortWorldK enc k w blk off q7 d2 oi = wq
        by_cases aB : mid < e
        ·have aC : decide ((mid : Int) < (e : Int)) = true := decide_eq_true (by omega)
         have av : ¬ (e : Int) < (b : Int) := by omega
         have aW : decide ((e : Int) < (b : Int)) = false := decide_eq_false av
         go_wp2_with fail
         all_goals (go_end0; exact ⟨rfl, _, _, by rw [hr2.out, hwq]⟩)
        ·have av : ¬ (mid : Int) < (e : Int) := by omega
         have aC : decide ((mid : Int) < (e : Int)) = false := decide_eq_false av
         go_wp2_with fail
         all_goals (go_end0; exact ⟨rfl, _, _, by rw [hr2.out, hwq]⟩)
    ·have qD : d1 = d := by rw [hd1.out, if_neg c3]
     subst qD
     by_cases qB : i < m
     ·have qC : decide ((i : Int) < (m : Int)) = true := decide_eq_true (by omega)
      have mD : ¬ (m : Int) < (e : Int) := by omega
      have uf : decide ((m : Int) < (e : Int)) = false := decide_eq_false mD
      by_cases c4 : a < i ∧ i < mid
      ·have dP : (a : Int) < (i : Int) := by omega
       have ik : (i : Int) < (mid : Int) := by omega
       have dQ : decide ((a : Int) < (i : Int)) = true := decide_eq_true dP
       have il : decide ((i : Int) < (mid : Int)) = true := decide_eq_true ik
       have hc2 := IH.out a i mid qi oi d1 (by omega) c4.1 c4.2 (by omega) z1
       replace hd2 : Hid (d2 = Sb.symF (ltOf cf) f a i mid d1) := by show _ = _; rw [hd2.out, if_pos c4]
       rw [← hd2.out] at hc2
       generalize sortWorldK enc k w blk off qi d1 oi = wq at hc2 ⊢
       go_wp2_with fail
       go_at_call 216
       refine hc2.mono ?_
       clear hc2
       rintro e8 w8 ⟨rfl, q8, o8, rfl⟩
       by_cases c5 : mid < e ∧ e < b
       ·have aB : (mid : Int) < (e : Int) := by omega
        have aV : (e : Int) < (b : Int) := by omega
        have aC : decide ((mid : Int) < (e : Int)) = true := decide_eq_true aB
        have aW : decide ((e : Int) < (b : Int)) = true := decide_eq_true aV
        have hc3 := IH.out mid e b q8 o8 d2 (by omega) (by omega) (by omega) hb z2
        replace hr2 : Hid (r = Sb.symF (ltOf cf) f mid e b d2) := by show _ = _; rw [hr2.out, if_pos c5]
        generalize sortWorldK enc k w blk off q8 d2 o8 = wq at hc3 ⊢
        go_wp2_with (go_at_call 216; go_must (refine hc3.mono ?_); rintro e9 w9 ⟨rfl, q9, o9, rfl⟩)
        all_goals (go_end0; exact ⟨rfl, q9, o9, by rw [hr2.out]⟩)
       ·replace hr2 : Hid (r = d2) := by show _ = _; rw [hr2.out, if_neg c5]
        generalize hwq : sortWorldK enc k w blk off q8 d2 o8 = wq
        by_cases aB : mid < e
        ·have aC : decide ((mid : Int) < (e : Int)) = true := decide_eq_true (by omega)
         have av : ¬ (e : Int) < (b : Int) := by omega
         have aW : decide ((e : Int) < (b : Int)) = false := decide_eq_false av
         go_wp2_with fail
         all_goals (go_end0; exact ⟨rfl, _, _, by rw [hr2.out, hwq]⟩)
        ·have av : ¬ (mid : Int) < (e : Int) := by omega
         have aC : decide ((mid : Int) < (e : Int)) = false := decide_eq_false av
         go_wp2_with fail
         all_goals (go_end0; exact ⟨rfl, _, _, by rw [hr2.out, hwq]⟩)
      ·have dR : d2 = d1 := by rw [hd2.out, if_neg c4]
       subst dR
       by_cases dP : a < i
       ·have dQ : decide ((a : Int) < (i : Int)) = true := decide_eq_true (by omega)
        have bU : ¬ (i : Int) < (mid : Int) := by omega
        have il : decide ((i : Int) < (mid : Int)) = false := decide_eq_false bU
        by_cases c5 : mid < e ∧ e < b
        ·have aB : (mid : Int) < (e : Int) := by omega
         have aV : (e : Int) < (b : Int) := by omega
         have aC : decide ((mid : Int) < (e : Int)) = true := decide_eq_true aB
         have aW : decide ((e : Int) < (b : Int)) = true := decide_eq_true aV
         have hc3 := IH.out mid e b qi oi d2 (by omega) (by omega) (by omega) hb z2
         replace hr2 : Hid (r = Sb.symF (ltOf cf) f mid e b d2) := by show _ = _; rw [hr2.out, if_pos c5]
         generalize sortWorldK enc k w blk off qi d2 oi = wq at hc3 ⊢
         go_wp2_with (go_at_call 216; go_must (refine hc3.mono ?_); rintro e9 w9 ⟨rfl, q9, o9, rfl⟩)
         all_goals (go_end0; exact ⟨rfl, q9, o9, by rw [hr2.out]⟩)
        ·replace hr2 : Hid (r = d2) := by show _ = _; rw [hr2.out, if_neg c5]
         generalize hwq : sortWorldK enc k w blk off qi d2 oi = wq
         by_cases aB : mid < e
         ·have aC : decide ((mid : Int) < (e : Int)) = true := decide_eq_true (by omega)
          have av : ¬ (e : Int) < (b : Int) := by omega
          have aW : decide ((e : Int) < (b : Int)) = false := decide_eq_false av
          go_wp2_with fail
          all_goals (go_end0; exact ⟨rfl, _, _, by rw [hr2.out, hwq]⟩)
         ·have av : ¬ (mid : Int) < (e : Int) := by omega
          have aC : decide ((mid : Int) < (e : Int)) = false := decide_eq_false av
          go_wp2_with fail
          all_goals (go_end0; exact ⟨rfl, _, _, by rw [hr2.out, hwq]⟩)
       ·have bU : ¬ (a : Int) < (i : Int) := by omega
        have dQ : decide ((a : Int) < (i : Int)) = false := decide_eq_false bU
        by_cases c5 : mid < e ∧ e < b
        ·have aB : (mid : Int) < (e : Int) := by omega
         have aV : (e : Int) < (b : Int) := by omega
         have aC : decide ((mid : Int) < (e : Int)) = true := decide_eq_true aB
         have aW : decide ((e : Int) < (b : Int)) = true := decide_eq_true aV
         have hc3 := IH.out mid e b qi oi d2 (by omega) (by omega) (by omega) hb z2
         replace hr2 : Hid (r = Sb.symF (ltOf cf) f mid e b d2) := by show _ = _; rw [hr2.out, if_pos c5]
         generalize sortWorldK enc k w blk off qi d2 oi = wq at hc3 ⊢
         go_wp2_with (go_at_call 216; go_must (refine hc3.mono ?_); rintro e9 w9 ⟨rfl, q9, o9, rfl⟩)
         all_goals (go_end0; exact ⟨rfl, q9, o9, by rw [hr2.out]⟩)
        ·replace hr2 : Hid (r = d2) := by show _ = _; rw [hr2.out, if_neg c5]
         generalize hwq : sortWorldK enc k w blk off qi d2 oi = wq
         by_cases aB : mid < e
         ·have aC : decide ((mid : Int) < (e : Int)) = true := decide_eq_true (by omega)
          have av : ¬ (e : Int) < (b : Int) := by omega
          have aW : decide ((e : Int) < (b : Int)) = false := decide_eq_false av
          go_wp2_with fail
          all_goals (go_end0; exact ⟨rfl, _, _, by rw [hr2.out, hwq]⟩)
         ·have av : ¬ (mid : Int) < (e : Int) := by omega
          have aC : decide ((mid : Int) < (e : Int)) = false := decide_eq_false av
          go_wp2_with fail
          all_goals (go_end0; exact ⟨rfl, _, _, by rw [hr2.out, hwq]⟩)
     ·have mD : ¬ (i : Int) < (m : Int) := by omega
      have qC : decide ((i : Int) < (m : Int)) = false := decide_eq_false mD
      by_cases c4 : a < i ∧ i < mid
      ·have dP : (a : Int) < (i : Int) := by omega
       have ik : (i : Int) < (mid : Int) := by omega
       have dQ : decide ((a : Int) < (i : Int)) = true := decide_eq_true dP
       have il : decide ((i : Int) < (mid : Int)) = true := decide_eq_true ik
       have hc2 := IH.out a i mid qi oi d1 (by omega) c4.1 c4.2 (by omega) z1
       replace hd2 : Hid (d2 = Sb.symF (ltOf cf) f a i mid d1) := by show _ = _; rw [hd2.out, if_pos c4]
       rw [← hd2.out] at hc2
       generalize sortWorldK enc k w blk off qi d1 oi = wq at hc2 ⊢
       go_wp2_with fail
       go_at_call 216
       refine hc2.mono ?_
       clear hc2
       rintro e8 w8 ⟨rfl, q8, o8, rfl⟩
       by_cases c5 : mid < e ∧ e < b
       ·have aB : (mid : Int) < (e : Int) := by omega
        have aV : (e : Int) < (b : Int) := by omega
        have aC : decide ((mid : Int) < (e : Int)) = true := decide_eq_true aB
        have aW : decide ((e : Int) < (b : Int)) = true := decide_eq_true aV
        have hc3 := IH.out mid e b q8 o8 d2 (by omega) (by omega) (by omega) hb z2
        replace hr2 : Hid (r = Sb.symF (ltOf cf) f mid e b d2) := by show _ = _; rw [hr2.out, if_pos c5]
        generalize sortWorldK enc k w blk off q8 d2 o8 = wq at hc3 ⊢
        go_wp2_with (go_at_call 216; go_must (refine hc3.mono ?_); rintro e9 w9 ⟨rfl, q9, o9, rfl⟩)
        all_goals (go_end0; exact ⟨rfl, q9, o9, by rw [hr2.out]⟩)
       ·replace hr2 : Hid (r = d2) := by show _ = _; rw [hr2.out, if_neg c5]
        generalize hwq : sortWorldK enc k w blk off q8 d2 o8 = wq
        by_cases aB : mid < e
        ·have aC : decide ((mid : Int) < (e : Int)) = true := decide_eq_true (by omega)
         have av : ¬ (e : Int) < (b : Int) := by omega
         have aW : decide ((e : Int) < (b : Int)) = false := decide_eq_false av
         go_wp2_with fail
         all_goals (go_end0; exact ⟨rfl, _, _, by rw [hr2.out, hwq]⟩)
        ·have av : ¬ (mid : Int) < (e : Int) := by omega
         have aC : decide ((mid : Int) < (e : Int)) = false := decide_eq_false av
         go_wp2_with fail
         all_goals (go_end0; exact ⟨rfl, _, _, by rw [hr2.out, hwq]⟩)
      ·have dR : d2 = d1 := by rw [hd2.out, if_neg c4]
       subst dR
       by_cases dP : a < i
       ·have dQ : decide ((a : Int) < (i : Int)) = true := decide_eq_true (by omega)
        have bU : ¬ (i : Int) < (mid : Int) := by omega
        have il : decide ((i : Int) < (mid : Int)) = false := decide_eq_false bU
        by_cases c5 : mid < e ∧ e < b
        ·have aB : (mid : Int) < (e : Int) := by omega
         have aV : (e : Int) < (b : Int) := by omega
         have aC : decide ((mid : Int) < (e : Int)) = true := decide_eq_true aB
         have aW : decide ((e : Int) < (b : Int)) = true := decide_eq_true aV
         have hc3 := IH.out mid e b qi oi d2 (by omega) (by omega) (by omega) hb z2
         replace hr2 : Hid (r = Sb.symF (ltOf cf) f mid e b d2) := by show _ = _; rw [hr2.out, if_pos c5]
         generalize sortWorldK enc k w blk off qi d2 oi = wq at hc3 ⊢
         go_wp2_with (go_at_call 216; go_must (refine hc3.mono ?_); rintro e9 w9 ⟨rfl, q9, o9, rfl⟩)
         all_goals (go_end0; exact ⟨rfl, q9, o9, by rw [hr2.out]⟩)
        ·replace hr2 : Hid (r = d2) := by show _ = _; rw [hr2.out, if_neg c5]
         generalize hwq : sortWorldK enc k w blk off qi d2 oi = wq
         by_cases aB : mid < e
         ·have aC : decide ((mid : Int) < (e : Int)) = true := decide_eq_true (by omega)
          have av : ¬ (e : Int) < (b : Int) := by omega
          have aW : decide ((e : Int) < (b : Int)) = false := decide_eq_false av
          go_wp2_with fail
          all_goals (go_end0; exact ⟨rfl, _, _, by rw [hr2.out, hwq]⟩)
         ·have av : ¬ (mid : Int) < (e : Int) := by omega
          have aC : decide ((mid : Int) < (e : Int)) = false := decide_eq_false av
          go_wp2_with fail
          all_goals (go_end0; exact ⟨rfl, _, _, by rw [hr2.out, hwq]⟩)
       ·have bU : ¬ (a : Int) < (i : Int) := by omega
        have dQ : decide ((a : Int) < (i : Int)) = false := decide_eq_false bU
        by_cases c5 : mid < e ∧ e < b
        ·have aB : (mid : Int) < (e : Int) := by omega
         have aV : (e : Int) < (b : Int) := by omega
         have aC : decide ((mid : Int) < (e : Int)) = true := decide_eq_true aB
         have aW : decide ((e : Int) < (b : Int)) = true := decide_eq_true aV
         have hc3 := IH.out mid e b qi oi d2 (by omega) (by omega) (by omega) hb z2
         replace hr2 : Hid (r = Sb.symF (ltOf cf) f mid e b d2) := by show _ = _; rw [hr2.out, if_pos c5]
         generalize sortWorldK enc k w blk off qi d2 oi = wq at hc3 ⊢
         go_wp2_with (go_at_call 216; go_must (refine hc3.mono ?_); rintro e9 w9 ⟨rfl, q9, o9, rfl⟩)
         all_goals (go_end0; exact ⟨rfl, q9, o9, by rw [hr2.out]⟩)
        ·replace hr2 : Hid (r = d2) := by show _ = _; rw [hr2.out, if_neg c5]
         generalize hwq : sortWorldK enc k w blk off qi d2 oi = wq
         by_cases aB : mid < e
         ·have aC : decide ((mid : Int) < (e : Int)) = true := decide_eq_true (by omega)
          have av : ¬ (e : Int) < (b : Int) := by omega
          have aW : decide ((e : Int) < (b : Int)) = false := decide_eq_false av
          go_wp2_with fail
          all_goals (go_end0; exact ⟨rfl, _, _, by rw [hr2.out, hwq]⟩)
         ·have av : ¬ (mid : Int) < (e : Int) := by omega
          have aC : decide ((mid : Int) < (e : Int)) = false := decide_eq_false av
          go_wp2_with fail
          all_goals (go_end0; exact ⟨rfl, _, _, by rw [hr2.out, hwq]⟩)
 ·replace hcut : Hid (s = Sb.az F a m) := by show _ = _; rw [hcut.out, if_neg hmm]
  have bm : ¬ (mid : Int) < (m : Int) := by omega
  have l2 : a ≤ m := by omega
  have l3 : p < a + b := by have := rX.out; omega
  have l4 : m + mid ≤ p + 1 := by have := rX.out; omega
  go_enter Tryz.func216, Tryz.ntmps216
  go_wp2_with fail
  go_loopw [20, 21] (fun ii jj wr => ∃ (i j qi : Nat) (oi : Array Obj), ii = .int .i64 i ∧ jj = .int .i64 j ∧ a ≤ i ∧ i ≤ j ∧ j ≤ m ∧ wr = sortWorldK enc k w blk off qi d oi ∧ Hid (Sb.az F i j = s)) (fun ii jj _ => (intOf jj).toNat - (intOf ii).toNat)
  case atStart => exact ⟨a, m, q, os, rfl, rfl, Nat.le_refl _, l2, Nat.le_refl _, rfl, hcut.out.symm⟩
  case round =>
   obtain ⟨i, j, qi, oi, rfl, rfl, mo, hij, hjb, rfl, HI⟩ := hrel
   by_cases hlt : i < j
   ·have b2 : (i : Int) < (j : Int) := by omega
    obtain ⟨hm, hhm⟩ : ∃ x : Nat, x = (i + j) / 2 := ⟨_, rfl⟩
    have eh : ((i : Int) + (j : Int)) / 2 = (hm : Int) := by omega
    have iL : hm < d.size := by omega
    have tT : (hm : Int) < (d.size : Int) := by omega
    have wh : IntKind.i64.wrap ((hm : Int) + 1) = (hm : Int) + 1 := by rw [IntKind.wrap_i64]; omega
    obtain ⟨ph, mr⟩ : ∃ x : Nat, x = p - hm := ⟨_, rfl⟩
    have vw : IntKind.i64.wrap ((p : Int) - (hm : Int)) = (ph : Int) := by rw [IntKind.wrap_i64]; omega
    have tX : (ph : Int) < (d.size : Int) := by omega
    obtain ⟨cls, lx, ly, cg⟩ := CC.out ph hm qi oi (by omega) iL
    have HI2 : Hid ((F hm = true → Sb.az F (hm + 1) j = s) ∧ (F hm = false → Sb.az F i hm = s)) :=
     ⟨fun hf => by rw [← HI.out, Sb.df hlt (by rw [← hhm]; exact hf), hhm], fun hf => by rw [← HI.out, Sb.dY hlt (by rw [← hhm]; exact hf), hhm]⟩
    have o1 : i ≤ hm := by omega
    have o2 : hm < j := by omega
    have dz : Hid (F hm = !decide (cf d[ph]! d[hm]! < 0)) := by show _ = _; rw [mr]; exact hF2.out hm
    replace hhm := Lib.hid hhm
    replace mr := Lib.hid mr
    have CLS : Hid _ := cls
    clear cls HI
    generalize hwq : sortWorldK enc k w blk off qi d oi = wq at lx ly cg CLS ⊢
    replace hwq := Lib.hid hwq
    generalize d[ph]! = X at *
    generalize d[hm]! = Y at *
    by_cases hlv : cf X Y < 0
    ·have bT : F hm = false := by rw [dz.out, decide_eq_true hlv]; rfl
     have nb : (!decide (cf X Y < 0)) = false := by rw [decide_eq_true hlv]; rfl
     have HI3 : Hid _ := HI2.out.2 bT
     clear HI2 dz bT
     go_wp2_with fail
     go_quiet_grown (first | (go_at_fn g; refine Calls.grown_of (cg _ _)))
     go_wp2_with fail
     go_roundw
     case rel => exact ⟨i, hm, qi + nq, oi ++ osq, rfl, by go_num, mo, o1, by omega, CLS.out nq osq, HI3⟩
     case measure => simp [intOf]; omega
    ·have bT : F hm = true := by rw [dz.out, decide_eq_false hlv]; rfl
     have nb : (!decide (cf X Y < 0)) = true := by rw [decide_eq_false hlv]; rfl
     have HI3 : Hid _ := HI2.out.1 bT
     clear HI2 dz bT
     go_wp2_with fail
     go_quiet_grown (first | (go_at_fn g; refine Calls.grown_of (cg _ _)))
     go_wp2_with fail
     go_roundw
     case rel => exact ⟨hm + 1, j, qi + nq, oi ++ osq, by go_num, rfl, by omega, by omega, hjb, CLS.out nq osq, HI3⟩
     case measure => simp [intOf]; omega
   ·obtain rfl : i = j := by omega
    rw [Sb.bq hlt] at HI
    obtain rfl : i = s := HI.out
    clear HI hcut hF2
    have b2 : ¬ (i : Int) < (i : Int) := by omega
    by_cases c3 : i < m ∧ m < e
    ·have qB : (i : Int) < (m : Int) := by omega
     have tZ : (m : Int) < (e : Int) := by omega
     have qC : decide ((i : Int) < (m : Int)) = true := decide_eq_true qB
     have uf : decide ((m : Int) < (e : Int)) = true := decide_eq_true tZ
     have hc1 := RC.out i m e qi oi c3.1 c3.2 (by omega)
     replace hd1 : Hid (d1 = Sb.bD m (m - i) (e - m) d) := by show _ = _; rw [hd1.out, if_pos c3]
     rw [← hd1.out] at hc1
     generalize sortWorldK enc k w blk off qi d oi = wq at hc1 ⊢
     go_wp2_with fail
     go_at_call 238
     refine hc1.mono ?_
     clear hc1
     rintro e7 w7 ⟨rfl, q7, rfl⟩
     by_cases c4 : a < i ∧ i < mid
     ·have dP : (a : Int) < (i : Int) := by omega
      have ik : (i : Int) < (mid : Int) := by omega
      have dQ : decide ((a : Int) < (i : Int)) = true := decide_eq_true dP
      have il : decide ((i : Int) < (mid : Int)) = true := decide_eq_true ik
      have hc2 := IH.out a i mid q7 oi d1 (by omega) c4.1 c4.2 (by omega) z1
      replace hd2 : Hid (d2 = Sb.symF (ltOf cf) f a i mid d1) := by show _ = _; rw [hd2.out, if_pos c4]
      rw [← hd2.out] at hc2
      generalize sortWorldK enc k w blk off q7 d1 oi = wq at hc2 ⊢
      go_wp2_with fail
      go_at_call 216
      refine hc2.mono ?_
      clear hc2
      rintro e8 w8 ⟨rfl, q8, o8, rfl⟩
      by_cases c5 : mid < e ∧ e < b
      ·have aB : (mid : Int) < (e : Int) := by omega
       have aV : (e : Int) < (b : Int) := by omega
       have aC : decide ((mid : Int) < (e : Int)) = true := decide_eq_true aB
       have aW : decide ((e : Int) < (b : Int)) = true := decide_eq_true aV
       have hc3 := IH.out mid e b q8 o8 d2 (by omega) (by omega) (by omega) hb z2
       replace hr2 : Hid (r = Sb.symF (ltOf cf) f mid e b d2) := by show _ = _; rw [hr2.out, if_pos c5]
       generalize sortWorldK enc k w blk off q8 d2 o8 = wq at hc3 ⊢
       go_wp2_with (go_at_call 216; go_must (refine hc3.mono ?_); rintro e9 w9 ⟨rfl, q9, o9, rfl⟩)
       all_goals (go_end0; exact ⟨rfl, q9, o9, by rw [hr2.out]⟩)
      ·replace hr2 : Hid (r = d2) := by show _ = _; rw [hr2.out, if_neg c5]
       generalize hwq : sortWorldK enc k w blk off q8 d2 o8 = wq
       by_cases aB : mid < e
       ·have aC : decide ((mid : Int) < (e : Int)) = true := decide_eq_true (by omega)
        have av : ¬ (e : Int) < (b : Int) := by omega
        have aW : decide ((e : Int) < (b : Int)) = false := decide_eq_false av
        go_wp2_with fail
        all_goals (go_end0; exact ⟨rfl, _, _, by rw [hr2.out, hwq]⟩)
       ·have av : ¬ (mid : Int) < (e : Int) := by omega
        have aC : decide ((mid : Int) < (e : Int)) = false := decide_eq_false av
        go_wp2_with fail
        all_goals (go_end0; exact ⟨rfl, _, _, by rw [hr2.out, hwq]⟩)
     ·have dR : d2 = d1 := by rw [hd2.out, if_neg c4]
      subst dR
      by_cases dP : a < i
      ·have dQ : decide ((a : Int) < (i : Int)) = true := decide_eq_true (by omega)
       have bU : ¬ (i : Int) < (mid : Int) := by omega
       have il : decide ((i : Int) < (mid : Int)) = false := decide_eq_false bU
       by_cases c5 : mid < e ∧ e < b
       ·have aB : (mid : Int) < (e : Int) := by omega
        have aV : (e : Int) < (b : Int) := by omega
        have aC : decide ((mid : Int) < (e : Int)) = true := decide_eq_true aB
        have aW : decide ((e : Int) < (b : Int)) = true := decide_eq_true aV
        have hc3 := IH.out mid e b q7 oi d2 (by omega) (by omega) (by omega) hb z2
        replace hr2 : Hid (r = Sb.symF (ltOf cf) f mid e b d2) := by show _ = _; rw [hr2.out, if_pos c5]
        generalize sortWorldK enc k w blk off q7 d2 oi = wq at hc3 ⊢
        go_wp2_with (go_at_call 216; go_must (refine hc3.mono ?_); rintro e9 w9 ⟨rfl, q9, o9, rfl⟩)
        all_goals (go_end0; exact ⟨rfl, q9, o9, by rw [hr2.out]⟩)
       ·replace hr2 : Hid (r = d2) := by show _ = _; rw [hr2.out, if_neg c5]
        generalize hwq : sortWorldK enc k w blk off q7 d2 oi = wq
        by_cases aB : mid < e
        ·have aC : decide ((mid : Int) < (e : Int)) = true := decide_eq_true (by omega)
         have av : ¬ (e : Int) < (b : Int) := by omega
         have aW : decide ((e : Int) < (b : Int)) = false := decide_eq_false av
         go_wp2_with fail
         all_goals (go_end0; exact ⟨rfl, _, _, by rw [hr2.out, hwq]⟩)
        ·have av : ¬ (mid : Int) < (e : Int) := by omega
         have aC : decide ((mid : Int) < (e : Int)) = false := decide_eq_false av
         go_wp2_with fail
         all_goals (go_end0; exact ⟨rfl, _, _, by rw [hr2.out, hwq]⟩)
      ·have bU : ¬ (a : Int) < (i : Int) := by omega
       have dQ : decide ((a : Int) < (i : Int)) = false := decide_eq_false bU
       by_cases c5 : mid < e ∧ e < b
       ·have aB : (mid : Int) < (e : Int) := by omega
        have aV : (e : Int) < (b : Int) := by omega
        have aC : decide ((mid : Int) < (e : Int)) = true := decide_eq_true aB
        have aW : decide ((e : Int) < (b : Int)) = true := decide_eq_true aV
        have hc3 := IH.out mid e b q7 oi d2 (by omega) (by omega) (by omega) hb z2
        replace hr2 : Hid (r = Sb.symF (ltOf cf) f mid e b d2) := by show _ = _; rw [hr2.out, if_pos c5]
        generalize sortWorldK enc k w blk off q7 d2 oi = wq at hc3 ⊢
        go_wp2_with (go_at_call 216; go_must (refine hc3.mono ?_); rintro e9 w9 ⟨rfl, q9, o9, rfl⟩)
        all_goals (go_end0; exact ⟨rfl, q9, o9, by rw [hr2.out]⟩)
       ·replace hr2 : Hid (r = d2) := by show _ = _; rw [hr2.out, if_neg c5]
        generalize hwq : sortWorldK enc k w blk off q7 d2 oi = wq
        by_cases aB : mid < e
        ·have aC : decide ((mid : Int) < (e : Int)) = true := decide_eq_true (by omega)
         have av : ¬ (e : Int) < (b : Int) := by omega
         have aW : decide ((e : Int) < (b : Int)) = false := decide_eq_false av
         go_wp2_with fail
         all_goals (go_end0; exact ⟨rfl, _, _, by rw [hr2.out, hwq]⟩)
        ·have av : ¬ (mid : Int) < (e : Int) := by omega
         have aC : decide ((mid : Int) < (e : Int)) = false := decide_eq_false av
         go_wp2_with fail
         all_goals (go_end0; exact ⟨rfl, _, _, by rw [hr2.out, hwq]⟩)
    ·have qD : d1 = d := by rw [hd1.out, if_neg c3]
     subst qD
     by_cases qB : i < m
     ·have qC : decide ((i : Int) < (m : Int)) = true := decide_eq_true (by omega)
      have mD : ¬ (m : Int) < (e : Int) := by omega
      have uf : decide ((m : Int) < (e : Int)) = false := decide_eq_false mD
      by_cases c4 : a < i ∧ i < mid
      ·have dP : (a : Int) < (i : Int) := by omega
       have ik : (i : Int) < (mid : Int) := by omega
       have dQ : decide ((a : Int) < (i : Int)) = true := decide_eq_true dP
       have il : decide ((i : Int) < (mid : Int)) = true := decide_eq_true ik
       have hc2 := IH.out a i mid qi oi d1 (by omega) c4.1 c4.2 (by omega) z1
       replace hd2 : Hid (d2 = Sb.symF (ltOf cf) f a i mid d1) := by show _ = _; rw [hd2.out, if_pos c4]
       rw [← hd2.out] at hc2
       generalize sortWorldK enc k w blk off qi d1 oi = wq at hc2 ⊢
       go_wp2_with fail
       go_at_call 216
       refine hc2.mono ?_
       clear hc2
       rintro e8 w8 ⟨rfl, q8, o8, rfl⟩
       by_cases c5 : mid < e ∧ e < b
       ·have aB : (mid : Int) < (e : Int) := by omega
        have aV : (e : Int) < (b : Int) := by omega
        have aC : decide ((mid : Int) < (e : Int)) = true := decide_eq_true aB
        have aW : decide ((e : Int) < (b : Int)) = true := decide_eq_true aV
        have hc3 := IH.out mid e b q8 o8 d2 (by omega) (by omega) (by omega) hb z2
        replace hr2 : Hid (r = Sb.symF (ltOf cf) f mid e b d2) := by show _ = _; rw [hr2.out, if_pos c5]
        generalize sortWorldK enc k w blk off q8 d2 o8 = wq at hc3 ⊢
        go_wp2_with (go_at_call 216; go_must (refine hc3.mono ?_); rintro e9 w9 ⟨rfl, q9, o9, rfl⟩)
        all_goals (go_end0; exact ⟨rfl, q9, o9, by rw [hr2.out]⟩)
       ·replace hr2 : Hid (r = d2) := by show _ = _; rw [hr2.out, if_neg c5]
        generalize hwq : sortWorldK enc k w blk off q8 d2 o8 = wq
        by_cases aB : mid < e
        ·have aC : decide ((mid : Int) < (e : Int)) = true := decide_eq_true (by omega)
         have av : ¬ (e : Int) < (b : Int) := by omega
         have aW : decide ((e : Int) < (b : Int)) = false := decide_eq_false av
         go_wp2_with fail
         all_goals (go_end0; exact ⟨rfl, _, _, by rw [hr2.out, hwq]⟩)
        ·have av : ¬ (mid : Int) < (e : Int) := by omega
         have aC : decide ((mid : Int) < (e : Int)) = false := decide_eq_false av
         go_wp2_with fail
         all_goals (go_end0; exact ⟨rfl, _, _, by rw [hr2.out, hwq]⟩)
      ·have dR : d2 = d1 := by rw [hd2.out, if_neg c4]
       subst dR
       by_cases dP : a < i
       ·have dQ : decide ((a : Int) < (i : Int)) = true := decide_eq_true (by omega)
        have bU : ¬ (i : Int) < (mid : Int) := by omega
        have il : decide ((i : Int) < (mid : Int)) = false := decide_eq_false bU
        by_cases c5 : mid < e ∧ e < b
        ·have aB : (mid : Int) < (e : Int) := by omega
         have aV : (e : Int) < (b : Int) := by omega
         have aC : decide ((mid : Int) < (e : Int)) = true := decide_eq_true aB
         have aW : decide ((e : Int) < (b : Int)) = true := decide_eq_true aV
         have hc3 := IH.out mid e b qi oi d2 (by omega) (by omega) (by omega) hb z2
         replace hr2 : Hid (r = Sb.symF (ltOf cf) f mid e b d2) := by show _ = _; rw [hr2.out, if_pos c5]
         generalize sortWorldK enc k w blk off qi d2 oi = wq at hc3 ⊢
         go_wp2_with (go_at_call 216; go_must (refine hc3.mono ?_); rintro e9 w9 ⟨rfl, q9, o9, rfl⟩)
         all_goals (go_end0; exact ⟨rfl, q9, o9, by rw [hr2.out]⟩)
        ·replace hr2 : Hid (r = d2) := by show _ = _; rw [hr2.out, if_neg c5]
         generalize hwq : sortWorldK enc k w blk off qi d2 oi = wq
         by_cases aB : mid < e
         ·have aC : decide ((mid : Int) < (e : Int)) = true := decide_eq_true (by omega)
          have av : ¬ (e : Int) < (b : Int) := by omega
          have aW : decide ((e : Int) < (b : Int)) = false := decide_eq_false av
          go_wp2_with fail
          all_goals (go_end0; exact ⟨rfl, _, _, by rw [hr2.out, hwq]⟩)
         ·have av : ¬ (mid : Int) < (e : Int) := by omega
          have aC : decide ((mid : Int) < (e : Int)) = false := decide_eq_false av
          go_wp2_with fail
          all_goals (go_end0; exact ⟨rfl, _, _, by rw [hr2.out, hwq]⟩)
       ·have bU : ¬ (a : Int) < (i : Int) := by omega
        have dQ : decide ((a : Int) < (i : Int)) = false := decide_eq_false bU
        by_cases c5 : mid < e ∧ e < b
        ·have aB : (mid : Int) < (e : Int) := by omega
         have aV : (e : Int) < (b : Int) := by omega
         have aC : decide ((mid : Int) < (e : Int)) = true := decide_eq_true aB
         have aW : decide ((e : Int) < (b : Int)) = true := decide_eq_true aV
         have hc3 := IH.out mid e b qi oi d2 (by omega) (by omega) (by omega) hb z2
         replace hr2 : Hid (r = Sb.symF (ltOf cf) f mid e b d2) := by show _ = _; rw [hr2.out, if_pos c5]
         generalize sortWorldK enc k w blk off qi d2 oi = wq at hc3 ⊢
         go_wp2_with (go_at_call 216; go_must (refine hc3.mono ?_); rintro e9 w9 ⟨rfl, q9, o9, rfl⟩)
         all_goals (go_end0; exact ⟨rfl, q9, o9, by rw [hr2.out]⟩)
        ·replace hr2 : Hid (r = d2) := by show _ = _; rw [hr2.out, if_neg c5]
         generalize hwq : sortWorldK enc k w blk off qi d2 oi = wq
         by_cases aB : mid < e
         ·have aC : decide ((mid : Int) < (e : Int)) = true := decide_eq_true (by omega)
          have av : ¬ (e : Int) < (b : Int) := by omega
          have aW : decide ((e : Int) < (b : Int)) = false := decide_eq_false av
          go_wp2_with fail
          all_goals (go_end0; exact ⟨rfl, _, _, by rw [hr2.out, hwq]⟩)
         ·have av : ¬ (mid : Int) < (e : Int) := by omega
          have aC : decide ((mid : Int) < (e : Int)) = false := decide_eq_false av
          go_wp2_with fail
          all_goals (go_end0; exact ⟨rfl, _, _, by rw [hr2.out, hwq]⟩)
     ·have mD : ¬ (i : Int) < (m : Int) := by omega
      have qC : decide ((i : Int) < (m : Int)) = false := decide_eq_false mD
      by_cases c4 : a < i ∧ i < mid
      ·have dP : (a : Int) < (i : Int) := by omega
       have ik : (i : Int) < (mid : Int) := by omega
       have dQ : decide ((a : Int) < (i : Int)) = true := decide_eq_true dP
       have il : decide ((i : Int) < (mid : Int)) = true := decide_eq_true ik
       have hc2 := IH.out a i mid qi oi d1 (by omega) c4.1 c4.2 (by omega) z1
       replace hd2 : Hid (d2 = Sb.symF (ltOf cf) f a i mid d1) := by show _ = _; rw [hd2.out, if_pos c4]
       rw [← hd2.out] at hc2
       generalize sortWorldK enc k w blk off qi d1 oi = wq at hc2 ⊢
       go_wp2_with fail
       go_at_call 216
       refine hc2.mono ?_
       clear hc2
       rintro e8 w8 ⟨rfl, q8, o8, rfl⟩
       by_cases c5 : mid < e ∧ e < b
       ·have aB : (mid : Int) < (e : Int) := by omega
        have aV : (e : Int) < (b : Int) := by omega
        have aC : decide ((mid : Int) < (e : Int)) = true := decide_eq_true aB
        have aW : decide ((e : Int) < (b : Int)) = true := decide_eq_true aV
        have hc3 := IH.out mid e b q8 o8 d2 (by omega) (by omega) (by omega) hb z2
        replace hr2 : Hid (r = Sb.symF (ltOf cf) f mid e b d2) := by show _ = _; rw [hr2.out, if_pos c5]
        generalize sortWorldK enc k w blk off q8 d2 o8 = wq at hc3 ⊢
        go_wp2_with (go_at_call 216; go_must (refine hc3.mono ?_); rintro e9 w9 ⟨rfl, q9, o9, rfl⟩)
        all_goals (go_end0; exact ⟨rfl, q9, o9, by rw [hr2.out]⟩)
       ·replace hr2 : Hid (r = d2) := by show _ = _; rw [hr2.out, if_neg c5]
        generalize hwq : sortWorldK enc k w blk off q8 d2 o8 = wq
        by_cases aB : mid < e
        ·have aC : decide ((mid : Int) < (e : Int)) = true := decide_eq_true (by omega)
         have av : ¬ (e : Int) < (b : Int) := by omega
         have aW : decide ((e : Int) < (b : Int)) = false := decide_eq_false av
         go_wp2_with fail
         all_goals (go_end0; exact ⟨rfl, _, _, by rw [hr2.out, hwq]⟩)
        ·have av : ¬ (mid : Int) < (e : Int) := by omega
         have aC : decide ((mid : Int) < (e : Int)) = false := decide_eq_false av
         go_wp2_with fail
         all_goals (go_end0; exact ⟨rfl, _, _, by rw [hr2.out, hwq]⟩)
      ·have dR : d2 = d1 := by rw [hd2.out, if_neg c4]
       subst dR
       by_cases dP : a < i
       ·have dQ : decide ((a : Int) < (i : Int)) = true := decide_eq_true (by omega)
        have bU : ¬ (i : Int) < (mid : Int) := by omega
        have il : decide ((i : Int) < (mid : Int)) = false := decide_eq_false bU
        by_cases c5 : mid < e ∧ e < b
        ·have aB : (mid : Int) < (e : Int) := by omega
         have aV : (e : Int) < (b : Int) := by omega
         have aC : decide ((mid : Int) < (e : Int)) = true := decide_eq_true aB
         have aW : decide ((e : Int) < (b : Int)) = true := decide_eq_true aV
         have hc3 := IH.out mid e b qi oi d2 (by omega) (by omega) (by omega) hb z2
         replace hr2 : Hid (r = Sb.symF (ltOf cf) f mid e b d2) := by show _ = _; rw [hr2.out, if_pos c5]
         generalize sortWorldK enc k w blk off qi d2 oi = wq at hc3 ⊢
         go_wp2_with (go_at_call 216; go_must (refine hc3.mono ?_); rintro e9 w9 ⟨rfl, q9, o9, rfl⟩)
         all_goals (go_end0; exact ⟨rfl, q9, o9, by rw [hr2.out]⟩)
        ·replace hr2 : Hid (r = d2) := by show _ = _; rw [hr2.out, if_neg c5]
         generalize hwq : sortWorldK enc k w blk off qi d2 oi = wq
         by_cases aB : mid < e
         ·have aC : decide ((mid : Int) < (e : Int)) = true := decide_eq_true (by omega)
          have av : ¬ (e : Int) < (b : Int) := by omega
          have aW : decide ((e : Int) < (b : Int)) = false := decide_eq_false av
          go_wp2_with fail
          all_goals (go_end0; exact ⟨rfl, _, _, by rw [hr2.out, hwq]⟩)
         ·have av : ¬ (mid : Int) < (e : Int) := by omega
          have aC : decide ((mid : Int) < (e : Int)) = false := decide_eq_false av
          go_wp2_with fail
          all_goals (go_end0; exact ⟨rfl, _, _, by rw [hr2.out, hwq]⟩)
       ·have bU : ¬ (a : Int) < (i : Int) := by omega
        have dQ : decide ((a : Int) < (i : Int)) = false := decide_eq_false bU
        by_cases c5 : mid < e ∧ e < b
        ·have aB : (mid : Int) < (e : Int) := by omega
         have aV : (e : Int) < (b : Int) := by omega
         have aC : decide ((mid : Int) < (e : Int)) = true := decide_eq_true aB
         have aW : decide ((e : Int) < (b : Int)) = true := decide_eq_true aV
         have hc3 := IH.out mid e b qi oi d2 (by omega) (by omega) (by omega) hb z2
         replace hr2 : Hid (r = Sb.symF (ltOf cf) f mid e b d2) := by show _ = _; rw [hr2.out, if_pos c5]
         generalize sortWorldK enc k w blk off qi d2 oi = wq at hc3 ⊢
         go_wp2_with (go_at_call 216; go_must (refine hc3.mono ?_); rintro e9 w9 ⟨rfl, q9, o9, rfl⟩)
         all_goals (go_end0; exact ⟨rfl, q9, o9, by rw [hr2.out]⟩)
        ·replace hr2 : Hid (r = d2) := by show _ = _; rw [hr2.out, if_neg c5]
         generalize hwq : sortWorldK enc k w blk off qi d2 oi = wq
         by_cases aB : mid < e
         ·have aC : decide ((mid : Int) < (e : Int)) = true := decide_eq_true (by omega)
          have av : ¬ (e : Int) < (b : Int) := by omega
          have aW : decide ((e : Int) < (b : Int)) = false := decide_eq_false av
          go_wp2_with fail
          all_goals (go_end0; exact ⟨rfl, _, _, by rw [hr2.out, hwq]⟩)
         ·have av : ¬ (mid : Int) < (e : Int) := by omega
          have aC : decide ((mid : Int) < (e : Int)) = false := decide_eq_false av
          go_wp2_with fail
          all_goals (go_end0; exact ⟨rfl, _, _, by rw [hr2.out, hwq]⟩)
theorem rY (k : Nat) (zE : ∀ w, Sem.run Tryz.prog (Go.sizeOf 94) w = .ok k w) (hE : bA enc k) (hC : bS Tryz.prog g enc k cf blk off d0.size w) (hH : HoldsK enc k w blk off d0) (hs : d.size = d0.size) (hblk : blk < w.heap.size) (hsz : d.size < 4611686018427387904) :
 ∀ (f a m b q : Nat) (os : Array Obj) (di : Array α), b - a ≤ f → a < m → m < b → b ≤ d.size → di.size = d.size →
  Calls Tryz.prog 216 #[.slice (some ⟨blk, off, none⟩) d.size cap, .int .i64 a, .int .i64 m, .int .i64 b, .func (.func g) #[] #[]] (sortWorldK enc k w blk off q di os) (dn enc k w blk off (Sb.symF (ltOf cf) f a m b di)) := by
 intro f
 induction f with
 | zero => intro a m b q os di hf h1 h2; omega
 | succ f ih =>
   intro a m b q os di hf h1 h2 h3 h4
   have hs' := h4.trans hs
   rw [← h4] at h3 hsz
   rw [← h4]
   by_cases c1 : m - a = 1
   ·have := qy (cap := cap) k zE a m b q os hE hC hH hs' hblk (by omega) h2 h3 hsz
    rw [Sb.symF, if_pos c1]
    exact this
   ·by_cases c2 : b - m = 1
    ·have := qz (cap := cap) k zE a m b q os hE hC hH hs' hblk (by omega) (by omega) h3 hsz
     rw [Sb.symF, if_neg c1, if_pos c2]
     exact this
    ·exact qA k zE f a m b q os hE hC hH hs' hblk (by omega) (by omega) h3 hsz (fun a m b q os dj e1 e2 e3 e4 e5 => by
      have := ih a m b q os dj e1 e2 e3 (by rw [← h4]; exact e4) (e5.trans h4)
      rw [h4]
      exact this) hf
end
end Go.Proofs.YtfmpgdafnlehaaaGreat


namespace Go.Proofs
open Go.Shelf
def Tryz.insJ_ren : Go.Shelf.Ren := ⟨fun | 20 => 215 | n => n, fun | 24 => 94 | 22 => 115 | 3 => 3 | 25 => 199 | 4 => 4 | 0 => 0 | n => n, fun | n => n⟩
theorem Tryz.insJ : Go.Proofs.SlLaysF0.n20 Tryz.prog Tryz.insJ_ren := {
 mixed := by kernel_rfl
 f20 := ⟨Tryz.f215.name, by decide, Tryz.func215.trans (congrArg some (by kernel_rfl))⟩
 t0 := Tryz.underlying0
 a0 := Tryz.isAgg0
 z0 := Tryz.sizeOf0
 v0 := Tryz.zeroValue0
 t3 := Tryz.underlying3
 a3 := Tryz.isAgg3
 z3 := Tryz.sizeOf3
 v3 := Tryz.zeroValue3
 t4 := Tryz.underlying4
 a4 := Tryz.isAgg4
 z4 := Tryz.sizeOf4
 v4 := Tryz.zeroValue4
 t22 := Tryz.underlying115
 a22 := Tryz.isAgg115
 z22 := Tryz.sizeOf115
 v22 := Tryz.zeroValue115
 t25 := Tryz.underlying199
 a25 := Tryz.isAgg199
 z25 := Tryz.sizeOf199
 v25 := Tryz.zeroValue199 }
end Go.Proofs

namespace Go.Proofs.YtfmpgdafnlehaaaGreat
open Go.RowKit Go.Sort Go.Lib Go.Shelf
namespace Sb
variable {α : Type} [Inhabited α] {lt : α → α → Bool}
theorem qE {n a : Nat} {d : Array α} (h : a + 20 ≤ n) : bF lt n a d = bF lt n (a + 20) (insertionSort lt d a (a + 20)) := by rw [bF, if_pos h]
theorem mE {n a : Nat} {d : Array α} (h : ¬ a + 20 ≤ n) : bF lt n a d = insertionSort lt d a n := by rw [bF, if_neg h]
theorem qF {s n a : Nat} {d : Array α} (hs : 0 < s) (h : a + 2 * s ≤ n) : bB lt s n a d = bB lt s n (a + 2 * s) (symF lt (2 * s) a (a + s) (a + 2 * s) d) := by rw [bB, if_pos ⟨hs, h⟩]
theorem mF {s n a : Nat} {d : Array α} (h : ¬ a + 2 * s ≤ n) (h2 : a + s < n) : bB lt s n a d = symF lt (n - a) a (a + s) n d := by rw [bB, if_neg (by omega), if_pos h2]
theorem mG {s n a : Nat} {d : Array α} (h : ¬ a + 2 * s ≤ n) (h2 : ¬ a + s < n) : bB lt s n a d = d := by rw [bB, if_neg (by omega), if_neg h2]
theorem qG {n s : Nat} {d : Array α} (hs : 0 < s) (h : s < n) : bZ lt n s d = bZ lt n (2 * s) (bB lt s n 0 d) := by rw [bZ, if_pos ⟨hs, h⟩]
theorem mH {n s : Nat} {d : Array α} (h : ¬ s < n) : bZ lt n s d = d := by rw [bZ, if_neg (by omega)]
theorem iq (a : Nat) : ∀ (j : Nat) (d : Array α), (insInner lt a j d).size = d.size := by
 intro j
 induction j with
 | zero => intro d; rfl
 | succ j ih =>
   intro d
   unfold insInner
   split
   ·rw [ih, swp_size]
   ·rfl
theorem iw (a b : Nat) : ∀ (t i : Nat) (d : Array α), b - i = t → (insOuter lt a b i d).size = d.size := by
 intro t
 induction t with
 | zero => intro i d ht; rw [insOuter_stop lt a b i d (by omega)]
 | succ t ih => intro i d ht; rw [insOuter_go lt a b i d (by omega), ih (i + 1) _ (by omega), iq]
theorem fK (a b : Nat) (d : Array α) : (insertionSort lt d a b).size = d.size := iw a b _ (a + 1) d rfl
end Sb
section
variable {α : Type} [Inhabited α] {enc : α → List Value} {w : World} {blk off cap : Nat} {d d0 : Array α} {cf : α → α → Int} {g : Nat}
theorem bS.on {k q : Nat} {os : Array Obj} (hC : bS Tryz.prog g enc k cf blk off d0.size w) (hs : d.size = d0.size) (hblk : blk < w.heap.size) : CmpLays Tryz.prog g #[] enc k cf blk off d.size (sortWorldK enc k w blk off q d os) := by
 intro m os' dk hk x y
 rw [sortWorldK_on enc k w blk off q m d dk os os' hblk hk]
 exact hC.lays (q + m) (os ++ os') dk (hk.trans hs) x y
theorem rZ (k : Nat) (aE : ∀ w, Sem.run Tryz.prog (isAgg 94) w = .ok true w) (zE : ∀ w, Sem.run Tryz.prog (Go.sizeOf 94) w = .ok k w) (a b q : Nat) (os : Array Obj) (hE : bA enc k) (hC : bS Tryz.prog g enc k cf blk off d0.size w) (hH : HoldsK enc k w blk off d0) (hs : d.size = d0.size) (hblk : blk < w.heap.size) (hab : a ≤ b) (hb : b ≤ d.size) (hsz : d.size < 4611686018427387904) :
 Calls Tryz.prog 215 #[.slice (some ⟨blk, off, none⟩) d.size cap, .int .i64 a, .int .i64 b, .func (.func g) #[] #[]] (sortWorldK enc k w blk off q d os) (dn enc k w blk off (insertionSort (ltOf cf) d a b)) := by
 have hW : HoldsK enc k (sortWorldK enc k w blk off q d os) blk off d := holdsK_sortWorldK_c enc k w blk off d0 d q os hH hblk hs
 have hb2 := size_sortWorldK_c enc k w blk off q d os
 refine (AnyQ.insertionSortCmpFunc Tryz.insJ k aE zE enc hE.len hE.one cf g #[] blk off cap a b d _ hC.eg (hC.on hs hblk) hW (by omega) hab hb hsz).mono ?_
 rintro e w' ⟨rfl, n, os', rfl⟩
 refine ⟨rfl, q + n, os ++ os', ?_⟩
 rw [sortWorldK_on enc k w blk off q n d _ os os' hblk (Sb.fK a b d)]
theorem mI (k : Nat) (aE : ∀ w, Sem.run Tryz.prog (isAgg 94) w = .ok true w) (zE : ∀ w, Sem.run Tryz.prog (Go.sizeOf 94) w = .ok k w) (hE : bA enc k) (hC : bS Tryz.prog g enc k cf blk off d.size w) (hH : HoldsK enc k w blk off d) (hblk : blk < w.heap.size) (hsz : d.size < 1152921504606846976) :
 Calls Tryz.prog 179 #[.slice (some ⟨blk, off, none⟩) d.size cap, .int .i64 d.size, .func (.func g) #[] #[]] w (dn enc k w blk off (Sb.fu (ltOf cf) d)) := by
 have h0 := sortWorldK_start enc k w blk off d hH
 have INS : Aside _ := fun (a b q : Nat) (os : Array Obj) (di : Array α) (h1 : di.size = d.size) (h2 : a ≤ b) (h3 : b ≤ di.size) => rZ (cap := cap) (d := di) k aE zE a b q os hE hC hH h1 hblk h2 h3 (by omega)
 have uE : Aside _ := rY (cap := cap) (d := d) (d0 := d) k zE hE hC hH rfl hblk (by omega)
 clear hC hH
 obtain ⟨n, hn⟩ : ∃ n, n = d.size := ⟨_, rfl⟩
 rw [← hn]
 have hst : Hid (Sb.fu (ltOf cf) d = Sb.bZ (ltOf cf) n 20 (Sb.bF (ltOf cf) n 0 d)) := by rw [hn]; rfl
 replace hsz : n < 1152921504606846976 := by omega
 replace hn := Lib.hid hn
 obtain ⟨lt, hlt⟩ : ∃ lt, lt = ltOf cf := ⟨_, rfl⟩
 rw [← hlt] at hst ⊢
 replace hlt := Lib.hid hlt
 replace h0 := Lib.hid h0
 go_enter Tryz.func179, Tryz.ntmps179
 go_wp2_with fail
 go_loopw [7, 8] (fun aa bb wr => ∃ (a qi : Nat) (di : Array α) (oi : Array Obj), aa = .int .i64 a ∧ bb = .int .i64 ((a : Int) + 20) ∧ a ≤ n ∧ di.size = n ∧ wr = sortWorldK enc k w blk off qi di oi ∧ Hid (Sb.bF lt n a di = Sb.bF lt n 0 d)) (fun aa _ _ => n - (intOf aa).toNat)
 case atStart => exact ⟨0, 0, d, #[], rfl, rfl, Nat.zero_le _, hn.out.symm, h0.out.symm, rfl⟩
 case round =>
  obtain ⟨a, qi, di, oi, rfl, rfl, kJ, hsi, rfl, HI⟩ := hrel
  by_cases hgo : a + 20 ≤ n
  ·have b2 : (a : Int) + 20 ≤ (n : Int) := by omega
   have wa : IntKind.i64.wrap ((a : Int) + 20 + 20) = (a : Int) + 20 + 20 := by rw [IntKind.wrap_i64]; omega
   have hc := INS.out a (a + 20) qi oi di (hsi.trans hn.out) (by omega) (by omega)
   rw [hsi, ← hlt.out] at hc
   rw [show ((a + 20 : Nat) : Int) = (a : Int) + 20 by omega] at hc
   have hz : (insertionSort lt di a (a + 20)).size = n := by rw [Sb.fK]; exact hsi
   rw [Sb.qE hgo] at HI
   generalize sortWorldK enc k w blk off qi di oi = wq at hc ⊢
   generalize insertionSort lt di a (a + 20) = dj at hc hz HI
   go_wp2_with (go_at_call 215; go_must (refine hc.mono ?_); rintro e9 w9 ⟨rfl, q9, o9, rfl⟩)
   go_roundw
   case rel => exact ⟨a + 20, q9, dj, o9, by go_num, by go_num, hgo, hz, rfl, HI⟩
   case measure => simp [intOf]; omega
  ·have b2 : ¬ (a : Int) + 20 ≤ (n : Int) := by omega
   have hc := INS.out a n qi oi di (hsi.trans hn.out) kJ (by omega)
   rw [hsi, ← hlt.out] at hc
   have hz : (insertionSort lt di a n).size = n := by rw [Sb.fK]; exact hsi
   rw [Sb.mE hgo] at HI
   generalize sortWorldK enc k w blk off qi di oi = wq at hc ⊢
   generalize insertionSort lt di a n = dj at hc hz HI
   rw [← HI.out] at hst
   clear HI
   go_wp2_with fail
   go_at_call 215
   refine hc.mono ?_
   clear hc
   rintro e9 w9 ⟨rfl, q9, o9, rfl⟩
   generalize uF : sortWorldK enc k w blk off q9 dj o9 = w9
   go_wp2_with fail
   go_loopw [6] (fun ss wr => ∃ (s qi : Nat) (di : Array α) (oi : Array Obj), ss = .int .i64 s ∧ 0 < s ∧ s < 2305843009213693952 ∧ di.size = n ∧ wr = sortWorldK enc k w blk off qi di oi ∧ Hid (Sb.bZ lt n s di = Sb.fu lt d)) (fun ss _ => n - (intOf ss).toNat)
   case atStart => exact ⟨20, q9, dj, o9, rfl, by omega, by omega, hz, uF.symm, hst.out.symm⟩
   case round =>
    obtain ⟨s, qj, dk, oj, rfl, hs0, hsm, hsk, rfl, HD⟩ := hrel
    clear uF hst hz
    by_cases hsn : s < n
    ·have b3 : (s : Int) < (n : Int) := by omega
     have ws : IntKind.i64.wrap (2 * (s : Int)) = 2 * (s : Int) := by rw [IntKind.wrap_i64]; omega
     have ws' : IntKind.i64.wrap ((s : Int) * 2) = (s : Int) * 2 := by rw [IntKind.wrap_i64]; omega
     rw [Sb.qG hs0 hsn] at HD
     generalize uG : sortWorldK enc k w blk off qj dk oj = wj
     go_wp2_with fail
     go_loopw [7, 8] (fun aa bb wr => ∃ (a qi : Nat) (di : Array α) (oi : Array Obj), aa = .int .i64 a ∧ bb = .int .i64 ((a : Int) + 2 * (s : Int)) ∧ a ≤ n ∧ di.size = n ∧ wr = sortWorldK enc k w blk off qi di oi ∧ Hid (Sb.bB lt s n a di = Sb.bB lt s n 0 dk)) (fun aa _ _ => n - (intOf aa).toNat)
     case atStart => exact ⟨0, qj, dk, oj, rfl, by go_num, Nat.zero_le _, hsk, uG.symm, rfl⟩
     case round =>
      obtain ⟨a, qi, di, oi, rfl, rfl, kJ, hsi, rfl, HI⟩ := hrel
      clear uG
      have wm : IntKind.i64.wrap ((a : Int) + (s : Int)) = (a : Int) + (s : Int) := by rw [IntKind.wrap_i64]; omega
      by_cases hgo : a + 2 * s ≤ n
      ·have b4 : (a : Int) + 2 * (s : Int) ≤ (n : Int) := by omega
       have wa : IntKind.i64.wrap ((a : Int) + 2 * (s : Int) + 2 * (s : Int)) = (a : Int) + 2 * (s : Int) + 2 * (s : Int) := by rw [IntKind.wrap_i64]; omega
       have hc := uE.out (2 * s) a (a + s) (a + 2 * s) qi oi di (by omega) (by omega) (by omega) (by have := hn.out; omega) (hsi.trans hn.out)
       rw [← hn.out, ← hlt.out, show ((a + s : Nat) : Int) = (a : Int) + (s : Int) by omega, show ((a + 2 * s : Nat) : Int) = (a : Int) + 2 * (s : Int) by omega] at hc
       have hz : (Sb.symF lt (2 * s) a (a + s) (a + 2 * s) di).size = n := by rw [Sb.eP _ _ _ _ _ (by omega) (by omega) (by omega)]; exact hsi
       rw [Sb.qF hs0 hgo] at HI
       generalize sortWorldK enc k w blk off qi di oi = wq at hc ⊢
       generalize Sb.symF lt (2 * s) a (a + s) (a + 2 * s) di = ug at hc hz HI
       go_wp2_with (go_at_call 216; go_must (refine hc.mono ?_); rintro e9 w9 ⟨rfl, q9, o9, rfl⟩)
       go_roundw
       case rel => exact ⟨a + 2 * s, q9, ug, o9, by go_num, by go_num, hgo, hz, rfl, HI⟩
       case measure => simp [intOf]; omega
      ·have b4 : ¬ (a : Int) + 2 * (s : Int) ≤ (n : Int) := by omega
       by_cases hl : a + s < n
       ·have b5 : (a : Int) + (s : Int) < (n : Int) := by omega
        have hc := uE.out (n - a) a (a + s) n qi oi di (by omega) (by omega) (by omega) (by have := hn.out; omega) (hsi.trans hn.out)
        rw [← hn.out, ← hlt.out, show ((a + s : Nat) : Int) = (a : Int) + (s : Int) by omega] at hc
        have hz : (Sb.symF lt (n - a) a (a + s) n di).size = n := by rw [Sb.eP _ _ _ _ _ (by omega) (by omega) (by omega)]; exact hsi
        rw [Sb.mF hgo hl] at HI
        generalize sortWorldK enc k w blk off qi di oi = wq at hc ⊢
        generalize Sb.symF lt (n - a) a (a + s) n di = ug at hc hz HI
        rw [← HI.out] at HD
        clear HI
        go_wp2_with (go_at_call 216; go_must (refine hc.mono ?_); rintro e9 w9 ⟨rfl, q9, o9, rfl⟩)
        go_roundw
        case rel => exact ⟨2 * s, q9, ug, o9, by go_num, by omega, by omega, hz, rfl, HD⟩
        case measure => simp [intOf]; omega
       ·have b5 : ¬ (a : Int) + (s : Int) < (n : Int) := by omega
        rw [Sb.mG hgo hl] at HI
        rw [← HI.out] at HD
        clear HI
        generalize hwq : sortWorldK enc k w blk off qi di oi = wq
        go_wp2_with fail
        go_roundw
        case rel => exact ⟨2 * s, qi, di, oi, by go_num, by omega, by omega, hsi, hwq.symm, HD⟩
        case measure => simp [intOf]; omega
    ·have b3 : ¬ (s : Int) < (n : Int) := by omega
     rw [Sb.mH hsn] at HD
     generalize hwq : sortWorldK enc k w blk off qj dk oj = wq
     go_wp2_with fail
     go_end0
     exact ⟨rfl, qj, oj, by rw [← HD.out, hwq]⟩
theorem iy (k : Nat) (aE : ∀ w, Sem.run Tryz.prog (isAgg 94) w = .ok true w) (zE : ∀ w, Sem.run Tryz.prog (Go.sizeOf 94) w = .ok k w) (hE : bA enc k) (hC : bS Tryz.prog g enc k cf blk off d.size w) (hH : HoldsK enc k w blk off d) (hblk : blk < w.heap.size) (hsz : d.size < 1152921504606846976) :
 Calls Tryz.prog 140 #[.slice (some ⟨blk, off, none⟩) d.size cap, .func (.func g) #[] #[]] w (dn enc k w blk off (Sb.fu (ltOf cf) d)) := by
 have hc := mI (cap := cap) k aE zE hE hC hH hblk hsz
 clear hC hH hE
 go_enter Tryz.func140, Tryz.ntmps140
 go_wp2_with (go_at_call 179; go_must (refine hc.mono ?_); rintro e9 w9 ⟨rfl, q9, o9, rfl⟩)
 go_end0
 exact ⟨rfl, q9, o9, rfl⟩
end
end Go.Proofs.YtfmpgdafnlehaaaGreat

namespace Go.Proofs.YtfmpgdafnlehaaaGreat
open Go.RowKit Go.Lib Go.Sort Go.Shelf
theorem r9 (l : List Jb) : ∀ u ∈ l.flatMap ai, u.oneCell' = true := by
 intro u hu
 obtain ⟨x, _, hx⟩ := List.mem_flatMap.1 hu
 exact dU x u hx
theorem kM {w : World} {b off : Nat} {l : List Jb} (h : ∀ i s j u, l[i]? = some s → (ai s)[j]? = some u → w.cell? ⟨b, off + (i * 10 + j), none⟩ = some u) : ∀ j u, (l.flatMap ai)[j]? = some u → w.cell? ((⟨b, off, none⟩ : Addr).add j) = some u := by
 intro j u hj
 rw [Go.WideShapes.add_plain]
 have key : ∀ (l : List Jb) (j : Nat), (l.flatMap ai)[j]? = some u → ∃ i s q, l[i]? = some s ∧ (ai s)[q]? = some u ∧ j = i * 10 + q := by
  intro l
  induction l with
  | nil => intro j hj; simp at hj
  | cons a l ih =>
    intro j hj
    rw [List.flatMap_cons] at hj
    by_cases hlt : j < 10
    ·rw [List.getElem?_append_left (by rw [aH]; exact hlt)] at hj
     exact ⟨0, a, j, rfl, hj, by omega⟩
    ·rw [List.getElem?_append_right (by rw [aH]; omega), aH] at hj
     obtain ⟨i, s, q, h1, h2, h3⟩ := ih _ hj
     exact ⟨i + 1, s, q, h1, h2, by omega⟩
 obtain ⟨i, s, q, h1, h2, rfl⟩ := key l j hj
 exact h i s q u h1 h2
section
variable {w : World} {v : Value} {l : List Jb}
theorem si (hr : af ai 10 w v l) : Src Tryz.prog 10 115 v l.length (l.flatMap ai) w := by
 obtain ⟨ao, cap, rfl, q1, q2, q3⟩ := hr
 by_cases h0 : l.length = 0
 ·have : l = [] := List.eq_nil_of_length_eq_zero h0
  subst this
  rcases ao with _ | a
  ·exact Src.ofNil w Tryz.underlying115 cap
  ·exact Src.ofSlice w Tryz.underlying115 a 0 cap [] rfl (fun j u hj => by simp at hj) (fun u hu => by simp at hu)
 ·obtain ⟨b, off, rfl, hlt, hc⟩ := q3 (by omega)
  exact Src.ofSlice w Tryz.underlying115 ⟨b, off, none⟩ l.length cap _ (fJ l) (kM hc) (r9 l)
def eT (w : World) (l : List Jb) (e : Ending) (w' : World) : Prop :=
 ∃ v', e = .returned v' ∧ w'.ownsRow w.heap.size 94 10 v' l.length (l.flatMap ai) ∧ Below w.heap.size w w'
theorem oI (hr : af ai 10 w v l) (hl : l.length ≤ 1000) : Calls Tryz.prog 139 #[v] w (eT w l) := by
 obtain ⟨i0, hi0, hz0, hz1, hz2⟩ := info_parts kK
 have hr1 := hr.below ((Below.refl w.heap.size w).alloc (Nat.le_refl _) (.cells #[] 94))
 have hown : (w.alloc (.cells #[] 94)).ownsRow w.heap.size 94 10 (.slice (some ⟨w.heap.size, 0, none⟩) 0 0) 0 [] := cK (vs := []) rfl (Nat.le_refl _) rfl (Nat.zero_le _)
 have hsrc := Lib.hid (si hr1)
 obtain ⟨ao, cap, rfl, q1, q2, q3⟩ := hr
 rcases ao with _ | a
 ·have hz : l = [] := by
   rcases Nat.eq_zero_or_pos l.length with h | h
   ·exact List.eq_nil_of_length_eq_zero h
   ·obtain ⟨b, off, e, _⟩ := q3 h; cases e
  subst hz
  have hnil : ∀ w : World, (binOp .eql 115 (.slice none 0 cap) (.slice none 0 0)).run Tryz.prog w = .ok (.bool true) w := fun w => Lib.run_eql_slice_nil w _ _ _ _ _ _ _ Tryz.underlying115
  have hfin : Hid (eT w [] (.returned (.slice none 0 0)) w) := ⟨_, rfl, World.ownsRow_nil w w.heap.size 94 10, Below.refl _ _⟩
  clear hown hsrc q3 hr1
  simp only [List.length_nil] at *
  go_enter Tryz.func139, Tryz.ntmps139
  go_wp2_with fail
  go_ret
  exact hfin.out
 ·have hnil : ∀ w : World, (binOp .eql 115 (.slice (some a) l.length cap) (.slice none 0 0)).run Tryz.prog w = .ok (.bool false) w := fun w => Lib.run_eql_slice_nil w _ _ _ _ _ _ _ Tryz.underlying115
  obtain ⟨n, hn⟩ : ∃ n, l.length = n := ⟨_, rfl⟩
  rw [hn] at hnil hsrc hl ⊢
  clear q1 q2 q3 hr1
  replace hn := Lib.hid hn
  go_enter Tryz.func139, Tryz.ntmps139
  go_wp2_with (at_builtin; go_must (refine bn _ rfl (.tmp 5) (.tmp 6) 115 115 rfl w.heap.size 94 i0 (.agg (ai default).toArray) 10 80 Tryz.underlying115 hi0 hz0 hz1 hz2 rfl (.slice (some ⟨w.heap.size, 0, none⟩) 0 0) 0 [] rfl hown (.slice (some a) n cap) n (l.flatMap ai) rfl hsrc.out ?c2 ?c3 ?c4 ?c5))
  case c2 => unfold maxLen; omega
  case c3 => omega
  case c4 => simp
  case c5 =>
   intro v' w2 hown3 hgrow
   have hfin : Hid (eT w l (.returned v') w2) := ⟨_, rfl, by rw [hn.out]; exact hown3, ((Below.refl _ w).alloc (Nat.le_refl _) _).grown hgrow (by simp) (fun q hq => by cases hq; exact Nat.le_refl _)⟩
   clear hown hgrow hown3 hsrc
   go_wp2_with fail
   go_ret
   exact hfin.out
end
def dS (x : Jb × Nat) : List Value := ai x.1
theorem qH : bA dS 10 := ⟨fun x => aH x.1, fun x v hv => dU x.1 v hv⟩
theorem vz : ltOf (fun x y : Jb × Nat => gM x.1 y.1) = fun x y => aA x.1 y.1 := by
 funext x y
 exact pO x.1 y.1
theorem gz (a b : Jb) : aA a b = true ↔ (b.prio < a.prio ∨ a.prio = b.prio ∧ a.id < b.id) := by
 unfold aA; simp
theorem gB (a b : Jb) : aA a b = false ↔ ¬ (b.prio < a.prio ∨ a.prio = b.prio ∧ a.id < b.id) := by
 rw [← gz]; simp
theorem uH : SWO aA where
 irrefl x := by rw [gB]; omega
 trans x y z h1 h2 := by rw [gz] at *; omega
 ntrans x y z h1 h2 := by rw [gB] at *; omega
theorem mJ (blk off size : Nat) (w : World) : bS Tryz.prog 141 dS 10 (fun x y => gM x.1 y.1) blk off size w :=
 ⟨enters_of Tryz.func141 (by kernel_rfl) rfl, fun _ _ _ _ x y => kF x.1 y.1 _⟩
theorem qI (d : Array (Jb × Nat)) : flatK dS 10 d = ((d.toList.map (·.1)).flatMap ai).toArray := by
 rw [j4 dS 10 (fun x => aH x.1), List.flatMap_map]
 rfl
section
set_option maxHeartbeats 1000000
theorem oJ (f : Value) (w : World) : Calls Tryz.prog 215 #[.slice none 0 0, .int .i64 0, .int .i64 0, f] w fun e w' => e = .returned (.tuple #[]) ∧ w = w' := by
 go_enter Tryz.func215, Tryz.ntmps215
 go_wp2_with fail
 go_loopw [8] (fun ii wr => ii = .int .i64 1 ∧ w = wr) (fun _ _ => 0)
 case atStart => exact ⟨rfl, rfl⟩
 case round =>
  obtain ⟨rfl, rfl⟩ := hrel
  go_wp2_with fail
  go_end0
  exact ⟨rfl, rfl⟩
theorem jJ (f : Value) (w : World) : Calls Tryz.prog 179 #[.slice none 0 0, .int .i64 0, f] w fun e w' => e = .returned (.tuple #[]) ∧ w = w' := by
 have hi := oJ f w
 go_enter Tryz.func179, Tryz.ntmps179
 go_wp2_with fail
 go_loopw [7, 8] (fun aa bb wr => aa = .int .i64 0 ∧ bb = .int .i64 20 ∧ w = wr) (fun _ _ _ => 0)
 case atStart => exact ⟨rfl, rfl, rfl⟩
 case round =>
  obtain ⟨rfl, rfl, rfl⟩ := hrel
  go_wp2_with (go_at_call 215; go_must (refine hi.mono ?_); rintro e9 w9 ⟨rfl, rfl⟩)
  go_loopw [6] (fun ss wr => ss = .int .i64 20 ∧ w = wr) (fun _ _ => 0)
  case atStart => exact ⟨rfl, rfl⟩
  case round =>
   obtain ⟨rfl, rfl⟩ := hrel
   go_wp2_with fail
   go_end0
   exact ⟨rfl, rfl⟩
theorem fM (f : Value) (w : World) : Calls Tryz.prog 140 #[.slice none 0 0, f] w fun e w' => e = .returned (.tuple #[]) ∧ w = w' := by
 have hc := jJ f w
 go_enter Tryz.func140, Tryz.ntmps140
 go_wp2_with (go_at_call 179; go_must (refine hc.mono ?_); rintro e9 w9 ⟨rfl, rfl⟩)
 go_end0
 exact ⟨rfl, rfl⟩
end
def oK (l r : List Jb) : Prop := r.length = l.length ∧ (∀ i, i < l.length → Sb.gZ aA l i l.length < l.length ∧ r[Sb.gZ aA l i l.length]! = l[i]!) ∧ r.Perm l ∧ r.Pairwise fun x y => aA y x = false
theorem oL {base : Nat} (v : Value) (l : List Jb) (w : World) (h : w.ownsRow base 94 10 v l.length (l.flatMap ai)) (hlen : l.length ≤ 1000) (hbase : base ≤ w.heap.size) :
 Calls Tryz.prog 140 #[v, .func (.func 141) #[] #[]] w fun e w' => e = .returned (.tuple #[]) ∧ ∃ r, oK l r ∧ w'.ownsRow base 94 10 v r.length (r.flatMap ai) ∧ Below base w w' := by
 by_cases hv : v = .slice none 0 0
 ·have hz : l.length = 0 := by
   rcases h.2 with ⟨_, h0⟩ | ⟨g, cap, cur, e0, _⟩
   ·exact h0
   ·rw [hv] at e0; cases e0
  have hz : l = [] := List.eq_nil_of_length_eq_zero hz
  subst hz
  subst hv
  refine (fM _ w).mono ?_
  rintro e w' ⟨rfl, rfl⟩
  exact ⟨rfl, [], ⟨rfl, fun i hi => by simp at hi, List.Perm.refl _, List.Pairwise.nil⟩, h, Below.refl _ _⟩
 ·obtain ⟨g, cap, rfl, hb, hlt, _, _, hH⟩ := lS h hv
  obtain ⟨r, hr, hrs, hpos, uI, uJ⟩ := Sb.oG (lt := aA) uH l
  have hts : (Sb.tagged l).toArray.size = l.length := by simp [Sb.dO]
  have vB : HoldsK dS 10 w g 0 (Sb.tagged l).toArray := by
   unfold HoldsK
   rw [qI]
   rw [show (Sb.tagged l).toArray.toList = Sb.tagged l from rfl, Sb.gp]
   exact hH
  have hc := iy (cap := cap) (d := (Sb.tagged l).toArray) 10 Tryz.isAgg94 Tryz.sizeOf94 qH (mJ g 0 _ w) vB hlt (by omega)
  rw [hts] at hc
  rw [vz, ← hr] at hc
  refine hc.mono ?_
  rintro e w' ⟨rfl, q, os, rfl⟩
  have hrl : (r.toList.map (·.1)).length = l.length := by simp [hrs]
  refine ⟨rfl, r.toList.map (·.1), ⟨hrl, fun i hi => ?_, uI, uJ⟩, ?_, ?_⟩
  ·obtain ⟨h1, h2⟩ := hpos i hi
   refine ⟨h1, ?_⟩
   rw [← h2]
   have h3 : Sb.gZ aA l i l.length < r.size := by omega
   rw [getElem!_pos r _ h3, getElem!_pos _ _ (by simpa using h3)]
   simp
  ·unfold sortWorldK putRowK
   rw [qI, hrl]
   exact nT (jZ (q := q) h (by rw [fJ, fJ, hrl])) os
  ·unfold sortWorldK putRowK
   exact below_grow (below_putRow (Below.refl _ _) hb) (by simpa [putRow, mapBlock, Sort.ahead] using hbase) os
theorem oM (v : Value) (l : List Jb) (w : World) (hr : af ai 10 w v l) (hl : l.length ≤ 1000) : Calls Tryz.prog 97 #[v] w fun e w' => ∃ (v' : Value) (r : List Jb), e = .returned v' ∧ af ai 10 w' v' r ∧ r.length = l.length ∧ r.Perm l ∧ r.Pairwise (fun x y => aA y x = false) ∧ Below w.heap.size w w' := by
 have hc := oI hr (by omega)
 have hso := fun (v : Value) (w1 : World) (h : w1.ownsRow w.heap.size 94 10 v l.length (l.flatMap ai)) (hb : w.heap.size ≤ w1.heap.size) => oL v l w1 h (by omega) hb
 clear hr
 replace hso := Lib.hid hso
 go_enter Tryz.func97, Tryz.ntmps97
 go_wp2_with fail
 go_at_call 139
 refine hc.mono ?_
 clear hc
 rintro e w1 ⟨v1, rfl, ho, hb⟩
 have hs := hso.out v1 w1 ho hb.size
 clear hso ho
 go_wp2_with fail
 go_at_call 140
 refine hs.mono ?_
 clear hs
 rintro e w2 ⟨rfl, r, ⟨h1, _, h2, h5⟩, h3, h4⟩
 have hfin : Hid (∃ (v' : Value) (r : List Jb), Ending.returned v1 = .returned v' ∧ af ai 10 w2 v' r ∧ r.length = l.length ∧ r.Perm l ∧ r.Pairwise (fun x y => aA y x = false) ∧ Below w.heap.size w w2) :=
  ⟨v1, r, rfl, af.bG h3 aH rfl rfl, h1, h2, h5, hb.trans h4⟩
 clear h1 h2 h3 h4 h5 hb
 go_wp2_with fail
 go_ret
 exact hfin.out
end Go.Proofs.YtfmpgdafnlehaaaGreat

namespace Go.Proofs.YtfmpgdafnlehaaaGreat
open Go.RowKit Go.Lib Go.Sort
theorem mK {W : World} {p : Nat} {x : Jb} (h : W.heap[p]? = some (.cells (ai x).toArray 94 (0, 0))) : ∀ j u, (ai x)[j]? = some u → W.cell? ⟨p, j, none⟩ = some u := by
 intro j u hj
 simp [World.cell?, h, hj]
end Go.Proofs.YtfmpgdafnlehaaaGreat

namespace Go.Proofs.YtfmpgdafnlehaaaGreat
open Go.RowKit Go.Sort Go.Lib Go.Shelf Put
def Jb.state (j : Jb) : Int := j.2.2.2.2.2.1
structure BV (T : TypeId) (pre : List Value) (w : World) (p : Nat) (v : Value) (L : List Jb) : Prop where
 cell : w.heap[p]? = some (.cells (pre ++ [v]).toArray T (0, 0))
 own : w.ownsRow 0 94 10 v L.length (L.flatMap ai)
abbrev TV := BV 188 [.bool true]
section
end
section
variable {T : TypeId} {pre : List Value} {w w' : World} {p g n cap : Nat} {v : Value} {L : List Jb}
theorem BV.lt (h : BV T pre w p v L) : p < w.heap.size := Put.lt_of_heap h.cell
theorem BV.kept (h : BV T pre w p v L) (hb : Below w.heap.size w w') : BV T pre w' p v L := ⟨by rw [hb.block p h.lt]; exact h.cell, Put.nU h.own hb⟩
theorem BV.row {m : Nat} (h : BV T pre w p (.slice (some ⟨g, 0, none⟩) m cap) L) : ib w g 0 L := by
 have hr := af.bG h.own aH rfl rfl
 refine ⟨(h.own.lt g rfl).2, fun i s j u hi hj => ?_⟩
 obtain ⟨ao, cap', e, _, _, q3⟩ := hr
 cases e
 obtain ⟨b, off, e1, _, q⟩ := q3 (by have := (List.getElem?_eq_some_iff.1 hi).1; omega)
 cases e1
 exact q i s j u hi hj
theorem BV.shape (h : BV T pre w p v L) (hL : 0 < L.length) : ∃ g cap, v = .slice (some ⟨g, 0, none⟩) L.length cap := by
 obtain ⟨ao, cap, rfl, hp⟩ := bM h.own
 obtain ⟨g, rfl⟩ := hp hL
 exact ⟨g, cap, rfl⟩
end
end Go.Proofs.YtfmpgdafnlehaaaGreat

namespace Go.Proofs.YtfmpgdafnlehaaaGreat
open Go.RowKit Go.Sort Go.Lib Go.Shelf Put
section
variable {w w' : World} {p : Nat} {v : Value} {L : List Jb}
theorem qJ (h : TV w p v L) : Calls Tryz.prog 142 #[.pointer (some ⟨p, 0, none⟩)] w fun e w' => e = .returned (.bool false) ∧ w = w' := by
 have c0 : w.cell? ⟨p, 0, none⟩ = some (.bool true) := by simp [World.cell?, h.cell]
 clear h
 go_enter Tryz.func142, Tryz.ntmps142
 go_wp2_with fail
 go_ret
 exact ⟨rfl, rfl⟩
theorem BV.c1 (h : TV w p v L) : w.cell? ⟨p, 1, none⟩ = some v := by simp [World.cell?, h.cell]
end
end Go.Proofs.YtfmpgdafnlehaaaGreat

namespace Go.Proofs.YtfmpgdafnlehaaaGreat
open Go.RowKit Go.Sort Go.Lib Go.Shelf Put
def enc1 (x : Int) : List Value := [.int .i64 x]
theorem oN (w : World) (b : Nat) (l : List Int) (hb : b = w.heap.size) (hl : l.length ≤ 1000) : af enc1 1 (w.alloc (.cells (l.flatMap enc1).toArray 3)) (.slice (some ⟨b, 0, none⟩) l.length l.length) l := by
 subst hb
 have hlen : (l.flatMap enc1).length = l.length * 1 := by
  clear hl
  induction l with
  | nil => rfl
  | cons a l ih => rw [List.flatMap_cons, List.length_append, ih, List.length_cons]; simp [enc1]; omega
 exact af.bG (base := w.heap.size) (e := 3) (cK rfl (Nat.le_refl _) hlen (by unfold maxLen; omega)) (fun _ => rfl) rfl rfl
section
variable {w w' : World} {p : Nat} {v : Value} {L : List Jb}
theorem oO (x : Int) {ps : List Int} (hr : af enc1 1 w v ps) : Calls Tryz.prog 182 #[v, .int .i64 x] w fun e w' => (∃ r : Int, e = .returned (.int .i64 r) ∧ (0 ≤ r ↔ x ∈ ps)) ∧ w = w' := by
 obtain ⟨ao, cap, rfl, q1, q2, q3⟩ := hr
 obtain ⟨n, hn⟩ : ∃ n, ps.length = n := ⟨_, rfl⟩
 have HQ : Hid (∀ i, i < n → ∃ b off, ao = some ⟨b, off, none⟩ ∧ w.cell? ⟨b, off + i, none⟩ = some (.int .i64 ps[i]!)) := fun i hi => by
  obtain ⟨b, off, e, _, hc⟩ := q3 (by omega)
  refine ⟨b, off, e, ?_⟩
  have := hc i _ 0 _ (by rw [List.getElem?_eq_getElem (by omega), getElem!_pos ps i (by omega)]) (show (enc1 ps[i]!)[0]? = some _ from rfl)
  simpa using this
 have wH : n ≤ 9223372036854775807 := by unfold maxLen at q2; omega
 have vC : cap ≤ 9223372036854775807 := by unfold maxLen at q2; omega
 clear q3
 rw [hn] at q1 ⊢
 replace hn := Lib.hid hn
 go_enter Tryz.func182, Tryz.ntmps182
 go_wp2_with fail
 go_loopw [8] (fun ii wr => ∃ (i : Nat), i ≤ n ∧ ii = .int .i64 i ∧ Hid (x ∉ ps.take i) ∧ w = wr) (fun ii _ => n - (intOf ii).toNat)
 case atStart => exact ⟨0, Nat.zero_le _, rfl, Lib.hid (by simp), rfl⟩
 case round =>
  obtain ⟨i, hin, rfl, hno, rfl⟩ := hrel
  by_cases hlt : i < n
  ·have b2 : (i : Int) < (n : Int) := by omega
   have wi : IntKind.i64.wrap ((i : Int) + 1) = (i : Int) + 1 := by rw [IntKind.wrap_i64]; omega
   obtain ⟨b, off, rfl, c⟩ := HQ.out i hlt
   have iA : i < ps.length := by have := hn.out; omega
   have hm : x ∈ ps.take (i + 1) ↔ x ∈ ps.take i ∨ x = ps[i]! := by
    rw [List.take_add_one, List.getElem?_eq_getElem iA, getElem!_pos ps i iA, Option.toList_some, List.mem_append, List.mem_singleton]
   have hmem : ps[i]! ∈ ps := by rw [getElem!_pos ps i iA]; exact List.getElem_mem _
   by_cases hx : x = ps[i]!
   ·have hin : Hid (x ∈ ps) := by show x ∈ ps; rw [hx]; exact hmem
    clear hm hmem
    rw [← hx] at c
    clear hx
    go_wp2_with fail
    go_ret
    refine ⟨⟨i, rfl, ?_⟩, rfl⟩
    exact ⟨fun _ => hin.out, fun _ => by omega⟩
   ·have d : (x == ps[i]!) = false := beq_eq_false_iff_ne.2 hx
    have uK : Hid (x ∉ ps.take (i + 1)) := by
     show ¬ _
     rw [hm]
     rintro (h | h)
     ·exact hno.out h
     ·exact hx h
    clear hm hmem hx hno
    generalize ps[i]! = y at *
    go_wp2_with fail
    go_roundw
    case rel => exact ⟨i + 1, by omega, by go_num, uK, trivial⟩
    case measure => simp [intOf]; omega
  ·obtain rfl : i = n := by omega
   have b2 : ¬ (i : Int) < (i : Int) := by omega
   go_wp2_with fail
   go_ret
   refine ⟨⟨-1, rfl, ?_⟩, rfl⟩
   have e1 : ps.take i = ps := List.take_of_length_le (by rw [hn.out]; exact Nat.le_refl _)
   have h2 := hno.out
   rw [e1] at h2
   exact ⟨fun h => by omega, fun h => absurd h h2⟩
theorem jK (x : Int) {ps : List Int} (hr : af enc1 1 w v ps) : Calls Tryz.prog 143 #[v, .int .i64 x] w fun e w' => e = .returned (.bool (decide (x ∈ ps))) ∧ w = w' := by
 have hi := oO x hr
 clear hr
 go_enter Tryz.func143, Tryz.ntmps143
 go_wp2_with (go_at_call 182; go_must (refine hi.mono ?_); rintro e w' ⟨⟨r, rfl, hd⟩, rfl⟩; replace hd := Lib.hid hd)
 go_ret
 exact ⟨by rw [← decide_eq_decide.2 hd.out]; rfl, rfl⟩
end
end Go.Proofs.YtfmpgdafnlehaaaGreat

namespace Go.Proofs.YtfmpgdafnlehaaaGreat
open Go.RowKit Go.Sort Go.Lib Go.Shelf Put
section
variable {w w' : World} {p : Nat} {v : Value} {L : List Jb}
theorem BV.uL (w : World) : TV (w.alloc (.cells #[.bool true, .slice none 0 0] 188)) w.heap.size (.slice none 0 0) [] :=
 ⟨heap_alloc_new w _, by simpa using World.ownsRow_nil _ 0 94 10⟩
theorem mM (w : World) : Calls Tryz.prog 86 #[] w fun e w' => e = .returned (.pointer (some ⟨w.heap.size, 0, none⟩)) ∧ w.alloc (.cells #[.bool true, .slice none 0 0] 188) = w' := by
 go_enter Tryz.func86, Tryz.ntmps86
 go_wp2_with fail
 go_ret
 exact ⟨rfl, rfl⟩
def iB (w : World) (l : List Jb) (e : Ending) (w' : World) : Prop :=
 ∃ v', e = .returned v' ∧ w'.ownsRow w.heap.size 94 10 v' l.length (l.flatMap ai) ∧ Below w.heap.size w w'
theorem uh (h : TV w p v L) (hL : L.length ≤ 1000) {sv : Value} {ps : List Int} (hr : af enc1 1 w sv ps) : Calls Tryz.prog 98 #[.pointer (some ⟨p, 0, none⟩), sv] w (iB w (L.filter fun j => decide (j.state ∈ ps))) := by
 have c1 := h.c1
 have hno := qJ h
 have zE := rR
 obtain ⟨i0, hi0, hz0, hz1, hz2⟩ := info_parts kK
 obtain ⟨k, hk⟩ : ∃ k, k = 10 := ⟨_, rfl⟩
 rw [← hk] at zE
 replace hk := Lib.hid hk
 obtain ⟨n, hn⟩ : ∃ n, L.length = n := ⟨_, rfl⟩
 have HQ : Hid (0 < n → ∃ g cap, v = .slice (some ⟨g, 0, none⟩) n cap ∧ ib w g 0 L) := fun hp => by
  obtain ⟨g, cap, e⟩ := h.shape (by omega)
  subst e
  exact ⟨g, cap, by rw [hn], h.row⟩
 have hle := pG h.own
 obtain ⟨ao, cap, rfl, _⟩ := bM h.own
 rw [hn] at hL hle c1
 replace hn := Lib.hid hn
 clear h
 replace hr := Lib.hid hr
 go_enter Tryz.func98, Tryz.ntmps98
 go_wp2_with (go_at_call 142; go_must (refine hno.mono ?_); rintro e w' ⟨rfl, rfl⟩)
 clear hno
 go_loopw [5, 15] (fun oo ii wr => ∃ (i : Nat), i ≤ n ∧ ii = .int .i64 i ∧ wr.ownsRow w.heap.size 94 10 oo ((L.take i).filter fun j => decide (j.state ∈ ps)).length (((L.take i).filter fun j => decide (j.state ∈ ps)).flatMap ai) ∧ Below w.heap.size w wr) (fun _ ii _ => n - (intOf ii).toNat)
 case atStart => exact ⟨0, Nat.zero_le _, rfl, by simpa using World.ownsRow_nil w w.heap.size 94 10, Below.refl _ _⟩
 case round =>
  obtain ⟨i, hin, rfl, hown, hbr⟩ := hrel
  by_cases hlt : i < n
  ·have b2 : (i : Int) < (n : Int) := by omega
   have wi : IntKind.i64.wrap ((i : Int) + 1) = (i : Int) + 1 := by rw [IntKind.wrap_i64]; omega
   obtain ⟨g, cap2, e2, hJ⟩ := HQ.out (by omega)
   cases e2
   have iA : i < L.length := by have := hn.out; omega
   have uM := hJ.below hbr
   have LI := uM.load hk.out iA
   simp only [Nat.zero_add] at LI
   have lI := aH L[i]!
   have st : Sem.run Tryz.prog (storeCells ⟨wr.heap.size, 0, none⟩ (ai L[i]!) 0) (wr.alloc (.cells #[.int .i64 0, .int .i64 0, .int .i64 0, .int .i64 0, .int .i64 0, .int .i64 0, .int .i64 0, .int .i64 0, .int .i64 0, .int .u64 0] 94)) = .ok () (wr.alloc (.cells (ai L[i]!).toArray 94)) := lQ wr wr.heap.size (ai L[i]!) (ai default) 94 rfl (by rw [aH, aH]) (dU _)
   rw [← hk.out] at lI
   have hb1 : Below w.heap.size w (wr.alloc (.cells (ai L[i]!).toArray 94)) := hbr.alloc hbr.size _
   have vP := hb1.size
   have jc := Lib.hid (mK (heap_alloc_new wr (.cells (ai L[i]!).toArray 94)))
   have k5 := jc.out 5 _ rfl
   have hown1 := hown.alloc (.cells (ai L[i]!).toArray 94)
   have hct := jK (L[i]!).state (hr.out.below hb1)
   obtain ⟨X, hX⟩ : ∃ X, X = (L.take i).filter fun j => decide (j.state ∈ ps) := ⟨_, rfl⟩
   have vD : X.length ≤ 1000 := by rw [hX]; exact Nat.le_trans (List.length_filter_le _ _) (by rw [List.length_take]; omega)
   rw [← hX] at hown hown1
   have HE : Hid ((L.take (i + 1)).filter (fun j => decide (j.state ∈ ps)) = if decide ((L[i]!).state ∈ ps) = true then X ++ [L[i]!] else X) := by
    show _ = _
    rw [hX]
    split
    ·exact oH iA ‹_›
    ·rename_i hq
     exact qw iA (Bool.eq_false_iff.2 hq)
   replace hX := Lib.hid hX
   replace hk := hk.out
   have hsz : w.heap.size ≤ wr.heap.size := hbr.size
   clear hJ uM hbr hown
   generalize hy : L[i]! = y at *
   replace hy := Lib.hid hy
   have es : y.2.2.2.2.2.1 = y.state := rfl
   rw [es] at k5
   clear es
   generalize y.state = s at *
   rcases Bool.eq_false_or_eq_true (decide (s ∈ ps)) with hd | hd
   ·rw [hd] at hct
    have HE2 := HE.out
    rw [if_pos hd] at HE2
    replace HE2 := Lib.hid HE2
    replace hd := Lib.hid hd
    clear HE
    generalize hcI : ai y = cI at *
    replace hcI := Lib.hid hcI
    generalize hw1 : wr.alloc (.cells cI.toArray 94) = w1 at *
    replace hw1 := Lib.hid hw1
    replace hk := Lib.hid hk
    go_wp2_with fail
    go_at_call 143
    refine hct.mono ?_
    clear hct
    rintro e w5 ⟨rfl, rfl⟩
    clear st LI lI
    obtain rfl := hk.out
    have uN := hcI.out
    clear hcI
    obtain ⟨x1, x2, x3, x4, x5, x6, x7, x8, x9, x0⟩ := y
    subst uN
    have k0 := jc.out 0 _ rfl
    have k1 := jc.out 1 _ rfl
    have k2 := jc.out 2 _ rfl
    have k3 := jc.out 3 _ rfl
    have k4 := jc.out 4 _ rfl
    have k6 := jc.out 6 _ rfl
    have k7 := jc.out 7 _ rfl
    have k8 := jc.out 8 _ rfl
    have k9 := jc.out 9 _ rfl
    have vE := jc.out 5 _ rfl
    clear k5
    (try simp only [ai])
    go_wp2_with (at_builtin; go_must (refine wpList_append_own _ rfl (.tmp 23) (.tmp 25) 115 rfl w.heap.size 94 i0 (.agg (ai default).toArray) 10 80 Tryz.underlying115 hi0 hz0 hz1 hz2 rfl (by decide) u5 X.length (X.flatMap ai) rfl (hown1.alloc _) ⟨w1.heap.size, 0, none⟩ 1 1 (ai (x1, x2, x3, x4, x5, x6, x7, x8, x9, x0)) rfl rfl ?c0 ?c1 ?c2 ?c3 ?c4 ?c5))
    case c0 => exact fun _ _ h => h
    case c1 => exact dU _
    case c2 => unfold maxLen; omega
    case c3 => omega
    case c4 => (have hh : ∀ o, (w1.alloc o).heap.size = w1.heap.size + 1 := fun o => by simp); first | omega | (rw [hh]; omega)
    case c5 =>
     intro v6 w7 qK qL _
     have mO : Below w.heap.size w w7 := (hb1.alloc hb1.size _).grown qL (by simp; omega) (fun k hk => (hown1.lt k hk).1)
     have qM : Hid (w7.ownsRow w.heap.size 94 10 v6 ((L.take (i + 1)).filter fun j => decide (j.state ∈ ps)).length (((L.take (i + 1)).filter fun j => decide (j.state ∈ ps)).flatMap ai)) := by
      show World.ownsRow _ _ _ _ _ _ _
      rw [HE2.out, List.length_append, List.flatMap_append]
      simp only [List.length_singleton, List.flatMap_cons, List.flatMap_nil, List.append_nil]
      exact qK
     clear k0 k1 k2 k3 k4 vE k6 k7 k8 k9 qK qL hown1 hb1
     go_wp2_with fail
     go_roundw
     case rel => exact ⟨i + 1, by omega, by go_num, qM.out, mO⟩
     case measure => simp [intOf]; omega
   ·rw [hd] at hct
    have HE2 := HE.out
    rw [if_neg (by rw [hd]; decide)] at HE2
    have qM : Hid ((wr.alloc (.cells (ai y).toArray 94)).ownsRow w.heap.size 94 10 u5 ((L.take (i + 1)).filter fun j => decide (j.state ∈ ps)).length (((L.take (i + 1)).filter fun j => decide (j.state ∈ ps)).flatMap ai)) := by
     show World.ownsRow _ _ _ _ _ _ _
     rw [HE2]
     exact hown1
    replace hd := Lib.hid hd
    clear HE HE2 hown1 jc
    generalize ai y = cI at *
    generalize hw1 : wr.alloc (.cells cI.toArray 94) = w1 at *
    replace hw1 := Lib.hid hw1
    replace hk := Lib.hid hk
    go_wp2_with (go_at_call 143; go_must (refine hct.mono ?_); rintro e w5 ⟨rfl, rfl⟩)
    go_roundw
    case rel => exact ⟨i + 1, by omega, by go_num, qM.out, hb1⟩
    case measure => simp [intOf]; omega
  ·obtain rfl : i = n := by omega
   have b2 : ¬ (i : Int) < (i : Int) := by omega
   have e1 : L.take i = L := List.take_of_length_le (by rw [hn.out]; exact Nat.le_refl _)
   rw [e1] at hown
   have hfin : Hid (iB w (L.filter fun j => decide (j.state ∈ ps)) (.returned u5) wr) := ⟨u5, rfl, hown, hbr⟩
   clear hown e1
   go_wp2_with fail
   go_ret
   exact hfin.out
theorem kN (h : TV w p v L) (hL : L.length ≤ 1000) : Calls Tryz.prog 62 #[.pointer (some ⟨p, 0, none⟩)] w fun e w' => ∃ (v' : Value) (r : List Jb), e = .returned v' ∧ af ai 10 w' v' r ∧ r.Perm (L.filter fun j => decide (j.state = 1)) ∧ r.Pairwise (fun x y => aA y x = false) ∧ Below w.heap.size w w' := by
 have hb1 := (Below.refl w.heap.size w).alloc (Nat.le_refl _) (.cells #[.int .i64 1] 3)
 have hr : af enc1 1 (w.alloc (.cells #[.int .i64 1] 3)) (.slice (some ⟨w.heap.size, 0, none⟩) 1 1) [1] := oN w w.heap.size [1] rfl (by decide)
 have hI := uh (h.kept hb1) hL hr
 have ef : (L.filter fun j => decide (j.state ∈ ([1] : List Int))) = L.filter fun j => decide (j.state = 1) := by
  congr 1
  funext j
  simp
 rw [ef] at hI
 have hF : (L.filter fun j => decide (j.state = 1)).length ≤ 1000 := Nat.le_trans (List.length_filter_le _ _) hL
 clear ef h hr
 generalize (L.filter fun j => decide (j.state = 1)) = F at *
 replace hb1 := Lib.hid hb1
 go_enter Tryz.func62, Tryz.ntmps62
 go_wp2_with fail
 go_at_call 98
 refine hI.mono ?_
 clear hI
 rintro e w2 ⟨v2, rfl, ho, hb⟩
 have hs := oM v2 F w2 (af.bG ho aH rfl rfl) hF
 have hb2 := hb1.out.trans (hb.mono hb1.out.size)
 replace hb2 := Lib.hid hb2
 clear ho hb hb1
 go_wp2_with fail
 go_at_call 97
 refine hs.mono ?_
 clear hs
 rintro e w3 ⟨v3, r, rfl, h1, _, h2, h3, h4⟩
 have hfin : Hid (∃ (v' : Value) (r : List Jb), Ending.returned v3 = .returned v' ∧ af ai 10 w3 v' r ∧ r.Perm F ∧ r.Pairwise (fun x y => aA y x = false) ∧ Below w.heap.size w w3) := ⟨v3, r, rfl, h1, h2, h3, hb2.out.trans (h4.mono hb2.out.size)⟩
 clear h1 h2 h3 h4 hb2
 go_wp2_with fail
 go_ret
 exact hfin.out
end
end Go.Proofs.YtfmpgdafnlehaaaGreat

namespace Go.Proofs.YtfmpgdafnlehaaaGreat
def ofK (f : Nat → Bool) : Nat → Nat
 | 0 => 0
 | k + 1 => ofK f k + (if f k then 2 ^ k else 0)
theorem nK (f : Nat → Bool) (k : Nat) : ofK f k < 2 ^ k := by
 induction k with
 | zero => simp [ofK]
 | succ k ih =>
   simp only [ofK, Nat.pow_succ]
   split <;> omega
theorem jL (f : Nat → Bool) (k i : Nat) : (ofK f k).testBit i = (decide (i < k) && f i) := by
 induction k with
 | zero => simp [ofK]
 | succ k ih =>
   have hlt := nK f k
   have e : ofK f (k + 1) = 2 ^ k * (if f k then 1 else 0) + ofK f k := by
    simp only [ofK]
    split <;> omega
   rw [e, Nat.testBit_two_pow_mul_add _ hlt, ih]
   by_cases h : i < k
   ·simp [h, show i < k + 1 by omega]
   ·by_cases h2 : i = k
    ·subst h2
     simp
     cases f i <;> rfl
    ·have : (if f k = true then 1 else 0).testBit (i - k) = false := by
      have h3 : 0 < i - k := by omega
      split
      ·exact Nat.testBit_lt_two_pow (Nat.one_lt_two_pow (by omega))
      ·simp
     simp [this, h, show ¬ i < k + 1 by omega]
def ed (f : Nat → Bool) : Nat := ofK f 64
theorem sj (f : Nat → Bool) : ed f < 18446744073709551616 := nK f 64
theorem dA (f : Nat → Bool) (i : Nat) : (ed f).testBit i = (decide (i < 64) && f i) := jL f 64 i
theorem oP {u i : Nat} (hu : u < 18446744073709551616) (hi : 64 ≤ i) : u.testBit i = false :=
 Nat.testBit_lt_two_pow (Nat.lt_of_lt_of_le hu (show 2 ^ 64 ≤ 2 ^ i from Nat.pow_le_pow_right (by decide) hi))
theorem jM {f : Nat → Bool} {u : Nat} (hu : u < 18446744073709551616) (h : ∀ i, i < 64 → f i = u.testBit i) : ed f = u := by
 apply Nat.eq_of_testBit_eq
 intro i
 rw [dA]
 by_cases hi : i < 64
 ·simp [hi, h i hi]
 ·rw [oP hu (Nat.le_of_not_lt hi)]; simp [hi]
theorem mP {f g : Nat → Bool} (h : ∀ i, i < 64 → f i = g i) : ed f = ed g :=
 jM (sj g) fun i hi => by rw [dA, h i hi]; simp [hi]
end Go.Proofs.YtfmpgdafnlehaaaGreat

namespace Go.Proofs.YtfmpgdafnlehaaaGreat
open Go.RowKit
theorem qN : ∀ m : Fin 65, IntKind.u64.wrap (IntKind.u64.wrap (2 ^ m.val) - 1) = ((2 ^ m.val - 1 : Nat) : Int) := by decide +kernel
theorem su (n : Int) (w : World) (hn : -9223372036854775808 ≤ n ∧ n ≤ 9223372036854775807) :
 Calls Tryz.prog 127 #[.int .i64 n] w fun e w' => e = .returned (.int .u64 (ed fun i => decide ((i : Int) < n))) ∧ w = w' := by
 go_enter Tryz.func127, Tryz.ntmps127
 go_wp2
 go_ret
 refine ⟨congrArg (fun n => Ending.returned (.int .u64 n)) ?_, rfl⟩
 have hm : (max 0 (min n 64)).toNat < 65 := by omega
 refine (qN ⟨(max 0 (min n 64)).toNat, hm⟩).trans ?_
 have hl : 2 ^ (max 0 (min n 64)).toNat - 1 < 18446744073709551616 := by
  have : 2 ^ (max 0 (min n 64)).toNat ≤ 2 ^ 64 := Nat.pow_le_pow_right (by decide) (by omega)
  have h2 : 0 < 2 ^ (max 0 (min n 64)).toNat := Nat.pow_pos (by decide)
  simp only [Nat.reducePow] at this
  omega
 have e := jM (f := fun i => decide ((i : Int) < n)) hl fun i hi => by
  rw [Nat.testBit_two_pow_sub_one, Bool.eq_iff_iff]
  simp
  omega
 rw [e]
end Go.Proofs.YtfmpgdafnlehaaaGreat

namespace Go.Proofs.YtfmpgdafnlehaaaGreat
open Go.RowKit
def kP (l : List Int) : Nat → Bool := fun i => decide (i < l.length)
def qO (l : List Int) : Nat → Bool := fun i => decide (l.getD i 0 = 2) || decide (l.getD i 0 = 3)
def qP (l : List Int) : Nat → Bool := fun i => decide (l.getD i 0 = 3) || decide (l.getD i 0 = 4)
theorem jh {f : Nat → Bool} : ed f = 0 ↔ ∀ i, i < 64 → f i = false := by
 constructor
 ·intro h i hi
  have := congrArg (fun x => x.testBit i) h
  simp only [Nat.zero_testBit] at this
  rw [dA] at this
  simpa [hi] using this
 ·intro h
  exact jM (by decide) fun i hi => by rw [h i hi, Nat.zero_testBit]
section
end
end Go.Proofs.YtfmpgdafnlehaaaGreat

namespace Go.Proofs.YtfmpgdafnlehaaaGreat
open Go.RowKit Go.Lib Go.Sort
theorem iC {w : World} {p : Nat} {o : Obj} (h : w.heap[p]? = some o) : p < w.heap.size := by
 rcases Nat.lt_or_ge p w.heap.size with h' | h'
 ·exact h'
 ·rw [Array.getElem?_eq_none h'] at h; cases h
def T3 (w : World) (p : Nat) (a u b : Nat) : Prop := w.heap[p]? = some (.cells #[.int .u64 a, .int .u64 u, .int .u64 b] 181 (0, 0))
def TW (w : World) (p : Nat) (l : List Int) : Prop := T3 w p (ed (kP l)) (ed (qO l)) (ed (qP l))
section
variable {w w' : World} {p a u b : Nat} {l : List Int}
theorem T3.kept (h : T3 w p a u b) (hb : Below w.heap.size w w') : T3 w' p a u b := by
 unfold T3 at *
 rw [hb.block p (iC h)]
 exact h
end
end Go.Proofs.YtfmpgdafnlehaaaGreat

namespace Go.Proofs.YtfmpgdafnlehaaaGreat
open Go.RowKit Go.Lib Go.Sort
section
variable {w w' : World} {p : Nat} {l : List Int}
theorem kQ (n i : Nat) : (List.replicate n (1 : Int)).getD i 0 = if i < n then 1 else 0 := by
 by_cases hi : i < n
 ·simp [List.getD_eq_getElem?_getD, hi]
 ·simp [List.getD_eq_getElem?_getD, hi]
theorem qQ (n : Nat) : (ed fun i => decide ((i : Int) < (n : Int))) = ed (kP (List.replicate n 1)) := by
 refine mP fun i _ => ?_
 unfold kP
 rw [List.length_replicate, Bool.eq_iff_iff]
 simp
theorem qR (n : Nat) : ed (qO (List.replicate n 1)) = 0 := jh.2 fun i _ => by
 unfold qO
 rw [kQ]
 split <;> simp
theorem qU (n : Nat) : ed (qP (List.replicate n 1)) = 0 := jh.2 fun i _ => by
 unfold qP
 rw [kQ]
 split <;> simp
def sO (n : Nat) (w : World) (e : Ending) (w' : World) : Prop := e = .returned (.tuple #[.pointer (some ⟨w.heap.size, 0, none⟩), .int .i64 0]) ∧ TW w' w.heap.size (List.replicate n 1) ∧ Below w.heap.size w w'
theorem kR (n : Nat) (w : World) (h1 : 1 ≤ n) (h2 : n ≤ 64) : Calls Tryz.prog 84 #[.int .i64 n] w (sO n w) := by
 have ha := su (n : Int) w (by omega)
 rw [qQ] at ha
 have hg : Hid (sO n w (.returned (.tuple #[.pointer (some ⟨w.heap.size, 0, none⟩), .int .i64 0])) (w.alloc (.cells #[.int .u64 (ed (kP (List.replicate n 1))), .int .u64 0, .int .u64 0] 181))) := by
  refine ⟨rfl, ?_, (Below.refl _ _).alloc (Nat.le_refl _) _⟩
  unfold TW
  rw [qR, qU]
  exact heap_alloc_new w _
 generalize ed (kP (List.replicate n 1)) = A at *
 have b1 : ¬ ((n : Int) < 1) := by omega
 have b2 : ¬ (64 < (n : Int)) := by omega
 go_enter Tryz.func84, Tryz.ntmps84
 go_wp2_with (go_at_call 127; go_must (refine ha.mono ?_); rintro e w' ⟨rfl, rfl⟩)
 go_ret2
 exact hg.out
end
end Go.Proofs.YtfmpgdafnlehaaaGreat

namespace Go.Proofs.YtfmpgdafnlehaaaGreat
open Go.RowKit Go.Sort Go.Lib
theorem aY {w w' : World} {base : Nat} {e : TypeId} {size : Nat} {v : Value} {n : Nat} {xs : List Value} (h : w.ownsRow base e size v n xs) (hb : Below w.heap.size w w') : w'.ownsRow base e size v n xs :=
 ownsRow_below h hb fun k hk => (h.lt k hk).2
def enc2 (x : Int × Int) : List Value := [.int .i64 x.1, .int .i64 x.2]
def fO (l : List (Int × Int)) : List Value := l.flatMap enc2
theorem kS (l : List (Int × Int)) : (fO l).length = l.length * 2 := by
 induction l with
 | nil => rfl
 | cons a l ih => show (enc2 a ++ fO l).length = _; rw [List.length_append, ih, List.length_cons]; simp [enc2]; omega
theorem kT (L : List (Int × Int)) : ∀ u ∈ fO L, u.oneCell' = true := by
 intro u hu
 obtain ⟨x, _, hx⟩ := List.mem_flatMap.1 hu
 simp [enc2] at hx
 rcases hx with rfl | rfl <;> rfl
section
end
def PW (w : World) (p g : Nat) (L : List (Int × Int)) (ah : Int) : Prop :=
 ∃ cap, w.heap[p]? = some (.cells #[.slice (some ⟨g, 0, none⟩) L.length cap, .int .i64 ah] 186 (0, 0)) ∧ w.ownsRow 0 183 2 (.slice (some ⟨g, 0, none⟩) L.length cap) L.length (fO L)
theorem bV {w : World} {p : Nat} {o : Obj} (h : w.heap[p]? = some o) : p < w.heap.size := by
 rcases Nat.lt_or_ge p w.heap.size with h' | h'
 ·exact h'
 ·rw [Array.getElem?_eq_none h'] at h; cases h
theorem gH {w : World} {p q : Nat} {a b : Array Value} {s t : TypeId} {x y : Nat × Nat} (h : w.heap[p]? = some (.cells a s x)) (h' : w.heap[q]? = some (.cells b t y)) (hne : s ≠ t) : p ≠ q := by
 intro e
 subst e
 rw [h] at h'
 injection h' with h'
 injection h' with _ h3
 exact hne h3
theorem oQ {w : World} {base g n cap sz : Nat} {e : TypeId} {xs : List Value} (h : w.ownsRow base e sz (.slice (some ⟨g, 0, none⟩) n cap) n xs) : ∃ cur, w.heap[g]? = some (.cells cur e (0, 0)) ∧ n ≤ cap ∧ cap ≤ maxLen ∧ cur.size = cap * sz ∧ cur.toList.take (n * sz) = xs := by
 rcases h.2 with ⟨e0, _⟩ | ⟨g', cap', cur, e0, _, hg, hn, hm, hs, ht⟩
 ·cases e0
 ·cases e0
  exact ⟨cur, hg, hn, hm, hs, ht⟩
section
variable {w w' : World} {p g : Nat} {L : List (Int × Int)} {ah : Int}
structure sw (w : World) (p g : Nat) (L : List (Int × Int)) (ah : Int) (cap : Nat) : Prop where
 obj : w.heap[p]? = some (.cells #[.slice (some ⟨g, 0, none⟩) L.length cap, .int .i64 ah] 186 (0, 0))
 own : w.ownsRow 0 183 2 (.slice (some ⟨g, 0, none⟩) L.length cap) L.length (fO L)
 c0 : w.cell? ⟨p, 0, none⟩ = some (.slice (some ⟨g, 0, none⟩) L.length cap)
 c1 : w.cell? ⟨p, 1, none⟩ = some (.int .i64 ah)
 fz : ∀ j, w.frozen? ⟨p, j, none⟩ = false
 pl : p < w.heap.size
 gl : g < w.heap.size
 pg : p ≠ g
 lc : L.length ≤ cap
 cm : cap ≤ maxLen
theorem PW.facts (h : PW w p g L ah) : ∃ cap, sw w p g L ah cap := by
 obtain ⟨cap, h1, h2⟩ := h
 obtain ⟨cur, hg, hn, hm, _, _⟩ := oQ h2
 refine ⟨cap, h1, h2, ?_, ?_, fun j => ?_, bV h1, bV hg, gH h1 hg (by decide), hn, hm⟩
 ·simp [World.cell?, h1]
 ·simp [World.cell?, h1]
 ·simp [World.frozen?, h1]
theorem PW.kept (h : PW w p g L ah) (hb : Below w.heap.size w w') : PW w' p g L ah := by
 obtain ⟨cap, h1, h2⟩ := h
 exact ⟨cap, by rw [hb.block p (bV h1)]; exact h1, aY h2 hb⟩
theorem dB (h : PW w p g L ah) (hp : 0 < L.length) :
 Calls Tryz.prog 133 #[.pointer (some ⟨p, 0, none⟩)] w fun e w' => e = .returned (.bool false) ∧ w = w' := by
 obtain ⟨cap, F⟩ := h.facts
 have c0 := F.c0
 have hne : ((L.length : Int) == 0) = false := beq_eq_false_iff_ne.2 (by omega)
 clear F h
 go_enter Tryz.func133, Tryz.ntmps133
 go_wp2_with fail
 go_ret
 exact ⟨rfl, rfl⟩
theorem jN (h : PW w p g L ah) (hp : 0 < L.length) :
 Calls Tryz.prog 90 #[.pointer (some ⟨p, 0, none⟩)] w fun e w' => e = .returned (.int .i64 ah) ∧ w = w' := by
 have hn := dB h hp
 obtain ⟨cap, F⟩ := h.facts
 have c1 := F.c1
 clear F h
 go_enter Tryz.func90, Tryz.ntmps90
 go_wp2_with (go_at_call 133; go_must (refine hn.mono ?_); rintro e w' ⟨rfl, rfl⟩)
 go_ret
 exact ⟨rfl, rfl⟩
end
end Go.Proofs.YtfmpgdafnlehaaaGreat

namespace Go.Proofs.YtfmpgdafnlehaaaGreat
open Go.RowKit Go.Sort Go.Lib
theorem jO : (Tryz.prog.info? 183).map (fun i => (i.zero, i.size, i.bytes)) = some (some (.agg #[.int .i64 0, .int .i64 0]), 2, 16) := by kernel_rfl
theorem mQ {w : World} {base : Nat} {e : TypeId} {sz n : Nat} {v : Value} {xs : List Value} (h : w.ownsRow base e sz v n xs) (hn : 0 < n) : ∃ g cap, v = .slice (some ⟨g, 0, none⟩) n cap ∧ base ≤ g := by
 rcases h.2 with ⟨_, e0⟩ | ⟨g, cap, _, e, hb, _⟩
 ·omega
 ·exact ⟨g, cap, e, hb⟩
section
variable {w : World} {g : Nat} {L : List (Int × Int)} {cap : Nat}
theorem mR (ho : w.ownsRow 0 183 2 (.slice (some ⟨g, 0, none⟩) L.length cap) L.length (fO L)) (hp : 0 < L.length) (hl : L.length ≤ 1000) :
 Calls Tryz.prog 210 #[.slice (some ⟨g, 0, none⟩) L.length cap] w fun e w' => ∃ g' cap', e = .returned (.slice (some ⟨g', 0, none⟩) L.length cap') ∧ w.heap.size ≤ g' ∧ w'.ownsRow 0 183 2 (.slice (some ⟨g', 0, none⟩) L.length cap') L.length (fO L) ∧ Below w.heap.size w w' := by
 obtain ⟨i0, hi0, hz0, hz1, hz2⟩ := info_parts jO
 have hgw : g < w.heap.size := (ho.lt g rfl).2
 have hown : (w.alloc (.cells #[] 183)).ownsRow w.heap.size 183 2 (.slice (some ⟨w.heap.size, 0, none⟩) 0 0) 0 [] := cK (vs := []) rfl (Nat.le_refl _) rfl (Nat.zero_le _)
 have hcell : ∀ j u, (fO L)[j]? = some u → (w.alloc (.cells #[] 183)).cell? ((⟨g, 0, none⟩ : Addr).add j) = some u := fun j u hj => by
  have := ho.cells (g := g) rfl j u hj
  rw [Go.WideShapes.add_plain] at this ⊢
  rw [World.cell?_alloc_lt _ _ _ hgw]
  exact this
 have hnil : ∀ w : World, (binOp .eql 184 (.slice (some ⟨g, 0, none⟩) L.length cap) (.slice none 0 0)).run Tryz.prog w = .ok (.bool false) w := fun w => Lib.run_eql_slice_nil w _ _ _ _ _ _ _ Tryz.underlying184
 go_enter Tryz.func210, Tryz.ntmps210
 go_wp2_with (at_builtin; go_must (refine wpList_append_own _ rfl (.tmp 5) (.tmp 6) 184 rfl w.heap.size 183 i0 (.agg #[.int .i64 0, .int .i64 0]) 2 16 Tryz.underlying184 hi0 hz0 hz1 hz2 rfl (by decide) (.slice (some ⟨w.heap.size, 0, none⟩) 0 0) 0 [] rfl hown ⟨g, 0, none⟩ L.length cap (fO L) rfl (kS L) ?c0 ?c1 ?c2 ?c3 ?c4 ?c5))
 case c0 => exact hcell
 case c1 => exact kT L
 case c2 => unfold maxLen; omega
 case c3 => omega
 case c4 => simp
 case c5 =>
  intro v' w2 hown3 hgrow _
  have hb2 : Below w.heap.size w w2 := ((Below.refl _ w).alloc (Nat.le_refl _) _).grown hgrow (by simp) (fun q hq => by cases hq; exact Nat.le_refl _)
  clear hcell hown hgrow ho
  obtain ⟨g', cap', rfl, hg'⟩ := mQ hown3 (by omega)
  go_wp2_with fail
  go_ret
  exact ⟨g', cap', by go_num, hg', iJ hown3 (Nat.zero_le _), hb2⟩
end
section
variable {w : World} {p g : Nat} {L : List (Int × Int)} {ah : Int}
theorem iN (h : PW w p g L ah) (hp : 0 < L.length) (hl : L.length ≤ 1000) :
 Calls Tryz.prog 171 #[.pointer (some ⟨p, 0, none⟩)] w fun e w' => ∃ g' cap', e = .returned (.slice (some ⟨g', 0, none⟩) L.length cap') ∧ w.heap.size ≤ g' ∧ w'.ownsRow 0 183 2 (.slice (some ⟨g', 0, none⟩) L.length cap') L.length (fO L) ∧ Below w.heap.size w w' := by
 have hn := dB h hp
 obtain ⟨cap, F⟩ := h.facts
 have c0 := F.c0
 have hc := mR F.own hp hl
 clear F h
 go_enter Tryz.func171, Tryz.ntmps171
 go_wp2_with (go_at_call 133; go_must (refine hn.mono ?_); rintro e w' ⟨rfl, rfl⟩)
 go_at_call 210
 refine hc.mono ?_
 clear hc hn
 rintro e w' ⟨g', cap', rfl, h1, h2, h3⟩
 clear c0
 go_wp2_with fail
 go_ret
 exact ⟨g', cap', by go_num, h1, h2, h3⟩
end
end Go.Proofs.YtfmpgdafnlehaaaGreat

namespace Go.Proofs.YtfmpgdafnlehaaaGreat
open Go.RowKit Go.Sort Go.Lib
theorem oU : Tryz.prog.follows .mixedOrders = true := by kernel_rfl
section
variable {w : World} {p g : Nat} {L : List (Int × Int)} {ah now : Int} {f : Int → Int}
theorem jP (h : PW w p g L ah) (hp : 0 < L.length) (hl : L.length ≤ 1000) :
 Calls Tryz.prog 128 #[.pointer (some ⟨p, 0, none⟩)] w fun e w' => ∃ p' g' : Nat, e = .returned (.pointer (some ⟨p', 0, none⟩)) ∧ PW w' p' g' L ah ∧ w.heap.size ≤ p' ∧ w.heap.size ≤ g' ∧ Below w.heap.size w w' := by
 have hn := dB h hp
 have kG := oU
 go_enter Tryz.func128, Tryz.ntmps128
 go_wp2_with (go_at_call 133; go_must (refine hn.mono ?_); rintro e w' ⟨rfl, rfl⟩)
 refine Reg2.tL 6 13 [[],[gW],[fT,fT],[fT,fT,gW],[fT,fT,gW,gW],[fT,fT,gW,gW,gW]] [0, 1, 0, 0, 0, 1]
  [.pure, .minor (Nat × Nat) (0, 0) (fun x => .slice (some ⟨x.1, 0, none⟩) L.length x.2) (fun x W => w.heap.size ≤ x.1 ∧ W.ownsRow 0 183 2 (.slice (some ⟨x.1, 0, none⟩) L.length x.2) L.length (fO L)), .pure, .pure, .pure, .mU (.int .i64 ah)]
  (fun W => Below w.heap.size w W) (fun _ _ => True) (fun _ _ => False) (by kernel_rfl) (by kernel_rfl) rfl rfl (fun _ _ _ _ h => h) ?_ ?_ ?_ ?_ ?_ ?_
 ·intro w1 w2 he hb; exact hb.trans (he.mono hb.size)
 ·intro _ _ h; exact h.elim
 ·refine ⟨trivial, ⟨?_, ?_⟩, trivial, trivial, trivial, ⟨?_, ?_⟩, trivial⟩
  all_goals (first | exact fun _ _ _ _ h => h | exact fun _ _ _ h => h.elim | exact fun _ w1 w2 he hx => ⟨hx.1, aY hx.2 he⟩)
 ·exact (Below.refl _ _).drew
 ·exact trivial
 dsimp only [Reg2.mk, List.zip, List.zipWith, List.take]
 repeat (refine' Reg2.dK _ (by rfl) (fun wz => ?_) ?_; rotate_left; (go_simp; first | rfl | rw [if_neg (by omega)]); simp only [Act.put, xA, xB, xC]; (try simp only [xD]); (try simp only [xE]))
 refine Reg2.pm (fun wz hI hF => ?_) (fun x1 => ?_) (by rfl)
 ·go_wp2_with (go_at_call 171; go_must (refine (iN (h.kept hI) hp hl).mono ?_); rintro e w1 ⟨g1, uO, rfl, h1, h2, h3⟩)
  exact ⟨_, rfl, ⟨(g1, uO), rfl, Nat.le_trans hI.size h1, h2⟩, h3⟩
 simp only [Act.put, xA, xB, xC, xD, xE, id]
 repeat (refine' Reg2.dK _ (by rfl) (fun wz => ?_) ?_; rotate_left; (go_simp; first | rfl | rw [if_neg (by omega)]); simp only [Act.put, xA, xB, xC]; (try simp only [xD]); (try simp only [xE]))
 refine Reg2.pm (fun wz hI hF => ?_) (fun x5 => ?_) (by rfl)
 ·obtain ⟨cap, F⟩ := (h.kept hI).facts
  have c1 := F.c1
  clear F
  go_wp2_with fail
  exact ⟨_, rfl, ⟨(), rfl, trivial⟩, Reg2.Ext.refl _⟩
 simp only [Act.put, xA, xB, xC, xD, xE, id]
 refine Reg2.fD ?_
 intro w3 HI3 _ uP
 obtain ⟨g', cap'⟩ := x1
 have hg := uP.2.1
 clear uP
 have hsz := HI3.size
 have hn' : Hid (PW (w3.alloc (.cells #[.slice (some ⟨g', 0, none⟩) L.length cap', .int .i64 ah] 186)) w3.heap.size g' L ah) := ⟨cap', heap_alloc_new w3 _, aY hg.2 ((Below.refl _ _).alloc (Nat.le_refl _) _)⟩
 have hge := hg.1
 clear hg
 dsimp only [List.drop]
 go_wp2_with fail
 go_ret
 exact ⟨w3.heap.size, rfl, g', hn'.out, hsz, hge, HI3.alloc hsz _⟩
end
end Go.Proofs.YtfmpgdafnlehaaaGreat

namespace Go.Proofs.YtfmpgdafnlehaaaGreat
open Go.RowKit Go.Sort Go.Lib
section
variable {w : World} {p g : Nat} {L : List (Int × Int)} {ah now : Int} {f : Int → Int}
theorem kU (n : Int) (w : World) (h : 0 ≤ n ∧ n ≤ 64) : Calls Tryz.prog 85 #[.int .i64 n] w fun e w' => ∃ p g : Nat, e = .returned (.tuple #[.pointer (some ⟨p, 0, none⟩), .int .i64 0]) ∧ PW w' p g [(0, n)] 0 ∧ w.heap.size ≤ p ∧ w.heap.size ≤ g ∧ Below w.heap.size w w' := by
 have h1 : ¬ (n < 0) := by omega
 have h2 : ¬ (64 < n) := by omega
 have hp : Hid (∀ w2, w2 = ((w.alloc (.cells #[.int .i64 0, .int .i64 n] 183)).alloc (.cells #[.slice (some ⟨w.heap.size, 0, none⟩) 1 1, .int .i64 0] 186)) → PW w2 (w.heap.size + 1) w.heap.size [(0, n)] 0) := by
  rintro w2 rfl
  have ho : (w.alloc (.cells #[.int .i64 0, .int .i64 n] 183)).ownsRow 0 183 2 (.slice (some ⟨w.heap.size, 0, none⟩) 1 1) 1 (fO [(0, n)]) := cK (vs := [.int .i64 0, .int .i64 n]) rfl (Nat.zero_le _) rfl (by decide)
  refine ⟨1, ?_, aY ho ((Below.refl _ _).alloc (Nat.le_refl _) _)⟩
  have := heap_alloc_new (w.alloc (.cells #[.int .i64 0, .int .i64 n] 183)) (.cells #[.slice (some ⟨w.heap.size, 0, none⟩) 1 1, .int .i64 0] 186)
  simpa using this
 have hb : Below w.heap.size w ((w.alloc (.cells #[.int .i64 0, .int .i64 n] 183)).alloc (.cells #[.slice (some ⟨w.heap.size, 0, none⟩) 1 1, .int .i64 0] 186)) := ((Below.refl _ _).alloc (Nat.le_refl _) _).alloc (by simp) _
 clear h
 go_enter Tryz.func85, Tryz.ntmps85
 go_wp2_with fail
 go_ret2
 exact ⟨w.heap.size + 1, rfl, w.heap.size, hp.out _ rfl, by omega, Nat.le_refl _, hb⟩
theorem qV (n : Int) : Can [(0, n)] 0 (fun _ => n) :=
 ⟨⟨by simp, rfl, fun i hi => by simp at hi, fun i hi => by simp at hi; subst hi; simp [tA], fun i t hi _ _ => by simp at hi; subst hi; simp [tV]⟩, fun i hi => by simp at hi⟩
end
end Go.Proofs.YtfmpgdafnlehaaaGreat

namespace Go.Proofs.YtfmpgdafnlehaaaGreat
open Go.RowKit Go.Lib Go.Sort
structure Pg where
 now : Int
 J : List Jb
 T : List Int
 f : Int → Int
 cl : Bool
def cz (c t d p : Nat) (v : Value) (g : Nat) (k : Nat) : Prop := k = c ∨ k = t ∨ k = d ∨ k = p ∨ v.ownBlock = some k ∨ k = g
def PR (w : World) (p g : Nat) (a : Nat) (m : Int) (now : Int) (f : Int → Int) : Prop :=
 ∃ S ah, PW w p g S ah ∧ Can S now f ∧ S.length ≤ a ∧ 0 ≤ ah ∧ ah ≤ m
structure CW (w : World) (c t d p : Nat) (v : Value) (g : Nat) (a : Nat) (m : Int) (P : Pg) : Prop where
 cell : w.heap[c]? = some (.cells #[.pointer (some ⟨t, 0, none⟩), .pointer (some ⟨d, 0, none⟩), .pointer (some ⟨p, 0, none⟩), .bool true, .bool P.cl] 122 (0, 0))
 ji : TV w t v P.J
 nodes : TW w d P.T
 nL : PR w p g a m P.now P.f
section
variable {w w' w1 w2 : World} {c t d p g g' g1 g2 a a' : Nat} {v v' v1 v2 : Value} {m m' : Int} {P : Pg}
theorem PW.at {S : List (Int × Int)} {ah : Int} (h : PW w p g S ah) : ∃ cs, w.heap[p]? = some (.cells cs 186 (0, 0)) := by obtain ⟨cap, h1, _⟩ := h; exact ⟨_, h1⟩
theorem PW.vF {S : List (Int × Int)} {ah : Int} (h : PW w p g S ah) : ∃ cs, w.heap[g]? = some (.cells cs 183 (0, 0)) := by
 obtain ⟨cap, _, h2⟩ := h
 exact eD h2 rfl
theorem CW.types (h : CW w c t d p v g a m P) {k : Nat} (hk : cz c t d p v g k) : ∃ cs T, w.heap[k]? = some (.cells cs T (0, 0)) ∧
 ((k = c ∧ T = 122) ∨ (k = t ∧ T = 188) ∨ (k = d ∧ T = 181) ∨ (k = p ∧ T = 186) ∨ (v.ownBlock = some k ∧ T = 94) ∨ (k = g ∧ T = 183)) := by
 obtain ⟨S, ah, hp, _⟩ := h.nL
 rcases hk with rfl | rfl | rfl | rfl | hv | rfl
 ·exact ⟨_, _, h.cell, .inl ⟨rfl, rfl⟩⟩
 ·exact ⟨_, _, h.ji.cell, .inr (.inl ⟨rfl, rfl⟩)⟩
 ·exact ⟨_, _, h.nodes, .inr (.inr (.inl ⟨rfl, rfl⟩))⟩
 ·obtain ⟨cs, h1⟩ := hp.at; exact ⟨_, _, h1, .inr (.inr (.inr (.inl ⟨rfl, rfl⟩)))⟩
 ·obtain ⟨cs, h1⟩ := eD h.ji.own hv; exact ⟨_, _, h1, .inr (.inr (.inr (.inr (.inl ⟨hv, rfl⟩))))⟩
 ·obtain ⟨cs, h1⟩ := hp.vF; exact ⟨_, _, h1, .inr (.inr (.inr (.inr (.inr ⟨rfl, rfl⟩))))⟩
theorem CW.lt (h : CW w c t d p v g a m P) {k : Nat} (hk : cz c t d p v g k) : k < w.heap.size := by
 obtain ⟨cs, T, h1, _⟩ := h.types hk
 exact aJ h1
theorem CW.kept (h : CW w c t d p v g a m P) (hb : Below w.heap.size w w') : CW w' c t d p v g a m P := by
 obtain ⟨S, ah, hp, hrest⟩ := h.nL
 exact ⟨(hb.block c (h.lt (.inl rfl))).trans h.cell, h.ji.kept hb, h.nodes.kept hb, S, ah, hp.kept hb, hrest⟩
theorem CW.c0 (h : CW w c t d p v g a m P) : w.cell? ⟨c, 0, none⟩ = some (.pointer (some ⟨t, 0, none⟩)) := by simp [World.cell?, h.cell]
theorem CW.c2 (h : CW w c t d p v g a m P) : w.cell? ⟨c, 2, none⟩ = some (.pointer (some ⟨p, 0, none⟩)) := by simp [World.cell?, h.cell]
theorem CW.c3 (h : CW w c t d p v g a m P) : w.cell? ⟨c, 3, none⟩ = some (.bool true) := by simp [World.cell?, h.cell]
end
end Go.Proofs.YtfmpgdafnlehaaaGreat

namespace Go.Proofs.YtfmpgdafnlehaaaGreat
open Go.RowKit Go.Lib
def kV (M : Md) : List Int := (List.range M.dr.length).map fun k : Nat => dV M (k : Int)
def dC (M : Md) : Pg := ⟨M.now, M.L, kV M, fun t => bP M t 0, M.cl⟩
section
variable {M : Md}
theorem kW : (kV M).length = M.dr.length := by simp [kV]
theorem qW (i : Nat) : (kV M).getD i 0 = dV M (i : Int) := by
 by_cases h : i < M.dr.length
 ·simp [kV, List.getD_eq_getElem?_getD, h]
 ·rw [kD h]
  simp [kV, List.getD_eq_getElem?_getD, h]
theorem qX {l l' : List Int} (h1 : l.length = l'.length) (h2 : ∀ i, i < l.length → l.getD i 0 = l'.getD i 0) : l = l' := by
 refine List.ext_getElem h1 fun i a b => ?_
 have := h2 i a
 simpa [List.getD_eq_getElem?_getD, a, b] using this
end
end Go.Proofs.YtfmpgdafnlehaaaGreat

namespace Go.Proofs.YtfmpgdafnlehaaaGreat
open Go.RowKit Go.Lib
open Go.ChangeShapes Go.WideShapes Go.ChangeAt Go.Deep
structure Ry where
 err : Int
 id : Int
 state : Int
 start : Int
 stop : Int
 plan : Int
 a : Int
 b : Int
 c : Int
deriving DecidableEq
section
end
end Go.Proofs.YtfmpgdafnlehaaaGreat

namespace Go.Proofs.YtfmpgdafnlehaaaGreat
open Go.RowKit Go.Lib Go.Sort
structure Wk where
 wI : Rq
 wJ : Int
 wK : Int
 left : Value
 wL : Jb
 idle : Int
 target : Int
 rep : Ry
 ok : Bool
section
end
end Go.Proofs.YtfmpgdafnlehaaaGreat

namespace Go.Proofs.YtfmpgdafnlehaaaGreat
open Go.RowKit Go.Lib Go.Sort
section
variable {w w' w1 w2 : World} {b c t d p g a : Nat} {v : Value} {m : Int} {P P' : Pg} {R R' : Wk}
theorem kX (h : CW w c t d p v g a m P) : Calls Tryz.prog 88 #[.pointer (some ⟨c, 0, none⟩)] w fun e w' => e = .returned (.bool false) ∧ w = w' := by
 have c3 := h.c3
 clear h
 go_enter Tryz.func88, Tryz.ntmps88
 go_wp2_with fail
 go_ret
 exact ⟨rfl, rfl⟩
end
end Go.Proofs.YtfmpgdafnlehaaaGreat

namespace Go.Proofs.YtfmpgdafnlehaaaGreat
open Go.RowKit Go.Lib Go.Sort
theorem oV (n : Nat) : kV (aF n) = List.replicate n 1 := by
 refine qX (by rw [kW]; simp [aF]) fun i hi => ?_
 have hin : i < n := by rw [kW] at hi; simpa [aF] using hi
 rw [qW, l5 (by simpa [aF] using hin)]
 have h1 : ¬ 0 ≤ holderL (aF n).L i := by unfold aF holderL; simp
 rw [if_neg h1]
 simp [aF, List.getD_eq_getElem?_getD, hin]
theorem iD (n : Nat) (t : Int) : bP (aF n) t 0 = n := by
 unfold bP gN nA
 have h1 : (List.range (aF n).dr.length).countP (jq (aF n) t) = n := by
  have e : (aF n).dr.length = n := by simp [aF]
  rw [e]
  have : (List.range n).countP (jq (aF n) t) = (List.range n).length := by
   rw [List.countP_eq_length]
   intro k hk
   have hk := List.mem_range.1 hk
   unfold jq aF holderL
   simp [List.getD_eq_getElem?_getD, hk]
  rw [this, List.length_range]
 rw [h1]
 simp [aF]
structure uQ (w0 w : World) (c t d p : Nat) (v : Value) (g a : Nat) (m : Int) (P : Pg) : Prop where
 cw : CW w c t d p v g a m P
 lo : ∀ k, cz c t d p v g k → w0.heap.size ≤ k
section
variable {w : World}
theorem qY (n : Nat) (w : World) (h1 : 1 ≤ n) (h2 : n ≤ 64) : Calls Tryz.prog 48 #[.int .i64 n] w fun e w' => ∃ c t d p v g, e = .returned (.tuple #[.pointer (some ⟨c, 0, none⟩), .int .i64 0]) ∧ uQ w w' c t d p v g 1 0 (dC (aF n)) ∧ Below w.heap.size w w' := by
 have hn := kR n w h1 h2
 go_enter Tryz.func48, Tryz.ntmps48
 go_wp2_with fail
 go_at_call 84
 refine hn.mono ?_
 clear hn
 rintro e w1 ⟨rfl, hT1, hb1⟩
 have hs1 : w.heap.size < w1.heap.size := aJ hT1
 have hp := kU (n : Int) w1 (by omega)
 go_wp2_with fail
 go_at_call 85
 refine hp.mono ?_
 clear hp
 rintro e w2 ⟨p, g, rfl, hP2, lp, lg, hb2⟩
 have uR : TW w2 w.heap.size (List.replicate n 1) := hT1.kept hb2
 have hj := mM w2
 go_wp2_with fail
 go_at_call 86
 refine hj.mono ?_
 clear hj
 rintro e w3 ⟨rfl, hw3⟩
 have hb3 : Below w2.heap.size w2 w3 := by rw [← hw3]; exact (Below.refl _ _).alloc (Nat.le_refl _) _
 have hJ3 : TV w3 w2.heap.size (.slice none 0 0) [] := by rw [← hw3]; exact BV.uL w2
 have uS := uR.kept hb3
 have hP3 := hP2.kept hb3
 have hs2 := hb2.size
 replace hw3 := Lib.hid hw3
 obtain ⟨w4, hw4⟩ : ∃ w4, w4 = w3.alloc (.cells #[.pointer (some ⟨w2.heap.size, 0, none⟩), .pointer (some ⟨w.heap.size, 0, none⟩), .pointer (some ⟨p, 0, none⟩), .bool true, .bool false] 122) := ⟨_, rfl⟩
 have hb4 : Below w3.heap.size w3 w4 := by rw [hw4]; exact (Below.refl _ _).alloc (Nat.le_refl _) _
 have hc4 : w4.heap[w3.heap.size]? = some (.cells #[.pointer (some ⟨w2.heap.size, 0, none⟩), .pointer (some ⟨w.heap.size, 0, none⟩), .pointer (some ⟨p, 0, none⟩), .bool true, .bool false] 122 (0, 0)) := by rw [hw4]; exact heap_alloc_new w3 _
 have hs3 := hb3.size
 have hCW : Hid (CW w4 w3.heap.size w2.heap.size w.heap.size p (.slice none 0 0) g 1 0 (dC (aF n))) := by
  refine ⟨hc4, hJ3.kept hb4, by show TW w4 w.heap.size (kV (aF n)); rw [oV]; exact uS.kept hb4, [(0, (n : Int))], 0, hP3.kept hb4, ?_, Nat.le_refl _, Int.le_refl _, Int.le_refl _⟩
  exact (qV n).congr fun t _ => (iD n t).symm
 have hlo : Hid (∀ k, cz w3.heap.size w2.heap.size w.heap.size p (.slice none 0 0) g k → w.heap.size ≤ k) := by
  rintro k (rfl | rfl | rfl | rfl | hv | rfl)
  ·omega
  ·omega
  ·exact Nat.le_refl _
  ·omega
  ·cases hv
  ·omega
 have hbw := hb1.trans ((hb2.trans ((hb3.trans (hb4.mono hb3.size)).mono hb2.size)).mono hb1.size)
 clear hc4 hJ3 uS hP3 hT1 uR hP2
 go_wp2_with fail
 rw [← hw4]
 go_ret2
 exact ⟨w3.heap.size, w2.heap.size, w.heap.size, p, .slice none 0 0, g, rfl, ⟨hCW.out, hlo.out⟩, hbw⟩
end
end Go.Proofs.YtfmpgdafnlehaaaGreat

namespace Go.Proofs.YtfmpgdafnlehaaaGreat
open Go.RowKit Go.Lib Go.Sort
section
end
def nM (w : World) (s c : Nat) : Prop := w.heap[s]? = some (.cells #[.pointer (some ⟨c, 0, none⟩)] 118 (0, 0))
theorem nM.c0 {w : World} {s c : Nat} (h : nM w s c) : w.cell? ⟨s, 0, none⟩ = some (.pointer (some ⟨c, 0, none⟩)) := by simp [World.cell?, show w.heap[s]? = _ from h]
structure SO (B : Nat) (w : World) (s c t d p : Nat) (v : Value) (g : Nat) (m : Int) (M : Md) : Prop where
 at' : nM w s c
 wM : B ≤ s
 cw : CW w c t d p v g (1 + 2 * M.L.length) m (dC M)
 lo : ∀ k, cz c t d p v g k → B ≤ k
section
end
section
variable {w : World} {B s c t d p g : Nat} {v : Value} {m : Int} {M : Md}
theorem mV (w : World) : Calls Tryz.prog 60 #[.pointer none] w fun e w' => e = .returned (.bool true) ∧ w = w' := by
 go_enter Tryz.func60, Tryz.ntmps60
 go_wp2_with fail
 go_ret
 exact ⟨rfl, rfl⟩
theorem oW (h : SO B w s c t d p v g m M) : Calls Tryz.prog 60 #[.pointer (some ⟨s, 0, none⟩)] w fun e w' => e = .returned (.bool false) ∧ w = w' := by
 have c0 := h.at'.c0
 have hn := kX h.cw
 go_enter Tryz.func60, Tryz.ntmps60
 go_wp2_with fail
 go_at_call 88
 refine hn.mono ?_
 clear hn
 rintro e w' ⟨rfl, rfl⟩
 go_wp2_with fail
 go_ret
 exact ⟨rfl, rfl⟩
theorem qZ (c : Nat) (w : World) : Calls Tryz.prog 87 #[.pointer (some ⟨c, 0, none⟩)] w fun e w' => e = .returned (.pointer (some ⟨w.heap.size, 0, none⟩)) ∧ nM w' w.heap.size c ∧ Below w.heap.size w w' := by
 go_enter Tryz.func87, Tryz.ntmps87
 go_wp2_with fail
 go_ret
 exact ⟨rfl, heap_alloc_new w _, (Below.refl _ _).alloc (Nat.le_refl _) _⟩
end
section
end
end Go.Proofs.YtfmpgdafnlehaaaGreat
