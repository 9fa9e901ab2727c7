/-
  Own arithmetic: the steps of what is left, ahead of compacting, are those at the first time and at each time behind it. Nothing of a program is said here but what package span's texts are shown to come to.
-/
import Derived.Test.YtnajcgicbhohhaaSpJ
namespace Go.Proofs.Ytnajcgicbhohhaa
open Go.Lib

/-- What has changed up to a time. -/
def chS (cs : List (Int × Int)) (t : Int) : Int := (cs.map fun c => if c.1 ≤ t then c.2 else 0).sum
theorem chS_snoc (cs : List (Int × Int)) (c : Int × Int) (t : Int) : chS (cs ++ [c]) t = chS cs t + if c.1 ≤ t then c.2 else 0 := by simp [chS]
theorem chS_perm {cs cs' : List (Int × Int)} (h : cs.Perm cs') (t : Int) : chS cs t = chS cs' t := by
  induction h with
  | nil => rfl
  | cons x _ ih => simp only [chS, List.map_cons, List.sum_cons] at ih ⊢; rw [ih]
  | swap x y l => simp only [chS, List.map_cons, List.sum_cons]; omega
  | trans _ _ ih1 ih2 => exact ih1.trans ih2
theorem chS_far {cs : List (Int × Int)} {t t' : Int} (h : ∀ c ∈ cs, c.1 ≤ t) (h' : ∀ c ∈ cs, c.1 ≤ t') : chS cs t = chS cs t' := by
  induction cs with
  | nil => rfl
  | cons c cs ih =>
    have := ih (fun x hx => h x (List.mem_cons_of_mem _ hx)) (fun x hx => h' x (List.mem_cons_of_mem _ hx))
    simp only [chS, List.map_cons, List.sum_cons] at this ⊢
    rw [this, if_pos (h c (by simp)), if_pos (h' c (by simp))]
theorem chS_used (l : List Sp) (t : Int) : chS (chF l) t = usedF l t := by
  induction l with
  | nil => rfl
  | cons s l ih =>
    have e : chF (s :: l) = (if rightB s then [(s.a, s.n), (s.b, -s.n)] else []) ++ chF l := by simp [chF]
    have e2 : usedF (s :: l) t = hadF t s + usedF l t := by simp [usedF]
    rw [e, e2, ← ih]
    by_cases hr : rightB s = true
    · rw [if_pos hr]
      have hn := rightB_yes hr
      simp only [chS, List.cons_append, List.nil_append, List.map_cons, List.sum_cons]
      unfold hadF
      by_cases h1 : s.a ≤ t
      · by_cases h2 : s.b ≤ t
        · rw [if_pos h1, if_pos h2, if_neg (by omega)]; omega
        · rw [if_pos h1, if_neg h2, if_pos ⟨hr, h1, by omega⟩]; omega
      · rw [if_neg h1, if_neg (by omega), if_neg (by omega)]; omega
    · rw [if_neg hr]
      unfold hadF
      rw [if_neg (fun h => hr h.1)]
      simp
theorem chF_times (l : List Sp) (t : Int) : (∃ c ∈ chF l, c.1 = t) ↔ t ∈ allT l := by
  rw [allT_mem]
  constructor
  · rintro ⟨c, hc, rfl⟩
    unfold chF at hc
    rw [List.mem_flatMap] at hc
    obtain ⟨s, hs, hc⟩ := hc
    by_cases hr : rightB s = true
    · rw [if_pos hr] at hc
      simp at hc
      rcases hc with rfl | rfl
      · exact ⟨s, hs, hr, Or.inl rfl⟩
      · exact ⟨s, hs, hr, Or.inr rfl⟩
    · rw [if_neg hr] at hc; cases hc
  · rintro ⟨s, hs, hr, ht⟩
    unfold chF
    rcases ht with rfl | rfl
    · exact ⟨(s.a, s.n), List.mem_flatMap.2 ⟨s, hs, by rw [if_pos hr]; simp⟩, rfl⟩
    · exact ⟨(s.b, -s.n), List.mem_flatMap.2 ⟨s, hs, by rw [if_pos hr]; simp⟩, rfl⟩

/-- What holds of the steps behind some of the changes. -/
structure RInv (all f : Int) (p : List (Int × Int)) (pre : List (Int × Int)) (last : Int × Int) : Prop where
  far : ∀ c ∈ p, c.1 ≤ last.1
  low : f ≤ last.1
  alt : (last.1 = f ∧ pre = []) ∨ (∃ c ∈ p, c.1 = last.1 ∧ f < last.1)
  asc : ((pre ++ [last]).map (·.1)).Pairwise (· < ·)
  free : ∀ x ∈ pre ++ [last], x.2 = all - chS p x.1
  mem : ∀ t, t ∈ (pre ++ [last]).map (·.1) ↔ t = f ∨ (∃ c ∈ p, c.1 = t ∧ f < t)

theorem RInv.start (all f : Int) : RInv all f [] [] (f, all) where
  far := fun c hc => by cases hc
  low := Int.le_refl _
  alt := Or.inl ⟨rfl, rfl⟩
  asc := by simp
  free := by simp [chS]
  mem := by simp

theorem RInv.step {all f : Int} {p pre : List (Int × Int)} {last c : Int × Int} (h : RInv all f p pre last) (hs : ∀ x ∈ p, x.1 ≤ c.1) : RInv all f (p ++ [c]) (stepC (pre, last) c).1 (stepC (pre, last) c).2 := by
  have hal := h.free last (by simp)
  unfold stepC
  by_cases hA : last.1 < c.1
  · rw [if_pos hA]
    dsimp only
    have hle : ∀ x ∈ pre ++ [last], x.1 ≤ last.1 := by
      intro x hx
      rcases List.mem_append.1 hx with hx | hx
      · have ha := h.asc
        rw [List.map_append, List.pairwise_append] at ha
        exact Int.le_of_lt (ha.2.2 x.1 (List.mem_map_of_mem hx) last.1 (by simp))
      · simp at hx; subst hx; exact Int.le_refl _
    refine ⟨?_, ?_, ?_, ?_, ?_, ?_⟩
    · intro x hx
      rcases List.mem_append.1 hx with hx | hx
      · exact hs x hx
      · simp at hx; subst hx; exact Int.le_refl _
    · have := h.low; dsimp only; omega
    · exact Or.inr ⟨c, by simp, rfl, by have := h.low; dsimp only; omega⟩
    · rw [List.map_append, List.pairwise_append]
      refine ⟨h.asc, by simp, fun a ha b hb => ?_⟩
      obtain ⟨x, hx, rfl⟩ := List.mem_map.1 ha
      simp at hb; subst hb
      have := hle x hx
      omega
    · intro x hx
      rcases List.mem_append.1 hx with hx | hx
      · have := hle x hx
        rw [chS_snoc, if_neg (by omega), h.free x hx]; omega
      · simp at hx; subst hx
        dsimp only
        rw [chS_snoc, if_pos (Int.le_refl _), hal, chS_far h.far hs]; omega
    · intro t
      rw [List.map_append, List.mem_append, h.mem t]
      simp only [List.map_cons, List.map_nil, List.mem_singleton, List.mem_append]
      constructor
      · rintro ((h1 | ⟨x, hx, h1⟩) | h1)
        · exact Or.inl h1
        · exact Or.inr ⟨x, Or.inl hx, h1⟩
        · exact Or.inr ⟨c, Or.inr rfl, h1.symm, by have := h.low; omega⟩
      · rintro (h1 | ⟨x, hx | hx, h1, h2⟩)
        · exact Or.inl (Or.inl h1)
        · exact Or.inl (Or.inr ⟨x, hx, h1, h2⟩)
        · subst hx; exact Or.inr h1.symm
  · rw [if_neg hA]
    dsimp only
    have hcl : c.1 ≤ last.1 := by omega
    have hmap : (pre ++ [(last.1, last.2 - c.2)]).map (·.1) = (pre ++ [last]).map (·.1) := by simp
    have hctop : f < last.1 → c.1 = last.1 := by
      intro hf
      rcases h.alt with ⟨h1, _⟩ | ⟨x, hx, h1, _⟩
      · omega
      · have := hs x hx; omega
    refine ⟨?_, h.low, ?_, ?_, ?_, ?_⟩
    · intro x hx
      rcases List.mem_append.1 hx with hx | hx
      · exact h.far x hx
      · simp at hx; subst hx; exact hcl
    · rcases h.alt with h1 | ⟨x, hx, h1, h2⟩
      · exact Or.inl h1
      · exact Or.inr ⟨x, List.mem_append_left _ hx, h1, h2⟩
    · rw [hmap]; exact h.asc
    · intro x hx
      rcases List.mem_append.1 hx with hx | hx
      · have ha := h.asc
        rw [List.map_append, List.pairwise_append] at ha
        have hlt := ha.2.2 x.1 (List.mem_map_of_mem hx) last.1 (by simp)
        have hf : f < last.1 := by
          rcases h.alt with ⟨_, h1⟩ | ⟨_, _, _, h1⟩
          · subst h1; cases hx
          · exact h1
        have := hctop hf
        rw [chS_snoc, if_neg (by omega), h.free x (List.mem_append_left _ hx)]; omega
      · simp at hx; subst hx
        dsimp only
        rw [chS_snoc, if_pos hcl, hal]; omega
    · intro t
      rw [hmap, h.mem t]
      constructor
      · rintro (h1 | ⟨x, hx, h1⟩)
        · exact Or.inl h1
        · exact Or.inr ⟨x, List.mem_append_left _ hx, h1⟩
      · rintro (h1 | ⟨x, hx, h1, h2⟩)
        · exact Or.inl h1
        · rcases List.mem_append.1 hx with hx | hx
          · exact Or.inr ⟨x, hx, h1, h2⟩
          · simp at hx; subst hx
            have hf : f < last.1 := by omega
            rcases h.alt with ⟨h3, _⟩ | ⟨y, hy, h3, h4⟩
            · omega
            · exact Or.inr ⟨y, hy, by have := hctop hf; omega, h2⟩

theorem RInv.all_ {all f : Int} {cs : List (Int × Int)} (hs : cs.Pairwise (fun x y => x.1 ≤ y.1)) : RInv all f cs (foldC all f cs).1 (foldC all f cs).2 := by
  have key : ∀ n, n ≤ cs.length → RInv all f (cs.take n) (foldC all f (cs.take n)).1 (foldC all f (cs.take n)).2 := by
    intro n
    induction n with
    | zero => intro _; exact RInv.start all f
    | succ n ih =>
      intro hn
      have hc : cs[n]? = some cs[n] := List.getElem?_eq_getElem (by omega)
      rw [take_snoc hc, foldC_snoc]
      refine (ih (by omega)).step fun x hx => ?_
      obtain ⟨i, hi, rfl⟩ := List.mem_iff_getElem.1 hx
      rw [List.length_take] at hi
      rw [List.getElem_take]
      exact List.pairwise_iff_getElem.1 hs i n (by omega) (by omega) (by omega)
  have := key cs.length (Nat.le_refl _)
  rwa [List.take_of_length_le (Nat.le_refl _)] at this

/-- The steps ahead of compacting: at the first time, and at each time behind it. -/
def stepsR (all f : Int) (l : List Sp) (r : List Int) : List (Int × Int) := (f :: r.filter fun t => decide (f < t)).map fun t => (t, all - usedF l t)
theorem rawF_eq {all f : Int} {l : List Sp} {r : List Int} {cs : List (Int × Int)} (hp : cs.Perm (chF l)) (hs : cs.Pairwise (fun x y => x.1 ≤ y.1)) (hr : IsT l r) : rawF all f cs = stepsR all f l r := by
  have h := RInv.all_ (all := all) (f := f) hs
  have hU : ∀ t, chS cs t = usedF l t := fun t => by rw [chS_perm hp, chS_used]
  have hfst : (rawF all f cs).map (·.1) = f :: r.filter fun t => decide (f < t) := by
    refine asc_unique _ _ h.asc ?_ ?_
    · rw [List.pairwise_cons]
      exact ⟨fun t ht => by simpa using (List.mem_filter.1 ht).2, hr.1.filter _⟩
    · intro t
      rw [show t ∈ (rawF all f cs).map (·.1) ↔ _ from h.mem t, List.mem_cons, List.mem_filter, hr.2 t, ← chF_times]
      constructor
      · rintro (h1 | ⟨x, hx, h1, h2⟩)
        · exact Or.inl h1
        · exact Or.inr ⟨⟨x, hp.mem_iff.1 hx, h1⟩, by simpa using h2⟩
      · rintro (h1 | ⟨⟨x, hx, h1⟩, h2⟩)
        · exact Or.inl h1
        · exact Or.inr ⟨x, hp.mem_iff.2 hx, h1, by simpa using h2⟩
  have hmap : rawF all f cs = ((rawF all f cs).map (·.1)).map fun t => (t, all - usedF l t) := by
    rw [List.map_map]
    conv => lhs; rw [← List.map_id (rawF all f cs)]
    refine List.map_congr_left fun x hx => ?_
    have := h.free x hx
    rw [hU] at this
    obtain ⟨x1, x2⟩ := x
    have h2 : x2 = all - usedF l x1 := this
    simp only [Function.comp, id]
    rw [h2]
  rw [hmap, hfst]
  rfl

/-- What is kept of the first m steps. -/
def keptK (L : List (Int × Int)) (m : Nat) : List (Int × Int) := keptUpTo (kp L) L.toArray m
theorem keptK_succ (L : List (Int × Int)) (m : Nat) (x : Int × Int) (hx : L[m]? = some x) : keptK L (m + 1) = keptK L m ++ (if kp L m then [x] else []) := by
  unfold keptK
  rw [keptUpTo_succ]
  obtain ⟨hm, rfl⟩ := List.getElem?_eq_some_iff.1 hx
  have : L.toArray[m]! = L[m] := by simp [hm]
  rw [this]
theorem keptK_one (L : List (Int × Int)) (x : Int × Int) (hx : L[0]? = some x) : keptK L 1 = [x] := by
  rw [keptK_succ L 0 x hx, kp_zero, if_pos rfl]
  rfl
theorem kp_iff {L : List (Int × Int)} {m : Nat} {x y : Int × Int} (hx : L[m + 1]? = some x) (hy : L[m]? = some y) : kp L (m + 1) = decide (x.2 ≠ y.2) := by
  obtain ⟨h1, rfl⟩ := List.getElem?_eq_some_iff.1 hx
  obtain ⟨h2, rfl⟩ := List.getElem?_eq_some_iff.1 hy
  unfold kp
  have e1 : L.toArray[m + 1]! = L[m + 1] := by simp [h1]
  have e2 : L.toArray[m + 1 - 1]! = L[m] := by simp [h2]
  rw [e1, e2]
  simp
theorem keptK_last (L : List (Int × Int)) : ∀ (m : Nat) (x : Int × Int), L[m]? = some x → ∃ q y, keptK L (m + 1) = q ++ [y] ∧ y.2 = x.2 := by
  intro m
  induction m with
  | zero => intro x hx; exact ⟨[], x, keptK_one L x hx, rfl⟩
  | succ m ih =>
    intro x hx
    have hm : m < L.length := by have := (List.getElem?_eq_some_iff.1 hx).1; omega
    obtain ⟨q, y, h1, h2⟩ := ih L[m] (List.getElem?_eq_getElem hm)
    rw [keptK_succ L (m + 1) x hx, kp_iff hx (List.getElem?_eq_getElem hm)]
    by_cases he : x.2 = L[m].2
    · rw [if_neg (by simp [he]), List.append_nil]
      exact ⟨q, y, h1, by rw [h2, he]⟩
    · rw [if_pos (by simp [he])]
      exact ⟨_, x, rfl, rfl⟩
theorem keptK_prefix (L : List (Int × Int)) (m n : Nat) (h : m ≤ n) (hn : n ≤ L.length) : ∃ s, keptK L n = keptK L m ++ s := by
  induction n with
  | zero => obtain rfl : m = 0 := by omega
            exact ⟨[], by simp⟩
  | succ n ih =>
    rcases Nat.lt_or_ge m (n + 1) with hlt | hge
    · obtain ⟨s, hs⟩ := ih (by omega) (by omega)
      rw [keptK_succ L n L[n] (List.getElem?_eq_getElem (by omega)), hs]
      exact ⟨_, List.append_assoc _ _ _⟩
    · obtain rfl : m = n + 1 := by omega
      exact ⟨[], by simp⟩
theorem compF_keptK (L : List (Int × Int)) : compF L = keptK L L.length := rfl
/-- The step that is kept last of the first m + 1, in the whole list. -/
theorem keptK_at (L : List (Int × Int)) (m : Nat) (x : Int × Int) (hx : L[m]? = some x) : 0 < (keptK L (m + 1)).length ∧ (keptK L (m + 1)).length ≤ (compF L).length ∧ ∃ y, (compF L)[(keptK L (m + 1)).length - 1]? = some y ∧ y.2 = x.2 := by
  obtain ⟨q, y, h1, h2⟩ := keptK_last L m x hx
  obtain ⟨s, hs⟩ := keptK_prefix L (m + 1) L.length (List.getElem?_eq_some_iff.1 hx).1 (Nat.le_refl _)
  rw [compF_keptK, hs, h1]
  refine ⟨by simp, by simp, y, ?_, h2⟩
  simp

/-- The most that is lacking, ahead of a time. -/
def peakF (t : Int) (L : List (Int × Int)) : Int := L.foldl (fun p x => if x.1 < t then max p (-x.2) else p) 0
theorem peakF_snoc (t : Int) (L : List (Int × Int)) (x : Int × Int) : peakF t (L ++ [x]) = if x.1 < t then max (peakF t L) (-x.2) else peakF t L := by unfold peakF; rw [List.foldl_append]; rfl
theorem peakF_ge {t : Int} {L : List (Int × Int)} : ∀ (n : Nat) (x : Int × Int), L[n]? = some x → x.1 < t → -x.2 ≤ peakF t (L.take (n + 1)) := by
  intro n x hx hlt
  rw [take_snoc hx, peakF_snoc, if_pos hlt]
  omega
theorem peakF_comp (t : Int) (L : List (Int × Int)) (hasc : (L.map (·.1)).Pairwise (· < ·)) : peakF t (compF L) = peakF t L := by
  have key : ∀ m, m < L.length → peakF t (keptK L (m + 1)) = peakF t (L.take (m + 1)) := by
    intro m
    induction m with
    | zero =>
      intro hm
      rw [keptK_one L L[0] (List.getElem?_eq_getElem hm), take_snoc (List.getElem?_eq_getElem hm)]
      rfl
    | succ m ih =>
      intro hm
      have hx : L[m + 1]? = some L[m + 1] := List.getElem?_eq_getElem hm
      have hy : L[m]? = some L[m] := List.getElem?_eq_getElem (by omega)
      have hi := ih (by omega)
      rw [keptK_succ L (m + 1) _ hx, kp_iff hx hy, take_snoc hx, peakF_snoc]
      by_cases he : L[m + 1].2 = L[m].2
      · rw [if_neg (by simp [he]), List.append_nil, hi]
        split
        · rename_i hlt
          have hpl := List.pairwise_iff_getElem.1 hasc m (m + 1) (by simp; omega) (by simpa using hm) (by omega)
          simp only [List.getElem_map] at hpl
          have := peakF_ge (t := t) m L[m] hy (by omega)
          rw [he]; omega
        · rfl
      · rw [if_pos (by simp [he]), peakF_snoc, hi]
  rcases Nat.eq_zero_or_pos L.length with h0 | h0
  · have : L = [] := List.eq_nil_of_length_eq_zero h0
    subst this
    rfl
  · obtain ⟨n, hn⟩ : ∃ n, L.length = n + 1 := ⟨L.length - 1, by omega⟩
    rw [compF_keptK, hn, key n (by omega), List.take_of_length_le (by omega)]

/-- The most nodes that spans have in a stretch, as the law looks for it. -/
def mostF (f t : Int) (l : List Sp) (r : List Int) : Int := r.foldl (fun m x => if f < x ∧ x < t ∧ m < usedF l x then usedF l x else m) (if f < t then usedF l f else 0)
theorem mostF_snoc (f t : Int) (l : List Sp) (r : List Int) (x : Int) : mostF f t l (r ++ [x]) = if f < x ∧ x < t ∧ mostF f t l r < usedF l x then usedF l x else mostF f t l r := by unfold mostF; rw [List.foldl_append]; rfl
theorem mostF_peak (f t : Int) (l : List Sp) (r : List Int) : mostF f t l r = peakF t (stepsR 0 f l r) := by
  have h0 := fun x => (usedF_range l x).1
  have key : ∀ n, n ≤ r.length → mostF f t l (r.take n) = peakF t (stepsR 0 f l (r.take n)) := by
    intro n
    induction n with
    | zero =>
      intro _
      unfold mostF stepsR peakF
      simp only [List.take_zero, List.filter_nil, List.map_cons, List.map_nil, List.foldl_cons, List.foldl_nil]
      have := h0 f
      split <;> omega
    | succ n ih =>
      intro hn
      have hx : r[n]? = some r[n] := List.getElem?_eq_getElem (by omega)
      rw [take_snoc hx, mostF_snoc, ih (by omega)]
      have hst : stepsR 0 f l (r.take n ++ [r[n]]) = stepsR 0 f l (r.take n) ++ (if f < r[n] then [(r[n], 0 - usedF l r[n])] else []) := by
        unfold stepsR
        rw [List.filter_append]
        by_cases h1 : f < r[n]
        · rw [if_pos h1]; simp [h1]
        · rw [if_neg h1]; simp [h1]
      rw [hst]
      by_cases h1 : f < r[n]
      · rw [if_pos h1, peakF_snoc]
        dsimp only
        by_cases h2 : r[n] < t
        · rw [if_pos h2]
          by_cases h3 : peakF t (stepsR 0 f l (r.take n)) < usedF l r[n]
          · rw [if_pos ⟨h1, h2, h3⟩]; omega
          · rw [if_neg (by omega)]; omega
        · rw [if_neg h2, if_neg (by omega)]
      · rw [if_neg h1, List.append_nil, if_neg (by omega)]
  have := key r.length (Nat.le_refl _)
  rwa [List.take_of_length_le (Nat.le_refl _)] at this
theorem stepsR_asc {all f : Int} {l : List Sp} {r : List Int} (hr : r.Pairwise (· < ·)) : ((stepsR all f l r).map (·.1)).Pairwise (· < ·) := by
  unfold stepsR
  rw [List.map_map]
  have e : ((fun x : Int × Int => x.1) ∘ fun t => (t, all - usedF l t)) = id := rfl
  rw [e, List.map_id, List.pairwise_cons]
  exact ⟨fun t ht => by simpa using (List.mem_filter.1 ht).2, hr.filter _⟩

end Go.Proofs.Ytnajcgicbhohhaa
