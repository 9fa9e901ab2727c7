/-
  Own arithmetic: the bytes of a reply; that unlike ones have unlike bytes. Nothing of a program is said here.
-/
import Derived.Test.YtpdnppncdfialaaEnc
import Derived.Test.YtpdnppncdfialaaRpl
namespace Go.Proofs.Ytpdnppncdfialaa

/-- Which numbers are not 0, as a number. -/
def maskF : List Int → Nat
  | [] => 0
  | z :: l => (if z = 0 then 0 else 1) + 2 * maskF l
/-- The numbers that are not 0, as bytes. -/
def restF (l : List Int) : List UInt8 := l.flatMap fun z => if z = 0 then [] else enc (zg z)
theorem maskF_snoc (l : List Int) (z : Int) : maskF (l ++ [z]) = maskF l + if z = 0 then 0 else 2 ^ l.length := by
  induction l with
  | nil => simp [maskF]
  | cons a l ih =>
    simp only [List.cons_append, maskF, ih, List.length_cons, Nat.pow_succ]
    split <;> split <;> omega
theorem maskF_lt (l : List Int) : maskF l < 2 ^ l.length := by
  induction l with
  | nil => simp [maskF]
  | cons a l ih =>
    simp only [maskF, List.length_cons, Nat.pow_succ]
    split <;> omega
theorem restF_snoc (l : List Int) (z : Int) : restF (l ++ [z]) = restF l ++ if z = 0 then [] else enc (zg z) := by simp [restF]
theorem restF_cons (l : List Int) (z : Int) : restF (z :: l) = (if z = 0 then [] else enc (zg z)) ++ restF l := by simp [restF]
theorem restF_length (l : List Int) : (restF l).length ≤ 10 * l.length := by
  induction l with
  | nil => simp [restF]
  | cons a l ih =>
    rw [restF_cons, List.length_append, List.length_cons]
    have := (enc_length (zg a)).2
    split <;> simp <;> omega

def encYb (r : Ry) : List UInt8 := byt 184 :: (enc (maskF (numsY r)) ++ restF (numsY r))
theorem encYb_length (r : Ry) : (encYb r).length ≤ 101 := by
  have h1 := restF_length (numsY r)
  have h2 := (enc_length (maskF (numsY r))).2
  have h3 : (numsY r).length = 9 := rfl
  unfold encYb
  simp only [List.length_cons, List.length_append]
  omega
theorem rest_inj : ∀ (a b : List Int) (s t : List UInt8), a.length = b.length → (∀ z ∈ a, -9223372036854775808 ≤ z ∧ z ≤ 9223372036854775807) → (∀ z ∈ b, -9223372036854775808 ≤ z ∧ z ≤ 9223372036854775807) → maskF a = maskF b → restF a ++ s = restF b ++ t → a = b ∧ s = t
  | [], [], s, t, _, _, _, _, h => ⟨rfl, by simpa [restF] using h⟩
  | [], _ :: _, _, _, h, _, _, _, _ => by simp at h
  | _ :: _, [], _, _, h, _, _, _, _ => by simp at h
  | x :: a, y :: b, s, t, hl, ha, hb, hm, h => by
    have hl' : a.length = b.length := by simpa using hl
    have ha' := fun z hz => ha z (List.mem_cons_of_mem _ hz)
    have hb' := fun z hz => hb z (List.mem_cons_of_mem _ hz)
    unfold maskF at hm
    rw [restF_cons, restF_cons] at h
    by_cases hx : x = 0
    · by_cases hy : y = 0
      · simp only [hx, hy, if_true, List.nil_append] at hm h
        obtain ⟨e1, e2⟩ := rest_inj a b s t hl' ha' hb' (by omega) h
        exact ⟨by rw [hx, hy, e1], e2⟩
      · simp only [hx, hy, if_true, if_false] at hm
        omega
    · by_cases hy : y = 0
      · simp only [hx, hy, if_true, if_false] at hm
        omega
      · simp only [hx, hy, if_false, List.append_assoc] at hm h
        obtain ⟨e0, h'⟩ := enc_prefix (zg_lt (ha x (by simp))) (zg_lt (hb y (by simp))) h
        obtain ⟨e1, e2⟩ := rest_inj a b s t hl' ha' hb' (by omega) h'
        exact ⟨by rw [zg_inj e0, e1], e2⟩
theorem numsY_inj {a b : Ry} (h : numsY a = numsY b) : a = b := by
  obtain ⟨a1, a2, a3, a4, a5, a6, a7, a8, a9⟩ := a
  obtain ⟨b1, b2, b3, b4, b5, b6, b7, b8, b9⟩ := b
  simp only [numsY, List.cons.injEq, and_true] at h
  simp [h]
theorem mask9 (r : Ry) : maskF (numsY r) < 512 := by
  have h := maskF_lt (numsY r)
  have h9 : (numsY r).length = 9 := rfl
  rw [h9] at h
  exact h
theorem encYb_inj {a b : Ry} (ha : FitsY a) (hb : FitsY b) (h : encYb a = encYb b) : a = b := by
  unfold encYb at h
  rw [List.cons.injEq] at h
  have m1 := mask9 a
  have m2 := mask9 b
  obtain ⟨e1, e2⟩ := enc_prefix (by omega) (by omega) h.2
  obtain ⟨e3, _⟩ := rest_inj (numsY a) (numsY b) [] [] rfl ha hb e1 (by simpa using e2)
  exact numsY_inj e3

end Go.Proofs.Ytpdnppncdfialaa
