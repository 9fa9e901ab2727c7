/-
  Own arithmetic: what bytes are a request's, by their first two, their sum and what is read of the rest.
-/
import Derived.Test.YtojipdcckanbfaaRqR
namespace Go.Proofs.Ytojipdcckanbfaa
open Go.RowKit

/-- These bytes are no request's. -/
def NoReq (l : List UInt8) : Prop := ∀ r, FitsR r → rightQ r = true → encQ r ≠ l

section
variable {c0 c1 s : UInt8} {mid : List UInt8}

theorem right_parts {r : Rq} (h : rightQ r = true) : (1 ≤ r.kind ∧ r.kind ≤ 13) ∧ cleanR r = r := by
  unfold rightQ at h
  simpa using h
theorem no_head (h : c0 ≠ byt 183 ∨ s ≠ byt (ckF (c0 :: c1 :: mid))) : NoReq (c0 :: c1 :: (mid ++ [s])) := by
  intro r _ _ he
  obtain ⟨h0, _, _, h3⟩ := encQ_split.1 he
  rcases h with h | h
  · exact h h0
  · exact h h3
/-- A request's second byte is its kind. -/
theorem kind_of {r : Rq} (hr : rightQ r = true) (he : encQ r = c0 :: c1 :: (mid ++ [s])) : r.kind = (c1.toNat : Int) := by
  obtain ⟨_, h1, _, _⟩ := encQ_split.1 he
  have hk := (right_parts hr).1
  rw [h1, byt_toNat (by omega)]
  omega
theorem no_kind (h : ¬ (1 ≤ c1.toNat ∧ c1.toNat ≤ 13)) : NoReq (c0 :: c1 :: (mid ++ [s])) := by
  intro r _ hr he
  have hk := (right_parts hr).1
  rw [kind_of hr he] at hk
  omega
theorem byt_of {n : Nat} (h : c1.toNat = n) : byt n = c1 := by subst h; unfold byt; simp
/-- The head and the sum are right, and the fields are these. -/
theorem enc_of {r : Rq} {n : Nat} (hr : r.kind = (n : Int)) (hc : c1.toNat = n) (h0 : c0 = byt 183) (hs : s = byt (ckF (c0 :: c1 :: mid))) (hm : mid = fieldsQ r) : encQ r = c0 :: c1 :: (mid ++ [s]) := by
  refine encQ_split.2 ⟨h0, ?_, hm, hs⟩
  rw [hr, Int.toNat_natCast, byt_of hc]

theorem read1 {a b c d : Int} {e : Bool} {o1 o2 o3 o4 o5 : Option (List UInt8)} {p : Int} (hc : c1.toNat = 1) (h0 : c0 = byt 183) (hs : s = byt (ckF (c0 :: c1 :: mid)))
    (h1 : SR (some mid) a o1) (h2 : SR o1 b o2) (h3 : SR o2 c o3) (h4 : SR o3 d o4) (h5 : BR o4 e o5) (h6 : ER o5 p) :
    (p = 0 ∧ FitsR ⟨1, 0, a, b, c, d, e, 0, 0⟩ ∧ rightQ ⟨1, 0, a, b, c, d, e, 0, 0⟩ = true ∧ encQ ⟨1, 0, a, b, c, d, e, 0, 0⟩ = c0 :: c1 :: (mid ++ [s])) ∨ (Wrong p ∧ NoReq (c0 :: c1 :: (mid ++ [s]))) := by
  have z : (-9223372036854775808 : Int) ≤ 0 ∧ (0 : Int) ≤ 9223372036854775807 := by omega
  rcases five_read h1 h2 h3 h4 h5 h6 with ⟨hp, fa, fb, fc, fd, hm⟩ | ⟨hp, no⟩
  · refine .inl ⟨hp, ⟨by show (-9223372036854775808 : Int) ≤ 1 ∧ (1 : Int) ≤ _; omega, z, fa, fb, fc, fd, z, z⟩, by simp [rightQ, cleanR], enc_of (n := 1) rfl hc h0 hs ?_⟩
    rw [hm]; simp [fieldsQ]
  · refine .inr ⟨hp, fun r fr hr he => ?_⟩
    have hk := kind_of hr he
    rw [hc] at hk
    obtain ⟨_, _, hm, _⟩ := encQ_split.1 he
    have hf : fieldsQ r = encAll [r.user, r.width, r.limit, r.prio] ++ [if r.held then 1 else 0] := by unfold fieldsQ; rw [if_pos (by rw [hk]; rfl)]
    rw [hf] at hm
    exact no _ _ _ _ _ fr.user fr.width fr.limit fr.prio hm
theorem read2 {x : Int} {o : Option (List UInt8)} {p : Int} (k : Nat) (hk2 : k = 2 ∨ k = 3 ∨ k = 4 ∨ k = 5 ∨ k = 6) (hc : c1.toNat = k) (h0 : c0 = byt 183) (hs : s = byt (ckF (c0 :: c1 :: mid))) (h1 : SR (some mid) x o) (h2 : ER o p) :
    (p = 0 ∧ FitsR ⟨k, x, 0, 0, 0, 0, false, 0, 0⟩ ∧ rightQ ⟨k, x, 0, 0, 0, 0, false, 0, 0⟩ = true ∧ encQ ⟨k, x, 0, 0, 0, 0, false, 0, 0⟩ = c0 :: c1 :: (mid ++ [s])) ∨ (Wrong p ∧ NoReq (c0 :: c1 :: (mid ++ [s]))) := by
  have z : (-9223372036854775808 : Int) ≤ 0 ∧ (0 : Int) ≤ 9223372036854775807 := by omega
  have zk : (-9223372036854775808 : Int) ≤ (k : Int) ∧ (k : Int) ≤ 9223372036854775807 := by omega
  have hk1 : ¬ (k : Int) = 1 := by omega
  have hk3 : (k : Int) = 2 ∨ (k : Int) = 3 ∨ (k : Int) = 4 ∨ (k : Int) = 5 ∨ (k : Int) = 6 := by omega
  rcases one_read h1 h2 with ⟨hp, fx, hm⟩ | ⟨hp, no⟩
  · refine .inl ⟨hp, ⟨zk, fx, z, z, z, z, z, z⟩, ?_, enc_of (n := k) rfl hc h0 hs ?_⟩
    · unfold rightQ cleanR
      simp only [hk1, hk3, if_true, if_false, decide_true, Bool.and_true, Bool.and_eq_true, decide_eq_true_eq]
      omega
    · rw [hm]; simp only [fieldsQ, hk1, hk3, if_true, if_false]
  · refine .inr ⟨hp, fun r fr hr he => ?_⟩
    have hk := kind_of hr he
    rw [hc] at hk
    obtain ⟨_, _, hm, _⟩ := encQ_split.1 he
    have hf : fieldsQ r = enc (zg r.id) := by unfold fieldsQ; rw [if_neg (by omega), if_pos (by omega)]
    rw [hf] at hm
    exact no _ fr.id hm
theorem read7 {x : Int} {o : Option (List UInt8)} {p : Int} (k : Nat) (hk2 : k = 7 ∨ k = 8) (hc : c1.toNat = k) (h0 : c0 = byt 183) (hs : s = byt (ckF (c0 :: c1 :: mid))) (h1 : SR (some mid) x o) (h2 : ER o p) :
    (p = 0 ∧ FitsR ⟨k, 0, 0, 0, 0, 0, false, x, 0⟩ ∧ rightQ ⟨k, 0, 0, 0, 0, 0, false, x, 0⟩ = true ∧ encQ ⟨k, 0, 0, 0, 0, 0, false, x, 0⟩ = c0 :: c1 :: (mid ++ [s])) ∨ (Wrong p ∧ NoReq (c0 :: c1 :: (mid ++ [s]))) := by
  have z : (-9223372036854775808 : Int) ≤ 0 ∧ (0 : Int) ≤ 9223372036854775807 := by omega
  have zk : (-9223372036854775808 : Int) ≤ (k : Int) ∧ (k : Int) ≤ 9223372036854775807 := by omega
  have hk1 : ¬ (k : Int) = 1 := by omega
  have hk3 : ¬ ((k : Int) = 2 ∨ (k : Int) = 3 ∨ (k : Int) = 4 ∨ (k : Int) = 5 ∨ (k : Int) = 6) := by omega
  have hk4 : (k : Int) = 7 ∨ (k : Int) = 8 := by omega
  rcases one_read h1 h2 with ⟨hp, fx, hm⟩ | ⟨hp, no⟩
  · refine .inl ⟨hp, ⟨zk, z, z, z, z, z, fx, z⟩, ?_, enc_of (n := k) rfl hc h0 hs ?_⟩
    · unfold rightQ cleanR
      simp only [hk1, hk3, hk4, if_true, if_false, decide_true, Bool.and_true, Bool.and_eq_true, decide_eq_true_eq]
      omega
    · rw [hm]; simp only [fieldsQ, hk1, hk3, hk4, if_true, if_false]
  · refine .inr ⟨hp, fun r fr hr he => ?_⟩
    have hk := kind_of hr he
    rw [hc] at hk
    obtain ⟨_, _, hm, _⟩ := encQ_split.1 he
    have hf : fieldsQ r = enc (zg r.node) := by unfold fieldsQ; rw [if_neg (by omega), if_neg (by omega), if_pos (by omega)]
    rw [hf] at hm
    exact no _ fr.node hm
theorem read9 {x : Int} {o : Option (List UInt8)} {p : Int} (hc : c1.toNat = 9) (h0 : c0 = byt 183) (hs : s = byt (ckF (c0 :: c1 :: mid))) (h1 : SR (some mid) x o) (h2 : ER o p) :
    (p = 0 ∧ FitsR ⟨9, 0, 0, 0, 0, 0, false, 0, x⟩ ∧ rightQ ⟨9, 0, 0, 0, 0, 0, false, 0, x⟩ = true ∧ encQ ⟨9, 0, 0, 0, 0, 0, false, 0, x⟩ = c0 :: c1 :: (mid ++ [s])) ∨ (Wrong p ∧ NoReq (c0 :: c1 :: (mid ++ [s]))) := by
  have z : (-9223372036854775808 : Int) ≤ 0 ∧ (0 : Int) ≤ 9223372036854775807 := by omega
  rcases one_read h1 h2 with ⟨hp, fx, hm⟩ | ⟨hp, no⟩
  · refine .inl ⟨hp, ⟨by show (-9223372036854775808 : Int) ≤ 9 ∧ (9 : Int) ≤ _; omega, z, z, z, z, z, z, fx⟩, by simp [rightQ, cleanR], enc_of (n := 9) rfl hc h0 hs ?_⟩
    rw [hm]; rfl
  · refine .inr ⟨hp, fun r fr hr he => ?_⟩
    have hk := kind_of hr he
    rw [hc] at hk
    obtain ⟨_, _, hm, _⟩ := encQ_split.1 he
    have hf : fieldsQ r = enc (zg r.till) := by unfold fieldsQ; rw [if_neg (by omega), if_neg (by omega), if_neg (by omega), if_pos (by omega)]
    rw [hf] at hm
    exact no _ fr.till hm
theorem read10 {p : Int} (k : Nat) (hk2 : k = 10 ∨ k = 11 ∨ k = 12 ∨ k = 13) (hc : c1.toNat = k) (h0 : c0 = byt 183) (hs : s = byt (ckF (c0 :: c1 :: mid))) (h2 : ER (some mid) p) :
    (p = 0 ∧ FitsR ⟨k, 0, 0, 0, 0, 0, false, 0, 0⟩ ∧ rightQ ⟨k, 0, 0, 0, 0, 0, false, 0, 0⟩ = true ∧ encQ ⟨k, 0, 0, 0, 0, 0, false, 0, 0⟩ = c0 :: c1 :: (mid ++ [s])) ∨ (Wrong p ∧ NoReq (c0 :: c1 :: (mid ++ [s]))) := by
  have z : (-9223372036854775808 : Int) ≤ 0 ∧ (0 : Int) ≤ 9223372036854775807 := by omega
  have zk : (-9223372036854775808 : Int) ≤ (k : Int) ∧ (k : Int) ≤ 9223372036854775807 := by omega
  have hk1 : ¬ (k : Int) = 1 := by omega
  have hk3 : ¬ ((k : Int) = 2 ∨ (k : Int) = 3 ∨ (k : Int) = 4 ∨ (k : Int) = 5 ∨ (k : Int) = 6) := by omega
  have hk4 : ¬ ((k : Int) = 7 ∨ (k : Int) = 8) := by omega
  have hk5 : ¬ ((k : Int) = 9) := by omega
  rcases none_read h2 with ⟨hp, hm⟩ | ⟨hp, no⟩
  · refine .inl ⟨hp, ⟨zk, z, z, z, z, z, z, z⟩, ?_, enc_of (n := k) rfl hc h0 hs ?_⟩
    · unfold rightQ cleanR
      simp only [hk1, hk3, hk4, hk5, if_false, decide_true, Bool.and_true, Bool.and_eq_true, decide_eq_true_eq]
      omega
    · rw [hm]; simp only [fieldsQ, hk1, hk3, hk4, hk5, if_false]
  · refine .inr ⟨hp, fun r fr hr he => ?_⟩
    have hk := kind_of hr he
    rw [hc] at hk
    obtain ⟨_, _, hm, _⟩ := encQ_split.1 he
    have hf : fieldsQ r = [] := by unfold fieldsQ; rw [if_neg (by omega), if_neg (by omega), if_neg (by omega), if_neg (by omega)]
    rw [hf] at hm
    exact no hm
end

end Go.Proofs.Ytojipdcckanbfaa
