/-
  Own arithmetic: a request's bytes, read part by part.
-/
import Derived.Test.YtojipdcckanbfaaRqM
import Derived.Test.YtojipdcckanbfaaRdL
namespace Go.Proofs.Ytojipdcckanbfaa
open Go.RowKit

/-- A request's bytes: the first two, the fields, the sum. -/
theorem encQ_split {r : Rq} {c0 c1 s : UInt8} {mid : List UInt8} : encQ r = c0 :: c1 :: (mid ++ [s]) ↔ (c0 = byt 183 ∧ c1 = byt r.kind.toNat ∧ mid = fieldsQ r ∧ s = byt (ckF (c0 :: c1 :: mid))) := by
  unfold encQ bodyQ
  constructor
  · intro h
    rw [List.cons_append, List.cons_append, List.cons.injEq, List.cons.injEq] at h
    obtain ⟨h1, h2, h3⟩ := h
    have hlen : (fieldsQ r).length = mid.length := by
      have := congrArg List.length h3
      simpa using this
    obtain ⟨h4, h5⟩ := List.append_inj h3 hlen
    rw [List.cons.injEq] at h5
    refine ⟨h1.symm, h2.symm, h4.symm, ?_⟩
    rw [← h1, ← h2, ← h4]
    exact h5.1.symm
  · rintro ⟨rfl, rfl, rfl, rfl⟩
    rfl
theorem list_split {l : List UInt8} (h : 3 ≤ l.length) : ∃ c0 c1 mid s, l = c0 :: c1 :: (mid ++ [s]) := by
  match l, h with
  | c0 :: c1 :: t, h =>
    have ht : t ≠ [] := by intro e; subst e; simp at h
    exact ⟨c0, c1, t.dropLast, t.getLast ht, by rw [List.dropLast_concat_getLast ht]⟩

theorem SR.none_no {o o' : Option (List UInt8)} {x : Int} (h : SR o x o') (ho : o' = none) : x = 0 := by
  cases o with
  | none => exact h.1
  | some l =>
    rcases h with ⟨_, rest, _, h⟩ | ⟨h, _⟩
    · rw [ho] at h; cases h
    · exact h

/-- What is read of a request's fields, by its kind: a number alone. -/
theorem one_read {mid : List UInt8} {x : Int} {o : Option (List UInt8)} {p : Int} (h1 : SR (some mid) x o) (h2 : ER o p) : (p = 0 ∧ Fit x ∧ mid = enc (zg x)) ∨ (Wrong p ∧ ∀ y, Fit y → mid ≠ enc (zg y)) := by
  rcases h1 with ⟨hx, rest, hm, rfl⟩ | ⟨rfl, rfl, no⟩
  · match rest, hm, h2 with
    | [], hm, h2 => exact .inl ⟨h2, hx, by simpa using hm⟩
    | c :: rest, hm, h2 =>
      refine .inr ⟨h2, fun y hy he => ?_⟩
      rw [he] at hm
      have := (zg_prefix (s := []) hy hx (by simpa using hm)).2
      cases this
  · exact .inr ⟨h2, fun y hy he => no y [] hy (by simpa using he)⟩
theorem none_read {mid : List UInt8} {p : Int} (h2 : ER (some mid) p) : (p = 0 ∧ mid = []) ∨ (Wrong p ∧ mid ≠ []) := by
  match mid, h2 with
  | [], h2 => exact .inl ⟨h2, rfl⟩
  | c :: l, h2 => exact .inr ⟨h2, by simp⟩
/-- Four numbers and a boolean. -/
theorem five_read {mid : List UInt8} {a b c d : Int} {e : Bool} {o1 o2 o3 o4 o5 : Option (List UInt8)} {p : Int} (h1 : SR (some mid) a o1) (h2 : SR o1 b o2) (h3 : SR o2 c o3) (h4 : SR o3 d o4) (h5 : BR o4 e o5) (h6 : ER o5 p) :
    (p = 0 ∧ Fit a ∧ Fit b ∧ Fit c ∧ Fit d ∧ mid = encAll [a, b, c, d] ++ [if e then 1 else 0]) ∨ (Wrong p ∧ ∀ (a' b' c' d' : Int) (e' : Bool), Fit a' → Fit b' → Fit c' → Fit d' → mid ≠ encAll [a', b', c', d'] ++ [if e' then 1 else 0]) := by
  have hall : ∀ (a b c d : Int) (t : List UInt8), encAll [a, b, c, d] ++ t = enc (zg a) ++ (enc (zg b) ++ (enc (zg c) ++ (enc (zg d) ++ t))) := by intro a b c d t; simp [encAll]
  have bad : ∀ {o : Option (List UInt8)} {p : Int}, o = none → ER o p → Wrong p := by intro o p h; subst h; exact id
  rcases h1 with ⟨fa, r1, m1, rfl⟩ | ⟨rfl, rfl, no⟩
  · rcases h2 with ⟨fb, r2, m2, rfl⟩ | ⟨rfl, rfl, no⟩
    · rcases h3 with ⟨fc, r3, m3, rfl⟩ | ⟨rfl, rfl, no⟩
      · rcases h4 with ⟨fd, r4, m4, rfl⟩ | ⟨rfl, rfl, no⟩
        · rcases h5 with ⟨r5, m5, rfl⟩ | ⟨rfl, rfl, no⟩
          · match r5, m5, h6 with
            | [], m5, h6 =>
              refine .inl ⟨h6, fa, fb, fc, fd, ?_⟩
              rw [hall, ← m5, ← m4, ← m3, ← m2, ← m1]
            | x :: r5, m5, h6 =>
              refine .inr ⟨h6, fun a' b' c' d' e' f1 f2 f3 f4 he => ?_⟩
              rw [hall, m1] at he
              obtain ⟨_, he⟩ := zg_prefix fa f1 he
              rw [m2] at he
              obtain ⟨_, he⟩ := zg_prefix fb f2 he
              rw [m3] at he
              obtain ⟨_, he⟩ := zg_prefix fc f3 he
              rw [m4] at he
              obtain ⟨_, he⟩ := zg_prefix fd f4 he
              rw [m5] at he
              simp at he
          · refine .inr ⟨h6, fun a' b' c' d' e' f1 f2 f3 f4 he => ?_⟩
            rw [hall, m1] at he
            obtain ⟨_, he⟩ := zg_prefix fa f1 he
            rw [m2] at he
            obtain ⟨_, he⟩ := zg_prefix fb f2 he
            rw [m3] at he
            obtain ⟨_, he⟩ := zg_prefix fc f3 he
            rw [m4] at he
            obtain ⟨_, he⟩ := zg_prefix fd f4 he
            exact no e' [] he
        · obtain ⟨_, rfl⟩ := h5
          refine .inr ⟨h6, fun a' b' c' d' e' f1 f2 f3 f4 he => ?_⟩
          rw [hall, m1] at he
          obtain ⟨_, he⟩ := zg_prefix fa f1 he
          rw [m2] at he
          obtain ⟨_, he⟩ := zg_prefix fb f2 he
          rw [m3] at he
          obtain ⟨_, he⟩ := zg_prefix fc f3 he
          exact no d' _ f4 he
      · obtain ⟨_, rfl⟩ := h4
        obtain ⟨_, rfl⟩ := h5
        refine .inr ⟨h6, fun a' b' c' d' e' f1 f2 f3 f4 he => ?_⟩
        rw [hall, m1] at he
        obtain ⟨_, he⟩ := zg_prefix fa f1 he
        rw [m2] at he
        obtain ⟨_, he⟩ := zg_prefix fb f2 he
        exact no c' _ f3 he
    · obtain ⟨_, rfl⟩ := h3
      obtain ⟨_, rfl⟩ := h4
      obtain ⟨_, rfl⟩ := h5
      refine .inr ⟨h6, fun a' b' c' d' e' f1 f2 f3 f4 he => ?_⟩
      rw [hall, m1] at he
      obtain ⟨_, he⟩ := zg_prefix fa f1 he
      exact no b' _ f2 he
  · obtain ⟨_, rfl⟩ := h2
    obtain ⟨_, rfl⟩ := h3
    obtain ⟨_, rfl⟩ := h4
    obtain ⟨_, rfl⟩ := h5
    refine .inr ⟨h6, fun a' b' c' d' e' f1 f2 f3 f4 he => ?_⟩
    rw [hall] at he
    exact no a' _ f1 he

end Go.Proofs.Ytojipdcckanbfaa
