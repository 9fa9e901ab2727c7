/-
  Own walks: the least of a stretch; Add.
-/
import Derived.Test.YtbnpeicmbbgboaaPfK
namespace Go.Proofs.Ytbnpeicmbbgboaa
set_option maxRecDepth 8000
open Go.RowKit Go.Sort Go.Lib

section
variable {L : List (Int × Int)} {now : Int} {f : Int → Int}
theorem IsIx.mono (hs : Sm L now f) {s t : Int} {i j : Nat} (hi : IsIx L s i) (hj : IsIx L t j) (hst : s ≤ t) : i ≤ j := by
  rcases Nat.lt_or_ge j i with h1 | h1
  · have h2 := hj.nx (by have := hi.lt; omega)
    have h3 := hi.le (by omega)
    have h4 := hs.le (i := j + 1) (j := i) h1 hi.lt
    omega
  · exact h1
/-- The steps that hold at some time of a stretch. -/
theorem part_val (hs : Sm L now f) {lo hi : Int} {i j : Nat} (h1 : IsIx L lo i) (h2 : IsIx L (hi - 1) j) (hn : now ≤ lo) (hlt : lo < hi) :
    i ≤ j ∧ (∀ t, lo ≤ t → t < hi → ∃ q, i ≤ q ∧ q ≤ j ∧ f t = tV L q) ∧ ∀ q, i ≤ q → q ≤ j → ∃ t, lo ≤ t ∧ t < hi ∧ f t = tV L q := by
  have hij := h1.mono hs h2 (by omega)
  refine ⟨hij, fun t h3 h4 => ?_, fun q h3 h4 => ?_⟩
  · obtain ⟨q, hq⟩ := hs.ix t
    exact ⟨q, h1.mono hs hq h3, hq.mono hs h2 (by omega), hq.val hs (by omega)⟩
  · have hjl := h2.lt
    have hql : q < L.length := by omega
    have hjle := h2.le_now hs (by omega)
    have hqj := hs.le h4 hjl
    have hnx : q + 1 < L.length → lo < tA L (q + 1) := fun hx => by
      have h5 := h1.nx (by omega)
      have h6 := hs.le (i := i + 1) (j := q + 1) (by omega) hx
      omega
    refine ⟨max (tA L q) lo, by omega, by omega, hs.rep q _ hql (by omega) fun hx => ?_⟩
    have := hnx hx
    have := hs.inc q hx
    omega
end

section
variable {w : World} {p g : Nat} {L : List (Int × Int)} {ver now : Int} {f : Int → Int}

end

/-- What Add tells, and makes. -/
def AddR (f : Int → Int) (now a b n e : Int) (f' : Int → Int) (dv : Int) : Prop :=
  ((b ≤ a ∨ 1152921504606846976 < b ∨ n < -64 ∨ 64 < n) ∧ e = 1 ∧ f' = f ∧ dv = 0) ∨
  (¬ (b ≤ a ∨ 1152921504606846976 < b ∨ n < -64 ∨ 64 < n) ∧ (b ≤ max a now ∨ n = 0) ∧ e = 0 ∧ f' = f ∧ dv = 0) ∨
  (¬ (b ≤ a ∨ 1152921504606846976 < b ∨ n < -64 ∨ 64 < n) ∧ ¬ (b ≤ max a now ∨ n = 0) ∧ (∃ t, max a now ≤ t ∧ t < b ∧ (f t + n < 0 ∨ 64 < f t + n)) ∧ e = 5 ∧ f' = f ∧ dv = 0) ∨
  (¬ (b ≤ a ∨ 1152921504606846976 < b ∨ n < -64 ∨ 64 < n) ∧ ¬ (b ≤ max a now ∨ n = 0) ∧ (∀ t, max a now ≤ t → t < b → 0 ≤ f t + n ∧ f t + n ≤ 64) ∧ e = 0 ∧ f' = (fun t => f t + had (max a now) b n t) ∧ dv = 1)

theorem AddR.uniq {f g f' g' : Int → Int} {now a b n e e2 dv dv2 : Int} (h : AddR f now a b n e f' dv) (h' : AddR g now a b n e2 g' dv2) (hfg : ∀ t, now ≤ t → f t = g t) : e = e2 ∧ dv = dv2 ∧ ∀ t, now ≤ t → f' t = g' t := by
  rcases h with ⟨a1, rfl, rfl, rfl⟩ | ⟨a1, a2, rfl, rfl, rfl⟩ | ⟨a1, a2, a3, rfl, rfl, rfl⟩ | ⟨a1, a2, a3, rfl, rfl, rfl⟩ <;>
    rcases h' with ⟨c1, rfl, rfl, rfl⟩ | ⟨c1, c2, rfl, rfl, rfl⟩ | ⟨c1, c2, c3, rfl, rfl, rfl⟩ | ⟨c1, c2, c3, rfl, rfl, rfl⟩ <;>
    first
    | exact ⟨rfl, rfl, hfg⟩
    | exact absurd c1 a1
    | exact absurd a1 c1
    | exact absurd c2 a2
    | exact absurd a2 c2
    | (obtain ⟨t, h1, h2, h3⟩ := a3; have := c3 t h1 h2; have := hfg t (by omega); omega)
    | (obtain ⟨t, h1, h2, h3⟩ := c3; have := a3 t h1 h2; have := hfg t (by omega); omega)
    | exact ⟨rfl, rfl, fun t ht => by show f t + _ = g t + _; rw [hfg t ht]⟩

end Go.Proofs.Ytbnpeicmbbgboaa
