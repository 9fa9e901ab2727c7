/-
  Own walks: the least of a stretch; Add.
-/
import Derived.Test.YtnfnkojcoeonnaaPfK
namespace Go.Proofs.Ytnfnkojcoeonnaa
open Go.RowKit Go.Sort Go.Lib

section
variable {L : List (Int × Int)} {now : Int} {f : Int → Int}
theorem IsIx.mono (hs : Sm L now f) {s t : Int} {i j : Nat} (hi : IsIx L s i) (hj : IsIx L t j) (hst : s ≤ t) : i ≤ j := by
  rcases Nat.lt_or_ge j i with h1 | h1
  · have h2 := hj.nx (by have := hi.lt; omega)
    have h3 := hi.le (by omega)
    have h4 := hs.le (i := j + 1) (j := i) h1 hi.lt
    omega
  · exact h1
/-- The steps that hold at some time of a stretch. -/
theorem part_val (hs : Sm L now f) {lo hi : Int} {i j : Nat} (h1 : IsIx L lo i) (h2 : IsIx L (hi - 1) j) (hn : now ≤ lo) (hlt : lo < hi) :
    i ≤ j ∧ (∀ t, lo ≤ t → t < hi → ∃ q, i ≤ q ∧ q ≤ j ∧ f t = tV L q) ∧ ∀ q, i ≤ q → q ≤ j → ∃ t, lo ≤ t ∧ t < hi ∧ f t = tV L q := by
  have hij := h1.mono hs h2 (by omega)
  refine ⟨hij, fun t h3 h4 => ?_, fun q h3 h4 => ?_⟩
  · obtain ⟨q, hq⟩ := hs.ix t
    exact ⟨q, h1.mono hs hq h3, hq.mono hs h2 (by omega), hq.val hs (by omega)⟩
  · have hjl := h2.lt
    have hql : q < L.length := by omega
    have hjle := h2.le_now hs (by omega)
    have hqj := hs.le h4 hjl
    have hnx : q + 1 < L.length → lo < tA L (q + 1) := fun hx => by
      have h5 := h1.nx (by omega)
      have h6 := hs.le (i := i + 1) (j := q + 1) (by omega) hx
      omega
    refine ⟨max (tA L q) lo, by omega, by omega, hs.rep q _ hql (by omega) fun hx => ?_⟩
    have := hnx hx
    have := hs.inc q hx
    omega
end

section
variable {w : World} {p g : Nat} {L : List (Int × Int)} {ver now : Int} {f : Int → Int}

set_option maxRecDepth 100000 in
set_option maxHeartbeats 2000000 in
theorem Least_any (a b : Int) (hb64 : -9223372036854775808 ≤ b ∧ b ≤ 9223372036854775807) (hs : Sm L now f) (hn : 0 ≤ now) (hl : L.length ≤ 1000) (h : PW w p g L ver) :
    Calls Try.prog 19 #[.pointer (some ⟨p, 0, none⟩), .int .i64 a, .int .i64 b] w fun e w' => ∃ m : Int, e = .returned (.int .i64 m) ∧ BL f (max a now) b m ∧ Below w.heap.size w w' := by
  have hno := none_any h hs.pos
  by_cases hab : b ≤ max a now
  · have hp := part_none a b h hs.pos (by rw [hs.hd]; exact hab)
    have hB : Hid (BL f (max a now) b 64) := ⟨Int.le_refl _, fun t h1 h2 => by omega, .inl rfl⟩
    go_enter Try.func19, Try.ntmps19
    go_wp2_with (first | (go_at_call 29; go_must (refine hno.mono ?_); rintro e w' ⟨rfl, rfl⟩) | (go_at_call 33; go_must (refine hp.mono ?_); rintro e w' ⟨rfl, rfl⟩))
    go_loopw [7, 17] (fun u i wr => u = .int .i64 64 ∧ i = .int .i64 0 ∧ wr = w) (fun _ _ _ => 0)
    case atStart => exact ⟨rfl, rfl, rfl⟩
    case round =>
      obtain ⟨rfl, rfl, rfl⟩ := hrel
      go_wp2_with fail
      go_ret
      exact ⟨64, rfl, hB.out, Below.refl _ _⟩
  · obtain ⟨m0, hm0⟩ : ∃ m0, m0 = max a now := ⟨_, rfl⟩
    obtain ⟨i, hi⟩ := hs.ix m0
    obtain ⟨j, hj⟩ := hs.ix (b - 1)
    obtain ⟨hij, hall, hone⟩ := part_val hs hi hj (by omega) (by omega)
    rw [← hm0] at hab ⊢
    obtain ⟨cap, F⟩ := h.facts
    have hp := part_some a b m0 (by rw [hs.hd]; exact hm0.symm) (by omega) (by omega) hi hj hij hs hl h F
    have hjl := hj.lt
    obtain ⟨c, hc⟩ : ∃ c, c = j + 1 - i := ⟨_, rfl⟩
    obtain ⟨cc, hcc⟩ : ∃ cc, cc = cap - i := ⟨_, rfl⟩
    rw [← hc, ← hcc] at hp
    have own1 := F.own
    clear F
    replace hi := Lib.hid hi
    replace hj := Lib.hid hj
    replace hall := Lib.hid hall
    replace hone := Lib.hid hone
    replace hc := Lib.hid hc
    replace hcc := Lib.hid hcc
    replace hm0 := Lib.hid hm0
    go_enter Try.func19, Try.ntmps19
    go_wp2_with (go_at_call 29; go_must (refine hno.mono ?_); rintro e w' ⟨rfl, rfl⟩)
    go_at_call 33
    refine hp.mono ?_
    clear hp hno
    rintro e w1 ⟨rfl, hb1⟩
    go_wp2_with fail
    go_loopw [7, 17] (fun u k wr => ∃ (q : Nat) (m : Int), q ≤ c ∧ k = .int .i64 q ∧ u = .int .i64 m ∧ m ≤ 64 ∧ (∀ r, r < q → m ≤ tV L (i + r)) ∧ (m = 64 ∨ ∃ r, r < q ∧ m = tV L (i + r)) ∧ Below w.heap.size w wr) (fun _ k _ => c - (intOf k).toNat)
    case atStart => exact ⟨0, 64, Nat.zero_le _, rfl, rfl, Int.le_refl _, fun r hr => by omega, .inl rfl, hb1⟩
    case round =>
      obtain ⟨q, m, hq, rfl, rfl, hm64, hlo, hex, hbr⟩ := hrel
      by_cases hlt : q < c
      · have hcv := hc.out
        have hown := own_kept own1 hbr
        obtain ⟨s0, s1⟩ := step_cells hown (show i + q < L.length by omega)
        rw [Nat.add_mul] at s0 s1
        obtain ⟨x, hx⟩ : ∃ x, x = tV L (i + q) := ⟨_, rfl⟩
        obtain ⟨y, hy⟩ : ∃ y, y = tA L (i + q) := ⟨_, rfl⟩
        rw [← hx] at s1
        rw [← hy] at s0
        have hsz := hbr.size
        have hw2 : IntKind.i64.wrap ((q : Int) + 1) = (q : Int) + 1 := IntWalk.i64_in _ (by omega)
        have b1 : (0 : Int) ≤ q := by omega
        have b2 : (q : Int) < (c : Int) := by omega
        have hbd : Below w.heap.size w (wr.alloc (.cells #[.int .i64 y, .int .i64 x] 59)) := hbr.alloc hsz _
        have hlo2 : Hid (∀ r, r < q + 1 → min m x ≤ tV L (i + r)) := fun r hr => by
          rcases Nat.lt_or_ge r q with h5 | h5
          · have := hlo r h5; omega
          · have : r = q := by omega
            subst this; rw [← hx]; omega
        have hex2 : Hid (min m x = 64 ∨ ∃ r, r < q + 1 ∧ min m x = tV L (i + r)) := by
          show _ ∨ _
          rcases Int.lt_or_le x m with h5 | h5
          · exact .inr ⟨q, by omega, by rw [← hx]; omega⟩
          · have e : min m x = m := by omega
            rw [e]
            rcases hex with h6 | ⟨r, h6, h7⟩
            · exact .inl h6
            · exact .inr ⟨r, by omega, h7⟩
        replace hx := Lib.hid hx
        replace hy := Lib.hid hy
        clear hlo hex hcv hown
        go_wp2_with fail
        go_roundw
        case rel => exact ⟨q + 1, min m x, by omega, by go_num, rfl, by omega, hlo2.out, hex2.out, hbd⟩
        case measure => simp [intOf]; omega
      · obtain rfl : q = c := by omega
        have hB : Hid (BL f m0 b m) := by
          refine ⟨hm64, fun t h1 h2 => ?_, ?_⟩
          · obtain ⟨r, h3, h4, h5⟩ := hall.out t h1 h2
            have := hlo (r - i) (by have := hc.out; omega)
            rw [show i + (r - i) = r by omega] at this
            omega
          · rcases hex with h6 | ⟨r, h6, h7⟩
            · exact .inl h6
            · obtain ⟨t, h3, h4, h5⟩ := hone.out (i + r) (by omega) (by have := hc.out; omega)
              exact .inr ⟨t, h3, h4, by omega⟩
        clear hlo hex
        go_wp2_with fail
        go_ret
        exact ⟨m, rfl, hB.out, hbr⟩
end

/-- What Add tells, and makes. -/
def AddR (f : Int → Int) (now a b n e : Int) (f' : Int → Int) (dv : Int) : Prop :=
  ((b ≤ a ∨ 1152921504606846976 < b ∨ n < -64 ∨ 64 < n) ∧ e = 1 ∧ f' = f ∧ dv = 0) ∨
  (¬ (b ≤ a ∨ 1152921504606846976 < b ∨ n < -64 ∨ 64 < n) ∧ (b ≤ max a now ∨ n = 0) ∧ e = 0 ∧ f' = f ∧ dv = 0) ∨
  (¬ (b ≤ a ∨ 1152921504606846976 < b ∨ n < -64 ∨ 64 < n) ∧ ¬ (b ≤ max a now ∨ n = 0) ∧ (∃ t, max a now ≤ t ∧ t < b ∧ (f t + n < 0 ∨ 64 < f t + n)) ∧ e = 5 ∧ f' = f ∧ dv = 0) ∨
  (¬ (b ≤ a ∨ 1152921504606846976 < b ∨ n < -64 ∨ 64 < n) ∧ ¬ (b ≤ max a now ∨ n = 0) ∧ (∀ t, max a now ≤ t → t < b → 0 ≤ f t + n ∧ f t + n ≤ 64) ∧ e = 0 ∧ f' = (fun t => f t + had (max a now) b n t) ∧ dv = 1)

theorem AddR.uniq {f g f' g' : Int → Int} {now a b n e e2 dv dv2 : Int} (h : AddR f now a b n e f' dv) (h' : AddR g now a b n e2 g' dv2) (hfg : ∀ t, now ≤ t → f t = g t) : e = e2 ∧ dv = dv2 ∧ ∀ t, now ≤ t → f' t = g' t := by
  rcases h with ⟨a1, rfl, rfl, rfl⟩ | ⟨a1, a2, rfl, rfl, rfl⟩ | ⟨a1, a2, a3, rfl, rfl, rfl⟩ | ⟨a1, a2, a3, rfl, rfl, rfl⟩ <;>
    rcases h' with ⟨c1, rfl, rfl, rfl⟩ | ⟨c1, c2, rfl, rfl, rfl⟩ | ⟨c1, c2, c3, rfl, rfl, rfl⟩ | ⟨c1, c2, c3, rfl, rfl, rfl⟩ <;>
    first
    | exact ⟨rfl, rfl, hfg⟩
    | exact absurd c1 a1
    | exact absurd a1 c1
    | exact absurd c2 a2
    | exact absurd a2 c2
    | (obtain ⟨t, h1, h2, h3⟩ := a3; have := c3 t h1 h2; have := hfg t (by omega); omega)
    | (obtain ⟨t, h1, h2, h3⟩ := c3; have := a3 t h1 h2; have := hfg t (by omega); omega)
    | exact ⟨rfl, rfl, fun t ht => by show f t + _ = g t + _; rw [hfg t ht]⟩

end Go.Proofs.Ytnfnkojcoeonnaa
