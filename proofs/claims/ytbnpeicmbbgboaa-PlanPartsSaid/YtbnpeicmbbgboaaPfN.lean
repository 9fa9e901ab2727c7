/-
  Own walks: Add, Reserve, Release.
-/
import Derived.Test.YtbnpeicmbbgboaaPfL
namespace Go.Proofs.Ytbnpeicmbbgboaa
set_option maxRecDepth 8000
open Go.RowKit Go.Sort Go.Lib

/-- From Forever on nothing changes any more. -/
theorem Sm.late {L : List (Int × Int)} {now : Int} {f : Int → Int} (h : Sm L now f) (t : Int) (ht : 1152921504606846975 ≤ t) : f t = f 1152921504606846975 := by
  obtain ⟨i, hi⟩ := h.ix t
  have hn : now < 1152921504606846976 := by rw [← h.hd]; exact h.top 0 h.pos
  have hi2 : IsIx L 1152921504606846975 i := ⟨hi.lt, fun _ => by have := h.top i hi.lt; omega, fun hx => by have := hi.nx hx; have := h.top (i + 1) hx; omega⟩
  rw [hi.val h (by omega), hi2.val h (by omega)]

/-- What is free stays from 0 to 64. -/
theorem AddR.range {f f' : Int → Int} {now a b n e dv : Int} (h : AddR f now a b n e f' dv) (hf : ∀ t, now ≤ t → 0 ≤ f t ∧ f t ≤ 64) (hlate : ∀ t, 1152921504606846975 ≤ t → f t = f 1152921504606846975) : ∀ t, now ≤ t → 0 ≤ f' t ∧ f' t ≤ 64 := by
  rcases h with ⟨a1, rfl, rfl, rfl⟩ | ⟨a1, a2, rfl, rfl, rfl⟩ | ⟨a1, a2, a3, rfl, rfl, rfl⟩ | ⟨a1, a2, a3, rfl, rfl, rfl⟩
  · exact hf
  · exact hf
  · exact hf
  · intro t ht
    show 0 ≤ f t + had (max a now) b n t ∧ f t + had (max a now) b n t ≤ 64
    unfold had
    split
    · rename_i h1
      by_cases h2 : t < b
      · exact a3 t h1.1 h2
      · have h3 : b = 1152921504606846976 := by omega
        rw [hlate t (by omega)]
        exact a3 1152921504606846975 (by omega) (by omega)
    · have := hf t ht; omega

section
variable {w : World} {p g : Nat} {L : List (Int × Int)} {ver now : Int} {f : Int → Int}

/-- Another version is laid into a profile. -/
theorem PW_ver (v : Int) (h : PW w p g L ver) : PW (w.setCell ⟨p, 1, none⟩ (.int .i64 v)) p g L v := by
  obtain ⟨cap, F⟩ := h.facts
  have hlt := F.pl
  have h1' : w.heap[p] = _ := (Array.getElem?_eq_some_iff.1 F.obj).2
  refine ⟨cap, by simp [World.setCell, hlt, Array.getElem_modify, h1'], own_far F.own (fun k hk => by cases hk; exact fun e => F.pg e.symm) 1 _⟩

/-- What Add makes. -/
def AddPost (w : World) (p g : Nat) (L : List (Int × Int)) (ver now : Int) (f : Int → Int) (a b n : Int) (e : Ending) (w' : World) : Prop :=
  ∃ (r dv : Int) (f' : Int → Int) (g' : Nat) (L' : List (Int × Int)), e = .returned (.int .i64 r) ∧ AddR f now a b n r f' dv ∧ PW w' p g' L' (ver + dv) ∧ Can L' now f' ∧ (g' = g ∨ w.heap.size ≤ g') ∧ Off p g w w' ∧ L'.length ≤ L.length + 2

theorem AddPost.same {a b n r : Int} {w' : World} (h : PW w p g L ver) (hC : Can L now f) (hR : AddR f now a b n r f 0) (hb : Below w.heap.size w w') : AddPost w p g L ver now f a b n (.returned (.int .i64 r)) w' :=
  ⟨r, 0, f, g, L, rfl, hR, by rw [Int.add_zero]; exact h.kept hb, hC, .inl rfl, Off.of_below hb, by omega⟩

set_option maxHeartbeats 1000000 in
theorem Add_arg (a b n : Int) (hC : Can L now f) (h : PW w p g L ver) (hbad : b ≤ a ∨ 1152921504606846976 < b ∨ n < -64 ∨ 64 < n) :
    Calls Try.prog 42 #[.pointer (some ⟨p, 0, none⟩), .int .i64 a, .int .i64 b, .int .i64 n] w (AddPost w p g L ver now f a b n) := by
  have hno := pf_none_any h hC.sm.pos
  have hfin : Hid (AddPost w p g L ver now f a b n (.returned (.int .i64 1)) w) := AddPost.same h hC (.inl ⟨hbad, rfl, rfl, rfl⟩) (Below.refl _ _)
  by_cases h1 : b ≤ a
  · go_enter Try.func42, Try.ntmps42
    go_wp2_with (go_at_call 30; go_must (refine hno.mono ?_); rintro e w' ⟨rfl, rfl⟩)
    go_ret
    exact hfin.out
  · by_cases h2 : 1152921504606846976 < b
    · go_enter Try.func42, Try.ntmps42
      go_wp2_with (go_at_call 30; go_must (refine hno.mono ?_); rintro e w' ⟨rfl, rfl⟩)
      go_ret
      exact hfin.out
    · by_cases h3 : n < -64
      · go_enter Try.func42, Try.ntmps42
        go_wp2_with (go_at_call 30; go_must (refine hno.mono ?_); rintro e w' ⟨rfl, rfl⟩)
        go_ret
        exact hfin.out
      · have h4 : 64 < n := by omega
        go_enter Try.func42, Try.ntmps42
        go_wp2_with (go_at_call 30; go_must (refine hno.mono ?_); rintro e w' ⟨rfl, rfl⟩)
        go_ret
        exact hfin.out

set_option maxHeartbeats 1000000 in
theorem Add_none (a b n : Int) (hC : Can L now f) (h : PW w p g L ver) (hok : ¬ (b ≤ a ∨ 1152921504606846976 < b ∨ n < -64 ∨ 64 < n)) (hz : b ≤ max a now) :
    Calls Try.prog 42 #[.pointer (some ⟨p, 0, none⟩), .int .i64 a, .int .i64 b, .int .i64 n] w (AddPost w p g L ver now f a b n) := by
  have hno := pf_none_any h hC.sm.pos
  have hp := part_none a b h hC.sm.pos (by rw [hC.sm.hd]; exact hz)
  have hfin : Hid (AddPost w p g L ver now f a b n (.returned (.int .i64 0)) w) := AddPost.same h hC (.inr (.inl ⟨hok, .inl hz, rfl, rfl, rfl⟩)) (Below.refl _ _)
  have h1 : ¬ (b ≤ a) := by omega
  have h2 : ¬ (1152921504606846976 < b) := by omega
  have h3 : ¬ (n < -64) := by omega
  have h4 : ¬ (64 < n) := by omega
  clear hok hz
  go_enter Try.func42, Try.ntmps42
  go_wp2_with (first | (go_at_call 30; go_must (refine hno.mono ?_); rintro e w' ⟨rfl, rfl⟩) | (go_at_call 45; go_must (refine hp.mono ?_); rintro e w' ⟨rfl, rfl⟩))
  go_ret
  exact hfin.out

set_option maxRecDepth 100000 in
set_option maxHeartbeats 2000000 in
theorem Add_some (a b n : Int) (hC : Can L now f) (hn0 : 0 ≤ now) (hf : ∀ t, now ≤ t → 0 ≤ f t ∧ f t ≤ 64) (hver : 0 ≤ ver ∧ ver ≤ 1000000) (hl : L.length ≤ 800) (h : PW w p g L ver) (hok : ¬ (b ≤ a ∨ 1152921504606846976 < b ∨ n < -64 ∨ 64 < n)) (hz : ¬ b ≤ max a now) :
    Calls Try.prog 42 #[.pointer (some ⟨p, 0, none⟩), .int .i64 a, .int .i64 b, .int .i64 n] w (AddPost w p g L ver now f a b n) := by
  have hno := pf_none_any h hC.sm.pos
  obtain ⟨m0, hm0⟩ : ∃ m0, m0 = max a now := ⟨_, rfl⟩
  obtain ⟨i, hi⟩ := hC.sm.ix m0
  obtain ⟨j, hj⟩ := hC.sm.ix (b - 1)
  obtain ⟨hij, hall, hone⟩ := part_val hC.sm hi hj (by omega) (by omega)
  obtain ⟨cap, F⟩ := h.facts
  have hp := part_some a b m0 (by rw [hC.sm.hd]; exact hm0.symm) (by omega) (by omega) hi hj hij hC.sm (by omega) h F
  have hjl := hj.lt
  obtain ⟨c, hc⟩ : ∃ c, c = j + 1 - i := ⟨_, rfl⟩
  obtain ⟨cc, hcc⟩ : ∃ cc, cc = cap - i := ⟨_, rfl⟩
  rw [← hc, ← hcc] at hp
  have own1 := F.own
  clear F
  have h1 : ¬ (b ≤ a) := by omega
  have h2 : ¬ (1152921504606846976 < b) := by omega
  have h3 : ¬ (n < -64) := by omega
  have h4 : ¬ (64 < n) := by omega
  have hc0 : ((c : Int) == 0) = false := beq_eq_false_iff_ne.2 (by omega)
  have hc0' : ¬ ((c : Int) = 0) := by omega
  have hmn : Hid (now ≤ m0 ∧ m0 < b) := by show _ ∧ _; omega
  replace hi := Lib.hid hi
  replace hj := Lib.hid hj
  replace hall := Lib.hid hall
  replace hone := Lib.hid hone
  replace hc := Lib.hid hc
  replace hcc := Lib.hid hcc
  replace hf := Lib.hid hf
  by_cases hn : n = 0
  · have hfin : Hid (∀ w1, Below w.heap.size w w1 → AddPost w p g L ver now f a b n (.returned (.int .i64 0)) w1) := fun w1 hb => AddPost.same h hC (.inr (.inl ⟨hok, .inr hn, rfl, rfl, rfl⟩)) hb
    clear hok hz
    subst hn
    replace hm0 := Lib.hid hm0
    go_enter Try.func42, Try.ntmps42
    go_wp2_with (first | (go_at_call 30; go_must (refine hno.mono ?_); rintro e w' ⟨rfl, rfl⟩) | (go_at_call 45; go_must (refine hp.mono ?_); rintro e w1 ⟨rfl, hb1⟩))
    go_ret
    exact hfin.out _ hb1
  · have hn' : (n == 0) = false := beq_eq_false_iff_ne.2 hn
    have hz' : ¬ (b ≤ max a now ∨ n = 0) := by omega
    have hbad : Hid (∀ w1 t, Below w.heap.size w w1 → m0 ≤ t → t < b → (f t + n < 0 ∨ 64 < f t + n) → AddPost w p g L ver now f a b n (.returned (.int .i64 5)) w1) := fun w1 t hb h5 h6 h7 => AddPost.same h hC (.inr (.inr (.inl ⟨hok, hz', ⟨t, by omega, h6, h7⟩, rfl, rfl, rfl⟩))) hb
    have hgood : Hid ((∀ t, m0 ≤ t → t < b → 0 ≤ f t + n ∧ f t + n ≤ 64) → AddR f now a b n 0 (fun t => f t + had m0 b n t) 1) := fun hx => .inr (.inr (.inr ⟨hok, hz', fun t h5 h6 => hx t (by omega) h6, rfl, by rw [hm0], rfl⟩))
    have hnow2 : max a (tA L 0) = m0 := by rw [hC.sm.hd]; exact hm0.symm
    clear hok hz hz'
    replace hm0 := Lib.hid hm0
    go_enter Try.func42, Try.ntmps42
    go_wp2_with (go_at_call 30; go_must (refine hno.mono ?_); rintro e w' ⟨rfl, rfl⟩)
    go_at_call 45
    refine hp.mono ?_
    clear hp hno
    rintro e w1 ⟨rfl, hb1⟩
    go_wp2_with fail
    go_loopw [43] (fun k wr => ∃ (q : Nat), q ≤ c ∧ k = .int .i64 q ∧ (∀ r, r < q → 0 ≤ tV L (i + r) + n ∧ tV L (i + r) + n ≤ 64) ∧ Below w.heap.size w wr) (fun k _ => c - (intOf k).toNat)
    case atStart => exact ⟨0, Nat.zero_le _, rfl, fun r hr => by omega, hb1⟩
    case round =>
      obtain ⟨q, hq, rfl, hlo, hbr⟩ := hrel
      by_cases hlt : q < c
      · have hcv := hc.out
        have hown := pf_own_kept own1 hbr
        obtain ⟨s0, s1⟩ := step_cells hown (show i + q < L.length by omega)
        rw [Nat.add_mul] at s0 s1
        have hvf := hone.out (i + q) (by omega) (by omega)
        obtain ⟨x, hx⟩ : ∃ x, x = tV L (i + q) := ⟨_, rfl⟩
        obtain ⟨y, hy⟩ : ∃ y, y = tA L (i + q) := ⟨_, rfl⟩
        rw [← hx] at s1 hvf
        rw [← hy] at s0
        obtain ⟨t, ht1, ht2, ht3⟩ := hvf
        have hxr := hf.out t (by have := hmn.out; omega)
        rw [ht3] at hxr
        have hsz := hbr.size
        have hw1 : IntKind.i64.wrap (x + n) = x + n := IntWalk.i64_in _ (by omega)
        have hw2 : IntKind.i64.wrap ((q : Int) + 1) = (q : Int) + 1 := IntWalk.i64_in _ (by omega)
        have b1 : (0 : Int) ≤ q := by omega
        have b2 : (q : Int) < (c : Int) := by omega
        have hbd : Below w.heap.size w (wr.alloc (.cells #[.int .i64 y, .int .i64 x] 49)) := hbr.alloc hsz _
        have hbad2 : Hid (x + n < 0 ∨ 64 < x + n → ∀ w1, Below w.heap.size w w1 → AddPost w p g L ver now f a b n (.returned (.int .i64 5)) w1) := fun h5 w1 h6 => hbad.out w1 t h6 ht1 ht2 (by rw [ht3]; exact h5)
        clear hbad
        by_cases h5 : x + n < 0
        · have hh := hbad2.out (.inl h5) _ hbd
          replace hh := Lib.hid hh
          replace hx := Lib.hid hx
          replace hy := Lib.hid hy
          replace ht3 := Lib.hid ht3
          clear hlo hcv hown hbad2
          go_wp2_with fail
          go_ret
          exact hh.out
        · by_cases h6 : 64 < x + n
          · have hh := hbad2.out (.inr h6) _ hbd
            replace hh := Lib.hid hh
            replace hx := Lib.hid hx
            replace hy := Lib.hid hy
            replace ht3 := Lib.hid ht3
            clear hlo hcv hown hbad2
            go_wp2_with fail
            go_ret
            exact hh.out
          · have hlo2 : Hid (∀ r, r < q + 1 → 0 ≤ tV L (i + r) + n ∧ tV L (i + r) + n ≤ 64) := fun r hr => by
              rcases Nat.lt_or_ge r q with h7 | h7
              · exact hlo r h7
              · have : r = q := by omega
                subst this; rw [← hx]; omega
            replace hx := Lib.hid hx
            replace hy := Lib.hid hy
            replace ht3 := Lib.hid ht3
            clear hlo hcv hown hbad2
            go_wp2_with fail
            go_roundw
            case rel => exact ⟨q + 1, by omega, by go_num, hlo2.out, hbd⟩
            case measure => simp [intOf]; omega
      · obtain rfl : q = c := by omega
        have hR := hgood.out fun t h5 h6 => by
          obtain ⟨r, h7, h8, h9⟩ := hall.out t h5 h6
          have := hlo (r - i) (by have := hc.out; omega)
          rw [show i + (r - i) = r by omega] at this
          rw [h9]; exact this
        have hPr := h.kept hbr
        have hnw := Now_any hPr hC.sm.pos
        have hsh := shift_any m0 b n hC hmn.out.1 hmn.out.2 (by omega) (fun t ht => by have := hf.out t ht; omega) (by omega) hl hPr
        have hwv : IntKind.i64.wrap (ver + 1) = ver + 1 := IntWalk.i64_in _ (by omega)
        replace hR := Lib.hid hR
        clear hlo hbad hgood h own1 hPr
        go_wp2_with (go_at_call 41; go_must (refine hnw.mono ?_); rintro e w' ⟨rfl, rfl⟩)
        go_at_call 46
        refine hsh.mono ?_
        clear hsh hnw
        rintro e w5 ⟨rfl, g5, L5, h5, hg5, ho5, hC5, hl5⟩
        obtain ⟨cap5, F5⟩ := h5.facts
        have c1 := F5.c1
        have fz := F5.fz 1
        clear F5
        have hnew := PW_ver (ver + 1) h5
        have hpost : Hid (AddPost w p g L ver now f a b n (.returned (.int .i64 0)) (w5.setCell ⟨p, 1, none⟩ (.int .i64 (ver + 1)))) :=
          ⟨0, 1, _, g5, L5, rfl, hR.out, hnew, hC5, by have := hbr.size; omega, ((Off.of_below hbr).trans ho5 (.inl rfl)).setCell (.inl rfl), hl5⟩
        clear hnew h5 hC5 ho5 hg5 hl5 hR
        go_wp2_with fail
        go_ret
        exact hpost.out

theorem pf_Add_any (a b n : Int) (hC : Can L now f) (hn0 : 0 ≤ now) (hf : ∀ t, now ≤ t → 0 ≤ f t ∧ f t ≤ 64) (hver : 0 ≤ ver ∧ ver ≤ 1000000) (hl : L.length ≤ 800) (h : PW w p g L ver) :
    Calls Try.prog 42 #[.pointer (some ⟨p, 0, none⟩), .int .i64 a, .int .i64 b, .int .i64 n] w (AddPost w p g L ver now f a b n) := by
  by_cases hbad : b ≤ a ∨ 1152921504606846976 < b ∨ n < -64 ∨ 64 < n
  · exact Add_arg a b n hC h hbad
  · by_cases hz : b ≤ max a now
    · exact Add_none a b n hC h hbad hz
    · exact Add_some a b n hC hn0 hf hver hl h hbad hz
end

end Go.Proofs.Ytbnpeicmbbgboaa
