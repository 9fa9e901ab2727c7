/-
  Own walks: Reserve, Release, New, Earliest.
-/
import Derived.Test.YtbnpeicmbbgboaaPfN
namespace Go.Proofs.Ytbnpeicmbbgboaa
set_option maxRecDepth 8000
open Go.RowKit Go.Sort Go.Lib

section
variable {w : World} {p g : Nat} {L : List (Int × Int)} {ver now : Int} {f : Int → Int}

theorem AddPost.ahead {a b n : Int} {w0 w' : World} {e : Ending} (h : AddPost w p g L ver now f a b n e w') (hb : Below w0.heap.size w0 w) : AddPost w0 p g L ver now f a b n e w' := by
  obtain ⟨r, dv, f', g', L', h1, h2, h3, h4, h5, h6, h7⟩ := h
  exact ⟨r, dv, f', g', L', h1, h2, h3, h4, by have := hb.size; omega, (Off.of_below hb).trans h6 (.inl rfl), h7⟩

set_option maxHeartbeats 1000000 in
theorem change_any (a b n k : Int) (hn : 0 ≤ n ∧ n ≤ 64) (hk : k = 1 ∨ k = -1) (hC : Can L now f) (hn0 : 0 ≤ now) (hf : ∀ t, now ≤ t → 0 ≤ f t ∧ f t ≤ 64) (hver : 0 ≤ ver ∧ ver ≤ 1000000) (hl : L.length ≤ 800) (h : PW w p g L ver) :
    Calls Try.prog 35 #[.pointer (some ⟨p, 0, none⟩), .agg #[.int .i64 a, .int .i64 b, .int .i64 n], .int .i64 k] w (AddPost w p g L ver now f a b (k * n)) := by
  obtain ⟨m, hm⟩ : ∃ m, m = k * n := ⟨_, rfl⟩
  have hmw : IntKind.i64.wrap (k * n) = m := by rw [← hm]; exact IntWalk.i64_in _ (by rcases hk with rfl | rfl <;> omega)
  have hb1 : Below w.heap.size w (w.alloc (.cells #[.int .i64 a, .int .i64 b, .int .i64 n] 63)) := (Below.refl _ _).alloc (Nat.le_refl _) _
  have h1 := h.kept hb1
  have hno := pf_none_any h1 hC.sm.pos
  have hadd := pf_Add_any a b m hC hn0 hf hver hl h1
  rw [← hm]
  have hn1 : ¬ (n < 0) := by omega
  have hn2 : ¬ (64 < n) := by omega
  replace hm := Lib.hid hm
  replace hf := Lib.hid hf
  clear hk hn h
  go_enter Try.func35, Try.ntmps35
  go_wp2_with (go_at_call 30; go_must (refine hno.mono ?_); rintro e w' ⟨rfl, rfl⟩)
  go_at_call 42
  refine hadd.mono ?_
  clear hadd hno
  intro e w2 hp
  obtain ⟨r, dv, f', g', L', rfl, hrest⟩ := hp
  have hfin : Hid (AddPost w p g L ver now f a b m (.returned (.int .i64 r)) w2) := AddPost.ahead (w := w.alloc (.cells #[.int .i64 a, .int .i64 b, .int .i64 n] 63)) ⟨r, dv, f', g', L', rfl, hrest⟩ hb1
  clear hrest h1 hb1
  go_wp2_with fail
  go_ret
  exact hfin.out

theorem Reserve_any (a b n : Int) (hn : 0 ≤ n ∧ n ≤ 64) (hC : Can L now f) (hn0 : 0 ≤ now) (hf : ∀ t, now ≤ t → 0 ≤ f t ∧ f t ≤ 64) (hver : 0 ≤ ver ∧ ver ≤ 1000000) (hl : L.length ≤ 800) (h : PW w p g L ver) :
    Calls Try.prog 22 #[.pointer (some ⟨p, 0, none⟩), .agg #[.int .i64 a, .int .i64 b, .int .i64 n]] w (AddPost w p g L ver now f a b (-n)) := by
  have hb1 : Below w.heap.size w (w.alloc (.cells #[.int .i64 a, .int .i64 b, .int .i64 n] 63)) := (Below.refl _ _).alloc (Nat.le_refl _) _
  have hch := change_any a b n (-1) hn (.inr rfl) hC hn0 hf hver hl (h.kept hb1)
  rw [show (-1 : Int) * n = -n by omega] at hch
  replace hf := Lib.hid hf
  clear hn h
  go_enter Try.func22, Try.ntmps22
  go_wp2_with fail
  go_at_call 35
  refine hch.mono ?_
  clear hch
  intro e w2 hp
  obtain ⟨r, dv, f', g', L', rfl, hrest⟩ := hp
  have hfin : Hid (AddPost w p g L ver now f a b (-n) (.returned (.int .i64 r)) w2) := AddPost.ahead (w := w.alloc (.cells #[.int .i64 a, .int .i64 b, .int .i64 n] 63)) ⟨r, dv, f', g', L', rfl, hrest⟩ hb1
  clear hrest hb1
  go_wp2_with fail
  go_ret
  exact hfin.out
theorem Release_any (a b n : Int) (hn : 0 ≤ n ∧ n ≤ 64) (hC : Can L now f) (hn0 : 0 ≤ now) (hf : ∀ t, now ≤ t → 0 ≤ f t ∧ f t ≤ 64) (hver : 0 ≤ ver ∧ ver ≤ 1000000) (hl : L.length ≤ 800) (h : PW w p g L ver) :
    Calls Try.prog 39 #[.pointer (some ⟨p, 0, none⟩), .agg #[.int .i64 a, .int .i64 b, .int .i64 n]] w (AddPost w p g L ver now f a b n) := by
  have hb1 : Below w.heap.size w (w.alloc (.cells #[.int .i64 a, .int .i64 b, .int .i64 n] 63)) := (Below.refl _ _).alloc (Nat.le_refl _) _
  have hch := change_any a b n 1 hn (.inl rfl) hC hn0 hf hver hl (h.kept hb1)
  rw [show (1 : Int) * n = n by omega] at hch
  replace hf := Lib.hid hf
  clear hn h
  go_enter Try.func39, Try.ntmps39
  go_wp2_with fail
  go_at_call 35
  refine hch.mono ?_
  clear hch
  intro e w2 hp
  obtain ⟨r, dv, f', g', L', rfl, hrest⟩ := hp
  have hfin : Hid (AddPost w p g L ver now f a b n (.returned (.int .i64 r)) w2) := AddPost.ahead (w := w.alloc (.cells #[.int .i64 a, .int .i64 b, .int .i64 n] 63)) ⟨r, dv, f', g', L', rfl, hrest⟩ hb1
  clear hrest hb1
  go_wp2_with fail
  go_ret
  exact hfin.out

theorem pf_New_bad (n : Int) (w : World) (h : n < 0 ∨ 64 < n) : Calls Try.prog 21 #[.int .i64 n] w fun e w' => e = .returned (.tuple #[.pointer none, .int .i64 1]) ∧ w = w' := by
  by_cases h1 : n < 0
  · go_enter Try.func21, Try.ntmps21
    go_wp2_with fail
    go_ret2
    exact ⟨rfl, rfl⟩
  · have h2 : 64 < n := by omega
    clear h
    go_enter Try.func21, Try.ntmps21
    go_wp2_with fail
    go_ret2
    exact ⟨rfl, rfl⟩
theorem pf_New_any (n : Int) (w : World) (h : 0 ≤ n ∧ n ≤ 64) : Calls Try.prog 21 #[.int .i64 n] w fun e w' => ∃ p g : Nat, e = .returned (.tuple #[.pointer (some ⟨p, 0, none⟩), .int .i64 0]) ∧ PW w' p g [(0, n)] 0 ∧ w.heap.size ≤ p ∧ w.heap.size ≤ g ∧ Below w.heap.size w w' := by
  have h1 : ¬ (n < 0) := by omega
  have h2 : ¬ (64 < n) := by omega
  have hp : Hid (∀ w2, w2 = ((w.alloc (.cells #[.int .i64 0, .int .i64 n] 49)).alloc (.cells #[.slice (some ⟨w.heap.size, 0, none⟩) 1 1, .int .i64 0] 56)) → PW w2 (w.heap.size + 1) w.heap.size [(0, n)] 0) := by
    rintro w2 rfl
    have ho : (w.alloc (.cells #[.int .i64 0, .int .i64 n] 49)).ownsRow 0 49 2 (.slice (some ⟨w.heap.size, 0, none⟩) 1 1) 1 (prV [(0, n)]) := own_new (vs := [.int .i64 0, .int .i64 n]) rfl (Nat.zero_le _) rfl (by decide)
    refine ⟨1, ?_, pf_own_kept ho ((Below.refl _ _).alloc (Nat.le_refl _) _)⟩
    have := heap_alloc_new (w.alloc (.cells #[.int .i64 0, .int .i64 n] 49)) (.cells #[.slice (some ⟨w.heap.size, 0, none⟩) 1 1, .int .i64 0] 56)
    simpa using this
  have hb : Below w.heap.size w ((w.alloc (.cells #[.int .i64 0, .int .i64 n] 49)).alloc (.cells #[.slice (some ⟨w.heap.size, 0, none⟩) 1 1, .int .i64 0] 56)) := ((Below.refl _ _).alloc (Nat.le_refl _) _).alloc (by simp) _
  clear h
  go_enter Try.func21, Try.ntmps21
  go_wp2_with fail
  go_ret2
  exact ⟨w.heap.size + 1, rfl, w.heap.size, hp.out _ rfl, by omega, Nat.le_refl _, hb⟩
theorem Can_new (n : Int) : Can [(0, n)] 0 (fun _ => n) :=
  ⟨⟨by simp, rfl, fun i hi => by simp at hi, fun i hi => by simp at hi; subst hi; simp [tA], fun i t hi _ _ => by simp at hi; subst hi; simp [tV]⟩, fun i hi => by simp at hi⟩

/-- What Earliest's loop keeps. -/
def EInv (L : List (Int × Int)) (f : Int → Int) (lo long width : Int) (q : Nat) (t : Int) : Prop :=
  (lo ≤ t ∧ (∀ u, lo ≤ u → u < t → ¬ Good f long width u) ∧ (∀ x, t ≤ x → (q < L.length → x < tA L q) → width ≤ f x)) ∨ (t = 1152921504606846976 ∧ q = L.length ∧ ∀ u, lo ≤ u → u < 1152921504606846976 → ¬ Good f long width u)
theorem EInv.start {lo long width : Int} {q : Nat} (hs : Sm L now f) (hq : IsIx L lo q) (hn : now ≤ lo) : EInv L f lo long width q lo :=
  .inl ⟨Int.le_refl _, fun u h1 h2 => by omega, fun x h1 h2 => by have := h2 hq.lt; have := hq.le_now hs hn; omega⟩
theorem EInv.good {lo long width t : Int} {q : Nat} (hs : Sm L now f) (h : EInv L f lo long width q t) (hq : q < L.length) (hv : width ≤ tV L q) : EInv L f lo long width (q + 1) t := by
  rcases h with ⟨h1, h2, h3⟩ | ⟨_, h2, _⟩
  · refine .inl ⟨h1, h2, fun x h4 h5 => ?_⟩
    rcases Int.lt_or_le x (tA L q) with h6 | h6
    · exact h3 x h4 fun _ => h6
    · rw [hs.rep q x hq h6 h5]; exact hv
  · omega
theorem EInv.bad {lo long width t : Int} {q : Nat} (hs : Sm L now f) (h : EInv L f lo long width q t) (hq : q < L.length) (hv : tV L q < width) (hlt : tA L q - t < long) {q0 : Nat} (hq0 : IsIx L lo q0) (hqq : q0 ≤ q) (hl1 : 1 ≤ long) : EInv L f lo long width (q + 1) (tE L q) := by
  rcases h with ⟨h1, h2, h3⟩ | ⟨_, h2, _⟩
  · have hno : ∀ u, lo ≤ u → u < tE L q → ¬ Good f long width u := by
      intro u h4 h5 hg
      rcases Int.lt_or_le u t with h6 | h6
      · exact h2 u h4 h6 hg
      · have hw := hg (max u (tA L q)) (by omega) (by omega)
        have hnx : q + 1 < L.length → max u (tA L q) < tA L (q + 1) := fun hx => by
          have := hs.inc q hx
          unfold tE at h5
          rw [if_pos hx] at h5
          omega
        rw [hs.rep q _ hq (by omega) hnx] at hw
        omega
    by_cases hx : q + 1 < L.length
    · have hE : tE L q = tA L (q + 1) := if_pos hx
      rw [hE] at hno ⊢
      have h4 := hq0.nx (by omega)
      have h5 := hs.le (i := q0 + 1) (j := q + 1) (by omega) hx
      exact .inl ⟨by omega, hno, fun x h4 h5 => by have := h5 hx; omega⟩
    · have hE : tE L q = 1152921504606846976 := if_neg hx
      rw [hE] at hno ⊢
      exact .inr ⟨rfl, by omega, hno⟩
  · omega
theorem EInv.done {lo long width t : Int} {q : Nat} (h : EInv L f lo long width q t) (hstop : q < L.length → long ≤ tA L q - t) : (1099511627776 < t → EarlP f lo long width 0 16) ∧ (t ≤ 1099511627776 → EarlP f lo long width t 0) := by
  rcases h with ⟨h1, h2, h3⟩ | ⟨h1, h2, h3⟩
  · refine ⟨fun h4 => .inr ⟨rfl, rfl, fun u h5 h6 => h2 u h5 (by omega)⟩, fun h4 => .inl ⟨rfl, h1, h4, fun x h5 h6 => h3 x h5 fun hx => ?_, h2⟩⟩
    have := hstop hx
    omega
  · exact ⟨fun _ => .inr ⟨rfl, rfl, fun u h5 h6 => h3 u h5 (by omega)⟩, fun h4 => by omega⟩

set_option maxHeartbeats 1000000 in
theorem Earliest_arg (a long width : Int) (h : PW w p g L ver) (hp : 0 < L.length) (hbad : long < 1 ∨ 1048576 < long ∨ width < 1 ∨ 64 < width) :
    Calls Try.prog 40 #[.pointer (some ⟨p, 0, none⟩), .int .i64 a, .int .i64 long, .int .i64 width] w fun e w' => e = .returned (.tuple #[.int .i64 0, .int .i64 1]) ∧ w = w' := by
  have hno := pf_none_any h hp
  by_cases h1 : long < 1
  · go_enter Try.func40, Try.ntmps40
    go_wp2_with (go_at_call 30; go_must (refine hno.mono ?_); rintro e w' ⟨rfl, rfl⟩)
    go_ret2
    exact ⟨rfl, rfl⟩
  · by_cases h2 : 1048576 < long
    · go_enter Try.func40, Try.ntmps40
      go_wp2_with (go_at_call 30; go_must (refine hno.mono ?_); rintro e w' ⟨rfl, rfl⟩)
      go_ret2
      exact ⟨rfl, rfl⟩
    · by_cases h3 : width < 1
      · go_enter Try.func40, Try.ntmps40
        go_wp2_with (go_at_call 30; go_must (refine hno.mono ?_); rintro e w' ⟨rfl, rfl⟩)
        go_ret2
        exact ⟨rfl, rfl⟩
      · have h4 : 64 < width := by omega
        go_enter Try.func40, Try.ntmps40
        go_wp2_with (go_at_call 30; go_must (refine hno.mono ?_); rintro e w' ⟨rfl, rfl⟩)
        go_ret2
        exact ⟨rfl, rfl⟩

set_option maxRecDepth 100000 in
set_option maxHeartbeats 2000000 in
theorem Earliest_any (a long width : Int) (ha : -9223372036854775808 ≤ a ∧ a ≤ 9223372036854775807) (hs : Sm L now f) (hn : 0 ≤ now) (hl : L.length ≤ 1000) (h : PW w p g L ver) (hok : ¬ (long < 1 ∨ 1048576 < long ∨ width < 1 ∨ 64 < width)) :
    Calls Try.prog 40 #[.pointer (some ⟨p, 0, none⟩), .int .i64 a, .int .i64 long, .int .i64 width] w fun e w' => ∃ t e' : Int, e = .returned (.tuple #[.int .i64 t, .int .i64 e']) ∧ EarlP f (max a now) long width t e' ∧ Below w.heap.size w w' := by
  have hno := pf_none_any h hs.pos
  have hnw := Now_any h hs.pos
  obtain ⟨lo, hlo⟩ : ∃ lo, lo = max a now := ⟨_, rfl⟩
  obtain ⟨q0, hq0⟩ := hs.ix lo
  have hat := at_is lo hq0 hs hl h
  have hlo2 : now ≤ lo ∧ lo ≤ 9223372036854775807 := by have h5 := hs.top 0 hs.pos; rw [hs.hd] at h5; omega
  have hnow2 : max a (tA L 0) = lo := by rw [hs.hd]; exact hlo.symm
  have hst := EInv.start (long := long) (width := width) hs hq0 hlo2.1
  rw [← hlo]
  have h1 : ¬ (long < 1) := by omega
  have h2 : ¬ (1048576 < long) := by omega
  have h3 : ¬ (width < 1) := by omega
  have h4 : ¬ (64 < width) := by omega
  have hq0l := hq0.lt
  clear hok
  replace hlo := Lib.hid hlo
  replace hq0 := Lib.hid hq0
  go_enter Try.func40, Try.ntmps40
  go_wp2_with (first | (go_at_call 30; go_must (refine hno.mono ?_); rintro e w' ⟨rfl, rfl⟩) | (go_at_call 41; go_must (refine hnw.mono ?_); rintro e w' ⟨rfl, rfl⟩) | (go_at_call 43; go_must (refine hat.mono ?_); rintro e w1 ⟨rfl, hb1⟩))
  go_loopw [10, 11] (fun tt qq wr => ∃ (t : Int) (q : Nat), tt = .int .i64 t ∧ qq = .int .i64 q ∧ q0 ≤ q ∧ q ≤ L.length ∧ 0 ≤ t ∧ t ≤ 9223372036854775807 ∧ EInv L f lo long width q t ∧ Below w.heap.size w wr) (fun _ qq _ => L.length - (intOf qq).toNat)
  case atStart => exact ⟨lo, q0, rfl, rfl, Nat.le_refl _, by omega, by omega, by omega, hst, hb1⟩
  case round =>
    obtain ⟨t, q, rfl, rfl, hqq, hql, ht0, ht1, hI, hbr⟩ := hrel
    have hPr := h.kept hbr
    obtain ⟨cap, F⟩ := hPr.facts
    have c0 := F.c0
    by_cases hlt : q < L.length
    · obtain ⟨s0, s1⟩ := step_cells F.own hlt
      have hend := end_any hPr hlt hl
      have hv := hs.top q hlt
      have hge := hs.ge_now hlt
      have d1 : decide ((q : Int) < (L.length : Int)) = true := decide_eq_true (by omega)
      have b1 : (0 : Int) ≤ q := by omega
      have b2 : (q : Int) < (L.length : Int) := by omega
      obtain ⟨x, hx⟩ : ∃ x, x = tA L q := ⟨_, rfl⟩
      obtain ⟨y, hy⟩ : ∃ y, y = tV L q := ⟨_, rfl⟩
      rw [← hx] at s0 hv hge
      rw [← hy] at s1
      have hw1 : IntKind.i64.wrap (x - t) = x - t := IntWalk.i64_in _ (by omega)
      have hw2 : IntKind.i64.wrap ((q : Int) + 1) = (q : Int) + 1 := IntWalk.i64_in _ (by omega)
      by_cases hc : x - t < long
      · have d2 : decide (x - t < long) = true := decide_eq_true hc
        by_cases hv2 : y < width
        · have hI2 : Hid (EInv L f lo long width (q + 1) (tE L q)) := hI.bad hs hlt (by rw [← hy]; exact hv2) (by rw [← hx]; exact hc) hq0.out hqq (by omega)
          have hE : 0 ≤ tE L q ∧ tE L q ≤ 9223372036854775807 := by
            unfold tE
            split
            · rename_i hx2
              have := hs.ge_now hx2
              have := hs.top _ hx2
              omega
            · omega
          obtain ⟨z, hz⟩ : ∃ z, z = tE L q := ⟨_, rfl⟩
          rw [← hz] at hend hI2 hE
          replace hx := Lib.hid hx
          replace hy := Lib.hid hy
          replace hz := Lib.hid hz
          clear hI F hPr
          go_wp2_with (go_at_call 44; go_must (refine hend.mono ?_); rintro e w5 ⟨rfl, rfl⟩)
          go_roundw
          case rel => exact ⟨z, q + 1, rfl, by go_num, by omega, by omega, hE.1, hE.2, hI2.out, hbr⟩
          case measure => simp [intOf]; omega
        · have hI2 : Hid (EInv L f lo long width (q + 1) t) := hI.good hs hlt (by rw [← hy]; omega)
          replace hx := Lib.hid hx
          replace hy := Lib.hid hy
          clear hI F hPr hend
          go_wp2_with fail
          go_roundw
          case rel => exact ⟨t, q + 1, rfl, by go_num, by omega, by omega, ht0, ht1, hI2.out, hbr⟩
          case measure => simp [intOf]; omega
      · have d2 : decide (x - t < long) = false := decide_eq_false hc
        have hD := hI.done (fun _ => by rw [← hx]; omega)
        replace hx := Lib.hid hx
        replace hy := Lib.hid hy
        clear hI F hPr hend
        by_cases hm : 1099511627776 < t
        · have hD1 := Lib.hid (hD.1 hm)
          clear hD
          go_wp2_with fail
          go_ret2
          exact ⟨0, 16, rfl, hD1.out, hbr⟩
        · have hD1 := Lib.hid (hD.2 (by omega))
          clear hD
          go_wp2_with fail
          go_ret2
          exact ⟨t, 0, rfl, hD1.out, hbr⟩
    · have hD := hI.done (fun hx => absurd hx hlt)
      have d1 : decide ((q : Int) < (L.length : Int)) = false := decide_eq_false (by omega)
      clear hI F hPr
      by_cases hm : 1099511627776 < t
      · have hD1 := Lib.hid (hD.1 hm)
        clear hD
        go_wp2_with fail
        go_ret2
        exact ⟨0, 16, rfl, hD1.out, hbr⟩
      · have hD1 := Lib.hid (hD.2 (by omega))
        clear hD
        go_wp2_with fail
        go_ret2
        exact ⟨t, 0, rfl, hD1.out, hbr⟩
end

end Go.Proofs.Ytbnpeicmbbgboaa
