/-
  Own words and walks: a lock taken, let go, all of an owner's let go (the program's).
-/
import Derived.Test.YtlenhkmddmlknaaLkA
namespace Go.Proofs.Ytlenhkmddmlknaa
set_option maxRecDepth 8000
open Go.RowKit Go.Lib

/-- Does who hold this lock or a later one? -/
def Lk.later (l : Lk) (k who : Int) : Bool := decide (k ≤ 0 ∧ l.a = who) || decide (k ≤ 1 ∧ l.b = who) || decide (k ≤ 2 ∧ l.c = who)
def Lk.put (l : Lk) (k v : Int) : Lk := ⟨if k = 0 then v else l.a, if k = 1 then v else l.b, if k = 2 then v else l.c, l.n⟩
def Lk.tryE (l : Lk) (k who : Int) : Int := if lackF k who = true then 1 else if l.later k who = true then 17 else if l.own k = 0 then 0 else 18
def Lk.tryL (l : Lk) (k who : Int) : Lk := if l.tryE k who = 0 then { l.put k who with n := l.n + 1 } else l
def Lk.freeE (l : Lk) (k who : Int) : Int := if lackF k who = true then 1 else if l.own k = who then 0 else 8
def Lk.freeL (l : Lk) (k who : Int) : Lk := if l.freeE k who = 0 then l.put k 0 else l
def Lk.drop1 (l : Lk) (k who : Int) : Lk := if l.has k who = true then l.put k 0 else l
def Lk.allN (l : Lk) (who : Int) : Int := (l.has 0 who).toNat + (l.has 1 who).toNat + (l.has 2 who).toNat
def Lk.allL (l : Lk) (who : Int) : Lk := ((l.drop1 0 who).drop1 1 who).drop1 2 who

theorem lack_not {k who : Int} (h : lackF k who = false) : (k = 0 ∨ k = 1 ∨ k = 2) ∧ 0 < who := by
  unfold lackF isF at h
  simp at h
  omega
theorem next_later (l : Lk) {k who : Int} (h : lackF k who = false) : decide (nextF (l.has 0 who) (l.has 1 who) (l.has 2 who) k < 3) = l.later k who := by
  obtain ⟨hk, hw⟩ := lack_not h
  have o0 : l.own 0 = l.a := rfl
  have o1 : l.own 1 = l.b := rfl
  have o2 : l.own 2 = l.c := rfl
  unfold nextF Lk.later Lk.has
  rw [o0, o1, o2]
  rw [decide_eq_true hw]
  rcases hk with rfl | rfl | rfl <;> by_cases h0 : l.a = who <;> by_cases h1 : l.b = who <;> by_cases h2 : l.c = who <;> simp [h0, h1, h2]

/-- What a call makes: what it tells, and the locks behind it; nothing else is as it was not. -/
def LkPost (T : TypeId) (w : World) (s : Nat) (r : Int) (l' : Lk) (e : Ending) (w' : World) : Prop := e = .returned (.int .i64 r) ∧ LkAt T w' s l' ∧ Put.Off s s w w'

section
variable {T : TypeId} {w w' : World} {s : Nat} {l : Lk}
theorem LkAt.off {p : Nat} (h : LkAt T w s l) (ho : Put.Off p p w w') (hn : s ≠ p) : LkAt T w' s l := by
  unfold LkAt at *; rw [ho.block s (lt_of_at h) hn hn]; exact h
theorem LkAt.fz (h : LkAt T w s l) (j : Nat) : w.frozen? ⟨s, j, none⟩ = false := by simp [World.frozen?, show w.heap[s]? = _ from h]
theorem LkAt.set0 (h : LkAt T w s l) (v : Int) : LkAt T (w.setCell ⟨s, 0, none⟩ (.int .i64 v)) s (l.put 0 v) := heap_put h _
theorem LkAt.set1 (h : LkAt T w s l) (v : Int) : LkAt T (w.setCell ⟨s, 1, none⟩ (.int .i64 v)) s (l.put 1 v) := heap_put h _
theorem LkAt.set2 (h : LkAt T w s l) (v : Int) : LkAt T (w.setCell ⟨s, 2, none⟩ (.int .i64 v)) s (l.put 2 v) := heap_put h _
theorem LkAt.set3 (h : LkAt T w s l) (v : Int) : LkAt T (w.setCell ⟨s, 3, none⟩ (.int .i64 v)) s { l with n := v } := heap_put h _
end

section
variable {w : World} {s : Nat} {l : Lk}

theorem Try_lack (k who : Int) (h : LkAt 26 w s l) (hl : lackF k who = true) : Calls Try.prog 13 #[.pointer (some ⟨s, 0, none⟩), .int .i64 k, .int .i64 who] w (LkPost 26 w s 1 l) := by
  have hc := lacks_fn k who s w
  rw [hl] at hc
  replace h := Lib.hid h
  clear hl
  go_enter Try.func13, Try.ntmps13
  go_wp2_with (go_at_call 21; go_must (refine hc.mono ?_); rintro e w5 ⟨rfl, rfl⟩)
  go_ret
  exact ⟨rfl, h.out, Put.Off.refl _ _ _⟩
theorem Try_nil (k who : Int) (w : World) : Calls Try.prog 13 #[.pointer none, .int .i64 k, .int .i64 who] w fun e w' => e = .returned (.int .i64 1) ∧ w = w' := by
  have hc := lacks_nil k who w
  go_enter Try.func13, Try.ntmps13
  go_wp2_with (go_at_call 21; go_must (refine hc.mono ?_); rintro e w5 ⟨rfl, rfl⟩)
  go_ret
  exact ⟨rfl, rfl⟩


set_option maxRecDepth 100000 in
set_option maxHeartbeats 1000000 in
theorem Try_0 (who : Int) (h : LkAt 26 w s l) (hl : lackF 0 who = false) (hn : 0 ≤ l.n ∧ l.n ≤ 1000000) :
    Calls Try.prog 13 #[.pointer (some ⟨s, 0, none⟩), .int .i64 0, .int .i64 who] w (LkPost 26 w s (l.tryE 0 who) (l.tryL 0 who)) := by
  have hc := lacks_fn 0 who s w
  rw [hl] at hc
  have hH := Held_fn who h
  unfold heldV laneV at hH
  have hN := fun W => Next_fn (l.has 0 who) (l.has 1 who) (l.has 2 who) 0 (by omega) W
  unfold laneV at hN
  have hlt := next_later l hl
  obtain ⟨nx, hnx⟩ : ∃ n, n = nextF (l.has 0 who) (l.has 1 who) (l.has 2 who) 0 := ⟨_, rfl⟩
  rw [← hnx] at hN hlt
  clear hnx
  obtain ⟨x, hx⟩ : ∃ x, x = l.has 0 who := ⟨_, rfl⟩
  obtain ⟨y, hy⟩ : ∃ y, y = l.has 1 who := ⟨_, rfl⟩
  obtain ⟨z, hz⟩ : ∃ z, z = l.has 2 who := ⟨_, rfl⟩
  rw [← hx, ← hy, ← hz] at hH hN
  clear hx hy hz
  unfold Lk.tryL
  unfold Lk.tryE
  rw [hl, if_neg (show ¬ (false = true) by decide)]
  have wi : IntKind.i64.wrap (l.n + 1) = l.n + 1 := by rw [IntKind.wrap_i64]; omega
  have hsl := h.lt
  replace h := Lib.hid h
  clear hl hn
  cases hla : l.later 0 who
  · rw [hla] at hlt
    rw [if_neg (show ¬ (false = true) by decide)]
    by_cases h0 : l.own 0 = 0
    · rw [if_pos h0, if_pos rfl]
      have h0' : l.a = 0 := h0
      clear hla h0
      go_enter Try.func13, Try.ntmps13
      go_wp2_with fail
      go_at_call 21
      refine hc.mono ?_
      clear hc
      rintro e w5 ⟨rfl, rfl⟩
      go_wp2_with fail
      go_at_call 10
      refine hH.mono ?_
      clear hH
      rintro e w1 ⟨rfl, hb1⟩
      go_wp2_with fail
      go_at_call 12
      refine (hN w1).mono ?_
      clear hN
      rintro e w2 ⟨rfl, hb2⟩

      have g2 := (h.out.below hb1 hsl).below hb2 (Nat.lt_of_lt_of_le hsl hb1.size)
      have o2 := (Put.Off.of_below (p := s) (g := s) hb1).then_below hb2
      have kc : w2.cell? ⟨s, 0, none⟩ = some (.int .i64 0) := by rw [g2.c0, h0']
      have kn := g2.c3
      have kf := g2.fz 0
      have kg := g2.fz 3
      replace g2 := Lib.hid g2
      replace o2 := Lib.hid o2
      clear hb1 hb2 h0' h
      go_wp2_with fail
      go_ret
      exact ⟨rfl, (g2.out.set0 who).set3 _, (o2.out.setCell (.inl rfl)).setCell (.inl rfl)⟩
    · rw [if_neg h0, if_neg (show ¬ ((18 : Int) = 0) by decide)]
      have h0' : ¬ l.a = 0 := h0
      have h1' : (l.a != 0) = true := by simp [h0']
      clear hla h0 h0'
      obtain ⟨v, hv⟩ : ∃ v, v = l.a := ⟨_, rfl⟩
      rw [← hv] at h1'
      go_enter Try.func13, Try.ntmps13
      go_wp2_with fail
      go_at_call 21
      refine hc.mono ?_
      clear hc
      rintro e w5 ⟨rfl, rfl⟩
      go_wp2_with fail
      go_at_call 10
      refine hH.mono ?_
      clear hH
      rintro e w1 ⟨rfl, hb1⟩
      go_wp2_with fail
      go_at_call 12
      refine (hN w1).mono ?_
      clear hN
      rintro e w2 ⟨rfl, hb2⟩

      have g2 := (h.out.below hb1 hsl).below hb2 (Nat.lt_of_lt_of_le hsl hb1.size)
      have o2 := (Put.Off.of_below (p := s) (g := s) hb1).then_below hb2
      have kc : w2.cell? ⟨s, 0, none⟩ = some (.int .i64 v) := by rw [g2.c0, hv]
      replace g2 := Lib.hid g2
      replace o2 := Lib.hid o2
      clear hb1 hb2 h hv
      go_wp2_with fail
      go_ret
      exact ⟨rfl, g2.out, o2.out⟩
  · rw [hla] at hlt
    rw [if_pos rfl, if_neg (show ¬ ((17 : Int) = 0) by decide)]
    clear hla
    go_enter Try.func13, Try.ntmps13
    go_wp2_with fail
    go_at_call 21
    refine hc.mono ?_
    clear hc
    rintro e w5 ⟨rfl, rfl⟩
    go_wp2_with fail
    go_at_call 10
    refine hH.mono ?_
    clear hH
    rintro e w1 ⟨rfl, hb1⟩
    go_wp2_with fail
    go_at_call 12
    refine (hN w1).mono ?_
    clear hN
    rintro e w2 ⟨rfl, hb2⟩

    have g2 := (h.out.below hb1 hsl).below hb2 (Nat.lt_of_lt_of_le hsl hb1.size)
    have o2 := (Put.Off.of_below (p := s) (g := s) hb1).then_below hb2
    replace g2 := Lib.hid g2
    replace o2 := Lib.hid o2
    clear hb1 hb2 h
    go_wp2_with fail
    go_ret
    exact ⟨rfl, g2.out, o2.out⟩

set_option maxRecDepth 100000 in
set_option maxHeartbeats 1000000 in
theorem Try_1 (who : Int) (h : LkAt 26 w s l) (hl : lackF 1 who = false) (hn : 0 ≤ l.n ∧ l.n ≤ 1000000) :
    Calls Try.prog 13 #[.pointer (some ⟨s, 0, none⟩), .int .i64 1, .int .i64 who] w (LkPost 26 w s (l.tryE 1 who) (l.tryL 1 who)) := by
  have hc := lacks_fn 1 who s w
  rw [hl] at hc
  have hH := Held_fn who h
  unfold heldV laneV at hH
  have hN := fun W => Next_fn (l.has 0 who) (l.has 1 who) (l.has 2 who) 1 (by omega) W
  unfold laneV at hN
  have hlt := next_later l hl
  obtain ⟨nx, hnx⟩ : ∃ n, n = nextF (l.has 0 who) (l.has 1 who) (l.has 2 who) 1 := ⟨_, rfl⟩
  rw [← hnx] at hN hlt
  clear hnx
  obtain ⟨x, hx⟩ : ∃ x, x = l.has 0 who := ⟨_, rfl⟩
  obtain ⟨y, hy⟩ : ∃ y, y = l.has 1 who := ⟨_, rfl⟩
  obtain ⟨z, hz⟩ : ∃ z, z = l.has 2 who := ⟨_, rfl⟩
  rw [← hx, ← hy, ← hz] at hH hN
  clear hx hy hz
  unfold Lk.tryL
  unfold Lk.tryE
  rw [hl, if_neg (show ¬ (false = true) by decide)]
  have wi : IntKind.i64.wrap (l.n + 1) = l.n + 1 := by rw [IntKind.wrap_i64]; omega
  have hsl := h.lt
  replace h := Lib.hid h
  clear hl hn
  cases hla : l.later 1 who
  · rw [hla] at hlt
    rw [if_neg (show ¬ (false = true) by decide)]
    by_cases h0 : l.own 1 = 0
    · rw [if_pos h0, if_pos rfl]
      have h0' : l.b = 0 := h0
      clear hla h0
      go_enter Try.func13, Try.ntmps13
      go_wp2_with fail
      go_at_call 21
      refine hc.mono ?_
      clear hc
      rintro e w5 ⟨rfl, rfl⟩
      go_wp2_with fail
      go_at_call 10
      refine hH.mono ?_
      clear hH
      rintro e w1 ⟨rfl, hb1⟩
      go_wp2_with fail
      go_at_call 12
      refine (hN w1).mono ?_
      clear hN
      rintro e w2 ⟨rfl, hb2⟩

      have g2 := (h.out.below hb1 hsl).below hb2 (Nat.lt_of_lt_of_le hsl hb1.size)
      have o2 := (Put.Off.of_below (p := s) (g := s) hb1).then_below hb2
      have kc : w2.cell? ⟨s, 1, none⟩ = some (.int .i64 0) := by rw [g2.c1, h0']
      have kn := g2.c3
      have kf := g2.fz 1
      have kg := g2.fz 3
      replace g2 := Lib.hid g2
      replace o2 := Lib.hid o2
      clear hb1 hb2 h0' h
      go_wp2_with fail
      go_ret
      exact ⟨rfl, (g2.out.set1 who).set3 _, (o2.out.setCell (.inl rfl)).setCell (.inl rfl)⟩
    · rw [if_neg h0, if_neg (show ¬ ((18 : Int) = 0) by decide)]
      have h0' : ¬ l.b = 0 := h0
      have h1' : (l.b != 0) = true := by simp [h0']
      clear hla h0 h0'
      obtain ⟨v, hv⟩ : ∃ v, v = l.b := ⟨_, rfl⟩
      rw [← hv] at h1'
      go_enter Try.func13, Try.ntmps13
      go_wp2_with fail
      go_at_call 21
      refine hc.mono ?_
      clear hc
      rintro e w5 ⟨rfl, rfl⟩
      go_wp2_with fail
      go_at_call 10
      refine hH.mono ?_
      clear hH
      rintro e w1 ⟨rfl, hb1⟩
      go_wp2_with fail
      go_at_call 12
      refine (hN w1).mono ?_
      clear hN
      rintro e w2 ⟨rfl, hb2⟩

      have g2 := (h.out.below hb1 hsl).below hb2 (Nat.lt_of_lt_of_le hsl hb1.size)
      have o2 := (Put.Off.of_below (p := s) (g := s) hb1).then_below hb2
      have kc : w2.cell? ⟨s, 1, none⟩ = some (.int .i64 v) := by rw [g2.c1, hv]
      replace g2 := Lib.hid g2
      replace o2 := Lib.hid o2
      clear hb1 hb2 h hv
      go_wp2_with fail
      go_ret
      exact ⟨rfl, g2.out, o2.out⟩
  · rw [hla] at hlt
    rw [if_pos rfl, if_neg (show ¬ ((17 : Int) = 0) by decide)]
    clear hla
    go_enter Try.func13, Try.ntmps13
    go_wp2_with fail
    go_at_call 21
    refine hc.mono ?_
    clear hc
    rintro e w5 ⟨rfl, rfl⟩
    go_wp2_with fail
    go_at_call 10
    refine hH.mono ?_
    clear hH
    rintro e w1 ⟨rfl, hb1⟩
    go_wp2_with fail
    go_at_call 12
    refine (hN w1).mono ?_
    clear hN
    rintro e w2 ⟨rfl, hb2⟩

    have g2 := (h.out.below hb1 hsl).below hb2 (Nat.lt_of_lt_of_le hsl hb1.size)
    have o2 := (Put.Off.of_below (p := s) (g := s) hb1).then_below hb2
    replace g2 := Lib.hid g2
    replace o2 := Lib.hid o2
    clear hb1 hb2 h
    go_wp2_with fail
    go_ret
    exact ⟨rfl, g2.out, o2.out⟩

set_option maxRecDepth 100000 in
set_option maxHeartbeats 1000000 in
theorem Try_2 (who : Int) (h : LkAt 26 w s l) (hl : lackF 2 who = false) (hn : 0 ≤ l.n ∧ l.n ≤ 1000000) :
    Calls Try.prog 13 #[.pointer (some ⟨s, 0, none⟩), .int .i64 2, .int .i64 who] w (LkPost 26 w s (l.tryE 2 who) (l.tryL 2 who)) := by
  have hc := lacks_fn 2 who s w
  rw [hl] at hc
  have hH := Held_fn who h
  unfold heldV laneV at hH
  have hN := fun W => Next_fn (l.has 0 who) (l.has 1 who) (l.has 2 who) 2 (by omega) W
  unfold laneV at hN
  have hlt := next_later l hl
  obtain ⟨nx, hnx⟩ : ∃ n, n = nextF (l.has 0 who) (l.has 1 who) (l.has 2 who) 2 := ⟨_, rfl⟩
  rw [← hnx] at hN hlt
  clear hnx
  obtain ⟨x, hx⟩ : ∃ x, x = l.has 0 who := ⟨_, rfl⟩
  obtain ⟨y, hy⟩ : ∃ y, y = l.has 1 who := ⟨_, rfl⟩
  obtain ⟨z, hz⟩ : ∃ z, z = l.has 2 who := ⟨_, rfl⟩
  rw [← hx, ← hy, ← hz] at hH hN
  clear hx hy hz
  unfold Lk.tryL
  unfold Lk.tryE
  rw [hl, if_neg (show ¬ (false = true) by decide)]
  have wi : IntKind.i64.wrap (l.n + 1) = l.n + 1 := by rw [IntKind.wrap_i64]; omega
  have hsl := h.lt
  replace h := Lib.hid h
  clear hl hn
  cases hla : l.later 2 who
  · rw [hla] at hlt
    rw [if_neg (show ¬ (false = true) by decide)]
    by_cases h0 : l.own 2 = 0
    · rw [if_pos h0, if_pos rfl]
      have h0' : l.c = 0 := h0
      clear hla h0
      go_enter Try.func13, Try.ntmps13
      go_wp2_with fail
      go_at_call 21
      refine hc.mono ?_
      clear hc
      rintro e w5 ⟨rfl, rfl⟩
      go_wp2_with fail
      go_at_call 10
      refine hH.mono ?_
      clear hH
      rintro e w1 ⟨rfl, hb1⟩
      go_wp2_with fail
      go_at_call 12
      refine (hN w1).mono ?_
      clear hN
      rintro e w2 ⟨rfl, hb2⟩

      have g2 := (h.out.below hb1 hsl).below hb2 (Nat.lt_of_lt_of_le hsl hb1.size)
      have o2 := (Put.Off.of_below (p := s) (g := s) hb1).then_below hb2
      have kc : w2.cell? ⟨s, 2, none⟩ = some (.int .i64 0) := by rw [g2.c2, h0']
      have kn := g2.c3
      have kf := g2.fz 2
      have kg := g2.fz 3
      replace g2 := Lib.hid g2
      replace o2 := Lib.hid o2
      clear hb1 hb2 h0' h
      go_wp2_with fail
      go_ret
      exact ⟨rfl, (g2.out.set2 who).set3 _, (o2.out.setCell (.inl rfl)).setCell (.inl rfl)⟩
    · rw [if_neg h0, if_neg (show ¬ ((18 : Int) = 0) by decide)]
      have h0' : ¬ l.c = 0 := h0
      have h1' : (l.c != 0) = true := by simp [h0']
      clear hla h0 h0'
      obtain ⟨v, hv⟩ : ∃ v, v = l.c := ⟨_, rfl⟩
      rw [← hv] at h1'
      go_enter Try.func13, Try.ntmps13
      go_wp2_with fail
      go_at_call 21
      refine hc.mono ?_
      clear hc
      rintro e w5 ⟨rfl, rfl⟩
      go_wp2_with fail
      go_at_call 10
      refine hH.mono ?_
      clear hH
      rintro e w1 ⟨rfl, hb1⟩
      go_wp2_with fail
      go_at_call 12
      refine (hN w1).mono ?_
      clear hN
      rintro e w2 ⟨rfl, hb2⟩

      have g2 := (h.out.below hb1 hsl).below hb2 (Nat.lt_of_lt_of_le hsl hb1.size)
      have o2 := (Put.Off.of_below (p := s) (g := s) hb1).then_below hb2
      have kc : w2.cell? ⟨s, 2, none⟩ = some (.int .i64 v) := by rw [g2.c2, hv]
      replace g2 := Lib.hid g2
      replace o2 := Lib.hid o2
      clear hb1 hb2 h hv
      go_wp2_with fail
      go_ret
      exact ⟨rfl, g2.out, o2.out⟩
  · rw [hla] at hlt
    rw [if_pos rfl, if_neg (show ¬ ((17 : Int) = 0) by decide)]
    clear hla
    go_enter Try.func13, Try.ntmps13
    go_wp2_with fail
    go_at_call 21
    refine hc.mono ?_
    clear hc
    rintro e w5 ⟨rfl, rfl⟩
    go_wp2_with fail
    go_at_call 10
    refine hH.mono ?_
    clear hH
    rintro e w1 ⟨rfl, hb1⟩
    go_wp2_with fail
    go_at_call 12
    refine (hN w1).mono ?_
    clear hN
    rintro e w2 ⟨rfl, hb2⟩

    have g2 := (h.out.below hb1 hsl).below hb2 (Nat.lt_of_lt_of_le hsl hb1.size)
    have o2 := (Put.Off.of_below (p := s) (g := s) hb1).then_below hb2
    replace g2 := Lib.hid g2
    replace o2 := Lib.hid o2
    clear hb1 hb2 h
    go_wp2_with fail
    go_ret
    exact ⟨rfl, g2.out, o2.out⟩

theorem Try_fn (k who : Int) (h : LkAt 26 w s l) (hn : 0 ≤ l.n ∧ l.n ≤ 1000000) :
    Calls Try.prog 13 #[.pointer (some ⟨s, 0, none⟩), .int .i64 k, .int .i64 who] w (LkPost 26 w s (l.tryE k who) (l.tryL k who)) := by
  cases hl : lackF k who
  · rcases (lack_not hl).1 with rfl | rfl | rfl
    · exact Try_0 who h hl hn
    · exact Try_1 who h hl hn
    · exact Try_2 who h hl hn
  · have e : l.tryE k who = 1 := by unfold Lk.tryE; rw [if_pos hl]
    have e2 : l.tryL k who = l := by unfold Lk.tryL; rw [e, if_neg (by decide)]
    rw [e, e2]
    exact Try_lack k who h hl

theorem Free_lack (k who : Int) (h : LkAt 26 w s l) (hl : lackF k who = true) : Calls Try.prog 14 #[.pointer (some ⟨s, 0, none⟩), .int .i64 k, .int .i64 who] w (LkPost 26 w s 1 l) := by
  have hc := lacks_fn k who s w
  rw [hl] at hc
  replace h := Lib.hid h
  clear hl
  go_enter Try.func14, Try.ntmps14
  go_wp2_with (go_at_call 21; go_must (refine hc.mono ?_); rintro e w5 ⟨rfl, rfl⟩)
  go_ret
  exact ⟨rfl, h.out, Put.Off.refl _ _ _⟩
theorem Free_nil (k who : Int) (w : World) : Calls Try.prog 14 #[.pointer none, .int .i64 k, .int .i64 who] w fun e w' => e = .returned (.int .i64 1) ∧ w = w' := by
  have hc := lacks_nil k who w
  go_enter Try.func14, Try.ntmps14
  go_wp2_with (go_at_call 21; go_must (refine hc.mono ?_); rintro e w5 ⟨rfl, rfl⟩)
  go_ret
  exact ⟨rfl, rfl⟩


set_option maxRecDepth 100000 in
set_option maxHeartbeats 1000000 in
theorem Free_0 (who : Int) (h : LkAt 26 w s l) (hl : lackF 0 who = false) :
    Calls Try.prog 14 #[.pointer (some ⟨s, 0, none⟩), .int .i64 0, .int .i64 who] w (LkPost 26 w s (l.freeE 0 who) (l.freeL 0 who)) := by
  have hc := lacks_fn 0 who s w
  have hh := has_fn 0 who h
  rw [hl] at hc
  have hw := (lack_not hl).2
  unfold Lk.freeL
  unfold Lk.freeE
  rw [hl, if_neg (show ¬ (false = true) by decide)]
  have hx : l.has 0 who = decide (l.own 0 = who) := by unfold Lk.has; rw [decide_eq_true hw, Bool.true_and]
  rw [hx] at hh
  have kc := h.c0
  have kf := h.fz 0
  replace h := Lib.hid h
  clear hl hx hw
  by_cases h0 : l.own 0 = who
  · rw [decide_eq_true h0] at hh
    rw [if_pos h0, if_pos rfl]
    clear h0
    go_enter Try.func14, Try.ntmps14
    go_wp2_with (first | (go_at_call 21; go_must (refine hc.mono ?_); rintro e w5 ⟨rfl, rfl⟩) | (go_at_call 20; go_must (refine hh.mono ?_); rintro e w5 ⟨rfl, rfl⟩))
    go_ret
    exact ⟨rfl, h.out.set0 0, (Put.Off.refl _ _ _).setCell (.inl rfl)⟩
  · rw [decide_eq_false h0] at hh
    rw [if_neg h0, if_neg (show ¬ ((8 : Int) = 0) by decide)]
    clear h0
    go_enter Try.func14, Try.ntmps14
    go_wp2_with (first | (go_at_call 21; go_must (refine hc.mono ?_); rintro e w5 ⟨rfl, rfl⟩) | (go_at_call 20; go_must (refine hh.mono ?_); rintro e w5 ⟨rfl, rfl⟩))
    go_ret
    exact ⟨rfl, h.out, Put.Off.refl _ _ _⟩

set_option maxRecDepth 100000 in
set_option maxHeartbeats 1000000 in
theorem Free_1 (who : Int) (h : LkAt 26 w s l) (hl : lackF 1 who = false) :
    Calls Try.prog 14 #[.pointer (some ⟨s, 0, none⟩), .int .i64 1, .int .i64 who] w (LkPost 26 w s (l.freeE 1 who) (l.freeL 1 who)) := by
  have hc := lacks_fn 1 who s w
  have hh := has_fn 1 who h
  rw [hl] at hc
  have hw := (lack_not hl).2
  unfold Lk.freeL
  unfold Lk.freeE
  rw [hl, if_neg (show ¬ (false = true) by decide)]
  have hx : l.has 1 who = decide (l.own 1 = who) := by unfold Lk.has; rw [decide_eq_true hw, Bool.true_and]
  rw [hx] at hh
  have kc := h.c1
  have kf := h.fz 1
  replace h := Lib.hid h
  clear hl hx hw
  by_cases h0 : l.own 1 = who
  · rw [decide_eq_true h0] at hh
    rw [if_pos h0, if_pos rfl]
    clear h0
    go_enter Try.func14, Try.ntmps14
    go_wp2_with (first | (go_at_call 21; go_must (refine hc.mono ?_); rintro e w5 ⟨rfl, rfl⟩) | (go_at_call 20; go_must (refine hh.mono ?_); rintro e w5 ⟨rfl, rfl⟩))
    go_ret
    exact ⟨rfl, h.out.set1 0, (Put.Off.refl _ _ _).setCell (.inl rfl)⟩
  · rw [decide_eq_false h0] at hh
    rw [if_neg h0, if_neg (show ¬ ((8 : Int) = 0) by decide)]
    clear h0
    go_enter Try.func14, Try.ntmps14
    go_wp2_with (first | (go_at_call 21; go_must (refine hc.mono ?_); rintro e w5 ⟨rfl, rfl⟩) | (go_at_call 20; go_must (refine hh.mono ?_); rintro e w5 ⟨rfl, rfl⟩))
    go_ret
    exact ⟨rfl, h.out, Put.Off.refl _ _ _⟩

set_option maxRecDepth 100000 in
set_option maxHeartbeats 1000000 in
theorem Free_2 (who : Int) (h : LkAt 26 w s l) (hl : lackF 2 who = false) :
    Calls Try.prog 14 #[.pointer (some ⟨s, 0, none⟩), .int .i64 2, .int .i64 who] w (LkPost 26 w s (l.freeE 2 who) (l.freeL 2 who)) := by
  have hc := lacks_fn 2 who s w
  have hh := has_fn 2 who h
  rw [hl] at hc
  have hw := (lack_not hl).2
  unfold Lk.freeL
  unfold Lk.freeE
  rw [hl, if_neg (show ¬ (false = true) by decide)]
  have hx : l.has 2 who = decide (l.own 2 = who) := by unfold Lk.has; rw [decide_eq_true hw, Bool.true_and]
  rw [hx] at hh
  have kc := h.c2
  have kf := h.fz 2
  replace h := Lib.hid h
  clear hl hx hw
  by_cases h0 : l.own 2 = who
  · rw [decide_eq_true h0] at hh
    rw [if_pos h0, if_pos rfl]
    clear h0
    go_enter Try.func14, Try.ntmps14
    go_wp2_with (first | (go_at_call 21; go_must (refine hc.mono ?_); rintro e w5 ⟨rfl, rfl⟩) | (go_at_call 20; go_must (refine hh.mono ?_); rintro e w5 ⟨rfl, rfl⟩))
    go_ret
    exact ⟨rfl, h.out.set2 0, (Put.Off.refl _ _ _).setCell (.inl rfl)⟩
  · rw [decide_eq_false h0] at hh
    rw [if_neg h0, if_neg (show ¬ ((8 : Int) = 0) by decide)]
    clear h0
    go_enter Try.func14, Try.ntmps14
    go_wp2_with (first | (go_at_call 21; go_must (refine hc.mono ?_); rintro e w5 ⟨rfl, rfl⟩) | (go_at_call 20; go_must (refine hh.mono ?_); rintro e w5 ⟨rfl, rfl⟩))
    go_ret
    exact ⟨rfl, h.out, Put.Off.refl _ _ _⟩

theorem Free_fn (k who : Int) (h : LkAt 26 w s l) :
    Calls Try.prog 14 #[.pointer (some ⟨s, 0, none⟩), .int .i64 k, .int .i64 who] w (LkPost 26 w s (l.freeE k who) (l.freeL k who)) := by
  cases hl : lackF k who
  · rcases (lack_not hl).1 with rfl | rfl | rfl
    · exact Free_0 who h hl
    · exact Free_1 who h hl
    · exact Free_2 who h hl
  · have e : l.freeE k who = 1 := by unfold Lk.freeE; rw [if_pos hl]
    have e2 : l.freeL k who = l := by unfold Lk.freeL; rw [e, if_neg (by decide)]
    rw [e, e2]
    exact Free_lack k who h hl

/-- Letting go of one lock tells nothing of another. -/
theorem has_drop (l : Lk) (k j who : Int) (h : j ≠ k) : (l.drop1 k who).has j who = l.has j who := by
  unfold Lk.drop1
  split
  · unfold Lk.has Lk.own Lk.put
    congr 2
    by_cases h0 : j = 0
    · subst h0; simp
      rw [if_neg fun e => h e.symm]
    · by_cases h1 : j = 1
      · subst h1; simp
        rw [if_neg fun e => h e.symm]
      · by_cases h2 : j = 2
        · subst h2; simp
          rw [if_neg fun e => h e.symm]
        · simp [h0, h1, h2]
  · rfl
theorem drop_put {l : Lk} {k who : Int} (h : l.has k who = true) : l.drop1 k who = l.put k 0 := by unfold Lk.drop1; rw [if_pos h]
theorem drop_not {l : Lk} {k who : Int} (h : l.has k who = false) : l.drop1 k who = l := by unfold Lk.drop1; rw [h]; rfl

set_option maxRecDepth 100000 in
set_option maxHeartbeats 1000000 in
theorem All_fn (who : Int) (h : LkAt 26 w s l) :
    Calls Try.prog 15 #[.pointer (some ⟨s, 0, none⟩), .int .i64 who] w (LkPost 26 w s (l.allN who) (l.allL who)) := by
  obtain ⟨n0, hn0⟩ : ∃ n : Int, n = (l.has 0 who).toNat := ⟨_, rfl⟩
  obtain ⟨n1, hn1⟩ : ∃ n : Int, n = (l.has 1 who).toNat := ⟨_, rfl⟩
  obtain ⟨n2, hn2⟩ : ∃ n : Int, n = (l.has 2 who).toNat := ⟨_, rfl⟩
  have b0 : 0 ≤ n0 ∧ n0 ≤ 1 := by rw [hn0]; cases l.has 0 who <;> decide
  have b1 : 0 ≤ n1 ∧ n1 ≤ 1 := by rw [hn1]; cases l.has 1 who <;> decide
  have b2 : 0 ≤ n2 ∧ n2 ≤ 1 := by rw [hn2]; cases l.has 2 who <;> decide
  unfold Lk.allN Lk.allL
  rw [← hn0, ← hn1, ← hn2]
  have j1 : (l.drop1 0 who).has 1 who = l.has 1 who := has_drop l 0 1 who (by decide)
  have j2 : ((l.drop1 0 who).drop1 1 who).has 2 who = l.has 2 who := by rw [has_drop _ 1 2 who (by decide), has_drop _ 0 2 who (by decide)]
  rw [← j1] at hn1
  rw [← j2] at hn2
  clear j1 j2
  obtain ⟨l1, hl1⟩ : ∃ l1, l1 = l.drop1 0 who := ⟨_, rfl⟩
  rw [← hl1] at hn1 hn2 ⊢
  obtain ⟨l2, hl2⟩ : ∃ l2, l2 = l1.drop1 1 who := ⟨_, rfl⟩
  rw [← hl2] at hn2 ⊢
  obtain ⟨l3, hl3⟩ : ∃ l3, l3 = l2.drop1 2 who := ⟨_, rfl⟩
  rw [← hl3]
  replace hn0 := Lib.hid hn0
  replace hn1 := Lib.hid hn1
  replace hn2 := Lib.hid hn2
  replace hl1 := Lib.hid hl1
  replace hl2 := Lib.hid hl2
  replace hl3 := Lib.hid hl3
  replace b0 := Lib.hid b0
  replace b1 := Lib.hid b1
  replace b2 := Lib.hid b2
  replace h := Lib.hid h
  go_enter Try.func15, Try.ntmps15
  go_wp2_with fail
  go_loopw [5, 6, 7] (fun nn jj ii wr => ∃ (k n : Int) (L : Lk), ii = .int .i64 k ∧ nn = .int .i64 n ∧ Hid (LkAt 26 wr s L) ∧ Hid (Put.Off s s w wr) ∧ Hid ((k = 0 ∧ n = 0 ∧ L = l) ∨ (k = 1 ∧ n = n0 ∧ L = l1) ∨ (k = 2 ∧ n = n0 + n1 ∧ L = l2) ∨ (k = 3 ∧ n = n0 + n1 + n2 ∧ L = l3))) (fun _ _ ii _ => 3 - (intOf ii).toNat)
  case atStart => exact ⟨0, 0, l, rfl, rfl, h.out, Put.Off.refl _ _ _, .inl ⟨rfl, rfl, rfl⟩⟩
  case round =>
    obtain ⟨k, n, L, rfl, rfl, hL, hO, hk⟩ := hrel
    rcases hk.out with ⟨rfl, rfl, rfl⟩ | ⟨rfl, hn, rfl⟩ | ⟨rfl, hn, rfl⟩ | ⟨rfl, hn, rfl⟩
    · clear hk
      have hh := has_fn 0 who hL.out
      have kc := hL.out.c0
      have kf := hL.out.fz 0
      cases hx : L.has 0 who
      · rw [hx] at hh
        have hd := Lib.hid (hl1.out.trans (drop_not hx))
        have hm : Hid (n0 = 0) := by show _ = _; rw [hn0.out, hx]; rfl
        clear hx
        go_wp2_with (go_at_call 20; go_must (refine hh.mono ?_); rintro e w5 ⟨rfl, rfl⟩)
        go_roundw
        case rel => exact ⟨1, 0, _, by go_num, rfl, hL.out, hO.out, .inr (.inl ⟨rfl, by have := hm.out; omega, hd.out.symm⟩)⟩
        case measure => simp [intOf]
      · rw [hx] at hh
        have hd := Lib.hid (hl1.out.trans (drop_put hx))
        have hm : Hid (n0 = 1) := by show _ = _; rw [hn0.out, hx]; rfl
        clear hx
        go_wp2_with (go_at_call 20; go_must (refine hh.mono ?_); rintro e w5 ⟨rfl, rfl⟩)
        go_roundw
        case rel => exact ⟨1, 1, _, by go_num, by go_num, hL.out.set0 0, hO.out.setCell (.inl rfl), .inr (.inl ⟨rfl, by have := hm.out; omega, hd.out.symm⟩)⟩
        case measure => simp [intOf]
    · clear hk
      have hh := has_fn 1 who hL.out
      have kc := hL.out.c1
      have kf := hL.out.fz 1
      replace hn := Lib.hid hn
      have wi : IntKind.i64.wrap (n + 1) = n + 1 := by have := hn.out; have := b0.out; have := b1.out; rw [IntKind.wrap_i64]; omega
      cases hx : L.has 1 who
      · rw [hx] at hh
        have hd := Lib.hid (hl2.out.trans (drop_not hx))
        have hm : Hid (n1 = 0) := by show _ = _; rw [hn1.out, hx]; rfl
        clear hx
        go_wp2_with (go_at_call 20; go_must (refine hh.mono ?_); rintro e w5 ⟨rfl, rfl⟩)
        go_roundw
        case rel => exact ⟨2, n, _, by go_num, rfl, hL.out, hO.out, .inr (.inr (.inl ⟨rfl, by have := hm.out; have := hn.out; omega, hd.out.symm⟩))⟩
        case measure => simp [intOf]
      · rw [hx] at hh
        have hd := Lib.hid (hl2.out.trans (drop_put hx))
        have hm : Hid (n1 = 1) := by show _ = _; rw [hn1.out, hx]; rfl
        clear hx
        go_wp2_with (go_at_call 20; go_must (refine hh.mono ?_); rintro e w5 ⟨rfl, rfl⟩)
        go_roundw
        case rel => exact ⟨2, n + 1, _, by go_num, by go_num, hL.out.set1 0, hO.out.setCell (.inl rfl), .inr (.inr (.inl ⟨rfl, by have := hm.out; have := hn.out; omega, hd.out.symm⟩))⟩
        case measure => simp [intOf]
    · clear hk
      have hh := has_fn 2 who hL.out
      have kc := hL.out.c2
      have kf := hL.out.fz 2
      replace hn := Lib.hid hn
      have wi : IntKind.i64.wrap (n + 1) = n + 1 := by have := hn.out; have := b0.out; have := b1.out; rw [IntKind.wrap_i64]; omega
      cases hx : L.has 2 who
      · rw [hx] at hh
        have hd := Lib.hid (hl3.out.trans (drop_not hx))
        have hm : Hid (n2 = 0) := by show _ = _; rw [hn2.out, hx]; rfl
        clear hx
        go_wp2_with (go_at_call 20; go_must (refine hh.mono ?_); rintro e w5 ⟨rfl, rfl⟩)
        go_roundw
        case rel => exact ⟨3, n, _, by go_num, rfl, hL.out, hO.out, .inr (.inr (.inr ⟨rfl, by have := hm.out; have := hn.out; omega, hd.out.symm⟩))⟩
        case measure => simp [intOf]
      · rw [hx] at hh
        have hd := Lib.hid (hl3.out.trans (drop_put hx))
        have hm : Hid (n2 = 1) := by show _ = _; rw [hn2.out, hx]; rfl
        clear hx
        go_wp2_with (go_at_call 20; go_must (refine hh.mono ?_); rintro e w5 ⟨rfl, rfl⟩)
        go_roundw
        case rel => exact ⟨3, n + 1, _, by go_num, by go_num, hL.out.set2 0, hO.out.setCell (.inl rfl), .inr (.inr (.inr ⟨rfl, by have := hm.out; have := hn.out; omega, hd.out.symm⟩))⟩
        case measure => simp [intOf]
    · clear hk
      replace hn := Lib.hid hn
      go_wp2_with fail
      go_ret
      exact ⟨by rw [hn.out]; rfl, hL.out, hO.out⟩

theorem All_nil (who : Int) (w : World) : Calls Try.prog 15 #[.pointer none, .int .i64 who] w fun e w' => e = .returned (.int .i64 0) ∧ w = w' := by
  have hh := fun k => has_nil k who w
  go_enter Try.func15, Try.ntmps15
  go_wp2_with fail
  go_loopw [5, 6, 7] (fun nn jj ii wr => ∃ k : Int, 0 ≤ k ∧ k ≤ 3 ∧ ii = .int .i64 k ∧ nn = .int .i64 0 ∧ w = wr) (fun _ _ ii _ => 3 - (intOf ii).toNat)
  case atStart => exact ⟨0, by omega, by omega, rfl, rfl, rfl⟩
  case round =>
    obtain ⟨k, k0, k3, rfl, rfl, rfl⟩ := hrel
    have hw2 : IntKind.i64.wrap (k + 1) = k + 1 := IntWalk.i64_in _ (by omega)
    by_cases hlt : k < 3
    · have hk := hh k
      clear hh
      go_wp2_with (go_at_call 20; go_must (refine hk.mono ?_); rintro e w5 ⟨rfl, rfl⟩)
      go_roundw
      case rel => exact ⟨k + 1, by omega, by omega, by go_num, rfl, trivial⟩
      case measure => simp only [intOf]; omega
    · have hk3 : k = 3 := by omega
      subst hk3
      go_wp2_with fail
      go_ret
      exact ⟨rfl, rfl⟩
end

end Go.Proofs.Ytlenhkmddmlknaa
