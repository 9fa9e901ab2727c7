/-
  Own walks: one call of both tables.
-/
import Derived.Test.YtmedbodjikbmfaaNtC
import Derived.Test.YtmedbodjikbmfaaReg
namespace Go.Proofs.Ytmedbodjikbmfaa
open Go.RowKit Go.Lib Go.Sort

theorem ClaimR.uniq {l l1 l2 : List Int} {e1 e2 : Int} {u : Nat} (h : ClaimR l u e1 l1) (h' : ClaimR l u e2 l2) : e1 = e2 ∧ l1 = l2 := by
  by_cases h0 : u = 0
  · obtain ⟨rfl, rfl⟩ := h.none h0
    obtain ⟨rfl, rfl⟩ := h'.none h0
    exact ⟨rfl, rfl⟩
  · by_cases hP : InP l u 1 1 64
    · obtain ⟨rfl, rfl⟩ := h.good h0 hP
      obtain ⟨rfl, rfl⟩ := h'.good h0 hP
      exact ⟨rfl, rfl⟩
    · obtain ⟨rfl, rfl⟩ := h.bad h0 hP
      obtain ⟨rfl, rfl⟩ := h'.bad h0 hP
      exact ⟨rfl, rfl⟩
theorem GiveR.uniq {l l1 l2 : List Int} {n1 n2 e1 e2 : Int} {u : Nat} (h : GiveR l u n1 e1 l1) (h' : GiveR l u n2 e2 l2) : n1 = n2 ∧ e1 = e2 ∧ l1 = l2 := by
  by_cases hP : InP l u 2 3 64
  · obtain ⟨rfl, rfl, rfl⟩ := h.good hP
    obtain ⟨rfl, rfl, rfl⟩ := h'.good hP
    exact ⟨rfl, rfl, rfl⟩
  · obtain ⟨rfl, rfl, rfl⟩ := h.bad hP
    obtain ⟨rfl, rfl, rfl⟩ := h'.bad hP
    exact ⟨rfl, rfl, rfl⟩
theorem TurnR.uniq {l l1 l2 : List Int} {n e1 e2 : Int} {d : Bool} (h : TurnR l n d e1 l1) (h' : TurnR l n d e2 l2) : e1 = e2 ∧ l1 = l2 := by
  by_cases h0 : n < 0 ∨ (l.length : Int) ≤ n
  · obtain ⟨rfl, rfl⟩ := h.out h0
    obtain ⟨rfl, rfl⟩ := h'.out h0
    exact ⟨rfl, rfl⟩
  · by_cases hP : d = decide (l.getD n.toNat 0 < 3)
    · obtain ⟨rfl, rfl⟩ := h.good (by omega) (by omega) hP
      obtain ⟨rfl, rfl⟩ := h'.good (by omega) (by omega) hP
      exact ⟨rfl, rfl⟩
    · obtain ⟨rfl, rfl⟩ := h.bad (by omega) (by omega) hP
      obtain ⟨rfl, rfl⟩ := h'.bad (by omega) (by omega) hP
      exact ⟨rfl, rfl⟩

/-- A table and the document's, alike. -/
structure BS (B : Nat) (w : World) (p q h : Nat) (l : List Int) : Prop where
  x : TW w p l
  y : NW w q h l
  ok : Lok l
  bp : B ≤ p
  bq : B ≤ q
  bh : B ≤ h

section
variable {B : Nat} {w w' : World} {p q h : Nat} {l : List Int}

theorem BS.apart (s : BS B w p q h l) : p ≠ q ∧ p ≠ h := by
  obtain ⟨cap, F⟩ := s.y.facts
  refine ⟨apart_types s.x F.obj (by decide), ?_⟩
  have hx : w.heap[p]? = _ := s.x
  rcases F.own.2 with ⟨e0, _⟩ | ⟨g', cap', cur, e0, _, hg, _⟩
  · cases e0
  · cases e0
    exact apart_types hx hg (by decide)
theorem BS.size (s : BS B w p q h l) : B ≤ w.heap.size := by have := s.x.facts.pl; have := s.bp; omega
theorem BS.kept (s : BS B w p q h l) (hb : Below w.heap.size w w') : BS B w' p q h l := ⟨T3.kept s.x hb, NW_kept s.y hb, s.ok, s.bp, s.bq, s.bh⟩
theorem NW.offG (n : NW w q h l) (o : OffG p w w') (h1 : p ≠ q) (h2 : p ≠ h) : NW w' q h l := by
  obtain ⟨cap, F⟩ := n.facts
  refine ⟨cap, (o.block q F.ql (fun e => h1 e.symm)).trans F.obj, ?_⟩
  exact ownsRow_block F.own fun k hk => by cases hk; exact o.block h F.hl (fun e => h2 e.symm)
theorem T3.offG {a u b : Nat} (t : T3 w p a u b) (o : OffG h w w') (h1 : p ≠ h) : T3 w' p a u b := by
  unfold T3 at *
  rw [o.block p (lt_of_heap t) h1]
  exact t

/-- A call's block. -/
def OpAt (w : World) (o : Nat) (kd n : Int) (s : Nat) : Prop := w.heap[o]? = some (.cells #[.int .i64 kd, .int .i64 n, .int .u64 s] 36 (0, 0))
theorem OpAt.kept {o s : Nat} {kd n : Int} (a : OpAt w o kd n s) (hb : Below w.heap.size w w') : OpAt w' o kd n s := by
  unfold OpAt
  rw [hb.block o (lt_of_heap a)]
  exact a
theorem OpAt.off {o s : Nat} {kd n : Int} (a : OpAt w o kd n s) (hp : TW w p l) (ho : OffB p w w') : OpAt w' o kd n s := by
  unfold OpAt
  rw [ho.block o (apart_types a hp (by decide))]
  exact a
theorem OpAt.cells {o s : Nat} {kd n : Int} (a : OpAt w o kd n s) : w.cell? ⟨o, 0, none⟩ = some (.int .i64 kd) ∧ w.cell? ⟨o, 1, none⟩ = some (.int .i64 n) ∧ w.cell? ⟨o, 2, none⟩ = some (.int .u64 s) := by
  have a : w.heap[o]? = _ := a
  exact ⟨by simp [World.cell?, a], by simp [World.cell?, a], by simp [World.cell?, a]⟩

/-- What a call of both makes. -/
def StepPost (B : Nat) (w : World) (p q h : Nat) (l : List Int) (e : Ending) (w' : World) : Prop := e = .returned (.bool true) ∧ ∃ l', BS B w' p q h l' ∧ l'.length = l.length ∧ Below B w w'

/-- Behind a call of the one and of the other both are alike. -/
theorem BS.both {w1 w2 w3 : World} {l' : List Int} (s : BS B w1 p q h l) (hB : B ≤ w.heap.size) (b : Below w.heap.size w w1) (o1 : OffG p w1 w2) (t : TW w2 p l') (k : Lok l') (o2 : OffG h w2 w3) (y : NW w3 q h l') : BS B w3 p q h l' ∧ Below B w w3 :=
  ⟨⟨t.offG o2 s.apart.2, y, k, s.bp, s.bq, s.bh⟩, ((b.mono hB).trans (o1.below s.bp s.size)).trans (o2.below s.bh (by have := o1.size; have := s.size; omega))⟩

/-- The states of a statement that calls both. -/
def SS (w1 : World) (p : Nat) (l : List Int) (R : Value → List Int → Prop) : List Value → World → Prop
  | [], W => Below w1.heap.size w1 W
  | v :: _, W => OffG p w1 W ∧ ∃ l', R v l' ∧ TW W p l' ∧ Lok l' ∧ l'.length = l.length
theorem SS.ext {w1 : World} {R : Value → List Int → Prop} : ∀ (vs : List Value) (W W' : World), Reg.Ext W W' → SS w1 p l R vs W → SS w1 p l R vs W' := by
  intro vs W W' he a
  cases vs with
  | nil => exact Below.trans a (he.mono (Below.size a))
  | cons v vs =>
    obtain ⟨o, l', a1, a2, a3, a4⟩ := a
    exact ⟨o.trans (OffG.of_below he), l', a1, T3.kept a2 he, a3, a4⟩

theorem take_law (n : Int) (hn : -9223372036854775808 ≤ n ∧ n ≤ 9223372036854775807) (hw : NW w q h l) (hl : l.length ≤ 64) :
    Calls Try.prog 24 #[.pointer (some ⟨q, 0, none⟩), .int .i64 n] w (TakePost l n q h w) := by
  by_cases h1 : n < 1
  · exact take_arg n h1 hw
  · exact take_any n (by omega) hn.2 hw hl

set_option maxRecDepth 100000 in
set_option maxHeartbeats 2000000 in
theorem step_take0 (n : Int) (u : Nat) (hn : -9223372036854775808 ≤ n ∧ n ≤ 9223372036854775807) (s : BS B w p q h l) :
    Calls Try.prog 9 #[.pointer (some ⟨p, 0, none⟩), .pointer (some ⟨q, 0, none⟩), .agg #[.int .i64 0, .int .i64 n, .int .u64 u]] w (StepPost B w p q h l) := by
  have hb1 : Below w.heap.size w (w.alloc (.cells #[.int .i64 0, .int .i64 n, .int .u64 u] 36)) := (Below.refl _ _).alloc (Nat.le_refl _) _
  have ho1 : OpAt (w.alloc (.cells #[.int .i64 0, .int .i64 n, .int .u64 u] 36)) w.heap.size 0 n u := heap_alloc_new w _
  have h1 := s.kept hb1
  have hc := Take_any n hn h1.x h1.ok
  have hsz := s.size
  go_enter Try.func9, Try.ntmps9
  go_wp2_with fail
  go_at_call 13
  refine hc.mono ?_
  clear hc
  rintro e w5 ⟨hO5, s5, x5, l5, rfl, hR5, hT5, hk5, hl5⟩
  have hN5 := h1.y.offG (OffG.of_off hO5) h1.apart.1 h1.apart.2
  obtain ⟨r0, r1, r2⟩ := (ho1.off h1.x hO5).cells
  have hd := take_law n hn hN5 h1.ok.few
  clear ho1
  go_wp2_with fail
  go_at_call 24
  refine hd.mono ?_
  clear hd
  rintro e w6 ⟨hO6, s6, x6, l6, rfl, hR6, hN6⟩
  obtain ⟨rfl, rfl, rfl⟩ := hR5.uniq hR6
  have z1 : ((s5 : Int) == (s5 : Int)) = true := by simp
  have z2 : (x5 == x5) = true := by simp
  have hfin : Hid (StepPost B w p q h l (.returned (.bool true)) w6) := by
    obtain ⟨a1, a2⟩ := h1.both hsz hb1 (OffG.of_off hO5) hT5 hk5 hO6 hN6
    exact ⟨rfl, l5, a1, hl5, a2⟩
  clear hb1 h1 hN5 hO5 hO6 hR5 hR6 hN6 hT5 hk5 hl5 s
  go_wp2_with fail
  go_ret
  exact hfin.out

set_option maxRecDepth 100000 in
set_option maxHeartbeats 2000000 in
theorem step_take1 (n : Int) (u : Nat) (hn : -9223372036854775808 ≤ n ∧ n ≤ 9223372036854775807) (s : BS B w p q h l) :
    Calls Try.prog 9 #[.pointer (some ⟨p, 0, none⟩), .pointer (some ⟨q, 0, none⟩), .agg #[.int .i64 1, .int .i64 n, .int .u64 u]] w (StepPost B w p q h l) := by
  have hb1 : Below w.heap.size w (w.alloc (.cells #[.int .i64 1, .int .i64 n, .int .u64 u] 36)) := (Below.refl _ _).alloc (Nat.le_refl _) _
  have ho1 : OpAt (w.alloc (.cells #[.int .i64 1, .int .i64 n, .int .u64 u] 36)) w.heap.size 1 n u := heap_alloc_new w _
  have h1 := s.kept hb1
  have hc := Take_any n hn h1.x h1.ok
  have hsz := s.size
  go_enter Try.func9, Try.ntmps9
  go_wp2_with fail
  go_at_call 13
  refine hc.mono ?_
  clear hc
  rintro e w5 ⟨hO5, s5, x5, l5, rfl, hR5, hT5, hk5, hl5⟩
  have hN5 := h1.y.offG (OffG.of_off hO5) h1.apart.1 h1.apart.2
  obtain ⟨r0, r1, r2⟩ := (ho1.off h1.x hO5).cells
  have hd := take_law n hn hN5 h1.ok.few
  clear ho1
  go_wp2_with fail
  go_at_call 24
  refine hd.mono ?_
  clear hd
  rintro e w6 ⟨hO6, s6, x6, l6, rfl, hR6, hN6⟩
  obtain ⟨rfl, rfl, rfl⟩ := hR5.uniq hR6
  have z1 : ((s5 : Int) == (s5 : Int)) = true := by simp
  have z2 : (x5 == x5) = true := by simp
  have hfin : Hid (StepPost B w p q h l (.returned (.bool true)) w6) := by
    obtain ⟨a1, a2⟩ := h1.both hsz hb1 (OffG.of_off hO5) hT5 hk5 hO6 hN6
    exact ⟨rfl, l5, a1, hl5, a2⟩
  clear hb1 h1 hN5 hO5 hO6 hR5 hR6 hN6 hT5 hk5 hl5 s
  go_wp2_with fail
  go_ret
  exact hfin.out

set_option maxRecDepth 100000 in
set_option maxHeartbeats 2000000 in
theorem step_give3 (n : Int) (u : Nat) (hu : u < 18446744073709551616) (s : BS B w p q h l) :
    Calls Try.prog 9 #[.pointer (some ⟨p, 0, none⟩), .pointer (some ⟨q, 0, none⟩), .agg #[.int .i64 3, .int .i64 n, .int .u64 u]] w (StepPost B w p q h l) := by
  have hb1 : Below w.heap.size w (w.alloc (.cells #[.int .i64 3, .int .i64 n, .int .u64 u] 36)) := (Below.refl _ _).alloc (Nat.le_refl _) _
  have ho1 : OpAt (w.alloc (.cells #[.int .i64 3, .int .i64 n, .int .u64 u] 36)) w.heap.size 3 n u := heap_alloc_new w _
  have h1 := s.kept hb1
  have hc := Give_any u hu h1.x h1.ok
  have hsz := s.size
  go_enter Try.func9, Try.ntmps9
  go_wp2_with fail
  go_at_call 18
  refine hc.mono ?_
  clear hc
  rintro e w5 ⟨hO5, n5, x5, l5, rfl, hR5, hT5, hk5, hl5⟩
  have hN5 := h1.y.offG (OffG.of_off hO5) h1.apart.1 h1.apart.2
  obtain ⟨r0, r1, r2⟩ := (ho1.off h1.x hO5).cells
  have hd := give_any u hu hN5 h1.ok.few
  clear ho1
  go_wp2_with fail
  go_at_call 26
  refine hd.mono ?_
  clear hd
  rintro e w6 ⟨hO6, n6, x6, l6, rfl, hR6, hN6⟩
  obtain ⟨rfl, rfl, rfl⟩ := hR5.uniq hR6
  have z1 : (n5 == n5) = true := by simp
  have z2 : (x5 == x5) = true := by simp
  have hfin : Hid (StepPost B w p q h l (.returned (.bool true)) w6) := by
    obtain ⟨a1, a2⟩ := h1.both hsz hb1 (OffG.of_off hO5) hT5 hk5 (OffG.of_off hO6) hN6
    exact ⟨rfl, l5, a1, hl5, a2⟩
  clear hb1 h1 hN5 hO5 hO6 hR5 hR6 hN6 hT5 hk5 hl5 s
  go_wp2_with fail
  go_ret
  exact hfin.out

set_option maxRecDepth 100000 in
set_option maxHeartbeats 2000000 in
theorem step_give4 (n : Int) (u : Nat) (hu : u < 18446744073709551616) (s : BS B w p q h l) :
    Calls Try.prog 9 #[.pointer (some ⟨p, 0, none⟩), .pointer (some ⟨q, 0, none⟩), .agg #[.int .i64 4, .int .i64 n, .int .u64 u]] w (StepPost B w p q h l) := by
  have hb1 : Below w.heap.size w (w.alloc (.cells #[.int .i64 4, .int .i64 n, .int .u64 u] 36)) := (Below.refl _ _).alloc (Nat.le_refl _) _
  have ho1 : OpAt (w.alloc (.cells #[.int .i64 4, .int .i64 n, .int .u64 u] 36)) w.heap.size 4 n u := heap_alloc_new w _
  have h1 := s.kept hb1
  have hc := Give_any u hu h1.x h1.ok
  have hsz := s.size
  go_enter Try.func9, Try.ntmps9
  go_wp2_with fail
  go_at_call 18
  refine hc.mono ?_
  clear hc
  rintro e w5 ⟨hO5, n5, x5, l5, rfl, hR5, hT5, hk5, hl5⟩
  have hN5 := h1.y.offG (OffG.of_off hO5) h1.apart.1 h1.apart.2
  obtain ⟨r0, r1, r2⟩ := (ho1.off h1.x hO5).cells
  have hd := give_any u hu hN5 h1.ok.few
  clear ho1
  go_wp2_with fail
  go_at_call 26
  refine hd.mono ?_
  clear hd
  rintro e w6 ⟨hO6, n6, x6, l6, rfl, hR6, hN6⟩
  obtain ⟨rfl, rfl, rfl⟩ := hR5.uniq hR6
  have z1 : (n5 == n5) = true := by simp
  have z2 : (x5 == x5) = true := by simp
  have hfin : Hid (StepPost B w p q h l (.returned (.bool true)) w6) := by
    obtain ⟨a1, a2⟩ := h1.both hsz hb1 (OffG.of_off hO5) hT5 hk5 (OffG.of_off hO6) hN6
    exact ⟨rfl, l5, a1, hl5, a2⟩
  clear hb1 h1 hN5 hO5 hO6 hR5 hR6 hN6 hT5 hk5 hl5 s
  go_wp2_with fail
  go_ret
  exact hfin.out

end

end Go.Proofs.Ytmedbodjikbmfaa
