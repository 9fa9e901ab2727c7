/-
  Own words and walks: a table of nodes in memory, and what tells of it alone: none, Size, Idle, Used, State, Counts.
-/
import Derived.Test.YtmedbodjikbmfaaNtM
import Derived.Test.YtmedbodjikbmfaaNdA
import Derived.Test.YtmedbodjikbmfaaOwnK
import Derived.RegionTactic
import Derived.ChangeAlike
import Derived.Deep.QuietTactic
import Derived.BigQuiet
import Derived.OwnWalk
namespace Go.Proofs.Ytmedbodjikbmfaa
open Go.RowKit Go.Lib Go.Sort

theorem lt_of_heap {w : World} {p : Nat} {o : Obj} (h : w.heap[p]? = some o) : p < w.heap.size := by
  rcases Nat.lt_or_ge p w.heap.size with h' | h'
  · exact h'
  · rw [Array.getElem?_eq_none h'] at h; cases h
theorem apart_types {w : World} {p q : Nat} {a b : Array Value} {s t : TypeId} {x y : Nat × Nat} (h : w.heap[p]? = some (.cells a s x)) (h' : w.heap[q]? = some (.cells b t y)) (hne : s ≠ t) : p ≠ q := by
  intro e
  subst e
  rw [h] at h'
  injection h' with h'
  injection h' with _ h3
  exact hne h3

/-- A table in memory, whatever its three sets. -/
def T3 (w : World) (p : Nat) (a u b : Nat) : Prop := w.heap[p]? = some (.cells #[.int .u64 a, .int .u64 u, .int .u64 b] 49 (0, 0))
/-- A table of nodes in these states. -/
def TW (w : World) (p : Nat) (l : List Int) : Prop := T3 w p (ofN (allB l)) (ofN (useB l)) (ofN (barB l))

structure TFacts (w : World) (p a u b : Nat) : Prop where
  c0 : w.cell? ⟨p, 0, none⟩ = some (.int .u64 a)
  c1 : w.cell? ⟨p, 1, none⟩ = some (.int .u64 u)
  c2 : w.cell? ⟨p, 2, none⟩ = some (.int .u64 b)
  fz : ∀ j, w.frozen? ⟨p, j, none⟩ = false
  pl : p < w.heap.size

section
variable {w w' : World} {p a u b : Nat} {l : List Int}

theorem T3.facts (h : T3 w p a u b) : TFacts w p a u b := by
  unfold T3 at h
  exact ⟨by simp [World.cell?, h], by simp [World.cell?, h], by simp [World.cell?, h], fun j => by simp [World.frozen?, h], lt_of_heap h⟩
theorem T3.kept (h : T3 w p a u b) (hb : Below w.heap.size w w') : T3 w' p a u b := by
  unfold T3 at *
  rw [hb.block p (lt_of_heap h)]
  exact h
theorem T3.off {q : Nat} (h : T3 w p a u b) (ho : OffB q w w') (hne : p ≠ q) : T3 w' p a u b := by
  unfold T3 at *
  rw [ho.block p hne]
  exact h
theorem T3.drew (h : T3 w p a u b) : T3 w.drew p a u b := h
theorem T3.used (u' : Nat) (h : T3 w p a u b) : T3 (w.setCell ⟨p, 1, none⟩ (.int .u64 u')) p a u' b := by
  have hlt := lt_of_heap h
  have h1 : w.heap[p]? = _ := h
  rw [Array.getElem?_eq_getElem hlt] at h1
  replace h1 := Option.some.inj h1
  unfold T3
  simp [World.setCell, hlt, Array.getElem_modify, h1]
theorem T3.barred (b' : Nat) (h : T3 w p a u b) : T3 (w.setCell ⟨p, 2, none⟩ (.int .u64 b')) p a u b' := by
  have hlt := lt_of_heap h
  have h1 : w.heap[p]? = _ := h
  rw [Array.getElem?_eq_getElem hlt] at h1
  replace h1 := Option.some.inj h1
  unfold T3
  simp [World.setCell, hlt, Array.getElem_modify, h1]

theorem none_any (h : T3 w p a u b) (ha : a ≠ 0) :
    Calls Try.prog 23 #[.pointer (some ⟨p, 0, none⟩)] w fun e w' => e = .returned (.bool false) ∧ w = w' := by
  have c0 := h.facts.c0
  have hne : ((a : Int) == 0) = false := beq_eq_false_iff_ne.2 (by omega)
  clear h
  go_enter Try.func23, Try.ntmps23
  go_wp2_with fail
  go_ret
  exact ⟨rfl, rfl⟩
theorem none_zero (h : T3 w p 0 u b) :
    Calls Try.prog 23 #[.pointer (some ⟨p, 0, none⟩)] w fun e w' => e = .returned (.bool true) ∧ w = w' := by
  have c0 := h.facts.c0
  clear h
  go_enter Try.func23, Try.ntmps23
  go_wp2_with fail
  go_ret
  exact ⟨rfl, rfl⟩
theorem none_nil (w : World) : Calls Try.prog 23 #[.pointer none] w fun e w' => e = .returned (.bool true) ∧ w = w' := by
  go_enter Try.func23, Try.ntmps23
  go_wp2_with fail
  go_ret
  exact ⟨rfl, rfl⟩

theorem Size_any (h : TW w p l) (hl : Lok l) :
    Calls Try.prog 8 #[.pointer (some ⟨p, 0, none⟩)] w fun e w' => e = .returned (.int .i64 l.length) ∧ w = w' := by
  have hn := none_any h (all_pos hl)
  have c0 := h.facts.c0
  have hc : cntK (ofN (allB l)).testBit 64 = l.length := by
    rw [cnt_ofN]
    have key : ∀ k, cntK (allB l) k = min k l.length := by
      intro k
      induction k with
      | zero => simp [cntK]
      | succ k ih =>
        simp only [cntK, ih]
        unfold allB
        by_cases h1 : k < l.length
        · simp [h1]; omega
        · simp [h1]; omega
    rw [key]; have := hl.few; omega
  have hlen := len_fn (ofN (allB l)) (ofN_lt _) w
  rw [hc] at hlen
  clear hc h
  generalize ofN (allB l) = A at *
  go_enter Try.func8, Try.ntmps8
  go_wp2_with (first | (go_at_call 23; go_must (refine hn.mono ?_); rintro e w' ⟨rfl, rfl⟩) | (go_at_call 17; go_must (refine hlen.mono ?_); rintro e w' ⟨rfl, rfl⟩))
  go_ret
  exact ⟨rfl, rfl⟩

theorem Used_any (h : TW w p l) (hl : Lok l) :
    Calls Try.prog 15 #[.pointer (some ⟨p, 0, none⟩)] w fun e w' => e = .returned (.int .u64 (ofN (useB l))) ∧ w = w' := by
  have hn := none_any h (all_pos hl)
  have c1 := h.facts.c1
  clear h
  generalize ofN (useB l) = U at *
  go_enter Try.func15, Try.ntmps15
  go_wp2_with (go_at_call 23; go_must (refine hn.mono ?_); rintro e w' ⟨rfl, rfl⟩)
  go_ret
  exact ⟨rfl, rfl⟩

set_option maxRecDepth 100000 in
theorem Idle_any (h : TW w p l) (hl : Lok l) :
    Calls Try.prog 14 #[.pointer (some ⟨p, 0, none⟩)] w fun e w' => e = .returned (.int .u64 (ofN (isI l))) ∧ w.drew = w' := by
  have hn := none_any h (all_pos hl)
  have c0 := h.facts.c0
  have c1 := h.facts.c1
  have c2 := h.facts.c2
  have e := idle_bits hl
  clear h
  generalize ofN (useB l) = U at *
  generalize ofN (allB l) = A at *
  generalize ofN (barB l) = B at *
  generalize ofN (isI l) = I at *
  replace e := Lib.hid e
  go_enter Try.func14, Try.ntmps14
  go_wp2_with (go_at_call 23; go_must (refine hn.mono ?_); rintro e w' ⟨rfl, rfl⟩)
  go_region
  go_wp2_with fail
  go_ret
  exact ⟨congrArg (fun n => Ending.returned (.int .u64 n)) e.out, rfl⟩

/-- What State tells. -/
def stO (l : List Int) (n : Int) : Int := if 0 ≤ n ∧ n < l.length then l.getD n.toNat 0 else 0
theorem has_all {n : Int} (hl : Lok l) : hasF (ofN (allB l)) n = decide (0 ≤ n ∧ n < l.length) := by
  have := hl.few
  by_cases h : 0 ≤ n ∧ n < 64
  · obtain ⟨i, rfl⟩ := Int.eq_ofNat_of_zero_le h.1
    rw [hasF_nat (by omega), ofN_testBit]
    unfold allB
    rw [Bool.eq_iff_iff]
    simp
    omega
  · unfold hasF
    rw [Bool.eq_iff_iff]
    simp
    omega
theorem has_use {i : Nat} (hi : i < 64) : hasF (ofN (useB l)) (i : Int) = useB l i := by rw [hasF_nat hi, ofN_testBit]; simp [hi]
theorem has_bar {i : Nat} (hi : i < 64) : hasF (ofN (barB l)) (i : Int) = barB l i := by rw [hasF_nat hi, ofN_testBit]; simp [hi]

/-- A callee that draws, at most. -/
theorem quiet_eq {P : Program} {f : FuncId} {args : Array Value} {w : World} {n : Nat} {v : Value} (h : Calls P f args (w.drewN n) fun e w' => e = .returned v ∧ w.drewN n = w') : Calls P f args (w.drewN n) fun e w'' => e = .returned v ∧ ∃ m, w'' = w.drewN m :=
  h.mono fun _ _ ⟨he, hm⟩ => ⟨he, n, hm.symm⟩

set_option maxRecDepth 100000 in
set_option maxHeartbeats 1000000 in
theorem State_any (n : Int) (hn : -9223372036854775808 ≤ n ∧ n ≤ 9223372036854775807) (h : TW w p l) (hl : Lok l) :
    Calls Try.prog 21 #[.pointer (some ⟨p, 0, none⟩), .int .i64 n] w fun e w' => e = .returned (.int .i64 (stO l n)) ∧ ∃ m, w' = w.drewN m := by
  have hno := none_any h (all_pos hl)
  have c0 := h.facts.c0
  have c1 := h.facts.c1
  have c2 := h.facts.c2
  have hA := has_fn (ofN (allB l)) (ofN_lt _) n w hn
  have hU := fun W => has_fn (ofN (useB l)) (ofN_lt _) n W hn
  have hB := fun W => has_fn (ofN (barB l)) (ofN_lt _) n W hn
  rw [has_all hl] at hA
  clear h
  by_cases hin : 0 ≤ n ∧ n < l.length
  · have e0 : stO l n = l.getD n.toNat 0 := by unfold stO; rw [if_pos hin]
    rw [e0]
    obtain ⟨i, rfl⟩ := Int.eq_ofNat_of_zero_le hin.1
    have hi : i < l.length := by omega
    have hf := hl.few
    rw [decide_eq_true hin] at hA
    rw [has_use (by omega)] at hU
    rw [has_bar (by omega)] at hB
    have hs := hl.st i hi
    rw [Int.toNat_natCast]
    unfold useB at hU
    unfold barB at hB
    obtain ⟨x, hx⟩ : ∃ x, x = l.getD i 0 := ⟨_, rfl⟩
    rw [← hx] at hU hB hs ⊢
    have cU : ∃ U, w.cell? ⟨p, 1, none⟩ = some (.int .u64 U) ∧ U = ofN (useB l) := ⟨_, c1, rfl⟩
    obtain ⟨U, cU, hUe⟩ := cU
    have cB : ∃ U, w.cell? ⟨p, 2, none⟩ = some (.int .u64 U) ∧ U = ofN (barB l) := ⟨_, c2, rfl⟩
    obtain ⟨B, cB, hBe⟩ := cB
    generalize ofN (allB l) = A at *
    clear c1 c2
    have hU' : ∀ W, Calls Try.prog 34 #[.int .u64 U, .int .i64 i] W fun e w' => e = .returned (.bool (decide (x = 2) || decide (x = 3))) ∧ W = w' := by
      rw [hUe]; unfold useB; exact hU
    have hB' : ∀ W, Calls Try.prog 34 #[.int .u64 B, .int .i64 i] W fun e w' => e = .returned (.bool (decide (x = 3) || decide (x = 4))) ∧ W = w' := by
      rw [hBe]; unfold barB; exact hB
    clear hx e0 hin hl hn hf hi hU hB hUe hBe
    rcases (by omega : x = 1 ∨ x = 2 ∨ x = 3 ∨ x = 4) with rfl | rfl | rfl | rfl
    all_goals
      simp only [Int.reduceEq, decide_true, decide_false, Bool.or_true, Bool.or_false] at hU' hB'
      clear hs
      go_enter Try.func21, Try.ntmps21
      go_wp2_with (first | (go_at_call 23; go_must (refine hno.mono ?_); rintro e w' ⟨rfl, rfl⟩) | (go_at_call 34; go_must (refine hA.mono ?_); rintro e w' ⟨rfl, rfl⟩))
      go_quiet ((go_at_call 34; first | with_reducible exact quiet_eq (hU' _) | with_reducible exact quiet_eq (hB' _)))
      go_wp2_with fail
      go_ret
      exact ⟨rfl, _, rfl⟩
  · have e0 : stO l n = 0 := by unfold stO; rw [if_neg hin]
    rw [e0]
    rw [decide_eq_false hin] at hA
    generalize ofN (allB l) = A at *
    clear hin e0 hU hB
    go_enter Try.func21, Try.ntmps21
    go_wp2_with (first | (go_at_call 23; go_must (refine hno.mono ?_); rintro e w' ⟨rfl, rfl⟩) | (go_at_call 34; go_must (refine hA.mono ?_); rintro e w' ⟨rfl, rfl⟩))
    go_ret
    exact ⟨rfl, 0, rfl⟩

set_option maxRecDepth 100000 in
set_option maxHeartbeats 1000000 in
theorem Counts_any (h : TW w p l) (hl : Lok l) :
    Calls Try.prog 19 #[.pointer (some ⟨p, 0, none⟩)] w fun e w' => e = .returned (.tuple #[.int .i64 (cntK (isI l) 64), .int .i64 (cntK (useB l) 64), .int .i64 (cntK (fun i => barB l i && !useB l i) 64)]) ∧ ∃ m, w' = w.drewN m := by
  have hno := none_any h (all_pos hl)
  have hid : ∀ (n : Nat), Calls Try.prog 14 #[.pointer (some ⟨p, 0, none⟩)] (w.drewN n) fun e w' => e = .returned (.int .u64 (ofN (isI l))) ∧ ∃ m, w' = (w.drewN n).drewN m := fun n =>
    (Idle_any (w := w.drewN n) (p := p) (l := l) h hl).mono fun e w' ⟨h1, h2⟩ => ⟨h1, 1, h2.symm⟩
  have c1 := h.facts.c1
  have c2 := h.facts.c2
  have e := not_ofN (barB l) (useB l)
  have l1 := fun W => len_fn (ofN (isI l)) (ofN_lt _) W
  have l2 := fun W => len_fn (ofN (useB l)) (ofN_lt _) W
  have l3 := fun W => len_fn (ofN (fun i => barB l i && !useB l i)) (ofN_lt _) W
  rw [cnt_ofN] at l1 l2 l3
  clear h
  generalize cntK (isI l) 64 = k1 at *
  generalize cntK (useB l) 64 = k2 at *
  generalize cntK (fun i => barB l i && !useB l i) 64 = k3 at *
  generalize ofN (fun i => barB l i && !useB l i) = D at *
  generalize ofN (useB l) = U at *
  generalize ofN (isI l) = I at *
  generalize ofN (barB l) = B at *
  go_enter Try.func19, Try.ntmps19
  go_wp2_with (go_at_call 23; go_must (refine hno.mono ?_); rintro e w' ⟨rfl, rfl⟩)
  go_quiet (first | (go_at_call 14; exact Calls.quiet_of (hid _)) | (go_at_call 17; first | with_reducible exact quiet_eq (l1 _) | with_reducible exact quiet_eq (l2 _) | with_reducible exact quiet_eq (l3 _)))
  go_wp2_with fail
  go_ret3
  exact ⟨rfl, _, rfl⟩
end

end Go.Proofs.Ytmedbodjikbmfaa
