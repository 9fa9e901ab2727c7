/-
  The statement on the lowest nodes of a set, and its lowest row: its walk.
-/
import Derived.Test.YtpjmogakimelaaaSetR
namespace Go.Proofs.Ytpjmogakimelaaa
open Go.RowKit

/-- The lowest n nodes. -/
def firstF (u : Nat) (n : Int) : Nat → Bool := fun i => u.testBit i && decide ((cntK u.testBit i : Int) < n)
/-- The n nodes from k on are in it. -/
def rowIn (u k n : Nat) : Prop := ∀ i, k ≤ i → i < k + n → u.testBit i = true
/-- What a lowest row of n is. -/
def RunIs (u : Nat) (n : Int) (r : Nat) (b : Bool) : Prop :=
  (b = false ∧ r = 0 ∧ (n < 0 ∨ ∀ k : Nat, (k : Int) + n ≤ 64 → ¬ rowIn u k n.toNat)) ∨
  (b = true ∧ 0 ≤ n ∧ ∃ k : Nat, (k : Int) + n ≤ 64 ∧ rowIn u k n.toNat ∧ (∀ j, j < k → ¬ rowIn u j n.toNat) ∧ r = ofN fun i => decide (k ≤ i) && decide (i < k + n.toNat))

structure FirstsSpec : Prop where
  first_no : ∀ (u : Nat), u < 18446744073709551616 → ∀ (n : Int) (w : World), -9223372036854775808 ≤ n ∧ n ≤ 9223372036854775807 → (n < 0 ∨ (cntK u.testBit 64 : Int) < n) → Calls Try.prog 11 #[.int .u64 u, .int .i64 n] w fun e w' => e = .returned (.tuple #[.int .u64 0, .bool false]) ∧ w = w'
  first_yes : ∀ (u : Nat), u < 18446744073709551616 → ∀ (n : Int) (w : World), 0 ≤ n → n ≤ (cntK u.testBit 64 : Int) → Calls Try.prog 11 #[.int .u64 u, .int .i64 n] w fun e w' => e = .returned (.tuple #[.int .u64 (ofN (firstF u n)), .bool true]) ∧ w = w'
  run_ : ∀ (u : Nat), u < 18446744073709551616 → ∀ (n : Int) (w : World), -9223372036854775808 ≤ n ∧ n ≤ 9223372036854775807 → Calls Try.prog 12 #[.int .u64 u, .int .i64 n] w fun e w' => ∃ (r : Nat) (b : Bool), e = .returned (.tuple #[.int .u64 r, .bool b]) ∧ RunIs u n r b ∧ Below w.heap.size w w'
  awake_ : ∀ (w : World), Calls Try.prog 10 #[] w fun e w' => e = .returned (.bool true) ∧ Below w.heap.size w w'

theorem cnt_row {u k : Nat} : ∀ m, rowIn u k m → cntK u.testBit k + m ≤ cntK u.testBit (k + m)
  | 0, _ => Nat.le_refl _
  | m + 1, h => by
    have := cnt_row m (fun i h1 h2 => h i h1 (by omega))
    have hb := h (k + m) (by omega) (by omega)
    show _ ≤ cntK u.testBit (k + m + 1)
    simp only [cntK]
    rw [hb]
    simp
    omega
theorem cntK_mono {f : Nat → Bool} {i j : Nat} (h : i ≤ j) : cntK f i ≤ cntK f j := by
  induction j with
  | zero => obtain rfl : i = 0 := by omega
            exact Nat.le_refl _
  | succ j ih =>
    by_cases e : i = j + 1
    · subst e; exact Nat.le_refl _
    · have := ih (by omega)
      simp only [cntK]
      omega
theorem no_row {u : Nat} {n : Int} {r : Nat} {b : Bool} (h : RunIs u n r b) (hn : n < 0 ∨ (cntK u.testBit 64 : Int) < n) : b = false ∧ r = 0 := by
  rcases h with ⟨h1, h2, _⟩ | ⟨_, h0, k, hk, hr, _⟩
  · exact ⟨h1, h2⟩
  · exfalso
    have h3 := cnt_row _ hr
    have h4 := cntK_mono (f := u.testBit) (show k + n.toNat ≤ 64 by omega)
    omega
theorem row_here {u k m : Nat} {r : Nat} {b : Bool} (h : RunIs u (m : Int) r b) (hk : k + m ≤ 64) (hr : rowIn u k m) (hno : ∀ j, j < k → ¬ rowIn u j m) : b = true ∧ r = ofN fun i => decide (k ≤ i) && decide (i < k + m) := by
  rcases h with ⟨_, _, h3⟩ | ⟨h1, _, k0, hk0, hr0, hno0, h5⟩
  · rcases h3 with h3 | h3
    · omega
    · exact absurd hr (h3 k (by omega))
  · refine ⟨h1, ?_⟩
    rw [Int.toNat_natCast] at hr0 hno0 h5
    obtain rfl : k = k0 := by
      rcases Nat.lt_trichotomy k k0 with h | h | h
      · exact absurd hr (hno0 k h)
      · exact h
      · exact absurd hr0 (hno k0 h)
    exact h5
theorem row_never {u k m : Nat} {r : Nat} {b : Bool} (h : RunIs u (m : Int) r b) (hk : 64 < k + m) (hno : ∀ j, j < k → ¬ rowIn u j m) : b = false ∧ r = 0 := by
  rcases h with ⟨h1, h2, _⟩ | ⟨_, _, k0, hk0, hr0, _⟩
  · exact ⟨h1, h2⟩
  · rw [Int.toNat_natCast] at hr0
    exact absurd hr0 (hno k0 (by omega))

/-- Of the nodes from k on, those below j are all in. -/
def allJ (f : Nat → Bool) (k : Nat) : Nat → Bool
  | 0 => true
  | j + 1 => allJ f k j && (decide (j < k) || f j)
theorem allJ_start (f : Nat → Bool) (k : Nat) : ∀ j, j ≤ k → allJ f k j = true
  | 0, _ => rfl
  | j + 1, h => by simp only [allJ]; rw [allJ_start f k j (by omega)]; simp; omega
theorem allJ_iff {f : Nat → Bool} {k : Nat} : ∀ j, allJ f k j = true ↔ ∀ i, k ≤ i → i < j → f i = true
  | 0 => by simp [allJ]
  | j + 1 => by
    simp only [allJ, Bool.and_eq_true, allJ_iff j]
    constructor
    · intro ⟨h1, h2⟩ i hk hi
      by_cases e : i = j
      · subst e; simp at h2; exact h2.resolve_left (by omega)
      · exact h1 i hk (by omega)
    · intro h
      refine ⟨fun i hk hi => h i hk (by omega), ?_⟩
      by_cases e : j < k
      · simp [e]
      · simp [h j (by omega) (by omega)]

/-- The lowest n, as far as the first k have been looked at. -/
def firstK (u : Nat) (n : Int) (k : Nat) : Nat → Bool := fun i => decide (i < k) && firstF u n i
theorem firstK_ne {u k : Nat} {n : Int} (h : firstF u n k = false) : ∀ i, i < 64 → firstK u n k i = firstK u n (k + 1) i := by
  intro i _
  unfold firstK
  by_cases e : i = k
  · subst e; simp [h]
  · have : (decide (i < k + 1)) = decide (i < k) := by rw [Bool.eq_iff_iff]; simp; omega
    rw [this]
theorem firstK_eq {u k : Nat} {n : Int} (h : firstF u n k = true) : firstK u n (k + 1) k = true ∧ ∀ i, i < 64 → firstK u n (k + 1) i = if i = k then firstK u n (k + 1) k else firstK u n k i := by
  refine ⟨by unfold firstK; simp [h], fun i _ => ?_⟩
  by_cases e : i = k
  · subst e; simp
  · rw [if_neg e]
    unfold firstK
    have : (decide (i < k + 1)) = decide (i < k) := by rw [Bool.eq_iff_iff]; simp; omega
    rw [this]
theorem firstK_end {u : Nat} {n : Int} : ofN (firstK u n 64) = ofN (firstF u n) := ofN_congr fun i hi => by unfold firstK; simp [hi]

set_option maxHeartbeats 4000000 in
set_option maxRecDepth 100000 in
theorem firsts_no (S : FirstsSpec) (u : Nat) (n : Int) (hu : u < 18446744073709551616) (hn : -9223372036854775808 ≤ n ∧ n ≤ 9223372036854775807) (w : World) (hcase : n < 0 ∨ (cntK u.testBit 64 : Int) < n) :
    Calls Try.prog 4 #[.int .u64 u, .int .i64 n] w fun e w' => e = .returned (.bool true) ∧ Below w.heap.size w w' := by
  have hu := Lib.hid hu
  have hclo := cntK_le u.testBit 64
  go_enter Try.func4, Try.ntmps4
  go_wp2_with (first | (go_at_call 11; go_must (refine (S.first_no u hu.out n w hn hcase).mono ?_); rintro e w0 ⟨rfl, rfl⟩) | (go_at_call 12; go_must (refine (S.run_ u hu.out n w hn).mono ?_); rintro e w0 ⟨r, b, rfl, hR, hb0⟩) | (at_make; refine wpList_make64 _ rfl _ _ rfl rfl rfl w0.heap.size (Nat.le_refl _) ?_))
  have hR := Lib.hid hR
  intro w1 ho1 hs1 hb1
  have hbl := hb0.trans (hb1.mono hb0.size)
  have hB1 : w.heap.size ≤ w0.heap.size := hb0.size
  obtain ⟨g1, hg1⟩ : ∃ g1, g1 = w0.heap.size := ⟨_, rfl⟩
  rw [← hg1] at ho1 hs1 hB1
  simp only [← hg1]
  have ho1 : Own64 w1 0 (.slice (some ⟨g1, 0, none⟩) 64 64) (firstK u n 0) := (Own64.mono ho1 (Nat.zero_le _)).congr fun i _ => by simp [firstK]
  clear hb0 hb1 hg1
  go_wp2_with fail
  go_loopw [11, 12] (fun m i wr => ∃ (k : Nat), k ≤ 64 ∧ i = .int .i64 k ∧ m = .int .i64 (cntK u.testBit k) ∧ Own64 wr 0 (.slice (some ⟨g1, 0, none⟩) 64 64) (firstK u n k) ∧ Below w.heap.size w wr ∧ w1.heap.size ≤ wr.heap.size) (fun _ i _ => 64 - (intOf i).toNat)
  case atStart => exact ⟨0, Nat.zero_le _, rfl, rfl, ho1, hbl, Nat.le_refl _⟩
  case round =>
    clear ho1 hbl
    obtain ⟨k, hk, rfl, rfl, ho1, hbl, hsz⟩ := hrel
    have hck := cntK_le u.testBit k
    by_cases hlt : k < 64
    · have hf := hasF_nat (u := u) hlt
      cases hb : u.testBit k with
      | true =>
        have hcn : Hid (cntK u.testBit (k + 1) = cntK u.testBit k + 1) := by show _ = _; simp only [cntK]; rw [hb]; rfl
        rw [hb] at hf
        by_cases hmn : (cntK u.testBit k : Int) < n
        · have hfk : firstF u n k = true := by unfold firstF; simp [hb, hmn]
          have hc1 := ho1.cell hlt
          have hf1 := World.ownsRow.frozenAt ho1 k
          have ho1' := Own64.put ho1 true (firstK_eq hfk).1 (firstK_eq hfk).2
          have hbl' := hbl.setCell (p := ⟨g1, k, none⟩) hB1 (.bool true)
          have hsz' : w1.heap.size ≤ (wr.setCell ⟨g1, k, none⟩ (.bool true)).heap.size := by simp [World.setCell]; exact hsz
          clear ho1 hbl hfk hb
          generalize cntK u.testBit k = c at hmn hck hcn ⊢
          go_wp2_with (go_at_call 13; go_must (refine (has_any u hu.out _ _ (by omega)).mono ?_); rintro e w' ⟨rfl, rfl⟩; rw [hf])
          go_roundw
          case rel => exact ⟨k + 1, by omega, by go_num, by rw [hcn.out]; go_num, ho1', hbl', hsz'⟩
          case measure => simp [intOf]; omega
        · have hfk : firstF u n k = false := by unfold firstF; simp [hmn]
          have ho1 := ho1.congr (firstK_ne hfk)
          clear hfk hb
          generalize cntK u.testBit k = c at hmn hck hcn ⊢
          go_wp2_with (go_at_call 13; go_must (refine (has_any u hu.out _ _ (by omega)).mono ?_); rintro e w' ⟨rfl, rfl⟩; rw [hf])
          go_roundw
          case rel => exact ⟨k + 1, by omega, by go_num, by rw [hcn.out]; go_num, ho1, hbl, hsz⟩
          case measure => simp [intOf]; omega
      | false =>
        have hcn : Hid (cntK u.testBit (k + 1) = cntK u.testBit k) := by show _ = _; simp only [cntK]; rw [hb]; rfl
        have hfk : firstF u n k = false := by unfold firstF; simp [hb]
        have ho1 := ho1.congr (firstK_ne hfk)
        rw [hb] at hf
        clear hfk hb
        generalize cntK u.testBit k = c at hck hcn ⊢
        go_wp2_with (go_at_call 13; go_must (refine (has_any u hu.out _ _ (by omega)).mono ?_); rintro e w' ⟨rfl, rfl⟩; rw [hf])
        go_roundw
        case rel => exact ⟨k + 1, by omega, by go_num, by rw [hcn.out], ho1, hbl, hsz⟩
        case measure => simp [intOf]; omega
    · obtain rfl : k = 64 := by omega
      obtain ⟨rfl, rfl⟩ := no_row hR.out hcase
      clear hR
      generalize cntK u.testBit 64 = c at hcase hclo hck ⊢
      by_cases h0 : n < 0
      · go_wp2_with (go_at_call 10; go_must (refine (S.awake_ _).mono ?_); rintro e w5 ⟨rfl, hb5⟩)
        go_ret
        exact ⟨rfl, hbl.trans (hb5.mono hbl.size)⟩
      · by_cases h64 : n ≤ 64
        · go_wp2_with (go_at_call 10; go_must (refine (S.awake_ _).mono ?_); rintro e w5 ⟨rfl, hb5⟩)
          go_ret
          exact ⟨rfl, hbl.trans (hb5.mono hbl.size)⟩
        · go_wp2_with (go_at_call 10; go_must (refine (S.awake_ _).mono ?_); rintro e w5 ⟨rfl, hb5⟩)
          go_ret
          exact ⟨rfl, hbl.trans (hb5.mono hbl.size)⟩

set_option maxHeartbeats 4000000 in
set_option maxRecDepth 100000 in
theorem firsts_yes (S : FirstsSpec) (u : Nat) (n : Int) (hu : u < 18446744073709551616) (hn : -9223372036854775808 ≤ n ∧ n ≤ 9223372036854775807) (w : World) (hcase : 0 ≤ n ∧ n ≤ (cntK u.testBit 64 : Int)) :
    Calls Try.prog 4 #[.int .u64 u, .int .i64 n] w fun e w' => e = .returned (.bool true) ∧ Below w.heap.size w w' := by
  have hu := Lib.hid hu
  have hclo := cntK_le u.testBit 64
  go_enter Try.func4, Try.ntmps4
  go_wp2_with (first | (go_at_call 11; go_must (refine (S.first_yes u hu.out n w hcase.1 hcase.2).mono ?_); rintro e w0 ⟨rfl, rfl⟩) | (go_at_call 12; go_must (refine (S.run_ u hu.out n w hn).mono ?_); rintro e w0 ⟨r, b, rfl, hR, hb0⟩) | (at_make; refine wpList_make64 _ rfl _ _ rfl rfl rfl w0.heap.size (Nat.le_refl _) ?_))
  have hR := Lib.hid hR
  intro w1 ho1 hs1 hb1
  have hbl := hb0.trans (hb1.mono hb0.size)
  have hB1 : w.heap.size ≤ w0.heap.size := hb0.size
  obtain ⟨g1, hg1⟩ : ∃ g1, g1 = w0.heap.size := ⟨_, rfl⟩
  rw [← hg1] at ho1 hs1 hB1
  simp only [← hg1]
  have ho1 : Own64 w1 0 (.slice (some ⟨g1, 0, none⟩) 64 64) (firstK u n 0) := (Own64.mono ho1 (Nat.zero_le _)).congr fun i _ => by simp [firstK]
  clear hb0 hb1 hg1
  go_wp2_with fail
  go_loopw [11, 12] (fun m i wr => ∃ (k : Nat), k ≤ 64 ∧ i = .int .i64 k ∧ m = .int .i64 (cntK u.testBit k) ∧ Own64 wr 0 (.slice (some ⟨g1, 0, none⟩) 64 64) (firstK u n k) ∧ Below w.heap.size w wr ∧ w1.heap.size ≤ wr.heap.size) (fun _ i _ => 64 - (intOf i).toNat)
  case atStart => exact ⟨0, Nat.zero_le _, rfl, rfl, ho1, hbl, Nat.le_refl _⟩
  case round =>
    clear ho1 hbl
    obtain ⟨k, hk, rfl, rfl, ho1, hbl, hsz⟩ := hrel
    have hck := cntK_le u.testBit k
    by_cases hlt : k < 64
    · have hf := hasF_nat (u := u) hlt
      cases hb : u.testBit k with
      | true =>
        have hcn : Hid (cntK u.testBit (k + 1) = cntK u.testBit k + 1) := by show _ = _; simp only [cntK]; rw [hb]; rfl
        rw [hb] at hf
        by_cases hmn : (cntK u.testBit k : Int) < n
        · have hfk : firstF u n k = true := by unfold firstF; simp [hb, hmn]
          have hc1 := ho1.cell hlt
          have hf1 := World.ownsRow.frozenAt ho1 k
          have ho1' := Own64.put ho1 true (firstK_eq hfk).1 (firstK_eq hfk).2
          have hbl' := hbl.setCell (p := ⟨g1, k, none⟩) hB1 (.bool true)
          have hsz' : w1.heap.size ≤ (wr.setCell ⟨g1, k, none⟩ (.bool true)).heap.size := by simp [World.setCell]; exact hsz
          clear ho1 hbl hfk hb
          generalize cntK u.testBit k = c at hmn hck hcn ⊢
          go_wp2_with (go_at_call 13; go_must (refine (has_any u hu.out _ _ (by omega)).mono ?_); rintro e w' ⟨rfl, rfl⟩; rw [hf])
          go_roundw
          case rel => exact ⟨k + 1, by omega, by go_num, by rw [hcn.out]; go_num, ho1', hbl', hsz'⟩
          case measure => simp [intOf]; omega
        · have hfk : firstF u n k = false := by unfold firstF; simp [hmn]
          have ho1 := ho1.congr (firstK_ne hfk)
          clear hfk hb
          generalize cntK u.testBit k = c at hmn hck hcn ⊢
          go_wp2_with (go_at_call 13; go_must (refine (has_any u hu.out _ _ (by omega)).mono ?_); rintro e w' ⟨rfl, rfl⟩; rw [hf])
          go_roundw
          case rel => exact ⟨k + 1, by omega, by go_num, by rw [hcn.out]; go_num, ho1, hbl, hsz⟩
          case measure => simp [intOf]; omega
      | false =>
        have hcn : Hid (cntK u.testBit (k + 1) = cntK u.testBit k) := by show _ = _; simp only [cntK]; rw [hb]; rfl
        have hfk : firstF u n k = false := by unfold firstF; simp [hb]
        have ho1 := ho1.congr (firstK_ne hfk)
        rw [hb] at hf
        clear hfk hb
        generalize cntK u.testBit k = c at hck hcn ⊢
        go_wp2_with (go_at_call 13; go_must (refine (has_any u hu.out _ _ (by omega)).mono ?_); rintro e w' ⟨rfl, rfl⟩; rw [hf])
        go_roundw
        case rel => exact ⟨k + 1, by omega, by go_num, by rw [hcn.out], ho1, hbl, hsz⟩
        case measure => simp [intOf]; omega
    · obtain rfl : k = 64 := by omega
      have hof1 := of_any g1 0 64 _ _ ho1.cells
      rw [firstK_end] at hof1
      generalize ofN (firstF u n) = x1 at hof1 ⊢
      generalize cntK u.testBit 64 = c at hclo hck hcase ⊢
      clear ho1
      have d1 : decide (n < 0) = false := by simp; omega
      have d2 : decide ((c : Int) < n) = false := by simp; omega
      go_wp2_with (go_at_call 8; refine hof1.mono ?_; clear hof1; rintro e w' ⟨rfl, rfl⟩)
      obtain ⟨m, rfl⟩ := Int.eq_ofNat_of_zero_le hcase.1
      have hm : m ≤ 64 := by omega
      go_loopw [13] (fun i wr => ∃ (k : Nat), k ≤ 65 ∧ i = .int .i64 k ∧ Hid (∀ j, j < k → ¬ rowIn u j m) ∧ Below w.heap.size w wr) (fun i _ => 65 - (intOf i).toNat)
      case atStart => exact ⟨0, by omega, rfl, fun j hj => absurd hj (Nat.not_lt_zero j), hbl⟩
      case round =>
        clear hbl hsz
        obtain ⟨k, hk, rfl, hno, hbl⟩ := hrel
        by_cases hlt : k + m ≤ 64
        · go_wp2_with (at_make; refine wpList_make64 _ rfl _ _ rfl rfl rfl wr.heap.size (Nat.le_refl _) ?_)
          intro w3 ho2 hs3 hb3
          have hB2 : w.heap.size ≤ wr.heap.size := hbl.size
          have hbl3 := hbl.trans (hb3.mono hbl.size)
          obtain ⟨g2, hg2⟩ : ∃ g2, g2 = wr.heap.size := ⟨_, rfl⟩
          rw [← hg2] at ho2 hB2
          simp only [← hg2]
          have ho2 : Own64 w3 0 (.slice (some ⟨g2, 0, none⟩) 64 64) (fun i => decide (k ≤ i) && decide (i < k)) := (Own64.mono ho2 (Nat.zero_le _)).congr fun i _ => by rw [Bool.eq_iff_iff]; simp <;> omega
          have hst := allJ_start u.testBit k k (Nat.le_refl _)
          clear hb3 hs3 hg2 hbl
          go_wp2_with fail
          go_loopw [15, 16] (fun a i wq => ∃ (j : Nat), k ≤ j ∧ j ≤ k + m ∧ i = .int .i64 j ∧ a = .bool (allJ u.testBit k j) ∧ Own64 wq 0 (.slice (some ⟨g2, 0, none⟩) 64 64) (fun i => decide (k ≤ i) && decide (i < j)) ∧ Below w.heap.size w wq) (fun _ i _ => k + m - (intOf i).toNat)
          case atStart => exact ⟨k, by omega, by omega, rfl, by rw [hst], ho2, hbl3⟩
          case round =>
            clear hst ho2 hbl3
            obtain ⟨j, hkj, hjm, rfl, rfl, ho2, hbl⟩ := hrel
            by_cases hltj : j < k + m
            · have hj64 : j < 64 := by omega
              have hfj := hasF_nat (u := u) hj64
              have hc2 := ho2.cell hj64
              have hf2 := World.ownsRow.frozenAt ho2 j
              have ho2' := Own64.put (k := j) (h := fun i => decide (k ≤ i) && decide (i < j + 1)) ho2 true (by simp; omega) (fun i hi => by
                by_cases e : i = j
                · rw [if_pos e, e]
                · rw [if_neg e, Bool.eq_iff_iff]; simp; omega)
              have hbl' := hbl.setCell (p := ⟨g2, j, none⟩) hB2 (.bool true)
              have hal : Hid (allJ u.testBit k (j + 1) = (allJ u.testBit k j && u.testBit j)) := by show _ = _; simp only [allJ]; simp [show ¬ j < k by omega]
              clear ho2 hbl
              generalize u.testBit j = tj at hfj hal
              cases ha : allJ u.testBit k j with
              | true =>
                rw [ha] at hal
                clear ha
                go_wp2_with (go_at_call 13; go_must (refine (has_any u hu.out _ _ (by omega)).mono ?_); rintro e w' ⟨rfl, rfl⟩; rw [hfj])
                go_roundw
                case rel => exact ⟨j + 1, by omega, by omega, by go_num, by rw [hal.out]; rfl, ho2', hbl'⟩
                case measure => simp [intOf]; omega
              | false =>
                rw [ha] at hal
                clear ha
                go_wp2_with (go_at_call 13; go_must (refine (has_any u hu.out _ _ (by omega)).mono ?_); rintro e w' ⟨rfl, rfl⟩; rw [hfj])
                go_roundw
                case rel => exact ⟨j + 1, by omega, by omega, by go_num, by rw [hal.out]; rfl, ho2', hbl'⟩
                case measure => simp [intOf]; omega
            · obtain rfl : j = k + m := by omega
              cases ha : allJ u.testBit k (k + m) with
              | true =>
                obtain ⟨rfl, rfl⟩ := row_here hR.out hlt ((allJ_iff _).1 ha) hno.out
                have hof2 := of_any g2 0 64 _ _ ho2.cells
                generalize (ofN fun i => decide (k ≤ i) && decide (i < k + m)) = x2 at hof2 ⊢
                clear ha ho2 hR hno
                go_wp2_with (first | (go_at_call 8; refine hof2.mono ?_; clear hof2; rintro e w' ⟨rfl, rfl⟩) | (go_at_call 10; go_must (refine (S.awake_ _).mono ?_); rintro e w5 ⟨rfl, hb5⟩))
                go_ret
                exact ⟨rfl, hbl.trans (hb5.mono hbl.size)⟩
              | false =>
                have hno2 : Hid (∀ j, j < k + 1 → ¬ rowIn u j m) := by
                  intro j hj hr
                  by_cases e : j = k
                  · subst e
                    have := (allJ_iff (f := u.testBit) (k := j) (j + m)).2 hr
                    rw [ha] at this
                    cases this
                  · exact hno.out j (by omega) hr
                clear ha ho2
                go_wp2_with fail
                go_roundw
                case rel => exact ⟨k + 1, by omega, by go_num, hno2, hbl⟩
                case measure => simp [intOf]; omega
        · obtain ⟨rfl, rfl⟩ := row_never hR.out (by omega) hno.out
          clear hR hno
          go_wp2_with (go_at_call 10; go_must (refine (S.awake_ _).mono ?_); rintro e w5 ⟨rfl, hb5⟩)
          go_ret
          exact ⟨rfl, hbl.trans (hb5.mono hbl.size)⟩

theorem firsts_walk (S : FirstsSpec) (u : Nat) (n : Int) (hu : u < 18446744073709551616) (hn : -9223372036854775808 ≤ n ∧ n ≤ 9223372036854775807) (w : World) :
    Calls Try.prog 4 #[.int .u64 u, .int .i64 n] w fun e w' => e = .returned (.bool true) ∧ Below w.heap.size w w' := by
  by_cases h : n < 0 ∨ (cntK u.testBit 64 : Int) < n
  · exact firsts_no S u n hu hn w h
  · exact firsts_yes S u n hu hn w (by omega)

end Go.Proofs.Ytpjmogakimelaaa
