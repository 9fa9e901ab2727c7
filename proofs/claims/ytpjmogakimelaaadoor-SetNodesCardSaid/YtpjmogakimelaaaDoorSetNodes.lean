/-
  The statement on a set's nodes: its walk.
-/
import Derived.Test.YtpjmogakimelaaaDoorSetSpec
namespace Go.Proofs.YtpjmogakimelaaaDoor
open Go.RowKit

/-- With node n, as far as the first k have been looked at. -/
def withK (u : Nat) (n : Int) (k : Nat) : Nat → Bool := fun i => (decide (i < k) && decide ((i : Int) = n)) || u.testBit i
def withoutK (u : Nat) (n : Int) (k : Nat) : Nat → Bool := fun i => !(decide (i < k) && decide ((i : Int) = n)) && u.testBit i

theorem withK_succ_ne {u k : Nat} {n : Int} (h : (k : Int) ≠ n) : ∀ i, i < 64 → withK u n k i = withK u n (k + 1) i := by
  intro i _
  unfold withK
  by_cases e : i = k
  · subst e; simp [h]
  · have : (decide (i < k + 1)) = decide (i < k) := by rw [Bool.eq_iff_iff]; simp; omega
    rw [this]
theorem withoutK_succ_ne {u k : Nat} {n : Int} (h : (k : Int) ≠ n) : ∀ i, i < 64 → withoutK u n k i = withoutK u n (k + 1) i := by
  intro i _
  unfold withoutK
  by_cases e : i = k
  · subst e; simp [h]
  · have : (decide (i < k + 1)) = decide (i < k) := by rw [Bool.eq_iff_iff]; simp; omega
    rw [this]
theorem withK_succ_eq {u k : Nat} {n : Int} (h : (k : Int) = n) : withK u n (k + 1) k = true ∧ ∀ i, i < 64 → withK u n (k + 1) i = if i = k then withK u n (k + 1) k else withK u n k i := by
  refine ⟨by unfold withK; simp [h], fun i _ => ?_⟩
  by_cases e : i = k
  · subst e; simp
  · rw [if_neg e]
    unfold withK
    have : (decide (i < k + 1)) = decide (i < k) := by rw [Bool.eq_iff_iff]; simp; omega
    rw [this]
theorem withoutK_succ_eq {u k : Nat} {n : Int} (h : (k : Int) = n) : withoutK u n (k + 1) k = false ∧ ∀ i, i < 64 → withoutK u n (k + 1) i = if i = k then withoutK u n (k + 1) k else withoutK u n k i := by
  refine ⟨by unfold withoutK; simp [h], fun i _ => ?_⟩
  by_cases e : i = k
  · subst e; simp
  · rw [if_neg e]
    unfold withoutK
    have : (decide (i < k + 1)) = decide (i < k) := by rw [Bool.eq_iff_iff]; simp; omega
    rw [this]
theorem withK_end {u : Nat} {n : Int} : ofN (withK u n 64) = ofN fun i => decide ((i : Int) = n) || u.testBit i := ofN_congr fun i hi => by unfold withK; simp [hi]
theorem withoutK_end {u : Nat} {n : Int} : ofN (withoutK u n 64) = ofN fun i => !decide ((i : Int) = n) && u.testBit i := ofN_congr fun i hi => by unfold withoutK; simp [hi]

set_option maxHeartbeats 4000000 in
set_option maxRecDepth 100000 in
theorem nodes_walk (S : NodesSpec) (u : Nat) (n : Int) (hu : u < 18446744073709551616) (hn : -9223372036854775808 ≤ n ∧ n ≤ 9223372036854775807) (w : World) (ht : TabAt w) (hb0 : 0 < w.heap.size) :
    Calls Tryd.prog 3 #[.int .u64 u, .int .i64 n] w fun e w' => e = .returned (.bool true) ∧ Below w.heap.size w w' := by
  have hu2 : u ≤ 18446744073709551615 := by omega
  have hu := Lib.hid hu
  go_enter Tryd.func3, Tryd.ntmps3
  go_wp2_with fail
  refine (all_any u hu.out w.heap.size w (Nat.le_refl _)).mono ?_
  rintro e w1 ⟨v1, rfl, hown1, hbl1⟩
  go_wp2_with fail
  refine (all_any u hu.out w1.heap.size w1 (Nat.le_refl _)).mono ?_
  rintro e w2 ⟨v2, rfl, hown2, hbl2⟩
  have hs1 := hbl1.size
  have hs2 := hbl2.size
  obtain ⟨g1, cap1, rfl, hB1, hG1⟩ := hown1.form
  obtain ⟨g2, cap2, rfl, hB2', hG2⟩ := hown2.form
  have hB2 : w.heap.size ≤ g2 := by omega
  have hgne : g2 ≠ g1 := by omega
  have hown1 := hown1.below hbl2 (fun g hg => by cases hg; exact hG1)
  have hown1 : Own64 w2 w.heap.size _ (withK u n 0) := hown1.congr fun i _ => by simp [withK]
  have hown2 : Own64 w2 w1.heap.size _ (withoutK u n 0) := hown2.congr fun i _ => by simp [withoutK]
  have hbl := hbl1.trans (hbl2.mono hs1)
  clear hbl1 hbl2
  go_wp2_with fail
  go_loopw [6, 7, 8, 11] (fun m l h i wr => ∃ (k : Nat), k ≤ 64 ∧ m = .int .i64 (cntK u.testBit k) ∧ l = .int .i64 (loK u.testBit k) ∧ h = .int .i64 (hiK u.testBit k) ∧ i = .int .i64 k ∧ Own64 wr w.heap.size (.slice (some ⟨g1, 0, none⟩) 64 cap1) (withK u n k) ∧ Own64 wr w1.heap.size (.slice (some ⟨g2, 0, none⟩) 64 cap2) (withoutK u n k) ∧ Below w.heap.size w wr) (fun _ _ _ i _ => 64 - (intOf i).toNat)
  case atStart => exact ⟨0, Nat.zero_le _, rfl, rfl, rfl, rfl, hown1, hown2, hbl⟩
  case round =>
    obtain ⟨k, hk, rfl, rfl, rfl, rfl, ho1, ho2, hbel⟩ := hrel
    clear hown1 hown2 hbl
    have hck := cntK_le u.testBit k
    have hlr := loK_range u.testBit k
    have hhr := hiK_range u.testBit k
    by_cases hlt : k < 64
    · have hf := hasF_nat (u := u) hlt
      cases hb : u.testBit k with
      | true =>
        by_cases hl0 : loK u.testBit k < 0
        · by_cases he : (k : Int) = n
          · have hcn : Hid (cntK u.testBit (k + 1) = cntK u.testBit k + 1) := by show _ = _; simp only [cntK]; rw [hb]; rfl
            have hhn : Hid (hiK u.testBit (k + 1) = k) := by show _ = _; simp only [hiK]; rw [hb]; rfl
            have hln : Hid (loK u.testBit (k + 1) = k) := by show _ = _; simp only [loK]; rw [hb]; rw [if_pos hl0]; rfl
            have he2 : (k : Int) = n := he
            have ho1' := Own64.put ho1 true (withK_succ_eq he2).1 (withK_succ_eq he2).2
            have ho2' := Own64.other (x := .bool true) (b := g1) (k := k) ho2 hgne
            have hc1 := ho1.cell hlt
            have hf1 := World.ownsRow.frozenAt ho1 k
            have hc2 := ho2'.cell hlt
            have hf2 := World.ownsRow.frozenAt ho2' k
            have ho2'' := Own64.put ho2' false (withoutK_succ_eq he2).1 (withoutK_succ_eq he2).2
            have ho1'' := Own64.other (x := .bool false) (b := g2) (k := k) ho1' (fun e => hgne e.symm)
            have hbel' := (hbel.setCell (p := ⟨g1, k, none⟩) hB1 (.bool true)).setCell (p := ⟨g2, k, none⟩) hB2 (.bool false)
            have hek : ((k : Int) == n) = true := by simp [he]
            clear ho1 ho2 ho1' ho2' he he2 hbel
            rw [hb] at hf
            clear hb
            go_wp2_with (go_at_call 5; go_must (refine (has_any u hu.out _ _ (by omega)).mono ?_); rintro e w' ⟨rfl, rfl⟩; rw [hf])
            go_roundw
            case rel => exact ⟨k + 1, by omega, by first | exact congrArg (fun n : Nat => Value.int .i64 (n : Int)) hcn.out.symm | (rw [hcn.out]; go_num), congrArg (Value.int .i64) hln.out.symm, congrArg (Value.int .i64) hhn.out.symm, by go_num, ho1'', ho2'', hbel'⟩
            case measure => simp [intOf]; omega
          · have hcn : Hid (cntK u.testBit (k + 1) = cntK u.testBit k + 1) := by show _ = _; simp only [cntK]; rw [hb]; rfl
            have hhn : Hid (hiK u.testBit (k + 1) = k) := by show _ = _; simp only [hiK]; rw [hb]; rfl
            have hln : Hid (loK u.testBit (k + 1) = k) := by show _ = _; simp only [loK]; rw [hb]; rw [if_pos hl0]; rfl
            have ho1'' := ho1.congr (withK_succ_ne he)
            have ho2'' := ho2.congr (withoutK_succ_ne he)
            have hek : ((k : Int) == n) = false := by simp [he]
            have hbel' := hbel
            clear ho1 ho2 he hbel
            rw [hb] at hf
            clear hb
            go_wp2_with (go_at_call 5; go_must (refine (has_any u hu.out _ _ (by omega)).mono ?_); rintro e w' ⟨rfl, rfl⟩; rw [hf])
            go_roundw
            case rel => exact ⟨k + 1, by omega, by first | exact congrArg (fun n : Nat => Value.int .i64 (n : Int)) hcn.out.symm | (rw [hcn.out]; go_num), congrArg (Value.int .i64) hln.out.symm, congrArg (Value.int .i64) hhn.out.symm, by go_num, ho1'', ho2'', hbel'⟩
            case measure => simp [intOf]; omega
        · by_cases he : (k : Int) = n
          · have hcn : Hid (cntK u.testBit (k + 1) = cntK u.testBit k + 1) := by show _ = _; simp only [cntK]; rw [hb]; rfl
            have hhn : Hid (hiK u.testBit (k + 1) = k) := by show _ = _; simp only [hiK]; rw [hb]; rfl
            have hln : Hid (loK u.testBit (k + 1) = loK u.testBit k) := by show _ = _; simp only [loK]; rw [hb]; rw [if_neg (by omega)]
            have he2 : (k : Int) = n := he
            have ho1' := Own64.put ho1 true (withK_succ_eq he2).1 (withK_succ_eq he2).2
            have ho2' := Own64.other (x := .bool true) (b := g1) (k := k) ho2 hgne
            have hc1 := ho1.cell hlt
            have hf1 := World.ownsRow.frozenAt ho1 k
            have hc2 := ho2'.cell hlt
            have hf2 := World.ownsRow.frozenAt ho2' k
            have ho2'' := Own64.put ho2' false (withoutK_succ_eq he2).1 (withoutK_succ_eq he2).2
            have ho1'' := Own64.other (x := .bool false) (b := g2) (k := k) ho1' (fun e => hgne e.symm)
            have hbel' := (hbel.setCell (p := ⟨g1, k, none⟩) hB1 (.bool true)).setCell (p := ⟨g2, k, none⟩) hB2 (.bool false)
            have hek : ((k : Int) == n) = true := by simp [he]
            clear ho1 ho2 ho1' ho2' he he2 hbel
            rw [hb] at hf
            clear hb
            go_wp2_with (go_at_call 5; go_must (refine (has_any u hu.out _ _ (by omega)).mono ?_); rintro e w' ⟨rfl, rfl⟩; rw [hf])
            go_roundw
            case rel => exact ⟨k + 1, by omega, by first | exact congrArg (fun n : Nat => Value.int .i64 (n : Int)) hcn.out.symm | (rw [hcn.out]; go_num), congrArg (Value.int .i64) hln.out.symm, congrArg (Value.int .i64) hhn.out.symm, by go_num, ho1'', ho2'', hbel'⟩
            case measure => simp [intOf]; omega
          · have hcn : Hid (cntK u.testBit (k + 1) = cntK u.testBit k + 1) := by show _ = _; simp only [cntK]; rw [hb]; rfl
            have hhn : Hid (hiK u.testBit (k + 1) = k) := by show _ = _; simp only [hiK]; rw [hb]; rfl
            have hln : Hid (loK u.testBit (k + 1) = loK u.testBit k) := by show _ = _; simp only [loK]; rw [hb]; rw [if_neg (by omega)]
            have ho1'' := ho1.congr (withK_succ_ne he)
            have ho2'' := ho2.congr (withoutK_succ_ne he)
            have hek : ((k : Int) == n) = false := by simp [he]
            have hbel' := hbel
            clear ho1 ho2 he hbel
            rw [hb] at hf
            clear hb
            go_wp2_with (go_at_call 5; go_must (refine (has_any u hu.out _ _ (by omega)).mono ?_); rintro e w' ⟨rfl, rfl⟩; rw [hf])
            go_roundw
            case rel => exact ⟨k + 1, by omega, by first | exact congrArg (fun n : Nat => Value.int .i64 (n : Int)) hcn.out.symm | (rw [hcn.out]; go_num), congrArg (Value.int .i64) hln.out.symm, congrArg (Value.int .i64) hhn.out.symm, by go_num, ho1'', ho2'', hbel'⟩
            case measure => simp [intOf]; omega
      | false =>
        by_cases he : (k : Int) = n
        · have hcn : Hid (cntK u.testBit (k + 1) = cntK u.testBit k) := by show _ = _; simp only [cntK]; rw [hb]; rfl
          have hhn : Hid (hiK u.testBit (k + 1) = hiK u.testBit k) := by show _ = _; simp only [hiK]; rw [hb]; rfl
          have hln : Hid (loK u.testBit (k + 1) = loK u.testBit k) := by show _ = _; simp only [loK]; rw [hb]; split <;> first | rfl | (have := loK_range u.testBit k; simp; omega)
          have he2 : (k : Int) = n := he
          have ho1' := Own64.put ho1 true (withK_succ_eq he2).1 (withK_succ_eq he2).2
          have ho2' := Own64.other (x := .bool true) (b := g1) (k := k) ho2 hgne
          have hc1 := ho1.cell hlt
          have hf1 := World.ownsRow.frozenAt ho1 k
          have hc2 := ho2'.cell hlt
          have hf2 := World.ownsRow.frozenAt ho2' k
          have ho2'' := Own64.put ho2' false (withoutK_succ_eq he2).1 (withoutK_succ_eq he2).2
          have ho1'' := Own64.other (x := .bool false) (b := g2) (k := k) ho1' (fun e => hgne e.symm)
          have hbel' := (hbel.setCell (p := ⟨g1, k, none⟩) hB1 (.bool true)).setCell (p := ⟨g2, k, none⟩) hB2 (.bool false)
          have hek : ((k : Int) == n) = true := by simp [he]
          clear ho1 ho2 ho1' ho2' he he2 hbel
          rw [hb] at hf
          clear hb
          go_wp2_with (go_at_call 5; go_must (refine (has_any u hu.out _ _ (by omega)).mono ?_); rintro e w' ⟨rfl, rfl⟩; rw [hf])
          go_roundw
          case rel => exact ⟨k + 1, by omega, by first | exact congrArg (fun n : Nat => Value.int .i64 (n : Int)) hcn.out.symm | (rw [hcn.out]; go_num), congrArg (Value.int .i64) hln.out.symm, congrArg (Value.int .i64) hhn.out.symm, by go_num, ho1'', ho2'', hbel'⟩
          case measure => simp [intOf]; omega
        · have hcn : Hid (cntK u.testBit (k + 1) = cntK u.testBit k) := by show _ = _; simp only [cntK]; rw [hb]; rfl
          have hhn : Hid (hiK u.testBit (k + 1) = hiK u.testBit k) := by show _ = _; simp only [hiK]; rw [hb]; rfl
          have hln : Hid (loK u.testBit (k + 1) = loK u.testBit k) := by show _ = _; simp only [loK]; rw [hb]; split <;> first | rfl | (have := loK_range u.testBit k; simp; omega)
          have ho1'' := ho1.congr (withK_succ_ne he)
          have ho2'' := ho2.congr (withoutK_succ_ne he)
          have hek : ((k : Int) == n) = false := by simp [he]
          have hbel' := hbel
          clear ho1 ho2 he hbel
          rw [hb] at hf
          clear hb
          go_wp2_with (go_at_call 5; go_must (refine (has_any u hu.out _ _ (by omega)).mono ?_); rintro e w' ⟨rfl, rfl⟩; rw [hf])
          go_roundw
          case rel => exact ⟨k + 1, by omega, by first | exact congrArg (fun n : Nat => Value.int .i64 (n : Int)) hcn.out.symm | (rw [hcn.out]; go_num), congrArg (Value.int .i64) hln.out.symm, congrArg (Value.int .i64) hhn.out.symm, by go_num, ho1'', ho2'', hbel'⟩
          case measure => simp [intOf]; omega
    · obtain rfl : k = 64 := by omega
      have hhas := fun w => S.has_ u hu.out n w hn
      have hhas2 := fun w => has_any u hu.out n w hn
      have hwith := fun w => S.with_ u hu.out n w hn
      have hwithout := fun w => S.without_ u hu.out n w hn
      have hlen := fun w => S.len_ u hu.out w
      have hlow := S.low_ u hu.out _ (ht.below hb0 hbel)
      have hhigh := fun w => S.high_ u hu.out w
      have hof1 := of_any g1 0 cap1 _ _ ho1.cells
      have hof2 := of_any g2 0 cap2 _ _ ho2.cells
      rw [withK_end] at hof1
      rw [withoutK_end] at hof2
      generalize cntK u.testBit 64 = c at hlen hck ⊢
      generalize loK u.testBit 64 = lo at hlow hlr ⊢
      generalize hiK u.testBit 64 = hi at hhigh hhr ⊢
      generalize hasF u n = ha at hhas hhas2
      generalize (ofN fun i => decide ((i : Int) = n) || u.testBit i) = x1 at hwith hof1
      generalize (ofN fun i => !decide ((i : Int) = n) && u.testBit i) = x2 at hwithout hof2
      clear ho1 ho2
      go_wp2_with (first | (go_at_call 6; go_must (refine (hhas _).mono ?_); rintro e w' ⟨rfl, rfl⟩) | (go_at_call 5; go_must (refine (hhas2 _).mono ?_); rintro e w' ⟨rfl, rfl⟩) | (go_at_call 7; go_must (refine (hwith _).mono ?_); rintro e w' ⟨rfl, rfl⟩) | (go_at_call 9; go_must (refine (hwithout _).mono ?_); rintro e w' ⟨rfl, rfl⟩) | (go_at_call 8; refine hof1.mono ?_; clear hof1; rintro e w' ⟨rfl, rfl⟩) | (go_at_call 8; refine hof2.mono ?_; clear hof2; rintro e w' ⟨rfl, rfl⟩) | (go_at_call 10; go_must (refine (hlen _).mono ?_); rintro e w' ⟨rfl, rfl⟩) | (go_at_call 11; go_must (refine hlow.mono ?_); rintro e w' ⟨rfl, rfl⟩) | (go_at_call 12; go_must (refine (hhigh _).mono ?_); rintro e w' ⟨rfl, rfl⟩) | (go_at_call 13; go_must (refine (S.awake_ _).mono ?_); rintro e w' ⟨rfl, hbl3⟩))
      go_ret
      exact ⟨rfl, hbel.trans (hbl3.mono hbel.size)⟩

end Go.Proofs.YtpjmogakimelaaaDoor
