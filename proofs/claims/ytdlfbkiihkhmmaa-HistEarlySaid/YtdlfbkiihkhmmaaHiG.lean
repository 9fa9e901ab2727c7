/-
  Own walk: Sound.
-/
import Derived.Maps.OwnOps
import Derived.Maps.Views
import Derived.Maps.OwnSet
import Derived.WalkArith
import Derived.Test.YtdlfbkiihkhmmaaHiF
namespace Go.Proofs.Ytdlfbkiihkhmmaa
set_option maxRecDepth 8000
open Go.RowKit Go.Lib Put Go.Maps

def updF (f : Int → Int) (k v : Int) : Int → Int := fun j => if j = k then v else f j
/-- What Sound tells, from a step and what is known of each task on. -/
def sndGo : Int → (Int → Int) → List Ev → Bool
  | _, _, [] => true
  | st, f, x :: l => if x.kd < 1 ∨ 5 < x.kd ∨ x.st < st then false else if 3 < x.kd then sndGo x.st f l else if x.kd = f x.tk + 1 then sndGo x.st (updF f x.tk x.kd) l else false
def soundF (l : List Ev) : Bool := sndGo 0 (fun _ => 0) l

def Tie (D : DataW Unit) (f : Int → Int) : Prop := IsMap D ∧ ∀ k : Int, D.atKey (.int .i64 k) (.lit (.int .i64 0)) = .lit (.int .i64 (f k))
theorem Tie.start : Tie (.map []) (fun _ => 0) := ⟨⟨[], rfl⟩, fun _ => rfl⟩
theorem Tie.put {D : DataW Unit} {f : Int → Int} (h : Tie D f) (k v : Int) : Tie (D.put (.int .i64 k) (.lit (.int .i64 v))) (updF f k v) := by
  refine ⟨h.1.put _ _, fun j => ?_⟩
  unfold updF
  by_cases e : j = k
  · subst e
    rw [if_pos rfl]
    exact atKey_put_same (k := .int .i64 j) h.1 trivial _ _
  · rw [if_neg e, atKey_put_other (fun e2 => e (by injection e2)) _ _]
    exact h.2 j
theorem map_kept {w w' : World} {P : Program} {k : TypeId} {R : Value → Option (DataW Unit × List MemPlace)} {b n : Nat} {D : DataW Unit} (h : w.ownsMap P k R b n D) (hb : Below w.heap.size w w') : w'.ownsMap P k R b n D :=
  h.kept (row := none) ⟨hb.os, hb.tape, hb.output, hb.size, fun q hq _ => hb.block q hq⟩ (by simp)
theorem map_off {w w' : World} {P : Program} {k : TypeId} {R : Value → Option (DataW Unit × List MemPlace)} {b n p : Nat} {D : DataW Unit} (h : w.ownsMap P k R b n D) (ho : HOff p none w w') (hp : b ≠ p) : w'.ownsMap P k R b n D :=
  h.kept (row := some p) ⟨ho.os, ho.tape, ho.output, ho.size, fun q hq hne => ho.block q hq (fun e => hne (by rw [e])) (by simp)⟩ (fun e => hp (by injection e))
theorem law_int : Keyed Try.prog 3 := int_keyed Try.underlying3
theorem zero_int (w : World) : (zeroValue 3).run Try.prog w = .ok (.int .i64 0) w := by kernel_rfl

set_option maxRecDepth 1000000 in
set_option maxHeartbeats 4000000 in
theorem Sound_fn (v : Value) (L : List Ev) (w : World) (hr : RowAt encE 24 w v L) (hfit : ∀ x ∈ L, FitsE x) (hl : L.length ≤ 900) : Calls Try.prog 15 #[v] w fun e w' => e = .returned (.bool (soundF L)) ∧ Below w.heap.size w w' := by
  have hmm := @run_makeMap Try.prog
  have zE := zE_ev
  obtain ⟨k24, hk⟩ : ∃ k, k = 24 := ⟨_, rfl⟩
  rw [← hk] at zE
  replace hk := Lib.hid hk
  have hrH := Lib.hid hr
  have hfitH := Lib.hid hfit
  clear hfit
  obtain ⟨ao, cap, rfl, q1, q2, q3⟩ := hr
  obtain ⟨n, hn⟩ : ∃ n, L.length = n := ⟨_, rfl⟩
  rw [hn] at q1 q3 hl hrH ⊢
  have HA : Hid (0 < n → ∃ b off, ao = some ⟨b, off, none⟩) := fun hp => by
    obtain ⟨b, off, e, _⟩ := q3 hp
    exact ⟨b, off, e⟩
  have hcM : cap ≤ 9223372036854775807 := by unfold maxLen at q2; omega
  have hnM : n ≤ 9223372036854775807 := by omega
  clear q2 q3
  replace hn := Lib.hid hn
  go_enter Try.func15, Try.ntmps15
  go_wp2_with fail
  go_loopw [3, 10] (fun ss ii wr => ∃ (i q : Nat) (stp : Int) (D : DataW Unit) (f : Int → Int), i ≤ n ∧ q ≤ i ∧ ii = .int .i64 i ∧ ss = .int .i64 stp ∧ Hid (wr.ownsMap Try.prog 3 (plainElem Try.prog 3) w.heap.size q D) ∧ Hid (Tie D f) ∧ Hid (∀ k, 0 ≤ f k ∧ f k ≤ 3) ∧ Hid (sndGo stp f (L.drop i) = soundF L) ∧ Hid (Below w.heap.size w wr)) (fun _ ii _ => n - (intOf ii).toNat)
  case atStart => exact ⟨0, 0, 0, _, _, Nat.zero_le _, Nat.zero_le _, rfl, rfl, World.ownsMap_made _ _ _ _, Tie.start, Lib.hid (fun k => by omega), Lib.hid rfl, (Below.refl _ _).alloc (Nat.le_refl _) _⟩
  case round =>
    obtain ⟨i, q, stp, D, f, hin, hqi, rfl, rfl, hm, hT, hf, hgo, hb⟩ := hrel
    have hbw := hb.out.size
    by_cases hlt : i < n
    · have b2 : (i : Int) < (n : Int) := by omega
      have wi : IntKind.i64.wrap ((i : Int) + 1) = (i : Int) + 1 := by rw [IntKind.wrap_i64]; omega
      obtain ⟨g, off, rfl⟩ := HA.out (by omega)
      have hiL : i < L.length := by have := hn.out; omega
      have LI := ev_row (hrH.out.below hb.out) hk.out hiL
      have hyf : FitsE L[i]! := by rw [getElem!_pos L i hiL]; exact hfitH.out _ (List.getElem_mem _)
      have hdr : L.drop i = L[i]! :: L.drop (i + 1) := by rw [getElem!_pos L i hiL, List.drop_eq_getElem_cons hiL]
      have hgo2 := hgo.out
      rw [hdr] at hgo2
      clear hdr
      generalize L[i]! = y at *
      unfold FitsE at hyf
      have hwf : (Lit.int .i64 y.tk).wf = true := WalkArith.wf_i64 (by omega)
      unfold sndGo at hgo2
      by_cases c1 : y.kd < 1
      · rw [if_pos (.inl c1)] at hgo2
        have hfin : Hid (soundF L = false) := hgo2.symm
        have d1 : decide (y.kd < 1) = true := decide_eq_true c1
        clear hgo2
        go_wp2_with (first
          | (refine wpList_store_ev _ rfl _ _ rfl rfl (n := wr.heap.size) (y := y) rfl rfl (heap_alloc_new wr _) (by rfl) ?_
             intro w1 hn1 hO1
             have hB1 : Below w.heap.size w w1 := (hb.out.alloc hb.out.size _).trans (hO1.below (by simp; omega) hbw (fun k hk => by cases hk))
             have hm1 : w1.ownsMap Try.prog 3 (plainElem Try.prog 3) w.heap.size q D := map_off (map_kept hm.out ((Below.refl wr.heap.size wr).alloc (Nat.le_refl _) _)) hO1 (by have := hm.out.lt; omega)
             have k0 : w1.cell? ⟨wr.heap.size, 0, none⟩ = some (.int .i64 y.st) := ev_cells hn1 0 _ rfl
             have k1 : w1.cell? ⟨wr.heap.size, 1, none⟩ = some (.int .i64 y.kd) := ev_cells hn1 1 _ rfl
             have k2 : w1.cell? ⟨wr.heap.size, 2, none⟩ = some (.int .i64 y.tk) := ev_cells hn1 2 _ rfl))
        go_ret
        exact ⟨by rw [hfin.out]; rfl, hB1⟩
      have d1 : decide (y.kd < 1) = false := decide_eq_false c1
      by_cases c2 : 5 < y.kd
      · rw [if_pos (.inr (.inl c2))] at hgo2
        have hfin : Hid (soundF L = false) := hgo2.symm
        have d2 : decide (5 < y.kd) = true := decide_eq_true c2
        clear hgo2 c1
        go_wp2_with (first
          | (refine wpList_store_ev _ rfl _ _ rfl rfl (n := wr.heap.size) (y := y) rfl rfl (heap_alloc_new wr _) (by rfl) ?_
             intro w1 hn1 hO1
             have hB1 : Below w.heap.size w w1 := (hb.out.alloc hb.out.size _).trans (hO1.below (by simp; omega) hbw (fun k hk => by cases hk))
             have hm1 : w1.ownsMap Try.prog 3 (plainElem Try.prog 3) w.heap.size q D := map_off (map_kept hm.out ((Below.refl wr.heap.size wr).alloc (Nat.le_refl _) _)) hO1 (by have := hm.out.lt; omega)
             have k0 : w1.cell? ⟨wr.heap.size, 0, none⟩ = some (.int .i64 y.st) := ev_cells hn1 0 _ rfl
             have k1 : w1.cell? ⟨wr.heap.size, 1, none⟩ = some (.int .i64 y.kd) := ev_cells hn1 1 _ rfl
             have k2 : w1.cell? ⟨wr.heap.size, 2, none⟩ = some (.int .i64 y.tk) := ev_cells hn1 2 _ rfl))
        go_ret
        exact ⟨by rw [hfin.out]; rfl, hB1⟩
      have d2 : decide (5 < y.kd) = false := decide_eq_false c2
      by_cases c3 : y.st < stp
      · rw [if_pos (.inr (.inr c3))] at hgo2
        have hfin : Hid (soundF L = false) := hgo2.symm
        have d3 : decide (y.st < stp) = true := decide_eq_true c3
        clear hgo2 c1 c2
        go_wp2_with (first
          | (refine wpList_store_ev _ rfl _ _ rfl rfl (n := wr.heap.size) (y := y) rfl rfl (heap_alloc_new wr _) (by rfl) ?_
             intro w1 hn1 hO1
             have hB1 : Below w.heap.size w w1 := (hb.out.alloc hb.out.size _).trans (hO1.below (by simp; omega) hbw (fun k hk => by cases hk))
             have hm1 : w1.ownsMap Try.prog 3 (plainElem Try.prog 3) w.heap.size q D := map_off (map_kept hm.out ((Below.refl wr.heap.size wr).alloc (Nat.le_refl _) _)) hO1 (by have := hm.out.lt; omega)
             have k0 : w1.cell? ⟨wr.heap.size, 0, none⟩ = some (.int .i64 y.st) := ev_cells hn1 0 _ rfl
             have k1 : w1.cell? ⟨wr.heap.size, 1, none⟩ = some (.int .i64 y.kd) := ev_cells hn1 1 _ rfl
             have k2 : w1.cell? ⟨wr.heap.size, 2, none⟩ = some (.int .i64 y.tk) := ev_cells hn1 2 _ rfl))
        go_ret
        exact ⟨by rw [hfin.out]; rfl, hB1⟩
      have d3 : decide (y.st < stp) = false := decide_eq_false c3
      rw [if_neg (by omega)] at hgo2
      by_cases c4 : 3 < y.kd
      · rw [if_pos c4] at hgo2
        have d4 : decide (3 < y.kd) = true := decide_eq_true c4
        replace hgo2 := Lib.hid hgo2
        clear c1 c2 c3
        go_wp2_with (first
          | (refine wpList_store_ev _ rfl _ _ rfl rfl (n := wr.heap.size) (y := y) rfl rfl (heap_alloc_new wr _) (by rfl) ?_
             intro w1 hn1 hO1
             have hB1 : Below w.heap.size w w1 := (hb.out.alloc hb.out.size _).trans (hO1.below (by simp; omega) hbw (fun k hk => by cases hk))
             have hm1 : w1.ownsMap Try.prog 3 (plainElem Try.prog 3) w.heap.size q D := map_off (map_kept hm.out ((Below.refl wr.heap.size wr).alloc (Nat.le_refl _) _)) hO1 (by have := hm.out.lt; omega)
             have k0 : w1.cell? ⟨wr.heap.size, 0, none⟩ = some (.int .i64 y.st) := ev_cells hn1 0 _ rfl
             have k1 : w1.cell? ⟨wr.heap.size, 1, none⟩ = some (.int .i64 y.kd) := ev_cells hn1 1 _ rfl
             have k2 : w1.cell? ⟨wr.heap.size, 2, none⟩ = some (.int .i64 y.tk) := ev_cells hn1 2 _ rfl))
        go_roundw
        case rel => exact ⟨i + 1, q, y.st, D, f, by omega, by omega, by go_num, rfl, hm1, hT.out, hf.out, hgo2.out, hB1⟩
        case measure => simp [intOf]; omega
      have d4 : decide (3 < y.kd) = false := decide_eq_false c4
      rw [if_neg c4] at hgo2
      have hfy := hf.out y.tk
      have hwk : (Lit.int .i64 y.kd).wf = true := WalkArith.wf_i64 (by omega)
      have hq900 : q ≤ 900 := by omega
      have hwl : IntKind.i64.wrap (f y.tk + 1) = f y.tk + 1 := IntWalk.i64_in _ (by omega)
      by_cases c5 : y.kd = f y.tk + 1
      · rw [if_pos c5] at hgo2
        replace hgo2 := Lib.hid hgo2
        have hf2 : Hid (∀ k, 0 ≤ updF f y.tk y.kd k ∧ updF f y.tk y.kd k ≤ 3) := fun k => by
          unfold updF
          split
          · omega
          · exact hf.out k
        have d5 : (y.kd == f y.tk + 1) = true := by simpa using c5
        replace c5 := Lib.hid c5
        clear c1 c2 c3 c4
        go_wp2_with (first
          | (refine wpList_store_ev _ rfl _ _ rfl rfl (n := wr.heap.size) (y := y) rfl rfl (heap_alloc_new wr _) (by rfl) ?_
             intro w1 hn1 hO1
             have hB1 : Below w.heap.size w w1 := (hb.out.alloc hb.out.size _).trans (hO1.below (by simp; omega) hbw (fun k hk => by cases hk))
             have hm1 : w1.ownsMap Try.prog 3 (plainElem Try.prog 3) w.heap.size q D := map_off (map_kept hm.out ((Below.refl wr.heap.size wr).alloc (Nat.le_refl _) _)) hO1 (by have := hm.out.lt; omega)
             have k0 : w1.cell? ⟨wr.heap.size, 0, none⟩ = some (.int .i64 y.st) := ev_cells hn1 0 _ rfl
             have k1 : w1.cell? ⟨wr.heap.size, 1, none⟩ = some (.int .i64 y.kd) := ev_cells hn1 1 _ rfl
             have k2 : w1.cell? ⟨wr.heap.size, 2, none⟩ = some (.int .i64 y.tk) := ev_cells hn1 2 _ rfl)
          | (at_lookup; refine wpList_lookup_own_int _ rfl _ _ 50 rfl 3 3 .i64 law_int Try.underlying50 Try.underlying3 (zero_int _) w.heap.size q D rfl hm1 _ _ rfl (keyOf_int_mk Try.underlying3 hwf) ?_; intro c hat hwc
             obtain rfl : c = f y.tk := by
               have := hat.symm.trans (hT.out.2 y.tk)
               injection this with e
               injection e)
          | (at_mapUpdate; refine wpList_mapUpdate_own _ rfl _ _ _ 50 rfl 3 3 law_int Try.underlying50 _ w.heap.size q D rfl hm1 (by unfold maxLen; omega) _ _ _ rfl rfl (keyOf_int_mk Try.underlying3 hwf) _ [] (plainElem_int Try.underlying3 hwk) ?_; intro w2 hm2 hg2))
        go_roundw
        case rel => exact ⟨i + 1, q + 1, y.st, _, _, by omega, by omega, by go_num, rfl, hm2, hT.out.put _ _, hf2.out, hgo2.out, hB1.grown hg2 hB1.size (fun j hj => by cases hj; exact Nat.le_refl _)⟩
        case measure => simp [intOf]; omega
      · rw [if_neg c5] at hgo2
        have hfin : Hid (soundF L = false) := hgo2.symm
        have d5 : (y.kd == f y.tk + 1) = false := by simpa using c5
        clear hgo2 c1 c2 c3 c4
        replace c5 := Lib.hid c5
        go_wp2_with (first
          | (refine wpList_store_ev _ rfl _ _ rfl rfl (n := wr.heap.size) (y := y) rfl rfl (heap_alloc_new wr _) (by rfl) ?_
             intro w1 hn1 hO1
             have hB1 : Below w.heap.size w w1 := (hb.out.alloc hb.out.size _).trans (hO1.below (by simp; omega) hbw (fun k hk => by cases hk))
             have hm1 : w1.ownsMap Try.prog 3 (plainElem Try.prog 3) w.heap.size q D := map_off (map_kept hm.out ((Below.refl wr.heap.size wr).alloc (Nat.le_refl _) _)) hO1 (by have := hm.out.lt; omega)
             have k0 : w1.cell? ⟨wr.heap.size, 0, none⟩ = some (.int .i64 y.st) := ev_cells hn1 0 _ rfl
             have k1 : w1.cell? ⟨wr.heap.size, 1, none⟩ = some (.int .i64 y.kd) := ev_cells hn1 1 _ rfl
             have k2 : w1.cell? ⟨wr.heap.size, 2, none⟩ = some (.int .i64 y.tk) := ev_cells hn1 2 _ rfl)
          | (at_lookup; refine wpList_lookup_own_int _ rfl _ _ 50 rfl 3 3 .i64 law_int Try.underlying50 Try.underlying3 (zero_int _) w.heap.size q D rfl hm1 _ _ rfl (keyOf_int_mk Try.underlying3 hwf) ?_; intro c hat hwc
             obtain rfl : c = f y.tk := by
               have := hat.symm.trans (hT.out.2 y.tk)
               injection this with e
               injection e))
        go_ret
        exact ⟨by rw [hfin.out]; rfl, hB1⟩
    · have e1 : L.drop i = [] := List.drop_of_length_le (by have := hn.out; omega)
      have b2 : ¬ (i : Int) < (n : Int) := by omega
      have hfin : Hid (soundF L = true) := by
        have := hgo.out
        rw [e1] at this
        exact this.symm
      clear e1
      go_wp2_with fail
      go_ret
      exact ⟨by rw [hfin.out]; rfl, hb.out⟩

end Go.Proofs.Ytdlfbkiihkhmmaa
