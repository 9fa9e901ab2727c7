/-
  Own walks: the library's CompactFunc at steps.
-/
import Derived.Test.YtnajcgicbhohhaaSpH
import Derived.Lib.SlKept
import Derived.Shelf.SlSortCmp.QuietGrown
namespace Go.Proofs.Ytnajcgicbhohhaa
open Go.RowKit Go.Sort Go.Lib

set_option maxHeartbeats 1000000 in
theorem eqc_any (x y : Int × Int) (W : World) : Calls Try.prog 27 #[.agg #[.int .i64 x.1, .int .i64 x.2], .agg #[.int .i64 y.1, .int .i64 y.2]] W fun e w' => e = .returned (.bool (decide (x.2 = y.2))) ∧ ∃ q os', w' = grow (W.drewN q) os' := by
  go_enter Try.func27, Try.ntmps27
  go_wp2
  go_ret
  exact ⟨by simp [BEq.beq], 0, _, by rw [alloc_eq_grow, alloc_eq_grow, grow_grow]; rfl⟩

/-- Which steps stay: the first, and those at which another number of nodes is free than ahead. -/
def kp (L : List (Int × Int)) (j : Nat) : Bool := decide (j = 0 ∨ (L.toArray[j]!).2 ≠ (L.toArray[j - 1]!).2)
def compF (L : List (Int × Int)) : List (Int × Int) := keptUpTo (kp L) L.toArray L.length

/-- The two cells of an element of an owned row. -/
theorem pair_cells {w : World} {base g n cap : Nat} {e : TypeId} {L : List (Int × Int)} (h : w.ownsRow base e 2 (.slice (some ⟨g, 0, none⟩) n cap) n (prV L)) {k : Nat} (hk : k < L.length) :
    w.cell? ⟨g, k * 2, none⟩ = some (.int .i64 (L.toArray[k]!).1) ∧ w.cell? ⟨g, k * 2 + 1, none⟩ = some (.int .i64 (L.toArray[k]!).2) := by
  have key : ∀ (l : List (Int × Int)) (i : Nat) (x : Int × Int), l[i]? = some x → (prV l)[i * 2]? = some (.int .i64 x.1) ∧ (prV l)[i * 2 + 1]? = some (.int .i64 x.2) := by
    intro l
    induction l with
    | nil => intro i x hi; simp at hi
    | cons a l ih =>
      intro i x hi
      have e : prV (a :: l) = enc2 a ++ prV l := by simp [prV]
      rw [e]
      rcases i with _ | i
      · simp at hi; subst hi; exact ⟨rfl, rfl⟩
      · have := ih i x (by simpa using hi)
        rw [List.getElem?_append_right (by simp [enc2]; omega), List.getElem?_append_right (by simp [enc2]; omega)]
        have e1 : (i + 1) * 2 - (enc2 a).length = i * 2 := by simp [enc2]; omega
        have e2 : (i + 1) * 2 + 1 - (enc2 a).length = i * 2 + 1 := by simp [enc2]; omega
        rw [e1, e2]
        exact this
  have hx : L[k]? = some (L.toArray[k]!) := by simp [hk]
  obtain ⟨h0, h1⟩ := key L k _ hx
  have c0 := h.cells (g := g) rfl _ _ h0
  have c1 := h.cells (g := g) rfl _ _ h1
  rw [Go.WideShapes.add_plain] at c0 c1
  simp only [Nat.zero_add] at c0 c1
  exact ⟨c0, c1⟩

theorem pair_of {w : World} {base g n cap : Nat} {e : TypeId} {l : List (Int × Int)} {x : Int × Int} (h : w.ownsRow base e 2 (.slice (some ⟨g, 0, none⟩) n cap) n (prV l)) {k : Nat} (hx : l[k]? = some x) :
    w.cell? ⟨g, k * 2, none⟩ = some (.int .i64 x.1) ∧ w.cell? ⟨g, k * 2 + 1, none⟩ = some (.int .i64 x.2) := by
  obtain ⟨hk, rfl⟩ := List.getElem?_eq_some_iff.1 hx
  have := pair_cells h hk
  simpa [hk] using this
theorem prV_set (L : List (Int × Int)) (c : Nat) (x : Int × Int) : prV (L.set c x) = ((prV L).set (c * 2) (.int .i64 x.1)).set (c * 2 + 1) (.int .i64 x.2) := by
  induction L generalizing c with
  | nil => simp [prV]
  | cons a L ih =>
    rcases c with _ | c
    · simp [prV, enc2]
    · have e : (c + 1) * 2 = c * 2 + 1 + 1 := by omega
      have e2 : (c + 1) * 2 + 1 = c * 2 + 1 + 1 + 1 := by omega
      rw [List.set_cons_succ, e2, e]
      have := ih c
      simp only [prV, enc2, List.flatMap_cons, List.cons_append, List.nil_append, List.set_cons_succ] at this ⊢
      rw [this]
/-- Two cells of an owned row are written. -/
theorem pair_stored {w : World} {base g n cap : Nat} {e : TypeId} {l : List (Int × Int)} (h : w.ownsRow base e 2 (.slice (some ⟨g, 0, none⟩) n cap) n (prV l)) (hb : base ≤ g) (c : Nat) (x : Int × Int) :
    ((w.setCell ⟨g, c * 2, none⟩ (.int .i64 x.1)).setCell ⟨g, c * 2 + 1, none⟩ (.int .i64 x.2)).ownsRow base e 2 (.slice (some ⟨g, 0, none⟩) n cap) n (prV (l.set c x)) ∧ Below base w ((w.setCell ⟨g, c * 2, none⟩ (.int .i64 x.1)).setCell ⟨g, c * 2 + 1, none⟩ (.int .i64 x.2)) := by
  rw [prV_set]
  exact ⟨((h.stored (c * 2) (.int .i64 x.1)).1.stored (c * 2 + 1) (.int .i64 x.2)).1, ((Below.refl _ _).setCell (by exact hb) _).setCell (by exact hb) _⟩
theorem kp_pos {L : List (Int × Int)} {m : Nat} (h : ¬ (L.toArray[m]!).2 = (L.toArray[m - 1]!).2) : kp L m = true := decide_eq_true (Or.inr h)
theorem kp_neg {L : List (Int × Int)} {m : Nat} (hm : 0 < m) (h : (L.toArray[m]!).2 = (L.toArray[m - 1]!).2) : kp L m = false := decide_eq_false (by rintro (hh | hh); omega; exact hh h)
theorem kp_zero (L : List (Int × Int)) : kp L 0 = true := rfl
theorem compF_all {L : List (Int × Int)} (h : ∀ j, j < L.length → kp L j = true) : compF L = L := by
  unfold compF
  rw [keptUpTo_all (kp L) L.toArray L.length h]
  have := range_map_get L.toArray
  simpa using this
theorem prV_take (L : List (Int × Int)) (c : Nat) : (prV L).take (c * 2) = prV (L.take c) := by
  induction L generalizing c with
  | nil => simp [prV]
  | cons a L ih =>
    rcases c with _ | c
    · simp [prV]
    · have e : (c + 1) * 2 = c * 2 + 1 + 1 := by omega
      rw [e]
      have := ih c
      simp only [prV, enc2, List.flatMap_cons, List.cons_append, List.nil_append, List.take_succ_cons] at this ⊢
      rw [this]
/-- What is kept lies at the head of the row. -/
theorem kept_take {L : List (Int × Int)} {c : Nat} {dk : Array (Int × Int)} (h : KeptInv (kp L) L.toArray L.length c dk) : dk.toList.take c = compF L ∧ (compF L).length = c := by
  have hl := h.len
  have hs := h.size
  have hlt := h.lt
  refine ⟨?_, hl⟩
  apply List.ext_getElem?
  intro j
  rw [List.getElem?_take]
  by_cases hj : j < c
  · rw [if_pos hj]
    have := h.low j hj
    have hjs : j < dk.size := by simp at hs; omega
    rw [show (compF L)[j]? = (keptUpTo (kp L) L.toArray L.length)[j]? from rfl, this]
    simp [hjs]
  · rw [if_neg hj, List.getElem?_eq_none (by show (keptUpTo _ _ _).length ≤ j; omega)]

theorem zeroStep (w : World) : (zeroValue 41).run Try.prog w = .ok (.agg #[.int .i64 0, .int .i64 0]) w := by kernel_rfl

theorem mixed : Try.prog.follows .mixedOrders = true := by kernel_rfl

set_option maxRecDepth 100000 in
set_option maxHeartbeats 2000000 in
theorem compactFn_own {base g cap : Nat} (L : List (Int × Int)) (w : World) (h : w.ownsRow base 41 2 (.slice (some ⟨g, 0, none⟩) L.length cap) L.length (prV L)) (hlen : L.length ≤ 61) :
    Calls Try.prog 26 #[.slice (some ⟨g, 0, none⟩) L.length cap, .func (.func 27) #[] #[]] w fun e w' => ∃ v', e = .returned v' ∧ w'.ownsRow base 41 2 v' (compF L).length (prV (compF L)) ∧ Below base w w' := by
  have hmix := mixed
  have hlt := (h.lt g rfl)
  obtain ⟨hbg, hgw⟩ := hlt
  have hlc : L.length ≤ cap := by
    rcases h.2 with ⟨e0, _⟩ | ⟨g', cap', cur, e0, _, _, hn, _⟩
    · cases e0
    · cases e0; exact hn
  by_cases h2 : L.length < 2
  · have hc : Hid (compF L = L) := by
      show _ = _
      refine compF_all fun j hj => ?_
      have : j = 0 := by omega
      subst this
      rfl
    go_enter Try.func26, Try.ntmps26
    go_wp2_with fail
    go_ret
    exact ⟨_, rfl, by rw [hc.out]; exact h, Below.refl _ _⟩
  · have h2' : (2 : Int) ≤ L.length := by omega
    have h2d : decide ((L.length : Int) < 2) = false := decide_eq_false (by omega)
    go_enter Try.func26, Try.ntmps26
    go_wp2_with fail
    go_loopw [5] (fun i wr => ∃ (m : Nat), m + 1 ≤ L.length ∧ i = .int .i64 ((m : Int) + 1) ∧ (∀ j, j < m + 1 → kp L j = true) ∧ Below w.heap.size w wr) (fun i _ => L.length - (intOf i).toNat)
    case atStart => exact ⟨0, by omega, rfl, fun j hj => by have : j = 0 := by omega
                                                            subst this; rfl, Below.refl _ _⟩
    case round =>
      obtain ⟨m, hm, rfl, hall, hb⟩ := hrel
      have hown := own_kept h hb
      have hsz := hb.size
      by_cases hlt : m + 1 < L.length
      · obtain ⟨x, hx⟩ : ∃ x, x = L.toArray[m + 1]! := ⟨_, rfl⟩
        obtain ⟨y, hy⟩ : ∃ y, y = L.toArray[m]! := ⟨_, rfl⟩
        obtain ⟨a0, a1⟩ := pair_cells hown hlt
        obtain ⟨b0, b1⟩ := pair_cells hown (show m < L.length by omega)
        rw [← hx] at a0 a1
        rw [← hy] at b0 b1
        have A0 := fun (q : Nat) (os : Array Obj) => cell_grown (a := ⟨g, _, none⟩) (show g < wr.heap.size by omega) a0 q os
        have A1 := fun (q : Nat) (os : Array Obj) => cell_grown (a := ⟨g, _, none⟩) (show g < wr.heap.size by omega) a1 q os
        have B0 := fun (q : Nat) (os : Array Obj) => cell_grown (a := ⟨g, _, none⟩) (show g < wr.heap.size by omega) b0 q os
        have B1 := fun (q : Nat) (os : Array Obj) => cell_grown (a := ⟨g, _, none⟩) (show g < wr.heap.size by omega) b1 q os
        replace hx := Lib.hid hx
        replace hy := Lib.hid hy
        clear a0 a1 b0 b1
        have hi1 : (0 : Int) ≤ (m : Int) + 1 := by omega
        have hi2 : (m : Int) + 1 < (L.length : Int) := by omega
        have hi3 : ((m : Int) + 1).toNat = m + 1 := by omega
        have hi5 : (m : Int) < (L.length : Int) := by omega
        by_cases he : x.2 = y.2
        · have hc := fun W => eqc_any x y W
          rw [decide_eq_true he] at hc
          have hkn : Hid (kp L (m + 1) = false) := kp_neg (by omega) (by rw [Nat.add_sub_cancel, ← hx.out, ← hy.out]; exact he)
          replace he := Lib.hid he
          replace hall := Lib.hid hall
          go_wp2_with fail
          have hi4 : IntKind.i64.wrap (m : Int) = (m : Int) := IntWalk.i64_in _ (by omega)
          go_quiet_grown ((go_at_call 27; exact Calls.grown_of (hc _)))
          clear A0 A1 B0 B1 hc hi4 hown
          have hb2 : Below w.heap.size w (grow (wr.drewN nq) osq) := below_grow (below_drewN hb nq) hsz osq
          obtain ⟨wq, hwq⟩ : ∃ wq, wq = grow (wr.drewN nq) osq := ⟨_, rfl⟩
          rw [← hwq] at hb2 ⊢
          clear hwq hb hsz
          have hown := own_kept h hb2
          have hbb : Below base w wq := hb2.mono (by omega)
          have hncap : ¬ cap = m + 1 := by omega
          clear hb2 h hgw
          go_wp2_with fail
          go_loopw [5, 7] (fun c k2 wr => ∃ (cc q : Nat) (dk : Array (Int × Int)), c = .int .i64 cc ∧ k2 = .int .i64 ((q : Int) + 1) ∧ m + 1 + (q + 1) ≤ L.length ∧ KeptInv (kp L) L.toArray (m + 1 + (q + 1)) cc dk ∧ wr.ownsRow base 41 2 (.slice (some ⟨g, 0, none⟩) L.length cap) L.length (prV dk.toList) ∧ Below base w wr) (fun _ k2 _ => L.length - (intOf k2).toNat)
          case atStart => exact ⟨m + 1, 0, L.toArray, by go_num, rfl, by omega, KeptInv.start hall.out hkn.out, hown, hbb⟩
          case round =>
            obtain ⟨cc, q, dk, rfl, rfl, hq, hI, hrow, hbr⟩ := hrel
            have hcc := hI.lt
            have hds := hI.size
            have hdl : dk.toList.length = L.length := by simpa using hds
            by_cases hlt2 : m + 1 + (q + 1) < L.length
            · have hpx : dk.toList[m + 1 + (q + 1)]? = some (L.toArray[m + 1 + (q + 1)]!) := by
                have := hI.high (m + 1 + (q + 1)) (by omega)
                rw [← this]; simp [show m + 1 + (q + 1) < dk.size by simp at hds; omega]
              have hpy : dk.toList[m + 1 + q]? = some (L.toArray[m + 1 + q]!) := by
                have := hI.high (m + 1 + q) (by omega)
                rw [← this]; simp [show m + 1 + q < dk.size by simp at hds; omega]
              have hpo : dk.toList[cc]? = some (dk[cc]!) := by simp [show cc < dk.size by simp at hds; omega]
              obtain ⟨X, hX⟩ : ∃ X, X = L.toArray[m + 1 + (q + 1)]! := ⟨_, rfl⟩
              obtain ⟨Y, hY⟩ : ∃ Y, Y = L.toArray[m + 1 + q]! := ⟨_, rfl⟩
              obtain ⟨O, hO⟩ : ∃ O, O = dk[cc]! := ⟨_, rfl⟩
              rw [← hX] at hpx
              rw [← hY] at hpy
              rw [← hO] at hpo
              obtain ⟨a0, a1⟩ := pair_of hrow hpx
              obtain ⟨b0, b1⟩ := pair_of hrow hpy
              obtain ⟨o0, o1⟩ := pair_of hrow hpo
              have f0 := hrow.frozenAt (cc * 2)
              have f1 := hrow.frozenAt (cc * 2 + 1)
              have hgr : g < wr.heap.size := (hrow.lt g rfl).2
              rw [show (m + 1 + (q + 1)) * 2 = (m + 1) * 2 + (q + 1) * 2 by omega] at a0 a1
              rw [show (m + 1 + q) * 2 = (m + 1) * 2 + q * 2 by omega] at b0 b1
              have A0 := fun (p : Nat) (os : Array Obj) => cell_grown (a := ⟨g, _, none⟩) hgr a0 p os
              have A1 := fun (p : Nat) (os : Array Obj) => cell_grown (a := ⟨g, _, none⟩) hgr a1 p os
              have B0 := fun (p : Nat) (os : Array Obj) => cell_grown (a := ⟨g, _, none⟩) hgr b0 p os
              have B1 := fun (p : Nat) (os : Array Obj) => cell_grown (a := ⟨g, _, none⟩) hgr b1 p os
              have O0 := fun (p : Nat) (os : Array Obj) => cell_grown (a := ⟨g, _, none⟩) hgr o0 p os
              have O1 := fun (p : Nat) (os : Array Obj) => cell_grown (a := ⟨g, _, none⟩) hgr o1 p os
              have h35 : decide ((q : Int) + 1 < ((L.length - (m + 1) : Nat) : Int)) = true := decide_eq_true (by omega)
              have hj1 : (0 : Int) ≤ (q : Int) + 1 := by omega
              have hj2 : (q : Int) + 1 < ((L.length - (m + 1) : Nat) : Int) := by omega
              have hj3 : ((q : Int) + 1).toNat = q + 1 := by omega
              have hj5 : (q : Int) < ((L.length - (m + 1) : Nat) : Int) := by omega
              have hjc : (cc : Int) < (L.length : Int) := by omega
              replace hX := Lib.hid hX
              replace hY := Lib.hid hY
              replace hI := Lib.hid hI
              replace hds := Lib.hid hds
              replace hdl := Lib.hid hdl
              clear hO a0 a1 b0 b1 o0 o1 hpx hpy hpo
              by_cases hxy : X.2 = Y.2
              · have hc2 := fun W => eqc_any X Y W
                rw [decide_eq_true hxy] at hc2
                have hkp : Hid (kp L (m + 1 + (q + 1)) = false) := kp_neg (by omega) (by rw [show m + 1 + (q + 1) - 1 = m + 1 + q by omega, ← hX.out, ← hY.out]; exact hxy)
                replace hxy := Lib.hid hxy
                go_wp2_with fail
                have hj4 : IntKind.i64.wrap (q : Int) = (q : Int) := IntWalk.i64_in _ (by omega)
                go_quiet_grown ((go_at_call 27; exact Calls.grown_of (hc2 _)))
                clear A0 A1 B0 B1 O0 O1 f0 f1 hc2 hj4
                have hb3 : Below wr.heap.size wr (grow (wr.drewN nq) osq) := below_grow (below_drewN (Below.refl _ _) nq) (Nat.le_refl _) osq
                have hrow3 := own_kept hrow hb3
                have hbr3 := hbr.trans (hb3.mono (hbr.size |> fun h => by omega))
                obtain ⟨wz, hwz⟩ : ∃ wz, wz = grow (wr.drewN nq) osq := ⟨_, rfl⟩
                rw [← hwz] at hrow3 hbr3 ⊢
                clear hwz hb3 hrow hbr hgr
                go_wp2_with fail
                go_roundw
                case rel => exact ⟨cc, q + 1, dk, rfl, by go_num, by omega, hI.out.skip hkp.out, hrow3, hbr3⟩
                case measure => simp [intOf]; omega
              · have hc2 := fun W => eqc_any X Y W
                rw [decide_eq_false hxy] at hc2
                have hkp : Hid (kp L (m + 1 + (q + 1)) = true) := kp_pos (by rw [show m + 1 + (q + 1) - 1 = m + 1 + q by omega, ← hX.out, ← hY.out]; exact hxy)
                replace hxy := Lib.hid hxy
                go_wp2_with fail
                have hj4 : IntKind.i64.wrap (q : Int) = (q : Int) := IntWalk.i64_in _ (by omega)
                go_quiet_grown ((go_at_call 27; exact Calls.grown_of (hc2 _)))
                have hb3 : Below wr.heap.size wr (grow (wr.drewN nq) osq) := below_grow (below_drewN (Below.refl _ _) nq) (Nat.le_refl _) osq
                have hrow3 := own_kept hrow hb3
                have hbr3 := hbr.trans (hb3.mono (hbr.size |> fun h => by omega))
                have a0 := A0 nq osq
                have a1 := A1 nq osq
                have o0 := O0 nq osq
                have o1 := O1 nq osq
                have f0 := hrow3.frozenAt (cc * 2)
                have f1 := hrow3.frozenAt (cc * 2 + 1)
                clear A0 A1 B0 B1 O0 O1 hc2 hj4
                obtain ⟨wz, hwz⟩ : ∃ wz, wz = grow (wr.drewN nq) osq := ⟨_, rfl⟩
                rw [← hwz] at hrow3 hbr3 a0 a1 o0 o1 f0 f1 ⊢
                clear hwz hb3 hrow hbr hgr
                have hst := pair_stored hrow3 hbg cc X
                have hrow4 := hst.1
                have hbr4 := hbr3.trans hst.2
                clear hst
                have hI2 : Hid (KeptInv (kp L) L.toArray (m + 1 + (q + 1) + 1) (cc + 1) (dk.setIfInBounds cc X)) := by
                  have := hI.out.keep (by simpa using hlt2) hkp.out
                  rwa [← hX.out] at this
                have htl : Hid ((dk.setIfInBounds cc X).toList = dk.toList.set cc X) := by show _ = _; simp
                go_wp2_with fail
                go_roundw
                case rel => exact ⟨cc + 1, q + 1, dk.setIfInBounds cc X, by go_num, by go_num, by omega, hI2.out, by rw [htl.out]; exact hrow4, hbr4⟩
                case measure => simp [intOf]; omega
            · have hend : m + 1 + (q + 1) = L.length := by omega
              rw [hend] at hI
              obtain ⟨hk1, hk2⟩ := kept_take hI
              obtain ⟨w5, hcl, hrow5, hb5, hs5⟩ := run_clear_own (P := Try.prog) (sz := 2) (c := cc) (m := cap - cc) Try.underlying38 zeroStep rfl (by simp [Value.cells, Value.oneCell']) hrow (by omega) (by decide)
              have hbr5 := hbr.trans hb5
              rw [prV_take, hk1] at hrow5
              have hk2' : Hid ((compF L).length = cc) := hk2
              have hncc : ¬ cap = cc := by omega
              have h35 : decide ((q : Int) + 1 < ((L.length - (m + 1) : Nat) : Int)) = false := decide_eq_false (by omega)
              have hge2 : ((L.length - (m + 1) : Nat) : Int) ≤ (q : Int) + 1 := by omega
              replace hend := Lib.hid hend
              replace hds := Lib.hid hds
              replace hdl := Lib.hid hdl
              clear hI hk1 hk2 hs5 hrow hbr hb5
              go_wp2_with fail
              go_ret
              exact ⟨_, rfl, by rw [hk2'.out]; exact hrow5, hbr5⟩
        · have hc := fun W => eqc_any x y W
          rw [decide_eq_false he] at hc
          have hkn : Hid (∀ j, j < m + 1 + 1 → kp L j = true) := by
            intro j hj
            rcases Nat.lt_or_ge j (m + 1) with h1 | h1
            · exact hall j h1
            · have : j = m + 1 := by omega
              subst this
              exact kp_pos (by rw [Nat.add_sub_cancel, ← hx.out, ← hy.out]; exact he)
          replace he := Lib.hid he
          clear hall
          go_wp2_with fail
          have hi4 : IntKind.i64.wrap (m : Int) = (m : Int) := IntWalk.i64_in _ (by omega)
          go_quiet_grown ((go_at_call 27; exact Calls.grown_of (hc _)))
          clear A0 A1 B0 B1 hc hi4 hown
          have hb2 : Below w.heap.size w (grow (wr.drewN nq) osq) := below_grow (below_drewN hb nq) hsz osq
          obtain ⟨wq, hwq⟩ : ∃ wq, wq = grow (wr.drewN nq) osq := ⟨_, rfl⟩
          rw [← hwq] at hb2 ⊢
          clear hwq hb hsz
          go_wp2_with fail
          go_roundw
          case rel => exact ⟨m + 1, by omega, by go_num, hkn.out, hb2⟩
          case measure => simp [intOf]; omega
      · obtain hmL : m + 1 = L.length := by omega
        have hc : Hid (compF L = L) := compF_all (by rw [← hmL]; exact hall)
        replace hmL := Lib.hid hmL
        have hge : (L.length : Int) ≤ (m : Int) + 1 := by omega
        clear hall
        go_wp2_with fail
        go_ret
        exact ⟨_, rfl, by rw [hc.out]; exact hown, hb.mono (by omega)⟩

end Go.Proofs.Ytnajcgicbhohhaa
