/-
 Own words and walks, merged: part 8 of 9.
-/
import Derived.Deep.LoopGhost
import Derived.LaidEql
import Derived.Laws.StructEq
import Derived.Test.YtnihdgcfamoplaaGreatIa7
set_option maxRecDepth 1000000
set_option maxHeartbeats 8000000
set_option linter.all false
namespace Go.Proofs.YtnihdgcfamoplaaGreat
open Go.RowKit Go.Lib Go.Sort
structure Bg (w0 w : World) (b c t d p : Nat) (v0 : Value) (g0 : Nat) (v : Value) (g a : Nat) (m mx : Int) (R : Wk) (M : Md) : Prop where
 sw : SW w b c t d p v g a m R (aj M)
 left : R.left = fP 83
 inv : aF M
 calm : Calm M
 cl : M.cl = false
 one : 1 ≤ M.dr.length
 few : M.L.length ≤ 190
 ha : a ≤ 1 + 2 * M.L.length
 hm : m + 1000 ≤ mx
 hmx : mx ≤ 1000000
 ok : R.ok = false
 ws : WS w0 w b c t d p v0 g0 v g
section
variable {L : List Jb} {id : Int} {ok : Jb → Bool} {ch : Jb → Jb} {M : Md}
theorem wS (L : List Jb) (i : Nat) : L[i]! = L.getD i default := by rw [List.getElem!_eq_getElem?_getD, List.getD_eq_getElem?_getD]
theorem tu (h : ¬ (id < 1 ∨ (L.length : Int) < id)) : bM L id = L.getD (id - 1).toNat default := by
 unfold bM
 rw [if_neg (by omega), if_neg (by omega), wS]
theorem yg (h : id < 1 ∨ (L.length : Int) < id) : bO L 0 id ok = 7 := by
 unfold bO
 rw [if_neg (by decide)]
 split
 ·rfl
 ·rw [if_pos (by omega)]
theorem Bw (h : ¬ (id < 1 ∨ (L.length : Int) < id)) (ho : ok (L.getD (id - 1).toNat default) = false) : bO L 0 id ok = 8 := by
 unfold bO
 rw [if_neg (by decide), if_neg (by omega), if_neg (by omega), wS, ho]
 rfl
theorem uy (h : ¬ (id < 1 ∨ (L.length : Int) < id)) (ho : ok (L.getD (id - 1).toNat default) = true) : bO L 0 id ok = 0 := by
 unfold bO
 rw [if_neg (by decide), if_neg (by omega), if_neg (by omega), wS, ho]
 rfl
theorem oH {e0 : Int} (h : bO L e0 id ok = 0) : df L e0 id ok ch = L.set (id - 1).toNat (ch (L.getD (id - 1).toNat default)) := by
 unfold df
 rw [if_pos h, wS]
theorem DV (h : id < 1 ∨ (M.L.length : Int) < id) : getM M id = (default, false) := if_pos h
theorem wT (h : ¬ (id < 1 ∨ (M.L.length : Int) < id)) : getM M id = (M.L.getD (id - 1).toNat default, true) := if_neg h
theorem yh {x : Jb} (h : ¬ (id < 1 ∨ (L.length : Int) < id)) : bM (L.set (id - 1).toNat x) id = x := by
 rw [tu (by rw [List.length_set]; exact h), gF, if_pos ⟨rfl, by omega⟩]
theorem vK (r : Rw) (h : r.id < 1 ∨ (M.L.length : Int) < r.id) : gm M r = (fJ 7, M) := by
 unfold gm
 rw [DV h]
 exact if_pos rfl
theorem NW (r : Rw) (h : r.id < 1 ∨ (M.L.length : Int) < r.id) : lU M r = (fJ 7, M) := by
 unfold lU
 rw [DV h]
 exact if_pos rfl
end
section
variable {w0 w : World} {b c t d p g g0 a N : Nat} {v v0 : Value} {m mx : Int} {P : Pg} {M M' : Md} {R : Wk} {Q : World → Prop}
theorem KI (h : SW w b c t d p v g a m R (aj M)) (hl : R.left = fP 83) (hc : M.cl = true) (ha : a ≤ 800) (hm : m ≤ mx) (hw : WS w0 w b c t d p v0 g0 v g) :
  Goes b c 1000 w (Fin w0 b c t d p v0 g0 mx M (jk (fJ 12)) false) :=
 bz (N := 999) bD (Cs h hc) h hl rfl ha hm hw rfl rfl rfl
theorem KJ (h : Bg w0 w b c t d p v0 g0 v g a m mx R M) (hq : ¬ (1 ≤ R.ag.kind ∧ R.ag.kind ≤ 13)) :
  Goes b c 1000 w (Fin w0 b c t d p v0 g0 mx M (jk (fJ 4)) false) :=
 bz (N := 999) bD (IB h.sw h.cl hq) h.sw h.left rfl (by have := h.ha; have := h.few; omega) (by have := h.hm; omega) h.ws rfl rfl rfl
theorem fT {k k' a' : Nat} {m' : Int} {R' : Wk} {P' : Pg} (hk : ∀ args w, Sem.run Tryz.prog (callFunc k args) w = .ok (.enter k args) w)
  (hp : Calls Tryz.prog k #[.pointer (some ⟨b, 0, none⟩), .pointer (some ⟨c, 0, none⟩)] w (au w b c t d p v g a' m' (fP k') R' P'))
  (h : SW w b c t d p v g a m R P) (hl : R.left = fP k) (hl' : R'.left = R.left)
  (hn : ∀ w' v' g', SW w' b c t d p v' g' a' m' { R' with left := fP k' } P' → WS w w' b c t d p v g v' g' → Goes b c N w' Q) : Goes b c (N + 1) w Q :=
 vH h hl (hl'.trans hl) hk hp hn
theorem Cu (h : Bg w0 w b c t d p v0 g0 v g a m mx R M) (hk : R.ag.kind = 4) :
  Goes b c 1000 w (Fin w0 b c t d p v0 g0 mx (gm M (toW R.ag)).2 (jk (gm M (toW R.ag)).1) false) := by
 have hll := h.few
 have ha := h.ha
 have hm := h.hm
 have hrd : jG R.ag.kind = false := by rw [hk]; rfl
 have jl : ∀ {L : Value} {a' : Nat} {m' : Int} {R' : Wk} {P' : Pg}, Calls Tryz.prog 122 #[.pointer (some ⟨b, 0, none⟩), .pointer (some ⟨c, 0, none⟩)] w (au w b c t d p v g a' m' L R' P') → Calls Tryz.prog 83 #[.pointer (some ⟨b, 0, none⟩), .pointer (some ⟨c, 0, none⟩)] w (au w b c t d p v g a' m' L R' P') := fun hn => fZ h.sw h.cl (by rw [hk]; decide) hrd (NP h.sw hk hn)
 by_cases hid : R.ag.id < 1 ∨ (M.L.length : Int) < R.ag.id
 ·rw [vK (toW R.ag) hid]
  exact bz (N := 999) bD (jl (wO h.sw 7 (by decide) (yg hid))) h.sw h.left rfl (by omega) (by omega) h.ws rfl rfl rfl
 ·have hi : (R.ag.id - 1).toNat < M.L.length := by omega
  have hmem := bA hi
  have eM := wT (M := M) hid
  by_cases hs : (M.L.getD (R.ag.id - 1).toNat default).st = 2
  ·have hE : bO M.L 0 R.ag.id (fun j : Jb => decide (j.state = 2)) = 0 := uy hid (decide_eq_true hs)
   have hr := Ik h.sw hE
   have eL : df (aj M).J 0 R.ag.id (fun j : Jb => decide (j.state = 2)) om = M.L.set (R.ag.id - 1).toNat ((M.L.getD (R.ag.id - 1).toNat default).setSt 1) := oH hE
   rw [eL, yh hid] at hr
   generalize hx : M.L.getD (R.ag.id - 1).toNat default = x at *
   have bo := h.inv.one _ hmem
   have bw := h.inv.mb.wid _ hmem
   have bl := h.inv.mb.lim _ hmem
   have bf := h.inv.mb.fin _ hmem
   have bn := h.inv.mb.bP _ hmem
   have hp : x.aL = -1 := h.inv.rest _ hmem (by omega)
   have hpl : ak (x.setSt 1) = false := by unfold ak; simp [show (x.setSt 1).aL = -1 from hp]
   have hI1 : aF { M with L := M.L.set (R.ag.id - 1).toNat (x.setSt 1) } :=
    h.inv.set (i := (R.ag.id - 1).toNat) (y := x.setSt 1) (h.inv.mb.set _ _ bw bl (by show -1 ≤ x.aL ∧ x.aL ≤ _; omega) bf bn) (by rw [hx]; rfl) ⟨bo.1, bo.2.1, bo.2.2.1, (show (1 : Int) ≤ 1 by omega), (show (1 : Int) ≤ 6 by omega)⟩ (fun _ => hp) (fun e => absurd (show (1 : Int) = 3 from e) (by decide)) (.inl hp) (h.inv.lq.set hi fun n e => by unfold aI at e; simp [Jb.setSt, Jb.st] at e)
     fun t ht => mI h.inv hi (by rw [hx]; exact ⟨fun e => absurd (show (1 : Int) = 3 from e) (by decide), fun e => by omega⟩) (by rw [hx]; rfl) (by rw [hx]; rfl) hpl t ht
   have hP : ({ aj M with J := M.L.set (R.ag.id - 1).toNat (x.setSt 1) } : Pg) = aj { M with L := M.L.set (R.ag.id - 1).toNat (x.setSt 1) } := by
    have h3 : ((x.setSt 1).st = 3) ↔ ((M.L.getD (R.ag.id - 1).toNat default).st = 3) := by rw [hx]; exact ⟨fun e => absurd (show (1 : Int) = 3 from e) (by decide), fun e => by omega⟩
    have e1 : dC M = dC { M with L := M.L.set (R.ag.id - 1).toNat (x.setSt 1) } := by
     refine oG (by rw [bG, bG]) fun n hn => ?_
     rw [dA, dA, oQ hi h3 (by rw [hx]; rfl)]
    have e2 : (fun t => ay M t 0) = fun t => ay { M with L := M.L.set (R.ag.id - 1).toNat (x.setSt 1) } t 0 := by
     funext t
     rw [qF hi h3 (by rw [hx]; rfl) (by rw [hx]; rfl), dP hpl, hx, dP (by unfold ak; simp [hp])]
     omega
    show Pg.mk _ _ (dC M) (fun t => ay M t 0) _ = _
    rw [e1, e2]
    rfl
   rw [hP] at hr
   have e : gm M (toW R.ag) = (mX (x.setSt 1), fC { M with L := M.L.set (R.ag.id - 1).toNat (x.setSt 1) } (x.setSt 1)) := by
    have hj : fD (toW R.ag).kind x = x.setSt 1 := by unfold fD; rw [show (toW R.ag).kind = 4 from hk]; rfl
    unfold gm
    rw [show (toW R.ag).id = R.ag.id from rfl, eM]
    refine (if_neg (fun e => nomatch e)).trans ((if_neg ?_).trans ((if_pos hk).trans ?_))
    ·show ¬ ((R.ag.kind = 3 ∧ x.st ≠ 1) ∨ (R.ag.kind = 4 ∧ x.st ≠ 2))
     omega
    ·show (mX (fD (toW R.ag).kind x), fC { M with L := M.L.set (R.ag.id - 1).toNat (fD (toW R.ag).kind x) } (fD (toW R.ag).kind x)) = _
     rw [hj]
   rw [e]
   refine (fT (N := 901) (k := 83) (k' := 138) bD (jl hr) h.sw h.left rfl fun w' v' g' hS' hw' => ?_).more (show 902 ≤ 1000 by decide)
   have hL : (M.L.set (R.ag.id - 1).toNat (x.setSt 1)).length = M.L.length := List.length_set
   have VT := Bv (x.setSt 1) (M.L.set (R.ag.id - 1).toNat (x.setSt 1))
   have hidx : x.id = (((R.ag.id - 1).toNat : Nat) : Int) + 1 := by rw [← hx]; exact h.inv.ids _ hi
   have := sZ (M := { M with L := M.L.set (R.ag.id - 1).toNat (x.setSt 1) }) (M' := fC { M with L := M.L.set (R.ag.id - 1).toNat (x.setSt 1) } (x.setSt 1)) (R := { ({ R with aD := x.setSt 1, rep := iX (x.setSt 1) } : Wk) with left := fP 138 }) (w0 := w0) (b := b) (c := c) (t := t) (d := d) (p := p) (v0 := v0) (g0 := g0) (mx := mx) rfl (by show x.id ≠ 0; omega) h.one (by show (M.L.set (R.ag.id - 1).toNat (x.setSt 1)).length ≤ 900; omega) h.hmx 900 (L := M.L.set (R.ag.id - 1).toNat (x.setSt 1)) rfl (by show hits (x.setSt 1) _ ≤ 900; omega) hI1 rfl hS' (by show a + 2 * hits (x.setSt 1) _ ≤ 800; omega) (by show m + (hits (x.setSt 1) _ : Nat) ≤ mx; omega) (h.ws.trans hw')
   rw [show ({ ({ R with aD := x.setSt 1, rep := iX (x.setSt 1) } : Wk) with left := fP 138 } : Wk).ok = false from h.ok] at this
   exact this
  ·have hE : bO M.L 0 R.ag.id (fun j : Jb => decide (j.state = 2)) = 8 := Bw hid (decide_eq_false hs)
   have e : gm M (toW R.ag) = (fJ 8, M) := by
    unfold gm
    rw [show (toW R.ag).id = R.ag.id from rfl, eM]
    exact (if_neg (fun e => nomatch e)).trans (if_pos (.inr ⟨hk, hs⟩))
   rw [e]
   exact bz (N := 999) bD (jl (wO h.sw 8 (by decide) hE)) h.sw h.left rfl (by omega) (by omega) h.ws rfl rfl rfl
end
end Go.Proofs.YtnihdgcfamoplaaGreat

namespace Go.Proofs.YtnihdgcfamoplaaGreat
open Go.RowKit Go.Lib Go.Sort
section
variable {w0 w : World} {b c t d p g g0 a N : Nat} {v v0 : Value} {m mx : Int} {P : Pg} {M M' : Md} {R : Wk} {Q : World → Prop}
theorem DW {i : Nat} {y : Jb} (hi : i < M.L.length) (hs : (M.L.getD i default).st ≠ 3) (hy : y.st ≠ 3) (hy2 : y.bP = (M.L.getD i default).bP) (hy3 : y.fin = (M.L.getD i default).fin) (hyp : ak y = false)
  (hI : aF M) (hI1 : aF { M with L := M.L.set i y }) (h1 : 1 ≤ M.dr.length) (hll : M.L.length ≤ 900) (ha : a ≤ 700) (hm : m + 1 ≤ mx) (hmx : mx ≤ 1000000)
  (h : SW w b c t d p v g a m R { aj M with J := M.L.set i y }) (hl : R.left = fP 142) (hj : R.aD = M.L.getD i default) (hw : WS w0 w b c t d p v0 g0 v g) :
  Goes b c (N + 1) w (Fin w0 b c t d p v0 g0 mx { M with L := M.L.set i y } R.rep R.ok) := by
 have hmem := bA hi
 have bo := hI.one _ hmem
 have bw := hI.mb.wid _ hmem
 have bl := hI.mb.lim _ hmem
 have bp := hI.mb.aL _ hmem
 have hst : (y.st = 3) ↔ ((M.L.getD i default).st = 3) := ⟨fun e => absurd e hy, fun e => absurd e hs⟩
 have dM := fA hI h1 hll
 have lQ := fA hI1 h1 (by rw [List.length_set]; exact hll)
 have rF : PK { aj M with J := M.L.set i y } := ⟨dM.now, lQ.few, lQ.st, lQ.lim, dM.qo, dM.f⟩
 have eT : dC M = dC { M with L := M.L.set i y } := by
  refine oG (by rw [bG, bG]) fun n hn => ?_
  rw [dA, dA, oQ hi hst hy2]
 have ef : ∀ t, ay { M with L := M.L.set i y } t 0 = ay M t 0 + dO t 0 (M.L.getD i default) := fun t => by
  rw [qF hi hst hy2 hy3, dP hyp]
  omega
 have eP : ∀ F : Int → Int, F = (fun t => ay { M with L := M.L.set i y } t 0) → ({ aj M with J := M.L.set i y, f := F } : Pg) = aj { M with L := M.L.set i y } := fun F hF => by
  show Pg.mk _ _ (dC M) F _ = _
  rw [eT, hF]
  rfl
 cases hp : ak (M.L.getD i default) with
 | true =>
  have hv := Fg h rF (by omega) (by omega) (by rw [hj]; exact hp) (by rw [hj]; exact bp.2) (by rw [hj]; exact bl) (by rw [hj]; exact bo.2.2.1) (by rw [hj]; exact bw) (fun t => ay { M with L := M.L.set i y } t 0) (fun t ht => by
   rw [hj]
   have hu := qR hI hi hp t
   rw [je hi, dP (j := (M.L.getD i default).aH (-1)) (by unfold ak; simp [Jb.aH, Jb.aL])] at hu
   show ay { M with L := M.L.set i y } t 0 = ay M t 0 + had (max (M.L.getD i default).aL M.now) ((M.L.getD i default).aL + (M.L.getD i default).lim) (M.L.getD i default).wid t
   rw [ef]
   omega) (fun t ht => lQ.f t ht)
  have e := eP (fun t => ay { M with L := M.L.set i y } t 0) rfl
  rw [e] at hv
  exact bz (a' := a + 2) (m' := m + 1) vJ hv h hl rfl (by omega) (by omega) hw rfl rfl rfl
 | false =>
  have hv := Fj h rF (by omega) (by omega) (by rw [hj]; exact hp) (by rw [hj]; exact hs) (by rw [hj]; exact bp.2) (by rw [hj]; exact bl)
  have e : ({ aj M with J := M.L.set i y } : Pg) = aj { M with L := M.L.set i y } := eP _ (by
   funext t
   rw [ef, dP hp]
   show ay M t 0 = _
   omega)
  rw [e] at hv
  exact bz (a' := a) (m' := m) vJ hv h hl rfl (by omega) (by omega) hw rfl rfl rfl
theorem KL (h : Bg w0 w b c t d p v0 g0 v g a m mx R M) (hk : R.ag.kind = 3) :
  Goes b c 1000 w (Fin w0 b c t d p v0 g0 mx (gm M (toW R.ag)).2 (jk (gm M (toW R.ag)).1) false) := by
 have hll := h.few
 have ha := h.ha
 have hm := h.hm
 have hrd : jG R.ag.kind = false := by rw [hk]; rfl
 have jl : ∀ {L : Value} {a' : Nat} {m' : Int} {R' : Wk} {P' : Pg}, Calls Tryz.prog 121 #[.pointer (some ⟨b, 0, none⟩), .pointer (some ⟨c, 0, none⟩)] w (au w b c t d p v g a' m' L R' P') → Calls Tryz.prog 83 #[.pointer (some ⟨b, 0, none⟩), .pointer (some ⟨c, 0, none⟩)] w (au w b c t d p v g a' m' L R' P') := fun hn => fZ h.sw h.cl (by rw [hk]; decide) hrd (NN h.sw hk hn)
 by_cases hid : R.ag.id < 1 ∨ (M.L.length : Int) < R.ag.id
 ·rw [vK (toW R.ag) hid]
  exact bz (N := 999) bD (jl (DF h.sw 7 (by decide) (yg hid))) h.sw h.left rfl (by omega) (by omega) h.ws rfl rfl rfl
 ·have hi : (R.ag.id - 1).toNat < M.L.length := by omega
  have eM := wT (M := M) hid
  by_cases hs : (M.L.getD (R.ag.id - 1).toNat default).st = 1
  ·have hE : bO M.L 0 R.ag.id (fun j : Jb => decide (j.state = 1)) = 0 := uy hid (decide_eq_true hs)
   have hr := Qs h.sw hE
   have eL : df (aj M).J 0 R.ag.id (fun j : Jb => decide (j.state = 1)) pI = M.L.set (R.ag.id - 1).toNat (((M.L.getD (R.ag.id - 1).toNat default).setSt 2).aH (-1)) := oH hE
   rw [eL, yh hid, show bM (aj M).J R.ag.id = M.L.getD (R.ag.id - 1).toNat default from tu hid] at hr
   have e : gm M (toW R.ag) = (mX (((M.L.getD (R.ag.id - 1).toNat default).setSt 2).aH (-1)), { M with L := M.L.set (R.ag.id - 1).toNat (((M.L.getD (R.ag.id - 1).toNat default).setSt 2).aH (-1)) }) := by
    have hj : fD (toW R.ag).kind (M.L.getD (R.ag.id - 1).toNat default) = ((M.L.getD (R.ag.id - 1).toNat default).setSt 2).aH (-1) := by unfold fD; rw [show (toW R.ag).kind = 3 from hk]; rfl
    have hk4 : ¬ (toW R.ag).kind = 4 := by rw [show (toW R.ag).kind = 3 from hk]; decide
    unfold gm
    rw [show (toW R.ag).id = R.ag.id from rfl, eM]
    refine (if_neg (fun e => nomatch e)).trans ((if_neg ?_).trans ((if_neg hk4).trans ?_))
    ·show ¬ ((R.ag.kind = 3 ∧ (M.L.getD (R.ag.id - 1).toNat default).st ≠ 1) ∨ (R.ag.kind = 4 ∧ (M.L.getD (R.ag.id - 1).toNat default).st ≠ 2))
     omega
    ·show (mX (fD (toW R.ag).kind (M.L.getD (R.ag.id - 1).toNat default)), { M with L := M.L.set (R.ag.id - 1).toNat (fD (toW R.ag).kind (M.L.getD (R.ag.id - 1).toNat default)) }) = _
     rw [hj]
   have hI1 := (h.inv.Eo h.calm (toW R.ag)).1
   rw [e] at hI1 ⊢
   refine (fT (N := 1) (k := 83) (k' := 142) bD (jl hr) h.sw h.left rfl fun w' v' g' hS' hw' => ?_).more (show 2 ≤ 1000 by decide)
   have := DW (N := 0) (mx := mx) (a := a) (m := m) (y := ((M.L.getD (R.ag.id - 1).toNat default).setSt 2).aH (-1)) hi (by rw [hs]; decide) (show (2 : Int) ≠ 3 by decide) rfl rfl (by unfold ak; rw [show (((M.L.getD (R.ag.id - 1).toNat default).setSt 2).aH (-1)).aL = -1 from rfl]; simp) h.inv hI1 h.one (by omega) (by omega) (by omega) h.hmx hS' rfl rfl (h.ws.trans hw')
   rw [show ({ ({ R with aD := M.L.getD (R.ag.id - 1).toNat default, rep := iX (((M.L.getD (R.ag.id - 1).toNat default).setSt 2).aH (-1)) } : Wk) with left := fP 142 } : Wk).ok = false from h.ok] at this
   exact this
  ·have hE : bO M.L 0 R.ag.id (fun j : Jb => decide (j.state = 1)) = 8 := Bw hid (decide_eq_false hs)
   have e : gm M (toW R.ag) = (fJ 8, M) := by
    unfold gm
    rw [show (toW R.ag).id = R.ag.id from rfl, eM]
    exact (if_neg (fun e => nomatch e)).trans (if_pos (.inl ⟨hk, hs⟩))
   rw [e]
   exact bz (N := 999) bD (jl (DF h.sw 8 (by decide) hE)) h.sw h.left rfl (by omega) (by omega) h.ws rfl rfl rfl
theorem wU (h : Bg w0 w b c t d p v0 g0 v g a m mx R M) (s : Int) (hk : (R.ag.kind = 2 ∧ s = 5) ∨ (R.ag.kind = 5 ∧ s = 4)) :
  Goes b c 1000 w (Fin w0 b c t d p v0 g0 mx (lU M (toW R.ag)).2 (jk (lU M (toW R.ag)).1) false) := by
 have hll := h.few
 have ha := h.ha
 have hm := h.hm
 have kg := h.inv.mb.now
 have dM := fA h.inv h.one (by omega)
 have hrd : jG R.ag.kind = false := by rcases hk with ⟨hk, _⟩ | ⟨hk, _⟩ <;> (rw [hk]; rfl)
 have jl : ∀ {L : Value} {a' : Nat} {m' : Int} {R' : Wk} {P' : Pg}, Calls Tryz.prog 120 #[.pointer (some ⟨b, 0, none⟩), .pointer (some ⟨c, 0, none⟩), .int .i64 s] w (au w b c t d p v g a' m' L R' P') → Calls Tryz.prog 83 #[.pointer (some ⟨b, 0, none⟩), .pointer (some ⟨c, 0, none⟩)] w (au w b c t d p v g a' m' L R' P') := fun hn => by
  rcases hk with ⟨hk, rfl⟩ | ⟨hk, rfl⟩
  ·exact fZ h.sw h.cl (by rw [hk]; decide) hrd (NL h.sw hk hn)
  ·exact fZ h.sw h.cl (by rw [hk]; decide) hrd (NM h.sw hk hn)
 have Ul : bF s M.now = 0 := by unfold bF; (repeat' split) <;> omega
 by_cases hid : R.ag.id < 1 ∨ (M.L.length : Int) < R.ag.id
 ·rw [NW (toW R.ag) hid]
  exact bz (N := 999) bD (jl (yY h.sw dM s 7 (by decide) (by rw [show (aj M).now = M.now from rfl, Ul]; exact yg hid))) h.sw h.left rfl (by omega) (by omega) h.ws rfl rfl rfl
 ·have hi : (R.ag.id - 1).toNat < M.L.length := by omega
  have hmem := bA hi
  have bo := h.inv.one _ hmem
  have eM := wT (M := M) hid
  by_cases hs : fq s (M.L.getD (R.ag.id - 1).toNat default) = true
  ·have hE : bO (aj M).J (bF s (aj M).now) R.ag.id (fq s) = 0 := by rw [show (aj M).now = M.now from rfl, Ul]; exact uy hid hs
   have hr := Kj h.sw dM s hE
   obtain ⟨y, NY⟩ : ∃ y, y = iO M R.ag.kind (M.L.getD (R.ag.id - 1).toNat default) := ⟨_, rfl⟩
   have hyj : bQ s M.now (M.L.getD (R.ag.id - 1).toNat default) = y := by
    rw [NY]
    unfold iO bQ
    have es : (if R.ag.kind = 5 then (4 : Int) else 5) = s := by split <;> omega
    rw [es]
    by_cases e3 : (M.L.getD (R.ag.id - 1).toNat default).st = 3
    ·rw [if_pos e3, if_pos (show (M.L.getD (R.ag.id - 1).toNat default).2.2.2.2.2.1 = 3 from e3)]; rfl
    ·rw [if_neg e3, if_neg (show ¬ (M.L.getD (R.ag.id - 1).toNat default).2.2.2.2.2.1 = 3 from e3)]; rfl
   have eL : df (aj M).J (bF s (aj M).now) R.ag.id (fq s) (bQ s (aj M).now) = M.L.set (R.ag.id - 1).toNat y := (oH hE).trans (by rw [← hyj]; rfl)
   rw [eL, yh hid, show bM (aj M).J R.ag.id = M.L.getD (R.ag.id - 1).toNat default from tu hid] at hr
   have hok : ¬ (3 < (M.L.getD (R.ag.id - 1).toNat default).st ∨ (R.ag.kind = 5 ∧ (M.L.getD (R.ag.id - 1).toNat default).st ≠ 3)) := by
    unfold fq at hs
    rw [Bool.or_eq_true, Bool.and_eq_true, decide_eq_true_iff, decide_eq_true_iff, decide_eq_true_iff] at hs
    have : (M.L.getD (R.ag.id - 1).toNat default).state = (M.L.getD (R.ag.id - 1).toNat default).st := rfl
    omega
   have e : lU M (toW R.ag) = (mX y, { M with L := M.L.set (R.ag.id - 1).toNat y }) := by
    unfold lU
    rw [show (toW R.ag).id = R.ag.id from rfl, eM]
    refine (if_neg (fun e => nomatch e)).trans ((if_neg hok).trans ?_)
    rw [NY]
    rfl
   have hI1 := (h.inv.K6 h.calm (toW R.ag)).1
   rw [e] at hI1 ⊢
   have hy3 : y.st ≠ 3 := by
    rw [NY]
    show (if R.ag.kind = 5 then (4 : Int) else 5) ≠ 3
    split <;> omega
   have hyp : ak y = false := by
    unfold ak
    rw [show y.aL = -1 by rw [NY]; rfl]
    simp
   have Um : y.bP = (M.L.getD (R.ag.id - 1).toNat default).bP := by rw [NY]; unfold iO; split <;> rfl
   refine (fT (N := 2) (k := 83) (k' := 140) bD (jl hr) h.sw h.left rfl fun w' v' g' hS' hw' => ?_).more (show 3 ≤ 1000 by decide)
   clear NY hyj
   have lQ := fA hI1 h.one (by rw [List.length_set]; omega)
   by_cases h3 : (M.L.getD (R.ag.id - 1).toNat default).st = 3
   ·have hrn := h.inv.runs _ hmem h3
    have K7 := h.inv.mb.bP _ hmem
    have hfin := h.inv.mb.fin _ hmem
    have hlt := h.calm.runs _ hmem h3
    have hg := Nn hS' ⟨dM.now, lQ.few, lQ.st, lQ.lim, dM.qo, dM.f⟩ h3 K7
    obtain ⟨n, hn⟩ : ∃ n : Int, n = ((List.range M.dr.length).countP (fun k => dm (M.L.getD (R.ag.id - 1).toNat default).bP.toNat k && !(M.dr.getD k false)) : Nat) := ⟨_, rfl⟩
    have hn2 : 0 ≤ n ∧ n ≤ 64 := by
     have h4 := List.countP_le_length (p := fun k => dm (M.L.getD (R.ag.id - 1).toNat default).bP.toNat k && !(M.dr.getD k false)) (l := List.range M.dr.length)
     rw [List.length_range] at h4
     have := h.inv.mb.nn
     omega
    refine fT (N := 1) (k := 140) (k' := 142) (a' := a) (m' := m)
     (R' := { ({ ({ R with aD := M.L.getD (R.ag.id - 1).toNat default, rep := iX y } : Wk) with left := fP 140 } : Wk) with idle := n }) (P' := { aj M with J := M.L.set (R.ag.id - 1).toNat y, T := dC { M with L := M.L.set (R.ag.id - 1).toNat y } })
     IG (hg.mono fun e w' hp => ?_) hS' rfl rfl fun w2 v2 g2 hS2 hw2 => ?_
    ·obtain ⟨n', x', T', h5, h6⟩ := hp
     obtain ⟨h7, _, h8⟩ := Du h.inv hi h3 hy3 h5
     rw [← hn] at h7
     subst h7 h8
     exact h6
    ·have hv := Ib hS2 ⟨dM.now, lQ.few, lQ.st, lQ.lim, lQ.qo, dM.f⟩ (by omega) (by have := h.hmx; omega) h3 (h.inv.mb.aL _ hmem).2 (h.inv.mb.lim _ hmem) ⟨hlt, hfin.2⟩ (by show -64 ≤ n ∧ n ≤ 64; omega) (fun t => ay { M with L := M.L.set (R.ag.id - 1).toNat y } t 0) (fun t ht => by
      have hf := qH h.inv.lq hi h3 hy3 hyp t 0
      show ay { M with L := M.L.set (R.ag.id - 1).toNat y } t 0 = ay M t 0 + had (max M.now M.now) (M.L.getD (R.ag.id - 1).toNat default).fin n t
      have ht' : M.now ≤ t := ht
      unfold had
      by_cases c1 : t < (M.L.getD (R.ag.id - 1).toNat default).fin
      ·rw [if_pos c1] at hf
       rw [if_pos ⟨by omega, .inl c1⟩, hf, hn]
      ·rw [if_neg c1] at hf
       rw [if_neg (by omega), hf]
       rfl) (fun t ht => lQ.f t ht)
     exact bz (N := 0) vJ hv hS2 rfl rfl (by omega) (by omega) ((h.ws.trans hw').trans hw2) rfl rfl h.ok
   ·have hg := Qe hS' h3
    refine fT (N := 1) (k := 140) (k' := 142) IG hg hS' rfl rfl fun w2 v2 g2 hS2 hw2 => ?_
    have Xb : y.fin = (M.L.getD (R.ag.id - 1).toNat default).fin := by
     have : y = bQ s M.now (M.L.getD (R.ag.id - 1).toNat default) := by
      have := congrArg (fun l : List Jb => l.getD (R.ag.id - 1).toNat default) eL
      rw [show df (aj M).J (bF s (aj M).now) R.ag.id (fq s) (bQ s (aj M).now) = M.L.set (R.ag.id - 1).toNat (bQ s M.now (M.L.getD (R.ag.id - 1).toNat default)) from oH hE] at this
      simp only [gF] at this
      rw [if_pos ⟨trivial, hi⟩, if_pos ⟨trivial, hi⟩] at this
      exact this.symm
     rw [this]
     show (if (M.L.getD (R.ag.id - 1).toNat default).2.2.2.2.2.1 = 3 then M.now else _) = _
     rw [if_neg (show ¬ (M.L.getD (R.ag.id - 1).toNat default).2.2.2.2.2.1 = 3 from h3)]
     rfl
    have := DW (N := 0) (mx := mx) (a := a) (m := m) (y := y) hi h3 hy3 Um Xb hyp h.inv hI1 h.one (by omega) (by omega) (by omega) h.hmx hS2 rfl rfl ((h.ws.trans hw').trans hw2)
    rw [show ({ ({ ({ R with aD := M.L.getD (R.ag.id - 1).toNat default, rep := iX y } : Wk) with left := fP 140 } : Wk) with left := fP 142 } : Wk).ok = false from h.ok] at this
    exact this
  ·rw [Bool.not_eq_true] at hs
   have hE : bO M.L (bF s M.now) R.ag.id (fq s) = 8 := by rw [Ul]; exact Bw hid hs
   have hno : 3 < (M.L.getD (R.ag.id - 1).toNat default).st ∨ (R.ag.kind = 5 ∧ (M.L.getD (R.ag.id - 1).toNat default).st ≠ 3) := by
    unfold fq at hs
    rw [Bool.or_eq_false_iff, Bool.and_eq_false_iff, decide_eq_false_iff_not, decide_eq_false_iff_not, decide_eq_false_iff_not] at hs
    have : (M.L.getD (R.ag.id - 1).toNat default).state = (M.L.getD (R.ag.id - 1).toNat default).st := rfl
    omega
   have e : lU M (toW R.ag) = (fJ 8, M) := by
    unfold lU
    rw [show (toW R.ag).id = R.ag.id from rfl, eM]
    exact (if_neg (fun e => nomatch e)).trans (if_pos hno)
   rw [e]
   exact bz (N := 999) bD (jl (yY h.sw dM s 8 (by decide) hE)) h.sw h.left rfl (by omega) (by omega) h.ws rfl rfl rfl
end
end Go.Proofs.YtnihdgcfamoplaaGreat

namespace Go.Proofs.YtnihdgcfamoplaaGreat
open Go.RowKit Go.Lib Go.Sort
section
variable {w0 w : World} {b c t d p g g0 a N : Nat} {v v0 : Value} {m mx : Int} {P : Pg} {M M' : Md} {R : Wk} {Q : World → Prop}
theorem QI {k : Nat} (hk : k < 64) (L : List Jb) : (holderL L k < 0 ∧ kK L k = iA) ∨ ∃ i : Nat, holderL L k = i ∧ i < L.length ∧ kK L k = L.getD i default ∧ (L.getD i default).st = 3 := by
 have e : (fun j : Jb => decide (j.state ∈ [(3 : Int)]) && DD (k : Int) j) = aI k := by
  funext j
  unfold aI DD
  rw [nL hk, kP]
  have : (j.state ∈ [(3 : Int)]) ↔ (j.st = 3) := List.mem_singleton
  rw [decide_eq_decide.2 this]
 have e2 : kK L (k : Int) = match L.findIdx? (aI k) with | some i => L.getD i default | none => iA := by
  unfold kK
  rw [e]
  cases L.findIdx? (aI k) <;> rfl
 rcases fH L k with h | ⟨i, h, hi, h2⟩
 ·refine .inl ⟨h, ?_⟩
  rw [e2]
  unfold holderL at h
  cases hf : L.findIdx? (aI k) with
  | none => rfl
  | some i => rw [hf] at h; simp only at h; omega
 ·refine .inr ⟨i, h, hi, ?_, by unfold aI at h2; simp at h2; exact h2.1⟩
  rw [e2]
  unfold holderL at h
  cases hf : L.findIdx? (aI k) with
  | none => rw [hf] at h; simp only at h; omega
  | some q =>
   rw [hf] at h
   simp only at h
   have : q = i := by omega
   subst this
   rfl
theorem vL {k : Nat} {bb : Bool} (hk : k < M.dr.length) (hb : M.dr.getD k false = !bb) (hI : aF M) (hC : ∀ j ∈ M.L, j.st = 3 → M.now < j.fin) (h1 : 1 ≤ M.dr.length) (hll : M.L.length ≤ 900)
  (hI' : aF { M with dr := M.dr.set k bb }) (hn : R.ag.node = k) (ha : a ≤ 800) (hm : m ≤ 1000000) {by' : Int} (hby : by' = if bb then -1 else 1)
  (h : SW w b c t d p v g a m R { aj M with T := dC { M with dr := M.dr.set k bb } }) :
  Calls Tryz.prog 145 #[.pointer (some ⟨b, 0, none⟩), .pointer (some ⟨c, 0, none⟩), .int .i64 0, .int .i64 by'] w
   (au w b c t d p v g (a + 2) (m + 1) .nilFunc { R with rep := ⟨0, (k : Int), aU { M with dr := M.dr.set k bb } k, 0, 0, 0, 0, 0, 0⟩ } (aj { M with dr := M.dr.set k bb })) := by
 have hnn := hI.mb.nn
 have kg := hI.mb.now
 have dM := fA hI h1 hll
 have lQ := fA hI' (by show 1 ≤ (M.dr.set k bb).length; rw [List.length_set]; exact h1) hll
 have hX : (max (ik (aj M) (k : Int)) M.now < 1152921504606846976) ∧ ∀ u, M.now ≤ u → ((decide (holderL M.L k < 0) || decide ((M.L.getD (holderL M.L k).toNat default).fin ≤ u)) = decide (max (ik (aj M) (k : Int)) M.now ≤ u)) := by
  rcases QI (show k < 64 by omega) M.L with ⟨g1, g2⟩ | ⟨i, g1, hi, g2, g3⟩
  ·have e : ik (aj M) (k : Int) = M.now := by
    unfold ik
    rw [show (aj M).J = M.L from rfl, g2]
    rfl
   rw [e]
   refine ⟨by omega, fun u hu => ?_⟩
   rw [decide_eq_true g1, Bool.true_or]
   exact (decide_eq_true (by omega)).symm
  ·have hf := hC _ (bA hi) g3
   have hf2 := hI.mb.fin _ (bA hi)
   have e : ik (aj M) (k : Int) = max (M.L.getD i default).fin (M.now + 1) := by
    unfold ik
    rw [show (aj M).J = M.L from rfl, g2, if_pos g3]
    rfl
   rw [e, g1, Int.toNat_natCast]
   refine ⟨by omega, fun u hu => ?_⟩
   rw [decide_eq_false (show ¬ ((i : Int) < 0) by omega), Bool.false_or]
   exact decide_eq_decide.2 (by omega)
 have Xc : pO (dC { M with dr := M.dr.set k bb }) (k : Int) = aU { M with dr := M.dr.set k bb } k := by
  unfold pO
  rw [if_pos ⟨by omega, by rw [bG]; show (k : Int) < ((M.dr.set k bb).length : Nat); rw [List.length_set]; omega⟩, Int.toNat_natCast, dA]
 have hv := Kk (by' := by') h ⟨dM.now, dM.few, dM.st, dM.lim, lQ.qo, dM.f⟩ ha hm hI.mb.bP (by omega) (by rw [hby]; split <;> omega) (fun u => ay { M with dr := M.dr.set k bb } u 0) (fun u hu => by
  have hu' : M.now ≤ u := hu
  have hd := vX hk bb u 0
  have hx := hX.2 u hu'
  rw [hn]
  show ay { M with dr := M.dr.set k bb } u 0 = ay M u 0 + had (max (ik (aj M) (k : Int)) M.now) 1152921504606846976 by' u
  have hnf : bW M u k = (!(M.dr.getD k false) && decide (max (ik (aj M) (k : Int)) M.now ≤ u)) := by rw [← hx]; rfl
  have hh : had (max (ik (aj M) (k : Int)) M.now) 1152921504606846976 by' u = if max (ik (aj M) (k : Int)) M.now ≤ u then by' else 0 := by unfold had; simp
  rw [hd, hnf, hx, hb, hh, hby]
  by_cases c1 : max (ik (aj M) (k : Int)) M.now ≤ u
  ·rw [decide_eq_true c1, if_pos c1]
   cases bb <;> simp <;> omega
  ·rw [decide_eq_false c1, if_neg c1]
   cases bb <;> simp) (fun u hu => lQ.f u hu) (by
  rw [hn]
  have : ik { aj M with T := dC { M with dr := M.dr.set k bb } } (k : Int) = ik (aj M) (k : Int) := rfl
  rw [this]
  omega)
 rw [hn, show ({ aj M with T := dC { M with dr := M.dr.set k bb } } : Pg).T = dC { M with dr := M.dr.set k bb } from rfl, Xc] at hv
 exact hv
theorem drain_eq {n : Nat} (h : dV kY M.L = none) : fI M n true = { M with dr := M.dr.set n true } := by
 unfold fI
 rw [if_pos rfl, qK h]
theorem vM {k : Nat} (hk : k < M.dr.length) {bb : Bool} (hb : M.dr.getD k false = !bb) : mF (dC M) (k : Int) bb 0 (dC { M with dr := M.dr.set k bb }) := by
 have hd : bb = decide ((dC M).getD (k : Int).toNat 0 < 3) := by
  rw [Int.toNat_natCast, dA, fo hk, hb]
  cases bb <;> (by_cases h1 : 0 ≤ holderL M.L k <;> simp [h1])
 have hc : mF (dC M) (k : Int) bb 0 ((dC M).set (k : Int).toNat (kr ((dC M).getD (k : Int).toNat 0))) :=
  ⟨fun h => absurd h (by rw [bG]; omega), fun _ _ h => absurd hd h, fun _ _ _ => ⟨rfl, rfl⟩⟩
 have e := (Hm hk hb hc).2
 rw [e] at hc
 exact hc
theorem Fz (h : Bg w0 w b c t d p v0 g0 v g a m mx R M) (hk : R.ag.kind = 8) (hnd : -9223372036854775808 ≤ R.ag.node ∧ R.ag.node ≤ 9223372036854775807) :
  Goes b c 1000 w (Fin w0 b c t d p v0 g0 mx (iw M (toW R.ag)).2 (jk (iw M (toW R.ag)).1) false) := by
 have hll := h.few
 have ha := h.ha
 have hm := h.hm
 have hmx := h.hmx
 have dM := fA h.inv h.one (by omega)
 have hrd : jG R.ag.kind = false := by rw [hk]; rfl
 have jl : ∀ {L : Value} {a' : Nat} {m' : Int} {R' : Wk} {P' : Pg}, Calls Tryz.prog 124 #[.pointer (some ⟨b, 0, none⟩), .pointer (some ⟨c, 0, none⟩)] w (au w b c t d p v g a' m' L R' P') → Calls Tryz.prog 83 #[.pointer (some ⟨b, 0, none⟩), .pointer (some ⟨c, 0, none⟩)] w (au w b c t d p v g a' m' L R' P') := fun hn => fZ h.sw h.cl (by rw [hk]; decide) hrd (NR h.sw hk hn)
 have hd7 : decide ((toW R.ag).kind = 7) = false := decide_eq_false (by rw [show (toW R.ag).kind = 8 from hk]; decide)
 by_cases ho : R.ag.node < 0 ∨ (M.dr.length : Int) ≤ R.ag.node
 ·have e : iw M (toW R.ag) = (fJ 11, M) := if_pos ho
  have hT : mF (dC M) R.ag.node false 11 (dC M) := ⟨fun _ => ⟨rfl, rfl⟩, fun h1 h2 => by rw [bG] at h2; omega, fun h1 h2 => by rw [bG] at h2; omega⟩
  rw [e]
  refine bz (N := 999) (a' := a) (m' := m) (R' := { R with rep := ku 11, ok := false }) bD (jl (resume_fn (P' := aj M) h.sw dM hnd hT fun W v1 g1 hW => ?_)) h.sw h.left rfl (by omega) (by omega) h.ws rfl rfl rfl
  exact DI hW 11 1 (by decide)
 ·obtain ⟨k, hkk⟩ := Int.eq_ofNat_of_zero_le (show 0 ≤ R.ag.node by omega)
  have hk2 : k < M.dr.length := by omega
  cases hdr : M.dr.getD k false with
  | false =>
   have e : iw M (toW R.ag) = (fJ 8, M) := by
    unfold iw
    refine (if_neg ho).trans (if_pos ?_)
    rw [hd7, show (toW R.ag).node = R.ag.node from rfl, hkk, Int.toNat_natCast, hdr]
   have hs : (dC M).getD R.ag.node.toNat 0 < 3 := by
    rw [hkk, Int.toNat_natCast, dA, fo hk2, hdr]
    split <;> simp
   have hT : mF (dC M) R.ag.node false 8 (dC M) := ⟨fun h1 => by rw [bG] at h1; omega, fun _ _ _ => ⟨rfl, rfl⟩, fun _ _ h3 => by rw [decide_eq_true hs] at h3; cases h3⟩
   rw [e]
   refine bz (N := 999) (a' := a) (m' := m) (R' := { R with rep := ku 8, ok := false }) bD (jl (resume_fn (P' := aj M) h.sw dM hnd hT fun W v1 g1 hW => ?_)) h.sw h.left rfl (by omega) (by omega) h.ws rfl rfl rfl
   exact DI hW 8 1 (by decide)
  | true =>
   have e : iw M (toW R.ag) = ((0, (k : Int), aU { M with dr := M.dr.set k false } (k : Int), 0, 0, 0, 0, 0, 0), { M with dr := M.dr.set k false }) := by
    unfold iw
    refine (if_neg ho).trans ((if_neg ?_).trans ?_)
    ·rw [hd7, show (toW R.ag).node = R.ag.node from rfl, hkk, Int.toNat_natCast, hdr]
     exact fun e => nomatch e
    ·rw [hd7, show (toW R.ag).node = R.ag.node from rfl, hkk, Int.toNat_natCast]
     rfl
   have hI' := (h.inv.Jd h.calm (toW R.ag)).1
   rw [e] at hI' ⊢
   have hT := vM hk2 (bb := false) hdr
   rw [← hkk] at hT
   refine bz (N := 999) bD (jl (resume_fn h.sw dM hnd hT fun W v1 g1 hW => vL (bb := false) (by' := 1) hk2 hdr h.inv h.calm.runs h.one (by omega) hI' hkk (by omega) (by omega) rfl hW)) h.sw h.left rfl (by omega) (by omega) h.ws rfl rfl h.ok
theorem II {k : Nat} (hl : R.left = fP 144) (hkk : R.ag.node = k) (hk : k < M.dr.length) (hdr : M.dr.getD k false = false) (h1 : 1 ≤ M.dr.length) (hll : M.L.length ≤ 900) (hmx : mx ≤ 1000000) (hI' : aF (fI M k true)) (q : Nat) :
  ∀ {L : List Jb} {w : World} {v : Value} {g a : Nat} {m : Int}, L.length = M.L.length → hits kY L ≤ q → aF { M with L := L } → (∀ j ∈ L, j.st = 3 → M.now < j.fin) → fC { M with L := L } kY = fC M kY → SW w b c t d p v g a m R (aj { M with L := L }) → a + 2 * hits kY L + 2 ≤ 800 → m + hits kY L + 1 ≤ mx → WS w0 w b c t d p v0 g0 v g →
   Goes b c (q + 1) w (Fin w0 b c t d p v0 g0 mx (fI M k true) ⟨0, (k : Int), aU (fI M k true) k, 0, 0, 0, 0, 0, 0⟩ R.ok) := by
 have last : ∀ {L : List Jb} {w : World} {v : Value} {g a : Nat} {m : Int} (q : Nat), L.length = M.L.length → dV kY L = none → aF { M with L := L } → (∀ j ∈ L, j.st = 3 → M.now < j.fin) → fC { M with L := L } kY = fC M kY → SW w b c t d p v g a m R (aj { M with L := L }) → a + 2 ≤ 800 → m + 1 ≤ mx → WS w0 w b c t d p v0 g0 v g →
   Goes b c (q + 1) w (Fin w0 b c t d p v0 g0 mx (fI M k true) ⟨0, (k : Int), aU (fI M k true) k, 0, 0, 0, 0, 0, 0⟩ R.ok) := by
  intro L w v g a m q hL ho hI hC hM hS ha hm hw
  have eD : fI M k true = { M with L := L, dr := M.dr.set k true } := by
   have h2 := qK (M := { M with L := L }) ho
   rw [h2] at hM
   unfold fI
   rw [if_pos rfl, ← hM]
  rw [eD] at hI' ⊢
  have hT := vM (M := { M with L := L }) (k := k) hk (bb := true) hdr
  rw [← hkk] at hT
  refine bz (N := q) DU (za (M := { M with L := L }) hS (fA hI h1 (by show L.length ≤ 900; omega)) rfl hI h1 (by show L.length ≤ 900; omega) (by omega) (by omega) ho (by have := hI.mb.nn; have : M.dr.length ≤ 64 := this; omega) hT fun W v1 g1 hW => vL (M := { M with L := L }) (bb := true) (by' := -1) hk hdr hI hC h1 (by show L.length ≤ 900; omega) hI' hkk (by omega) (by omega) rfl hW) hS hl rfl (by omega) (by omega) hw rfl rfl rfl
 induction q with
 | zero =>
  intro L w v g a m hL hq hI hC hM hS ha hm hw
  cases ho : dV kY L with
  | none => exact last 0 hL ho hI hC hM hS (by omega) (by omega) hw
  | some i =>
   have := (jB (L := L) ho).2.2.2.2
   omega
 | succ q ih =>
  intro L w v g a m hL hq hI hC hM hS ha hm hw
  cases ho : dV kY L with
  | none => exact last (q + 1) hL ho hI hC hM hS (by omega) (by omega) hw
  | some i =>
   obtain ⟨hi, _, _, _, hh⟩ := jB ho
   refine fT (k := 144) (k' := 144) DU (zb (M := { M with L := L }) hS hI h1 (by show L.length ≤ 900; omega) (by omega) (by omega) ho) hS hl rfl fun w' v' g' hS' hw' => ?_
   rw [← hl] at hS'
   refine ih (L := L.set i ((L.getD i default).aH (-1))) (by rw [List.length_set]; exact hL) (by omega) (hI.wo hi) (fun j hj => ?_) ((uV (M := { M with L := L }) ho).trans hM) hS' (by omega) (by omega) (hw.trans hw')
   rcases List.mem_or_eq_of_mem_set hj with h2 | rfl
   ·exact hC j h2
   ·exact fun hs => hC (L.getD i default) (bA hi) hs
theorem IJ (h : Bg w0 w b c t d p v0 g0 v g a m mx R M) (hk : R.ag.kind = 7) (hnd : -9223372036854775808 ≤ R.ag.node ∧ R.ag.node ≤ 9223372036854775807) :
  Goes b c 1000 w (Fin w0 b c t d p v0 g0 mx (iw M (toW R.ag)).2 (jk (iw M (toW R.ag)).1) false) := by
 have hll := h.few
 have ha := h.ha
 have hm := h.hm
 have hmx := h.hmx
 have dM := fA h.inv h.one (by omega)
 have hrd : jG R.ag.kind = false := by rw [hk]; rfl
 have jl : ∀ {L : Value} {a' : Nat} {m' : Int} {R' : Wk} {P' : Pg}, Calls Tryz.prog 123 #[.pointer (some ⟨b, 0, none⟩), .pointer (some ⟨c, 0, none⟩)] w (au w b c t d p v g a' m' L R' P') → Calls Tryz.prog 83 #[.pointer (some ⟨b, 0, none⟩), .pointer (some ⟨c, 0, none⟩)] w (au w b c t d p v g a' m' L R' P') := fun hn => fZ h.sw h.cl (by rw [hk]; decide) hrd (NQ h.sw hk hn)
 have hd7 : decide ((toW R.ag).kind = 7) = true := decide_eq_true hk
 by_cases ho : R.ag.node < 0 ∨ (M.dr.length : Int) ≤ R.ag.node
 ·have e : iw M (toW R.ag) = (fJ 11, M) := if_pos ho
  rw [e]
  exact bz (N := 999) bD (jl (DR h.sw dM hnd 11 (.inl ⟨by
   unfold pO
   rw [if_neg (by rw [show (aj M).T = dC M from rfl, bG]; omega)], rfl⟩))) h.sw h.left rfl (by omega) (by omega) h.ws rfl rfl rfl
 ·obtain ⟨k, hkk⟩ := Int.eq_ofNat_of_zero_le (show 0 ≤ R.ag.node by omega)
  have hk2 : k < M.dr.length := by omega
  have est : pO (aj M).T R.ag.node = aU M (k : Int) := by
   unfold pO
   rw [if_pos ⟨by omega, by rw [show (aj M).T = dC M from rfl, bG]; omega⟩, hkk, Int.toNat_natCast]
   exact dA k
  cases hdr : M.dr.getD k false with
  | true =>
   have e : iw M (toW R.ag) = (fJ 8, M) := by
    unfold iw
    refine (if_neg ho).trans (if_pos ?_)
    rw [hd7, show (toW R.ag).node = R.ag.node from rfl, hkk, Int.toNat_natCast, hdr]
   rw [e]
   exact bz (N := 999) bD (jl (DR h.sw dM hnd 8 (.inr ⟨by
    rw [est, fo hk2, hdr]
    split <;> simp, rfl⟩))) h.sw h.left rfl (by omega) (by omega) h.ws rfl rfl rfl
  | false =>
   have e : iw M (toW R.ag) = ((0, (k : Int), aU (fI M k true) (k : Int), 0, 0, 0, 0, 0, 0), fI M k true) := by
    unfold iw
    refine (if_neg ho).trans ((if_neg ?_).trans ?_)
    ·rw [hd7, show (toW R.ag).node = R.ag.node from rfl, hkk, Int.toNat_natCast, hdr]
     exact fun e => nomatch e
    ·rw [hd7, show (toW R.ag).node = R.ag.node from rfl, hkk, Int.toNat_natCast]
   have hI' := (h.inv.Jd h.calm (toW R.ag)).1
   rw [e] at hI' ⊢
   have hst : pO (aj M).T R.ag.node = 1 ∨ pO (aj M).T R.ag.node = 2 := by
    rw [est, fo hk2, hdr]
    split <;> simp
   have VT := Bv kY M.L
   cases hz : dV kY M.L with
   | none =>
    have eD := drain_eq (n := k) hz
    have hI2 : aF { M with dr := M.dr.set k true } := by rw [← eD]; exact hI'
    have hT := vM hk2 (bb := true) hdr
    rw [← hkk] at hT
    show Goes b c 1000 w (Fin w0 b c t d p v0 g0 mx (fI M k true) ⟨0, (k : Int), aU (fI M k true) k, 0, 0, 0, 0, 0, 0⟩ false)
    rw [eD]
    refine bz (N := 999) bD (jl (DN h.sw dM hnd hst fun W hW => za hW dM rfl h.inv h.one (by omega) (by omega) (by omega) hz hnd hT fun W2 v1 g1 hW2 => vL (bb := true) (by' := -1) hk2 hdr h.inv h.calm.runs h.one (by omega) hI2 hkk (by omega) (by omega) rfl hW2)) h.sw h.left rfl (by omega) (by omega) h.ws rfl rfl h.ok
   | some i =>
    obtain ⟨hi, _, _, _, hh⟩ := jB hz
    refine (fT (N := 901) (k := 83) (k' := 144) bD (jl (DN h.sw dM hnd hst fun W hW => zb hW h.inv h.one (by omega) (by omega) (by omega) hz)) h.sw h.left rfl fun w' v' g' hS' hw' => ?_).more (show 902 ≤ 1000 by decide)
    have := II (M := M) (R := { R with left := fP 144 }) (w0 := w0) (b := b) (c := c) (t := t) (d := d) (p := p) (v0 := v0) (g0 := g0) (mx := mx) (k := k) rfl hkk hk2 hdr h.one (by omega) hmx hI' 900 (L := M.L.set i ((M.L.getD i default).aH (-1))) (by rw [List.length_set]) (by omega) (h.inv.wo hi) (fun j hj => by
     rcases List.mem_or_eq_of_mem_set hj with h2 | rfl
     ·exact h.calm.runs j h2
     ·exact fun hs => h.calm.runs (M.L.getD i default) (bA hi) hs) (uV hz) hS' (by omega) (by omega) (h.ws.trans hw')
    rw [show ({ R with left := fP 144 } : Wk).ok = false from h.ok] at this
    exact this
end
end Go.Proofs.YtnihdgcfamoplaaGreat

namespace Go.Proofs.YtnihdgcfamoplaaGreat
open Go.RowKit Go.Lib Go.Sort
section
variable {M : Md}
theorem Early.set (h : Early M) {i : Nat} {y : Jb} (hy : y.st ≤ 2 → y.fin = -1) : Early { M with L := M.L.set i y } := fun j hj => by
 rcases List.mem_or_eq_of_mem_set hj with h1 | rfl
 ·exact h j h1
 ·exact hy
theorem Early.map (h : Early M) {f : Jb → Jb} (hf : ∀ j : Jb, (j.st ≤ 2 → j.fin = -1) → ((f j).st ≤ 2 → (f j).fin = -1)) : Early { M with L := M.L.map f } := fun j hj => by
 obtain ⟨x, hx, rfl⟩ := List.mem_map.1 hj
 exact hf x (h x hx)
theorem Early.drop (h : Early M) (j : Jb) : Early (fC M j) := h.map fun x hx => by
 unfold gU
 split
 ·exact hx
 ·exact hx
theorem Early.begin (h : Early M) (i : Nat) : Early (bq M i) := h.set fun hs => absurd hs (show ¬ (3 : Int) ≤ 2 by decide)
theorem Early.starts (n : Nat) (h : Early M) : Early (startGo n M) := by
 induction n generalizing M with
 | zero => exact h
 | succ n ih =>
  unfold startGo
  split
  ·exact ih (h.begin _)
  ·exact ih h
theorem Early.qJ (h : Early M) : Early (dN M) := by
 refine Early.starts _ (h.map fun x hx => ?_)
 unfold bg
 split
 ·exact fun hs => absurd hs (show ¬ (6 : Int) ≤ 2 by decide)
 ·exact hx
theorem Early.dI (to : Int) (n : Nat) (h : Early M) : Early (dI to n M) := by
 induction n generalizing M with
 | zero => exact h
 | succ n ih =>
  unfold Proofs.YtnihdgcfamoplaaGreat.dI
  split
  ·exact h
  ·refine ih (Early.qJ ?_)
   exact h
theorem Early.Gc (h : Early M) (r : Rw) : Early (fE M r).2 := by
 have same : Early { M with cl := true } := h
 unfold fE
 repeat' split
 all_goals first | exact h | exact same | skip
 ·unfold iP
  have ha : Early { M with L := M.L ++ [cZ M r] } := fun j hj => by
   rcases List.mem_append.1 hj with h1 | h1
   ·exact h j h1
   ·rw [List.mem_singleton] at h1; subst h1; exact fun _ => rfl
  repeat' split
  ·exact h
  ·exact ha
  ·exact ha.drop _
 ·unfold lU
  simp only
  repeat' split
  ·exact h
  ·exact h
  ·refine h.set fun hs => ?_
   have e : (iO M r.kind (getM M r.id).1).st = if r.kind = 5 then 4 else 5 := rfl
   rw [e] at hs
   split at hs <;> omega
 ·unfold gm
  simp only
  have hx : ((getM M r.id).2 = false) ∨ (getM M r.id).1 ∈ M.L := by
   cases hg : (getM M r.id).2 with
   | false => exact .inl rfl
   | true => exact .inr (kN hg).1
  by_cases h1 : (getM M r.id).2 = false
  ·rw [if_pos h1]; exact h
  ·rw [if_neg h1]
   have hm := hx.resolve_left h1
   have hx1 := h _ hm
   split
   ·exact h
   ·rename_i h2
    have hy : (fD r.kind (getM M r.id).1).st ≤ 2 → (fD r.kind (getM M r.id).1).fin = -1 := by
     unfold fD
     split
     ·rename_i h3
      exact fun _ => hx1 (by by_cases e : (getM M r.id).1.st = 1 <;> omega)
     ·split
      ·rename_i h3
       exact fun _ => hx1 (by by_cases e : (getM M r.id).1.st = 2 <;> omega)
      ·exact hx1
    split
    ·exact (h.set hy).drop _
    ·exact h.set hy
 ·unfold iw
  repeat' split
  ·exact h
  ·exact h
  ·unfold fI
   split
   ·exact h.drop kY
   ·exact h
 ·unfold l9
  split
  ·exact h
  ·exact h.dI _ _
theorem Early.jK (h : Early M) (id t : Int) : Early (dw M id t).2 := by
 unfold dw
 split
 ·rename_i hf
  split
  ·exact h.begin _
  ·by_cases hi : (id - 1).toNat < M.L.length
   ·refine h.set fun hs => ?_
    exact h (M.L.getD (id - 1).toNat default) (bA hi) hs
   ·show Early { M with L := M.L.set (id - 1).toNat _ }
    rw [List.set_eq_of_length_le (by omega)]
    exact h
 ·exact h
theorem KM (n : Nat) : Early (eZ n) := fun _ hj => nomatch hj
theorem NZ (f : Nat → Bool) (n j : Nat) (h : ∀ k, n ≤ k → f k = false) : aS f (n + j) = aS f n := by
 induction j with
 | zero => rfl
 | succ j ih =>
  show aS f (n + j) + (if f (n + j) = true then 1 else 0) = _
  rw [h (n + j) (by omega), ih]
  simp
theorem tC (h : aF M) (f : Nat → Bool) (x y : Int) (hf : ∀ k, f k = (decide (aU M k = x) || decide (aU M k = y))) (hx : x ≠ 0) (hy : y ≠ 0) : ((aS f 64 : Nat) : Int) = kZ M x y := by
 have hn := h.mb.nn
 have hc := NZ f M.dr.length (64 - M.dr.length) fun k hk => by
  rw [hf, iE (by omega), decide_eq_false (fun e => hx e.symm), decide_eq_false (fun e => hy e.symm)]
  rfl
 rw [show M.dr.length + (64 - M.dr.length) = 64 by omega] at hc
 rw [hc, qQ]
 unfold kZ
 rw [show f = fun k : Nat => decide (aU M k = x) || decide (aU M k = y) from funext hf]
end
section
variable {w0 w : World} {b c t d p g g0 a N : Nat} {v v0 : Value} {m mx : Int} {P : Pg} {M M' : Md} {R : Wk} {Q : World → Prop}
theorem KN (h : Bg w0 w b c t d p v0 g0 v g a m mx R M) (hk : R.ag.kind = 6 ∨ R.ag.kind = 10 ∨ R.ag.kind = 11 ∨ R.ag.kind = 12) :
  Goes b c 1000 w (Fin w0 b c t d p v0 g0 mx (fE M (toW R.ag)).2 (jk (fE M (toW R.ag)).1) false) := by
 have hll := h.few
 have ha := h.ha
 have hm := h.hm
 have hmx := h.hmx
 have hcl : ¬ M.cl = true := by rw [h.cl]; decide
 have dM := fA h.inv h.one (by omega)
 have hrd : jG R.ag.kind = true := by rcases hk with e | e | e | e <;> (rw [e]; rfl)
 have jl : ∀ {L : Value} {a' : Nat} {m' : Int} {R' : Wk} {P' : Pg}, Calls Tryz.prog 101 #[.pointer (some ⟨b, 0, none⟩), .pointer (some ⟨c, 0, none⟩)] w (au w b c t d p v g a' m' L R' P') → Calls Tryz.prog 83 #[.pointer (some ⟨b, 0, none⟩), .pointer (some ⟨c, 0, none⟩)] w (au w b c t d p v g a' m' L R' P') := fun hn => IC h.sw h.cl (by omega) hrd hn
 rcases hk with hk | hk | hk | hk
 ·by_cases hid : R.ag.id < 1 ∨ (M.L.length : Int) < R.ag.id
  ·have e : fE M (toW R.ag) = (fJ 7, M) := by
    unfold fE
    rw [if_neg hcl, show (toW R.ag).kind = 6 from hk]
    exact vK (toW R.ag) hid
   have hg : gP M.L R.ag.id = 7 := by unfold gP; (repeat' split) <;> omega
   rw [e]
   exact bz (N := 999) bD (jl (zx h.sw hk 7 (by decide) hg)) h.sw h.left rfl (by omega) (by omega) h.ws rfl rfl rfl
  ·have hg : gP M.L R.ag.id = 0 := by unfold gP; (repeat' split) <;> omega
   have hi : (R.ag.id - 1).toNat < M.L.length := by omega
   have e : fE M (toW R.ag) = (mX (M.L.getD (R.ag.id - 1).toNat default), M) := by
    unfold fE
    rw [if_neg hcl, show (toW R.ag).kind = 6 from hk]
    show gm M (toW R.ag) = _
    unfold gm
    rw [show (toW R.ag).id = R.ag.id from rfl, wT hid, show (toW R.ag).kind = 6 from hk]
    show (mX (M.L.getD (R.ag.id - 1).toNat default), ({ M with L := M.L.set (R.ag.id - 1).toNat (M.L.getD (R.ag.id - 1).toNat default) } : Md)) = _
    have : M.L.set (R.ag.id - 1).toNat (M.L.getD (R.ag.id - 1).toNat default) = M.L := by
     simp only [List.getD, List.getElem?_eq_getElem hi, Option.getD_some, List.set_getElem_self]
    rw [this]
   have hr := Br h.sw hk hg
   rw [show bM (aj M).J R.ag.id = M.L.getD (R.ag.id - 1).toNat default from tu hid] at hr
   rw [e]
   exact bz (N := 999) bD (jl hr) h.sw h.left rfl (by omega) (by omega) h.ws rfl rfl h.ok
 ·have e : fE M (toW R.ag) = (((0, 0, 0, 0, 0, 0, (kZ M 1 1 : Int), (kZ M 2 3 : Int), (kZ M 4 4 : Int)) : Rl), M) := by
   unfold fE
   rw [if_neg hcl, show (toW R.ag).kind = 10 from hk]
   rfl
  have hr := KD h.sw dM hk
  rw [show (aj M).T = dC M from rfl, tC h.inv (il (dC M)) 1 1 (fun k => by rw [uj, Bool.or_self]) (by decide) (by decide),
   tC h.inv (bT (dC M)) 2 3 (fun k => by unfold bT; rw [dA]) (by decide) (by decide),
   tC h.inv (fun i => bV (dC M) i && !bT (dC M) i) 4 4 (fun k => by
    unfold bV bT
    rw [dA]
    generalize aU M k = s
    by_cases h2 : s = 2
    ·subst h2; rfl
    ·by_cases h3 : s = 3
     ·subst h3; rfl
     ·rw [decide_eq_false h2, decide_eq_false h3]; simp) (by decide) (by decide)] at hr
  rw [e]
  exact bz (N := 999) bD (jl hr) h.sw h.left rfl (by omega) (by omega) h.ws rfl rfl h.ok
 ·have e : fE M (toW R.ag) = (((0, 0, 0, 0, 0, 0, (nA M 1 : Int), (nA M 2 : Int), (nA M 3 : Int)) : Rl), M) := by
   unfold fE
   rw [if_neg hcl, show (toW R.ag).kind = 11 from hk]
   rfl
  rw [e]
  exact bz (N := 999) bD (jl (KE h.sw dM hk)) h.sw h.left rfl (by omega) (by omega) h.ws rfl rfl h.ok
 ·have e : fE M (toW R.ag) = ((0, 0, 0, M.now, 0, 0, ay M M.now 0, 0, 0), M) := by
   unfold fE
   rw [if_neg hcl, show (toW R.ag).kind = 12 from hk]
   rfl
  rw [e]
  exact bz (N := 999) bD (jl (IA h.sw (by omega) hk)) h.sw h.left rfl (by omega) (by omega) h.ws rfl rfl h.ok
theorem KO (h : Bg w0 w b c t d p v0 g0 v g a m mx R M) (hk : R.ag.kind = 13) (hrep : R.rep = jY) :
  Goes b c 1000 w (Fin w0 b c t d p v0 g0 mx { M with cl := true } (jk (fJ 0)) false) := by
 have hll := h.few
 have ha := h.ha
 have hm := h.hm
 have hrd : jG R.ag.kind = false := by rw [hk]; rfl
 exact bz (N := 999) bD (fZ h.sw h.cl (by rw [hk]; decide) hrd (KF h.sw hk)) h.sw h.left rfl (by omega) (by omega) h.ws rfl hrep h.ok
theorem Cv (to : Int) (hto : to ≤ 1099511627776) (hl : R.left = fP 148) (rV : R.target = to) (hmx : mx ≤ 1000000) (n : Nat) :
  ∀ {M : Md} {w : World} {v : Value} {g a : Nat} {m : Int}, aF M → Calm M → Early M → 1 ≤ M.dr.length → M.L.length ≤ 900 → M.now ≤ to → lT M < n → SW w b c t d p v g a m R (aj M) → a ≤ 800 → m + n ≤ mx → WS w0 w b c t d p v0 g0 v g →
   Goes b c n w (Fin w0 b c t d p v0 g0 mx { dI to n M with now := to } ⟨0, 0, 0, to, 0, 0, ay (dI to n M) to 0, 0, 0⟩ R.ok) := by
 induction n with
 | zero =>
  intro M w v g a m hI hC hE h1 hll hnt hn
  have := (mg mY 2 M.L fun j _ => nX j).1
  unfold lT at hn
  omega
 | succ n ih =>
  intro M w v g a m hI hC hE h1 hll hnt hn hS ha hm hw
  by_cases hx : aV M < 0 ∨ to < aV M
  ·have e : dI to (n + 1) M = M := if_pos hx
   rw [e]
   have hf := uM hS hI hE h1 hll ha (by omega) (by rw [rV]; exact hx) (by rw [rV]; exact ⟨hnt, hto⟩)
   rw [rV] at hf
   exact bz (N := n) ze hf hS hl rfl (by omega) (by omega) hw rfl rfl rfl
  ·have e : dI to (n + 1) M = dI to n (dN { M with now := aV M }) := if_neg hx
   rw [e]
   obtain ⟨a1, a2, a3⟩ := hI.step hC (by omega) (by omega)
   obtain ⟨b1, b2, b3, b4⟩ := a2.qJ
   have hkp := nE a2.mb
   have hf := yZ hS hI hC hE h1 hll ha (by omega) (by rw [rV]; omega) (by rw [rV]; exact hto)
   refine fT (k := 148) (k' := 148) ze hf hS hl rfl fun w' v' g' hS' hw' => ?_
   rw [← hl] at hS'
   refine ih b1 b2 (Early.qJ hE) (by rw [hkp.2.2.2.1]; exact h1) (by rw [hkp.2.1]; exact hll) (by rw [hkp.2.2.1]; show aV M ≤ to; omega) ?_ hS' ha (by omega) (hw.trans hw')
   have := b4 a3
   have e2 : lT { M with now := aV M } = lT M := rfl
   omega
theorem KP (h : Bg w0 w b c t d p v0 g0 v g a m mx R M) (hE : Early M) (hk : R.ag.kind = 9) :
  Goes b c 1000 w (Fin w0 b c t d p v0 g0 mx (l9 M R.ag.till).2 (jk (l9 M R.ag.till).1) false) := by
 have hll := h.few
 have ha := h.ha
 have hm := h.hm
 have hmx := h.hmx
 have kg := h.inv.mb.now
 have dM := fA h.inv h.one (by omega)
 have hrd : jG R.ag.kind = false := by rw [hk]; rfl
 have jl : ∀ {L : Value} {a' : Nat} {m' : Int} {R' : Wk} {P' : Pg}, Calls Tryz.prog 125 #[.pointer (some ⟨b, 0, none⟩), .pointer (some ⟨c, 0, none⟩)] w (au w b c t d p v g a' m' L R' P') → Calls Tryz.prog 83 #[.pointer (some ⟨b, 0, none⟩), .pointer (some ⟨c, 0, none⟩)] w (au w b c t d p v g a' m' L R' P') := fun hn => fZ h.sw h.cl (by rw [hk]; decide) hrd (NS h.sw hk hn)
 by_cases hlow : R.ag.till < 1
 ·have e : l9 M R.ag.till = (fJ 10, M) := if_pos (.inl hlow)
  rw [e]
  exact bz (N := 999) bD (jl (NJ h.sw dM hlow)) h.sw h.left rfl (by omega) (by omega) h.ws rfl rfl rfl
 ·by_cases hhi : 1099511627776 - M.now < R.ag.till
  ·have e : l9 M R.ag.till = (fJ 10, M) := if_pos (.inr hhi)
   rw [e]
   exact bz (N := 999) bD (jl (KC h.sw dM hlow hhi)) h.sw h.left rfl (by omega) (by omega) h.ws rfl rfl rfl
  ·have hev := (mg mY 2 M.L fun j _ => nX j).2
   have VU : lT M < (2 * M.L.length + 1 : Nat) := by unfold lT; omega
   have e : l9 M R.ag.till = ((0, 0, 0, M.now + R.ag.till, 0, 0, ay (oN M (M.now + R.ag.till)) (M.now + R.ag.till) 0, 0, 0), oN M (M.now + R.ag.till)) := if_neg (by omega)
   rw [e]
   obtain ⟨to, hto⟩ : ∃ to, to = M.now + R.ag.till := ⟨_, rfl⟩
   rw [← hto]
   unfold oN
   obtain ⟨n, hn⟩ : ∃ n, n = 2 * M.L.length := ⟨_, rfl⟩
   rw [← hn] at VU ⊢
   by_cases hx : aV M < 0 ∨ to < aV M
   ·have e : dI to (n + 1) M = M := if_pos hx
    rw [e]
    refine bz (N := 999) (a' := a) (m' := m + 1) (R' := { R with target := to, rep := ⟨0, 0, 0, to, 0, 0, ay M to 0, 0, 0⟩ }) bD (jl (Iy (P' := aj { M with now := to }) h.sw dM hlow hhi fun W hW => ?_)) h.sw h.left rfl (by omega) (by omega) h.ws rfl rfl h.ok
    rw [show (aj M).now + R.ag.till = to from hto.symm] at hW
    exact uM hW h.inv hE h.one (by omega) (by omega) (by omega) hx ⟨by show M.now ≤ to; omega, by show to ≤ _; omega⟩
   ·have e : dI to (n + 1) M = dI to n (dN { M with now := aV M }) := if_neg hx
    rw [e]
    obtain ⟨a1, a2, a3⟩ := h.inv.step h.calm (by omega) (by omega)
    obtain ⟨b1, b2, b3, b4⟩ := a2.qJ
    have hkp := nE a2.mb
    refine (fT (N := n) (k := 83) (k' := 148) (a' := a) (m' := m + 1) (R' := { R with target := to }) (P' := aj (dN { M with now := aV M })) bD (jl (Iy h.sw dM hlow hhi fun W hW => ?_)) h.sw h.left rfl fun w' v' g' hS' hw' => ?_).more (show n + 1 ≤ 1000 by omega)
    ·rw [show (aj M).now + R.ag.till = to from hto.symm] at hW
     exact yZ hW h.inv h.calm hE h.one (by omega) (by omega) (by omega) ⟨by omega, by show aV M ≤ to; omega⟩ (by show to ≤ _; omega)
    ·have := Cv (R := { ({ R with target := to } : Wk) with left := fP 148 }) (w0 := w0) (b := b) (c := c) (t := t) (d := d) (p := p) (v0 := v0) (g0 := g0) (mx := mx) to (by omega) rfl rfl hmx n b1 b2 (Early.qJ hE) (by rw [hkp.2.2.2.1]; exact h.one) (by rw [hkp.2.1]; show M.L.length ≤ 900; omega) (by rw [hkp.2.2.1]; show aV M ≤ to; omega) (by
      have := b4 a3
      have e2 : lT { M with now := aV M } = lT M := rfl
      omega) hS' (by omega) (by omega) (h.ws.trans hw')
     rw [show ({ ({ R with target := to } : Wk) with left := fP 148 } : Wk).ok = false from h.ok] at this
     exact this
end
end Go.Proofs.YtnihdgcfamoplaaGreat

namespace Go.Proofs.YtnihdgcfamoplaaGreat
open Go.RowKit Go.Lib Go.Sort
section
variable {M : Md}
theorem IK (hI : aF M) {id t : Int} (hf : fM M id t = true) : ∃ i : Nat, id = (i : Int) + 1 ∧ i < M.L.length ∧ (M.L.getD i default).st = 1 ∧ M.now ≤ t ∧ t ≤ 1099511627776 ∧ M.cl = false ∧
  ∀ u, t ≤ u → u < t + (M.L.getD i default).lim → (M.L.getD i default).wid ≤ ay M u ((i : Int) + 1) := by
 have hn := hI.mb.now
 unfold fM at hf
 simp only at hf
 split at hf
 ·cases hf
 rename_i hq
 have hg : (getM M id).2 = true := by cases e : (getM M id).2 <;> simp_all
 obtain ⟨hm, hi, he, hid⟩ := kN hg
 rw [he] at hm hq hf
 have hs : (M.L.getD (id - 1).toNat default).st = 1 := by
  by_cases e : (M.L.getD (id - 1).toNat default).st = 1
  ·exact e
  ·exact absurd (.inr (.inr (.inl e))) hq
 have ht : M.now ≤ t ∧ t ≤ 1099511627776 := by omega
 have hcl : M.cl = false := by
  cases e : M.cl with
  | false => rfl
  | true => exact absurd (.inl e) hq
 have Ga := hI.ids _ hi
 have hroom := fun u => xm hn.1 ht.1 hf u
 rw [Ga] at hroom
 exact ⟨(id - 1).toNat, hid, hi, hs, ht.1, ht.2, hcl, hroom⟩
theorem Bz (hI : aF M) {i : Nat} (hi : i < M.L.length) (hroom : ∀ u, M.now ≤ u → u < M.now + (M.L.getD i default).lim → (M.L.getD i default).wid ≤ ay M u ((i : Int) + 1)) : (M.L.getD i default).wid ≤ aM M M.now M.dr.length := by
 have bo := hI.one _ (bA hi)
 have h0 := hroom M.now (Int.le_refl _) (by omega)
 have ht0 := mH (L := M.L) (fun j hj => hI.mb.wid j hj) M.now ((i : Int) + 1)
 unfold ay at h0
 omega
theorem FB (hI : aF M) (hC : Calm M) {i : Nat} (hi : i < M.L.length) (hs : (M.L.getD i default).st = 1) {t : Int} (ht : M.now ≤ t ∧ t ≤ 1099511627776)
  (hroom : ∀ u, t ≤ u → u < t + (M.L.getD i default).lim → (M.L.getD i default).wid ≤ ay M u ((i : Int) + 1)) (u : Int) (hu : M.now ≤ u) :
  ay (if t = M.now then bq M i else { M with L := M.L.set i ((M.L.getD i default).aH t) }) u 0 = ay M u ((i : Int) + 1) + had (max t M.now) (t + (M.L.getD i default).lim) (-(M.L.getD i default).wid) u := by
 have hm := bA hi
 have bo := hI.one _ hm
 have bl := hI.mb.lim _ hm
 have hn := hI.mb.now
 have hid := hI.ids i hi
 rw [mf hi hI.ids]
 have hh : had (max t M.now) (t + (M.L.getD i default).lim) (-(M.L.getD i default).wid) u = if t ≤ u ∧ u < t + (M.L.getD i default).lim then -(M.L.getD i default).wid else 0 := by
  unfold had
  have e1 : max t M.now = t := by omega
  rw [e1]
  by_cases c : t ≤ u ∧ u < t + (M.L.getD i default).lim
  ·rw [if_pos c, if_pos ⟨c.1, .inl c.2⟩]
  ·rw [if_neg c, if_neg (by omega)]
 rw [hh]
 by_cases e : t = M.now
 ·subst e
  rw [if_pos rfl, qG hi (by omega)]
  have hlow := (hI.begin hC.runs hi hs (Bz hI hi hroom) fun v h1 h2 => by
   have := hroom v h1 h2
   rw [mf hi hI.ids] at this
   exact this).2
  rw [hlow]
  split <;> split <;> omega
 ·rw [if_neg e, je hi]
  have hpl : ak ((M.L.getD i default).aH t) = true := by
   unfold ak
   rw [Bool.and_eq_true]
   exact ⟨decide_eq_true hs, decide_eq_true (show 0 ≤ t by omega)⟩
  have hc2 := ma (t := u) (but := 0) hpl (show (M.L.getD i default).id ≠ 0 by rw [hid]; omega)
  rw [hc2]
  show ay M u 0 + dO u 0 (M.L.getD i default) - (if t ≤ u ∧ u < t + (M.L.getD i default).lim then (M.L.getD i default).wid else 0) = _
  split <;> omega
end
section
variable {w0 w : World} {b c t d p g g0 a N : Nat} {v v0 : Value} {m mx : Int} {P : Pg} {M M' : Md} {R : Wk} {Q : World → Prop}
def mW (M : Md) : Ry := if M.cl then ku 12 else jY
theorem FC (h : SW w b c t d p v g a m R (aj M)) (hl : R.left = fP 72) (hI : aF M) (hC : Calm M) (h1 : 1 ≤ M.dr.length) (hll : M.L.length ≤ 190) (ha : a ≤ 1 + 2 * M.L.length) (hm : m + 1000 ≤ mx) (hmx : mx ≤ 1000000)
  (ho : R.ok = false) (hrep : R.rep = jY) (hxt : -9223372036854775808 ≤ R.dS ∧ R.dS ≤ 9223372036854775807) (hw : WS w0 w b c t d p v0 g0 v g) :
  Goes b c 1000 w (Fin w0 b c t d p v0 g0 mx (dw M R.kW R.dS).2 (mW M) (dw M R.kW R.dS).1) := by
 cases hf : fM M R.kW R.dS with
 | false =>
  have e : dw M R.kW R.dS = (false, M) := if_neg (by rw [hf]; decide)
  rw [e]
  cases hcl : M.cl with
  | true => exact bz (N := 999) yf (Cr h hcl) h hl rfl (by omega) (by omega) hw rfl (by unfold mW; rw [hcl]; rfl) rfl
  | false => exact bz (N := 999) yf (NG h hI h1 (by omega) (by omega) hxt hcl hf) h hl rfl (by omega) (by omega) hw rfl (by unfold mW; rw [hcl]; exact hrep) ho
 | true =>
  obtain ⟨i, hid, hi, hs, ht1, ht2, hcl, hroom⟩ := IK hI hf
  have LA : (R.kW - 1).toNat = i := by omega
  have hmem := bA hi
  have bo := hI.one _ hmem
  have bl := hI.mb.lim _ hmem
  have bw := hI.mb.wid _ hmem
  have bp := hI.mb.aL _ hmem
  have Ga := hI.ids i hi
  have kg := hI.mb.now
  have dM := fA hI h1 (by omega)
  have e : dw M R.kW R.dS = (true, if R.dS = M.now then bq M i else { M with L := M.L.set i ((M.L.getD i default).aH R.dS) }) := by
   unfold dw
   rw [if_pos hf, LA]
   split <;> rfl
  have hI' := (hI.jK hC R.kW R.dS).1
  rw [e] at hI' ⊢
  have hfree := FB hI hC hi hs ⟨ht1, ht2⟩ hroom
  have hdr : (if R.dS = M.now then bq M i else { M with L := M.L.set i ((M.L.getD i default).aH R.dS) }).dr.length = M.dr.length := by split <;> rfl
  have QJ : (if R.dS = M.now then bq M i else { M with L := M.L.set i ((M.L.getD i default).aH R.dS) }).now = M.now := by split <;> rfl
  have SN : jY = mW M := by unfold mW; rw [hcl]; rfl
  have Xd : bM M.L R.kW = M.L.getD i default := by rw [tu (by omega), LA]
  have hck := Kz h hI h1 (by omega) (by omega) hxt hcl hf
  rw [Xd] at hck
  have yA : ∀ u, ay M u ((i : Int) + 1) = ay M u 0 + dO u 0 (M.L.getD i default) := fun u => mf hi hI.ids u
  have lQ : PK { aj M with f := fun u => ay M u ((i : Int) + 1) } := ⟨dM.now, dM.few, dM.st, dM.lim, dM.qo, fun u hu => ⟨BU hI hi u hu, (Ed hI.mb u _).2⟩⟩
  obtain ⟨M1, hM1⟩ : ∃ M1, M1 = (if R.dS = M.now then bq M i else { M with L := M.L.set i ((M.L.getD i default).aH R.dS) }) := ⟨_, rfl⟩
  rw [← hM1] at hI' hfree hdr QJ ⊢
  have hrange : ∀ u, M.now ≤ u → 0 ≤ ay M1 u 0 ∧ ay M1 u 0 ≤ 64 := fun u hu => vC hI' u (by rw [QJ]; exact hu)
  have VV : PK { aj M with f := fun u => ay M1 u 0 } := ⟨dM.now, dM.few, dM.st, dM.lim, dM.qo, fun u hu => hrange u hu⟩
  refine (fT (N := 3) (k := 72) (k' := 97) yf hck h hl rfl fun w1 v1 g1 hS1 hw1 => ?_).more (show 4 ≤ 1000 by decide)
  have cont : ∀ (w2 : World) (v2 : Value) (g2 a2 : Nat) (m2 : Int), SW w2 b c t d p v2 g2 a2 m2 { R with aD := M.L.getD i default, ok := true, left := fP 113 } { aj M with f := fun u => ay M u ((i : Int) + 1) } → a2 ≤ 700 → m2 + 10 ≤ mx → WS w0 w2 b c t d p v0 g0 v2 g2 →
    Goes b c 2 w2 (Fin w0 b c t d p v0 g0 mx M1 (mW M) true) := by
   intro w2 v2 g2 a2 m2 hS2 ha2 hm2 hw2
   have hen := NF hS2 lQ (by omega) (by omega) hs ⟨by show 0 ≤ R.dS; omega, by show R.dS ≤ 1099511627776; omega⟩ ⟨bo.2.2.1, bl.2⟩ bw (fun u => ay M1 u 0) (fun u hu => hfree u hu) (fun u hu => hrange u hu)
   refine fT (N := 1) (k := 113) (k' := 133) NV hen hS2 rfl rfl fun w3 v3 g3 Iz hw3 => ?_
   by_cases hx : R.dS = M.now
   ·have hidle : (M.L.getD i default).wid ≤ ((List.range M.dr.length).countP fun n : Nat => decide (aU M n = 1) : Nat) := by
     rw [← Ih hC.runs]
     exact Bz hI hi (by rw [← hx]; exact hroom)
    have hT := Ii hI hi (by omega) hidle
    have hset := Iu Iz VV hx (by show -9223372036854775808 ≤ (M.L.getD i default).wid ∧ (M.L.getD i default).wid ≤ _; omega) hT
    rw [if_pos hx] at hM1
    have hbs : df (aj M).J (gG (aj M).now) (M.L.getD i default).id (fun j : Jb => decide (j.state = 1)) (lF (aj M).now (iN M (M.L.getD i default).wid : Int)) = (bq M i).L := yX hI hi hs
    have hP : ({ aj M with f := fun u => ay M1 u 0, T := dC (bq M i), J := (bq M i).L } : Pg) = aj M1 := by rw [hM1]; rfl
    refine bz (N := 0) (a' := a2 + 2) (m' := m2 + 1) Bu (hset.mono fun e w' hp => ?_) Iz rfl rfl (by omega) (by omega) (hw2.trans hw3) rfl (hrep.trans SN) rfl
    rw [← hP, ← hbs]
    exact hp
   ·have hset := Cq Iz hx
    rw [if_neg hx] at hM1
    have Ml : gY R.dS = 0 := by unfold gY; rw [if_neg (by omega), if_neg (by omega)]
    have hbs : df (aj M).J (gY R.dS) R.kW (fun j : Jb => decide (j.state = 1)) (kL R.dS) = M.L.set i ((M.L.getD i default).aH R.dS) := by
     rw [Ml]
     have := uy (ok := fun j : Jb => decide (j.state = 1)) (L := M.L) (id := R.kW) (by omega) (by rw [LA]; exact decide_eq_true hs)
     have h2 := oH (ch := kL R.dS) this
     rw [LA] at h2
     exact h2
    have hT1 : dC M = dC M1 := by
     rw [hM1]
     refine oG (by rw [bG, bG]) fun n hn => ?_
     rw [dA, dA, oQ (y := (M.L.getD i default).aH R.dS) hi Iff.rfl rfl]
    have hP : ({ aj M with f := fun u => ay M1 u 0, J := M.L.set i ((M.L.getD i default).aH R.dS) } : Pg) = aj M1 := by
     show Pg.mk M.now _ (dC M) _ M.cl = _
     rw [hT1, hM1]
     rfl
    refine bz (N := 0) (a' := a2 + 2) (m' := m2 + 1) Bu (hset.mono fun e w' hp => ?_) Iz rfl rfl (by omega) (by omega) (hw2.trans hw3) rfl (hrep.trans SN) rfl
    rw [← hP, ← hbs]
    exact hp
  cases hpl : ak (M.L.getD i default) with
  | true =>
   have hlv := Iq hS1 dM (by omega) (by omega) hpl bp.2 bl bo.2.2.1 bw (fun u => ay M u ((i : Int) + 1)) (fun u hu => by
    have hun := qR hI hi hpl u
    rw [je hi, dP (j := (M.L.getD i default).aH (-1)) (by unfold ak; simp [Jb.aH, Jb.aL])] at hun
    show ay M u ((i : Int) + 1) = ay M u 0 + had (max (M.L.getD i default).aL M.now) ((M.L.getD i default).aL + (M.L.getD i default).lim) (M.L.getD i default).wid u
    rw [yA]
    omega) (fun u hu => lQ.f u hu)
   refine fT (N := 2) (k := 97) (k' := 113) DT hlv hS1 rfl rfl fun w2 v2 g2 hS2 hw2 => ?_
   exact cont w2 v2 g2 _ _ hS2 (by omega) (by omega) ((hw.trans hw1).trans hw2)
  | false =>
   have hlv := Ir hS1 hpl bp.2 bl
   refine fT (N := 2) (k := 97) (k' := 113) DT hlv hS1 rfl rfl fun w2 v2 g2 hS2 hw2 => ?_
   have hP : aj M = { aj M with f := fun u => ay M u ((i : Int) + 1) } := by
    have : (fun u => ay M u ((i : Int) + 1)) = fun u => ay M u 0 := by
     funext u
     rw [yA, dP hpl]
     omega
    rw [this]
    rfl
   rw [hP] at hS2
   exact cont w2 v2 g2 _ _ hS2 (by omega) (by omega) ((hw.trans hw1).trans hw2)
theorem QK (h : SW w b c t d p v g a m R (aj M)) (hl : R.left = fP 83) (hI : aF M) (hC : Calm M) (hE : Early M) (h1 : 1 ≤ M.dr.length) (hll : M.L.length ≤ 190) (ha : a ≤ 1 + 2 * M.L.length) (hm : m + 1000 ≤ mx) (hmx : mx ≤ 1000000)
  (ho : R.ok = false) (hrep : R.rep = jY) (hnd : -9223372036854775808 ≤ R.ag.node ∧ R.ag.node ≤ 9223372036854775807) (hw : WS w0 w b c t d p v0 g0 v g) :
  Goes b c 1000 w (Fin w0 b c t d p v0 g0 mx (fE M (toW R.ag)).2 (jk (fE M (toW R.ag)).1) false) := by
 cases hcl : M.cl with
 | true =>
  have e : fE M (toW R.ag) = (fJ 12, M) := if_pos hcl
  rw [e]
  exact KI h hl hcl (by omega) (by omega) hw
 | false =>
  have hcn : ¬ M.cl = true := by rw [hcl]; decide
  have hB : Bg w0 w b c t d p v0 g0 v g a m mx R M := ⟨h, hl, hI, hC, hcl, h1, hll, ha, hm, hmx, ho, hw⟩
  have hkr : ∀ r : Rw, fE M r = if r.kind = 1 then iP M r
    else if r.kind = 2 ∨ r.kind = 5 then lU M r
    else if r.kind = 3 ∨ r.kind = 4 ∨ r.kind = 6 then gm M r
    else if r.kind = 7 ∨ r.kind = 8 then iw M r
    else if r.kind = 9 then l9 M r.by'
    else if r.kind = 10 then ((0, 0, 0, 0, 0, 0, kZ M 1 1, kZ M 2 3, kZ M 4 4), M)
    else if r.kind = 11 then ((0, 0, 0, 0, 0, 0, nA M 1, nA M 2, nA M 3), M)
    else if r.kind = 12 then ((0, 0, 0, M.now, 0, 0, ay M M.now 0, 0, 0), M)
    else if r.kind = 13 then (fJ 0, { M with cl := true })
    else (fJ 4, M) := fun r => if_neg hcn
  by_cases hrd : R.ag.kind = 6 ∨ R.ag.kind = 10 ∨ R.ag.kind = 11 ∨ R.ag.kind = 12
  ·exact KN hB hrd
  rw [hkr]
  have ek : (toW R.ag).kind = R.ag.kind := rfl
  rw [ek]
  by_cases k1 : R.ag.kind = 1
  ·rw [if_pos k1]; exact Fy h hl hI hcl h1 hll ha hm hmx hw k1 ho
  rw [if_neg k1]
  by_cases k25 : R.ag.kind = 2 ∨ R.ag.kind = 5
  ·rw [if_pos k25]
   rcases k25 with k | k
   ·exact wU hB 5 (.inl ⟨k, rfl⟩)
   ·exact wU hB 4 (.inr ⟨k, rfl⟩)
  rw [if_neg k25]
  by_cases Un : R.ag.kind = 3 ∨ R.ag.kind = 4 ∨ R.ag.kind = 6
  ·rw [if_pos Un]
   rcases Un with k | k | k
   ·exact KL hB k
   ·exact Cu hB k
   ·exact absurd (.inl k) hrd
  rw [if_neg Un]
  by_cases IL : R.ag.kind = 7 ∨ R.ag.kind = 8
  ·rw [if_pos IL]
   rcases IL with k | k
   ·exact IJ hB k hnd
   ·exact Fz hB k hnd
  rw [if_neg IL]
  by_cases k9 : R.ag.kind = 9
  ·rw [if_pos k9]; exact KP hB hE k9
  rw [if_neg k9, if_neg (by omega), if_neg (by omega), if_neg (by omega)]
  by_cases k13 : R.ag.kind = 13
  ·rw [if_pos k13]; exact KO hB k13 hrep
  rw [if_neg k13]
  exact KJ hB (by omega)
end
end Go.Proofs.YtnihdgcfamoplaaGreat

namespace Go.Proofs.YtnihdgcfamoplaaGreat
open Go.RowKit Go.Lib Go.Sort
section
variable {M : Md}
theorem LB {r : Rw} (h : r.kind = 1) : fE M r = if M.cl = true then (fJ 12, M) else iP M r := by
 unfold fE
 by_cases hc : M.cl = true
 ·rw [if_pos hc, if_pos hc]
 ·rw [if_neg hc, if_neg hc, if_pos h]
theorem QL {r : Rw} (h : (r.kind = 2 ∨ r.kind = 5)) : fE M r = if M.cl = true then (fJ 12, M) else lU M r := by
 unfold fE
 by_cases hc : M.cl = true
 ·rw [if_pos hc, if_pos hc]
 ·rw [if_neg hc, if_neg hc, if_neg (show ¬ r.kind = 1 by omega), if_pos h]
theorem LC {r : Rw} (h : (r.kind = 3 ∨ r.kind = 4 ∨ r.kind = 6)) : fE M r = if M.cl = true then (fJ 12, M) else gm M r := by
 unfold fE
 by_cases hc : M.cl = true
 ·rw [if_pos hc, if_pos hc]
 ·rw [if_neg hc, if_neg hc, if_neg (show ¬ r.kind = 1 by omega), if_neg (show ¬ (r.kind = 2 ∨ r.kind = 5) by omega), if_pos h]
theorem QM {r : Rw} (h : (r.kind = 7 ∨ r.kind = 8)) : fE M r = if M.cl = true then (fJ 12, M) else iw M r := by
 unfold fE
 by_cases hc : M.cl = true
 ·rw [if_pos hc, if_pos hc]
 ·rw [if_neg hc, if_neg hc, if_neg (show ¬ r.kind = 1 by omega), if_neg (show ¬ (r.kind = 2 ∨ r.kind = 5) by omega), if_neg (show ¬ (r.kind = 3 ∨ r.kind = 4 ∨ r.kind = 6) by omega), if_pos h]
theorem LF {r : Rw} (h : r.kind = 9) : fE M r = if M.cl = true then (fJ 12, M) else l9 M r.by' := by
 unfold fE
 by_cases hc : M.cl = true
 ·rw [if_pos hc, if_pos hc]
 ·rw [if_neg hc, if_neg hc, if_neg (show ¬ r.kind = 1 by omega), if_neg (show ¬ (r.kind = 2 ∨ r.kind = 5) by omega), if_neg (show ¬ (r.kind = 3 ∨ r.kind = 4 ∨ r.kind = 6) by omega), if_neg (show ¬ (r.kind = 7 ∨ r.kind = 8) by omega), if_pos h]
theorem QN {r r' : Rw} (h : r.kind = r'.kind) (h2 : ¬ (1 ≤ r.kind ∧ r.kind ≤ 9)) : fE M r = fE M r' := by
 unfold fE
 rw [h] at h2 ⊢
 by_cases hc : M.cl = true
 ·rw [if_pos hc, if_pos hc]
 ·have n1 : ¬ r'.kind = 1 := by omega
  have n2 : ¬ (r'.kind = 2 ∨ r'.kind = 5) := by omega
  have n3 : ¬ (r'.kind = 3 ∨ r'.kind = 4 ∨ r'.kind = 6) := by omega
  have n4 : ¬ (r'.kind = 7 ∨ r'.kind = 8) := by omega
  have n5 : ¬ r'.kind = 9 := by omega
  simp only [if_neg hc, if_neg n1, if_neg n2, if_neg n3, if_neg n4, if_neg n5]
theorem N7 (M : Md) (r : Rq) : fE M (toW (lN r)) = fE M (toW r) := by
 unfold lN
 by_cases k1 : r.kind = 1
 ·rw [if_pos k1, LB (r := toW r) k1, LB (r := toW ⟨r.kind, 0, r.user, r.width, r.limit, r.prio, r.held, 0, 0⟩) k1]
  rfl
 rw [if_neg k1]
 by_cases k2 : r.kind = 2 ∨ r.kind = 3 ∨ r.kind = 4 ∨ r.kind = 5 ∨ r.kind = 6
 ·rw [if_pos k2]
  by_cases k25 : r.kind = 2 ∨ r.kind = 5
  ·rw [QL (r := toW r) k25, QL (r := toW ⟨r.kind, r.id, 0, 0, 0, 0, false, 0, 0⟩) k25]
   rfl
  ·have SQ : r.kind = 3 ∨ r.kind = 4 ∨ r.kind = 6 := by omega
   rw [LC (r := toW r) SQ, LC (r := toW ⟨r.kind, r.id, 0, 0, 0, 0, false, 0, 0⟩) SQ]
   rfl
 rw [if_neg k2]
 by_cases IL : r.kind = 7 ∨ r.kind = 8
 ·rw [if_pos IL, QM (r := toW r) IL, QM (r := toW ⟨r.kind, 0, 0, 0, 0, 0, false, r.node, 0⟩) IL]
  rfl
 rw [if_neg IL]
 by_cases k9 : r.kind = 9
 ·rw [if_pos k9, LF (r := toW r) k9, LF (r := toW ⟨r.kind, 0, 0, 0, 0, 0, false, 0, r.till⟩) k9]
  rfl
 rw [if_neg k9]
 exact QN rfl (by show ¬ (1 ≤ r.kind ∧ r.kind ≤ 9); omega)
theorem IM (r : Rq) (h : -9223372036854775808 ≤ r.node ∧ r.node ≤ 9223372036854775807) : -9223372036854775808 ≤ (lN r).node ∧ (lN r).node ≤ 9223372036854775807 := by
 have z : -9223372036854775808 ≤ (0 : Int) ∧ (0 : Int) ≤ 9223372036854775807 := by decide
 unfold lN
 repeat' split
 all_goals first | exact z | exact h
structure Ok (M : Md) : Prop where
 inv : aF M
 calm : Calm M
 early : Early M
theorem Ok.new {n : Nat} (h : n ≤ 64) : Ok (eZ n) := ⟨(Gf h).1, (Gf h).2, KM n⟩
theorem Ok.Gc (h : Ok M) (r : Rw) : Ok (fE M r).2 := ⟨(h.inv.Gc h.calm r).1, (h.inv.Gc h.calm r).2, h.early.Gc r⟩
theorem Ok.jK (h : Ok M) (id t : Int) : Ok (dw M id t).2 := ⟨(h.inv.jK h.calm id t).1, (h.inv.jK h.calm id t).2, h.early.jK id t⟩
end
section
end
end Go.Proofs.YtnihdgcfamoplaaGreat

namespace Go.Proofs.YtnihdgcfamoplaaGreat
open Go.RowKit Go.Lib Go.Sort
section
variable {w : World} {b c t d p g a : Nat} {v : Value} {m : Int} {M : Md} {R : Wk}
theorem BA (h : CW w c t d p v g a m (aj M)) (hI : aF M) (hll : M.L.length ≤ 400) : Calls Tryz.prog 18 #[.pointer (some ⟨p, 0, none⟩)] w fun e w' => ∃ u, e = .returned u ∧ az CB 2 w' u (nz M) ∧ Below w.heap.size w w' := by
 obtain ⟨S, aJ, hp, hC, hl, _⟩ := h.kT
 have e : S = nz M := hC.uniq (Ab hI) fun _ _ => rfl
 have hs := tq M
 refine (uJ hp hC.sm.pos (by rw [e]; omega)).mono ?_
 rintro en w' ⟨g', cap', rfl, h1, h2, h3⟩
 exact ⟨_, rfl, az.gB h2 (fun _ => rfl) (by rw [← e]; rfl) (by rw [← e]), h3⟩
theorem IP (h : CW w c t d p v g a m (aj M)) (hll : M.L.length ≤ 900) : Calls Tryz.prog 17 #[.pointer (some ⟨t, 0, none⟩)] w fun e w' => ∃ u, e = .returned u ∧ az ah 10 w' u M.L ∧ Below w.heap.size w w' := by
 refine (Ld h.dX (by show M.L.length ≤ 1000; omega)).mono ?_
 rintro e w' ⟨u, rfl, h1, h2⟩
 exact ⟨u, rfl, az.gB h1 ax rfl rfl, h2⟩
theorem N8 (h : cO w b R) : Calls Tryz.prog 50 #[.pointer (some ⟨b, 0, none⟩)] w fun e w' => e = .returned (.agg (bu R.rep).toArray) ∧ Below w.heap.size w w' := by
 obtain ⟨y1, y2, y3, y4, y5, y6, y7, y8, y9, hy⟩ : ∃ y1 y2 y3 y4 y5 y6 y7 y8 y9, R.rep = ⟨y1, y2, y3, y4, y5, y6, y7, y8, y9⟩ := ⟨_, _, _, _, _, _, _, _, _, rfl⟩
 have h' : ∀ o, cO (w.alloc o) b R := fun o => (((Below.refl w.heap.size w).alloc (Nat.le_refl _) o).block b h.lt).trans h
 have c24 : ∀ o, (w.alloc o).cell? ⟨b, 24, none⟩ = some (.int .i64 y1) := fun o => (h' o).at 24 (.int .i64 y1) (by show some (Value.int .i64 R.rep.1) = _; rw [hy])
 have Yk : ∀ o, (w.alloc o).cell? ⟨b, 25, none⟩ = some (.int .i64 y2) := fun o => (h' o).at 25 (.int .i64 y2) (by show some (Value.int .i64 R.rep.2) = _; rw [hy])
 have Yl : ∀ o, (w.alloc o).cell? ⟨b, 26, none⟩ = some (.int .i64 y3) := fun o => (h' o).at 26 (.int .i64 y3) (by show some (Value.int .i64 R.rep.3) = _; rw [hy])
 have Ym : ∀ o, (w.alloc o).cell? ⟨b, 27, none⟩ = some (.int .i64 y4) := fun o => (h' o).at 27 (.int .i64 y4) (by show some (Value.int .i64 R.rep.4) = _; rw [hy])
 have c28 : ∀ o, (w.alloc o).cell? ⟨b, 28, none⟩ = some (.int .i64 y5) := fun o => (h' o).at 28 (.int .i64 y5) (by show some (Value.int .i64 R.rep.5) = _; rw [hy])
 have Yn : ∀ o, (w.alloc o).cell? ⟨b, 29, none⟩ = some (.int .i64 y6) := fun o => (h' o).at 29 (.int .i64 y6) (by show some (Value.int .i64 R.rep.6) = _; rw [hy])
 have Yo : ∀ o, (w.alloc o).cell? ⟨b, 30, none⟩ = some (.int .i64 y7) := fun o => (h' o).at 30 (.int .i64 y7) (by show some (Value.int .i64 R.rep.7) = _; rw [hy])
 have c31 : ∀ o, (w.alloc o).cell? ⟨b, 31, none⟩ = some (.int .i64 y8) := fun o => (h' o).at 31 (.int .i64 y8) (by show some (Value.int .i64 R.rep.8) = _; rw [hy])
 have c32 : ∀ o, (w.alloc o).cell? ⟨b, 32, none⟩ = some (.int .i64 y9) := fun o => (h' o).at 32 (.int .i64 y9) (by show some (Value.int .i64 R.rep.9) = _; rw [hy])
 rw [hy]
 clear h h' hy
 go_enter Tryz.func50, Tryz.ntmps50
 go_wp2_with fail
 refine eH rfl rfl rfl (heap_alloc_new w _) Tryz.underlying39 rfl (by kernel_rfl) ⟨rfl, ?_⟩
 exact (Below.refl _ _).alloc (Nat.le_refl _) _
theorem Uo (h : cO w b R) : Calls Tryz.prog 37 #[.pointer (some ⟨b, 0, none⟩)] w fun e w' => e = .returned (.bool R.ok) ∧ w = w' := by
 have WL := h.at 33 (.bool R.ok) rfl
 clear h
 generalize R.ok = o at *
 go_enter Tryz.func37, Tryz.ntmps37
 go_wp2_with fail
 go_ret
 exact ⟨rfl, rfl⟩
end
end Go.Proofs.YtnihdgcfamoplaaGreat

namespace Go.Proofs.YtnihdgcfamoplaaGreat
open Go.RowKit Go.Lib Go.Sort
structure De where
 LG : Bool
 r : Rq
 xi : Int
 xt : Int
def qY (x : De) : List Value := .bool x.LG :: (encR x.r ++ [.int .i64 x.xi, .int .i64 x.xt])
section
variable {w : World} {v : Value} {l : List De}
theorem LH (h : az qY 12 w v l) : Calls Tryz.prog 7 #[v] w fun e w' => ∃ v', e = .returned v' ∧ az qY 12 w v' (l.take 60) ∧ w = w' := by
 have hr := h
 obtain ⟨ao, cap, rfl, h1, h2, h3⟩ := h
 by_cases hn : 60 < l.length
 ·have d1 : decide ((60 : Int) < (l.length : Int)) = true := decide_eq_true (by omega)
  have hcut := hr.cut (n := 60) (by omega)
  go_enter Tryz.func7, Tryz.ntmps7
  go_wp2_with fail
  go_ret
  exact ⟨_, rfl, hcut, rfl⟩
 ·have d1 : decide ((60 : Int) < (l.length : Int)) = false := decide_eq_false (by omega)
  have e : l.take 60 = l := List.take_of_length_le (by omega)
  rw [e]
  go_enter Tryz.func7, Tryz.ntmps7
  go_wp2_with fail
  go_ret
  exact ⟨_, rfl, hr, rfl⟩
end
end Go.Proofs.YtnihdgcfamoplaaGreat

namespace Go.Proofs.YtnihdgcfamoplaaGreat
open Go.RowKit Go.Lib Go.Sort
section
variable {M : Md}
theorem yj (M : Md) (j : Jb) : (fC M j).L.length = M.L.length ∧ (fC M j).dr = M.dr := ⟨by show (M.L.map _).length = _; rw [List.length_map], rfl⟩
theorem R4 (hI : aF M) (r : Rw) : (fE M r).2.L.length ≤ M.L.length + 1 ∧ (fE M r).2.dr.length = M.dr.length := by
 unfold fE
 by_cases hc : M.cl = true
 ·rw [if_pos hc]; exact ⟨Nat.le_succ _, rfl⟩
 rw [if_neg hc]
 by_cases k1 : r.kind = 1
 ·rw [if_pos k1]
  unfold iP
  split
  ·exact ⟨Nat.le_succ _, rfl⟩
  split
  ·exact ⟨by show (M.L ++ [_]).length ≤ _; simp, rfl⟩
  ·refine ⟨?_, rfl⟩
   rw [(yj _ _).1]
   show (M.L ++ [_]).length ≤ _
   simp
 rw [if_neg k1]
 by_cases k2 : r.kind = 2 ∨ r.kind = 5
 ·rw [if_pos k2]
  unfold lU
  simp only
  split
  ·exact ⟨Nat.le_succ _, rfl⟩
  split
  ·exact ⟨Nat.le_succ _, rfl⟩
  ·exact ⟨by show (M.L.set _ _).length ≤ _; rw [List.length_set]; omega, rfl⟩
 rw [if_neg k2]
 by_cases k3 : r.kind = 3 ∨ r.kind = 4 ∨ r.kind = 6
 ·rw [if_pos k3]
  unfold gm
  simp only
  split
  ·exact ⟨Nat.le_succ _, rfl⟩
  split
  ·exact ⟨Nat.le_succ _, rfl⟩
  split
  ·refine ⟨?_, rfl⟩
   rw [(yj _ _).1]
   show (M.L.set _ _).length ≤ _
   rw [List.length_set]; omega
  ·exact ⟨by show (M.L.set _ _).length ≤ _; rw [List.length_set]; omega, rfl⟩
 rw [if_neg k3]
 by_cases k7 : r.kind = 7 ∨ r.kind = 8
 ·rw [if_pos k7]
  unfold iw
  split
  ·exact ⟨Nat.le_succ _, rfl⟩
  split
  ·exact ⟨Nat.le_succ _, rfl⟩
  ·unfold fI
   split
   ·exact ⟨by show (fC M kY).L.length ≤ _; rw [(yj _ _).1]; omega, by show (M.dr.set _ _).length = _; rw [List.length_set]⟩
   ·exact ⟨Nat.le_succ _, by show (M.dr.set _ _).length = _; rw [List.length_set]⟩
 rw [if_neg k7]
 by_cases k9 : r.kind = 9
 ·rw [if_pos k9]
  unfold l9
  split
  ·exact ⟨Nat.le_succ _, rfl⟩
  ·have hn := hI.mb.now
   have hk := En (M.now + r.by') (2 * M.L.length + 1) hI.mb (by omega)
   exact ⟨by show (dI _ _ M).L.length ≤ _; rw [hk.2.1]; omega, by show (dI _ _ M).dr.length = _; rw [hk.2.2.1]⟩
 rw [if_neg k9]
 repeat' split
 all_goals exact ⟨Nat.le_succ _, rfl⟩
theorem IQ (M : Md) (id t : Int) : (dw M id t).2.L.length = M.L.length ∧ (dw M id t).2.dr = M.dr := by
 unfold dw
 split
 ·split
  ·exact ⟨by show (M.L.set _ _).length = _; rw [List.length_set], rfl⟩
  ·exact ⟨by show (M.L.set _ _).length = _; rw [List.length_set], rfl⟩
 ·exact ⟨rfl, rfl⟩
def FD (M : Md) (x : De) : Md := if x.LG then (dw M x.xi x.xt).2 else (fE M (toW x.r)).2
def kM (M : Md) (l : List De) : Md := l.foldl FD M
theorem Ok.de (h : Ok M) (x : De) : Ok (FD M x) := by
 unfold FD
 split
 ·exact h.jK _ _
 ·exact h.Gc _
theorem R5 (h : Ok M) (x : De) : (FD M x).L.length ≤ M.L.length + 1 ∧ (FD M x).dr.length = M.dr.length := by
 unfold FD
 split
 ·have := IQ M x.xi x.xt
  exact ⟨by rw [this.1]; omega, by rw [this.2]⟩
 ·exact R4 h.inv _
theorem ym (h : Ok M) (l : List De) : Ok (kM M l) ∧ (kM M l).L.length ≤ M.L.length + l.length ∧ (kM M l).dr.length = M.dr.length := by
 unfold kM
 induction l generalizing M with
 | nil => exact ⟨h, Nat.le_refl _, rfl⟩
 | cons x l ih =>
  obtain ⟨h1, h2, h3⟩ := ih (h.de x)
  have := R5 h x
  exact ⟨h1, by show (l.foldl FD (FD M x)).L.length ≤ M.L.length + (l.length + 1); omega, h3.trans this.2⟩
theorem KQ (M : Md) {l : List De} {i : Nat} (hi : i < l.length) : kM M (l.take (i + 1)) = FD (kM M (l.take i)) l[i] := by
 unfold kM
 rw [List.take_succ_eq_append_getElem hi, List.foldl_append]
 rfl
end
end Go.Proofs.YtnihdgcfamoplaaGreat

namespace Go.Proofs.YtnihdgcfamoplaaGreat
open Go.RowKit Go.Lib Go.Sort
section
variable {M : Md}
def oI (M : Md) (r : Rw) : Rl × Md := if 1 ≤ r.kind ∧ r.kind ≤ 13 then fE M r else (fJ 4, M)
theorem IU {r : Rw} (h : 1 ≤ r.kind ∧ r.kind ≤ 13) : oI M r = fE M r := by unfold oI; rw [if_pos h]
theorem yn {r : Rw} (h : ¬ (1 ≤ r.kind ∧ r.kind ≤ 13)) : oI M r = (fJ 4, M) := by unfold oI; rw [if_neg h]
theorem N9 (M : Md) (r : Rw) : (oI M r).2 = (fE M r).2 := by
 by_cases h : 1 ≤ r.kind ∧ r.kind ≤ 13
 ·rw [IU h]
 ·rw [yn h]
  unfold fE
  rw [if_neg (show ¬ r.kind = 1 by omega), if_neg (show ¬ (r.kind = 2 ∨ r.kind = 5) by omega), if_neg (show ¬ (r.kind = 3 ∨ r.kind = 4 ∨ r.kind = 6) by omega), if_neg (show ¬ (r.kind = 7 ∨ r.kind = 8) by omega), if_neg (show ¬ r.kind = 9 by omega), if_neg (show ¬ r.kind = 10 by omega), if_neg (show ¬ r.kind = 11 by omega), if_neg (show ¬ r.kind = 12 by omega), if_neg (show ¬ r.kind = 13 by omega)]
  split <;> rfl
end
def lZ (w : World) (s c : Nat) : Prop := w.heap[s]? = some (.cells #[.pointer (some ⟨c, 0, none⟩)] 44 (0, 0))
theorem lZ.lt {w : World} {s c : Nat} (h : lZ w s c) : s < w.heap.size := aG h
theorem lZ.c0 {w : World} {s c : Nat} (h : lZ w s c) : w.cell? ⟨s, 0, none⟩ = some (.pointer (some ⟨c, 0, none⟩)) := by simp [World.cell?, show w.heap[s]? = _ from h]
theorem lZ.kept {w w' : World} {s c : Nat} (h : lZ w s c) (hb : Below w.heap.size w w') : lZ w' s c := (hb.block s h.lt).trans h
theorem lZ.far {w w' : World} {s c : Nat} (h : lZ w s c) (hf : R3 w w') : lZ w' s c := hf s _ _ _ (by decide) (by decide) h
structure SO (B : Nat) (w : World) (s c t d p : Nat) (v : Value) (g : Nat) (m : Int) (M : Md) : Prop where
 at' : lZ w s c
 Oa : B ≤ s
 cw : CW w c t d p v g (1 + 2 * M.L.length) m (aj M)
 lo : ∀ k, dH c t d p v g k → B ≤ k
section
variable {w w' w1 : World} {B s c t d p g g' : Nat} {v v' : Value} {m m' : Int} {M M' : Md}
theorem SO.apart (h : SO B w s c t d p v g m M) : ¬ dH c t d p v g s := h.cw.other h.at' (by decide)
theorem SO.kept (h : SO B w s c t d p v g m M) (hb : Below w.heap.size w w') : SO B w' s c t d p v g m M := ⟨h.at'.kept hb, h.Oa, h.cw.kept hb, h.lo⟩
theorem SO.wider (h : SO B w s c t d p v g m M) (hm : m ≤ m') : SO B w s c t d p v g m' M := ⟨h.at', h.Oa, h.cw.wider (Nat.le_refl _) hm, h.lo⟩
theorem SO.turn (h : SO B w s c t d p v g m M) (hs : CS w w' c t d p v g v' g') (hC : CW w' c t d p v' g' (1 + 2 * M'.L.length) m' (aj M')) (hB : B ≤ w.heap.size) : SO B w' s c t d p v' g' m' M' :=
 ⟨(hs.heap h.at'.lt h.apart).trans h.at', h.Oa, hC, hs.lo h.lo hB⟩
theorem SO.below (h : SO B w s c t d p v g m M) (hs : CS w w' c t d p v g v' g') (hB : B ≤ w.heap.size) : Below B w w' := hs.below h.lo hB
theorem CS.QO {b : Nat} (hb : Below w.heap.size w w1) (hlo : w.heap.size ≤ b) (hs : WS w1 w' b c t d p v g v' g') : CS w w' c t d p v g v' g' := by
 refine ⟨⟨hs.off.os.trans hb.os, hs.off.tape.trans hb.tape, hs.off.output.trans hb.output, Nat.le_trans hb.size hs.off.size, fun k hk hf => ?_⟩, fun k hk => ?_⟩
 ·refine (hs.heap (Nat.lt_of_lt_of_le hk hb.size) ?_).trans (hb.block k hk)
  rintro (rfl | h2)
  ·omega
  ·exact hf h2
 ·rcases hs.grew k (.inr hk) with (rfl | h2) | h2
  ·exact .inr hlo
  ·exact .inl h2
  ·exact .inr (Nat.le_trans hb.size h2)
end
section
variable {w : World} {B s c t d p g : Nat} {v : Value} {m : Int} {M : Md}
theorem qZ (w : World) : Calls Tryz.prog 34 #[.pointer none] w fun e w' => e = .returned (.bool true) ∧ w = w' := by
 go_enter Tryz.func34, Tryz.ntmps34
 go_wp2_with fail
 go_ret
 exact ⟨rfl, rfl⟩
theorem qz (h : SO B w s c t d p v g m M) : Calls Tryz.prog 34 #[.pointer (some ⟨s, 0, none⟩)] w fun e w' => e = .returned (.bool false) ∧ w = w' := by
 have c0 := h.at'.c0
 have hn := kE h.cw
 go_enter Tryz.func34, Tryz.ntmps34
 go_wp2_with fail
 go_at_call 51
 refine hn.mono ?_
 clear hn
 rintro e w' ⟨rfl, rfl⟩
 go_wp2_with fail
 go_ret
 exact ⟨rfl, rfl⟩
theorem IV (c : Nat) (w : World) : Calls Tryz.prog 32 #[.pointer (some ⟨c, 0, none⟩)] w fun e w' => e = .returned (.pointer (some ⟨w.heap.size, 0, none⟩)) ∧ lZ w' w.heap.size c ∧ Below w.heap.size w w' := by
 go_enter Tryz.func32, Tryz.ntmps32
 go_wp2_with fail
 go_ret
 exact ⟨rfl, heap_alloc_new w _, (Below.refl _ _).alloc (Nat.le_refl _) _⟩
theorem Ob (n : Int) (w : World) (h : n < 1 ∨ 64 < n) : Calls Tryz.prog 8 #[.int .i64 n] w fun e w' => e = .returned (.tuple #[.pointer none, .int .i64 1]) ∧ w = w' := by
 have hn := NU n w h
 go_enter Tryz.func8, Tryz.ntmps8
 go_wp2_with (go_at_call 31; go_must (refine hn.mono ?_); rintro e w' ⟨rfl, rfl⟩)
 go_ret2
 exact ⟨rfl, rfl⟩
theorem IW (n : Nat) (w : World) (h1 : 1 ≤ n) (h2 : n ≤ 64) : Calls Tryz.prog 8 #[.int .i64 n] w fun e w' => ∃ s c t d p v g, e = .returned (.tuple #[.pointer (some ⟨s, 0, none⟩), .int .i64 0]) ∧ SO w.heap.size w' s c t d p v g 0 (eZ n) ∧ Below w.heap.size w w' := by
 have hn := QG n w h1 h2
 go_enter Tryz.func8, Tryz.ntmps8
 go_wp2_with fail
 go_at_call 31
 refine hn.mono ?_
 clear hn
 rintro e w1 ⟨c, t, d, p, v, g, rfl, ⟨uC, hlo1⟩, hb1⟩
 have ho := IV c w1
 go_wp2_with fail
 go_at_call 32
 refine ho.mono ?_
 clear ho
 rintro e w2 ⟨rfl, hS2, hb2⟩
 go_wp2_with fail
 go_ret2
 exact ⟨w1.heap.size, c, t, d, p, v, g, rfl, ⟨hS2, hb1.size, uC.kept hb2, hlo1⟩, hb1.trans (hb2.mono hb1.size)⟩
end
section
variable {w w0 : World} {B s b c t d p g N : Nat} {v : Value} {m : Int} {M : Md} {Q : World → Prop}
theorem IX (hs : lZ w s c) (h : Goes b c N w Q) : Calls Tryz.prog 35 #[.pointer (some ⟨s, 0, none⟩), .pointer (some ⟨b, 0, none⟩)] w fun e w' => e = .returned (.pointer (some ⟨b, 0, none⟩)) ∧ Q w' := by
 go_enter Tryz.func35, Tryz.ntmps35
 go_wp2_with fail
 go_loopg [] N (fun k wr => Hid (lZ wr s c) ∧ Hid (Goes b c k wr Q))
 case atStart => exact ⟨Lib.hid hs, Lib.hid h⟩
 case round =>
  obtain ⟨h1, h2⟩ := hrel
  cases gk with
  | zero => exact h2.out.elim
  | succ K =>
   have c0 := h1.out.c0
   have hg : Calls Tryz.prog 71 #[.pointer (some ⟨b, 0, none⟩), .pointer (some ⟨c, 0, none⟩)] wr fun e w' => R3 wr w' ∧ ((e = .returned (.bool true) ∧ Q w') ∨ (e = .returned (.bool false) ∧ Goes b c K w' Q)) := h2.out
   go_wp2_with fail
   go_at_call 71
   refine hg.mono ?_
   clear hg
   rintro e w' ⟨hf, ⟨rfl, hq⟩ | ⟨rfl, hq⟩⟩
   ·go_wp2_with fail
    go_ret
    exact ⟨rfl, hq⟩
   ·have h3 := Lib.hid (h1.out.far hf)
    have h4 := Lib.hid hq
    go_wp2_with fail
    go_roundg K
    case measure => omega
    case rel => exact ⟨h3, h4⟩
def BB (w : World) (b c t d p : Nat) (v : Value) (g : Nat) (m : Int) (M' : Md) (y : Ry) (ok : Bool) (e : Ending) (w' : World) : Prop :=
 ∃ (v' : Value) (g' : Nat) (R : Wk), e = .returned (.pointer (some ⟨b, 0, none⟩)) ∧ CW w' c t d p v' g' (1 + 2 * M'.L.length) (m + 1000) (aj M') ∧ cO w' b R ∧ R.rep = y ∧ R.ok = ok ∧ WS w w' b c t d p v g v' g'
theorem wV {M' : Md} {y : Ry} {ok : Bool} (hs : lZ w s c) (h : Goes b c 1000 w (Fin w b c t d p v g (m + 1000) M' y ok)) (hI : aF M') :
  Calls Tryz.prog 35 #[.pointer (some ⟨s, 0, none⟩), .pointer (some ⟨b, 0, none⟩)] w (BB w b c t d p v g m M' y ok) := by
 refine (IX hs h).mono ?_
 rintro e w' ⟨rfl, ⟨v', g', a, m', R, hS, ha, hm, hl, hr, ho, hw⟩⟩
 exact ⟨v', g', R, rfl, (hS.cw.QH hI).wider (Nat.le_refl _) hm, hS.wk, hr, ho, hw⟩
theorem Cw (hs : lZ w s c) (h : CW w c t d p v g (1 + 2 * M.L.length) m (aj M)) (r : Rq) (hb : cO w b (wR r)) (hM : Ok M) (h1 : 1 ≤ M.dr.length) (hll : M.L.length ≤ 190) (hm : m + 1000 ≤ 1000000) (hnd : -9223372036854775808 ≤ r.node ∧ r.node ≤ 9223372036854775807) :
  Calls Tryz.prog 35 #[.pointer (some ⟨s, 0, none⟩), .pointer (some ⟨b, 0, none⟩)] w (BB w b c t d p v g m (fE M (toW r)).2 (jk (fE M (toW r)).1) false) := by
 have hg := QK (mx := m + 1000) (R := wR r) ⟨hb, h⟩ rfl hM.inv hM.calm hM.early h1 hll (Nat.le_refl _) (Int.le_refl _) hm rfl rfl (IM r hnd) (WS.refl w)
 rw [show (wR r).ag = lN r from rfl, N7] at hg
 exact wV hs hg (hM.Gc _).inv
theorem zy (hs : lZ w s c) (h : CW w c t d p v g (1 + 2 * M.L.length) m (aj M)) (i x : Int) (hb : cO w b (Bt i x)) (hM : Ok M) (h1 : 1 ≤ M.dr.length) (hll : M.L.length ≤ 190) (hm : m + 1000 ≤ 1000000) (hx : -9223372036854775808 ≤ x ∧ x ≤ 9223372036854775807) :
  Calls Tryz.prog 35 #[.pointer (some ⟨s, 0, none⟩), .pointer (some ⟨b, 0, none⟩)] w (BB w b c t d p v g m (dw M i x).2 (mW M) (dw M i x).1) :=
 wV hs (FC (mx := m + 1000) (R := Bt i x) ⟨hb, h⟩ rfl hM.inv hM.calm h1 hll (Nat.le_refl _) (Int.le_refl _) hm rfl rfl hx (WS.refl w)) (hM.jK i x).inv
theorem FE {w : World} {G : Nat} {z : Ry} (hb : w.heap[G]? = some (.cells (bu z).toArray 39 (0, 0))) (y : Ry) :
  Sem.run Tryz.prog (storeCells ⟨G, 0, none⟩ (bu y) 0) w = .ok () (w.setRow G (bu y).toArray) ∧ (w.setRow G (bu y).toArray).heap[G]? = some (.cells (bu y).toArray 39 (0, 0)) := by
 have hst := run_storeCells_at Tryz.prog G 0 39 (bu y) 0 (bu z).toArray w hb (by simp [iC]) (uk y)
 simp only [Nat.add_zero] at hst
 have e : (((bu z).toArray.toList.take 0 ++ bu y ++ (bu z).toArray.toList.drop (0 + (bu y).length)).toArray) = (bu y).toArray := by simp [iC]
 rw [e] at hst
 exact ⟨hst, setRow_heap w G _ _ _ _ hb⟩
theorem CS.row {w w' : World} {c t d p g g' G : Nat} {v v' : Value} (h : CS w w' c t d p v g v' g') (hG : w.heap.size ≤ G) (cs : Array Value) : CS w (w'.setRow G cs) c t d p v g v' g' :=
 ⟨⟨h.off.os, h.off.tape, h.off.output, by simp; exact h.off.size, fun k hk hf => (setRow_other w' G k cs (by omega)).trans (h.off.block k hk hf)⟩, h.grew⟩
theorem CS.later {w w1 w' : World} {c t d p g g' : Nat} {v v' : Value} (h : CS w w1 c t d p v g v' g') (hb : Below w1.heap.size w1 w') : CS w w' c t d p v g v' g' := h.trans (CS.of_below hb)
def LK (B : Nat) (w : World) (s c t d p : Nat) (v : Value) (g : Nat) (m : Int) (M' : Md) (r : Value) (e : Ending) (w' : World) : Prop :=
 ∃ (v' : Value) (g' : Nat), e = .returned r ∧ SO B w' s c t d p v' g' (m + 1000) M' ∧ CS w w' c t d p v g v' g' ∧ Below B w w'
theorem wW (h : SO B w s c t d p v g m M) (hB : B ≤ w.heap.size) (r : Rq) (hM : Ok M) (h1 : 1 ≤ M.dr.length) (hll : M.L.length ≤ 190) (hm : m + 1000 ≤ 1000000) (hnd : -9223372036854775808 ≤ r.node ∧ r.node ≤ 9223372036854775807) :
  Calls Tryz.prog 14 #[.pointer (some ⟨s, 0, none⟩), .agg (encR r).toArray] w (LK B w s c t d p v g m (fE M (toW r)).2 (.agg (bu (jk (oI M (toW r)).1)).toArray)) := by
 by_cases hk : 1 ≤ r.kind ∧ r.kind ≤ 13
 ·rw [IU (show 1 ≤ (toW r).kind ∧ (toW r).kind ≤ 13 from hk)]
  have key : ∀ w2 b, cO w2 b (wR r) → Below w.heap.size w w2 → Calls Tryz.prog 35 #[.pointer (some ⟨s, 0, none⟩), .pointer (some ⟨b, 0, none⟩)] w2 (BB w2 b c t d p v g m (fE M (toW r)).2 (jk (fE M (toW r)).1) false) :=
   fun w2 b hW hb2 => Cw (h.at'.kept hb2) (h.cw.kept hb2) r hW hM h1 hll hm hnd
  have hf0 : ∀ k, dH c t d p v g k → k < w.heap.size := fun k => h.cw.lt
  generalize jk (fE M (toW r)).1 = y at *
  generalize (fE M (toW r)).2 = M2 at *
  obtain ⟨y1, y2, y3, y4, y5, y6, y7, y8, y9⟩ := r
  obtain ⟨wA, aK⟩ : ∃ wA, wA = (w.alloc (.cells #[.int .i64 y1, .int .i64 y2, .int .i64 y3, .int .i64 y4, .int .i64 y5, .int .i64 y6, .bool y7, .int .i64 y8, .int .i64 y9] 32)).alloc (.cells #[.int .i64 0, .int .i64 0, .int .i64 0, .int .i64 0, .int .i64 0, .int .i64 0, .int .i64 0, .int .i64 0, .int .i64 0] 39) := ⟨_, rfl⟩
  have bR : Below w.heap.size w wA := by rw [aK]; exact ((Below.refl _ _).alloc (Nat.le_refl _) _).alloc (by simp) _
  have hsA : wA.heap.size = w.heap.size + 2 := by rw [aK]; simp
  have iq : wA.heap[w.heap.size + 1]? = some (.cells (bu jY).toArray 39 (0, 0)) := by rw [aK]; exact heap_alloc2_new w _ _
  have tF : wA.heap[w.heap.size]? = some (.cells #[.int .i64 y1, .int .i64 y2, .int .i64 y3, .int .i64 y4, .int .i64 y5, .int .i64 y6, .bool y7, .int .i64 y8, .int .i64 y9] 32 (0, 0)) := by rw [aK]; exact fF (heap_alloc_new w _)
  have hl := qz (h.kept bR)
  have hi := Bl y1 wA
  dsimp only at hk
  rw [decide_eq_true hk.1, decide_eq_true hk.2] at hi
  have hq := IE ⟨y1, y2, y3, y4, y5, y6, y7, y8, y9⟩ wA
  rw [show (encR ⟨y1, y2, y3, y4, y5, y6, y7, y8, y9⟩).toArray = #[.int .i64 y1, .int .i64 y2, .int .i64 y3, .int .i64 y4, .int .i64 y5, .int .i64 y6, .bool y7, .int .i64 y8, .int .i64 y9] from rfl] at hq ⊢
  have r0 : wA.cell? ⟨w.heap.size, 0, none⟩ = some (.int .i64 y1) := by simp [World.cell?, tF]
  have r1 : wA.cell? ⟨w.heap.size, 1, none⟩ = some (.int .i64 y2) := by simp [World.cell?, tF]
  have r2 : wA.cell? ⟨w.heap.size, 2, none⟩ = some (.int .i64 y3) := by simp [World.cell?, tF]
  have r3 : wA.cell? ⟨w.heap.size, 3, none⟩ = some (.int .i64 y4) := by simp [World.cell?, tF]
  have r4 : wA.cell? ⟨w.heap.size, 4, none⟩ = some (.int .i64 y5) := by simp [World.cell?, tF]
  have r5 : wA.cell? ⟨w.heap.size, 5, none⟩ = some (.int .i64 y6) := by simp [World.cell?, tF]
  have r6 : wA.cell? ⟨w.heap.size, 6, none⟩ = some (.bool y7) := by simp [World.cell?, tF]
  have r7 : wA.cell? ⟨w.heap.size, 7, none⟩ = some (.int .i64 y8) := by simp [World.cell?, tF]
  have r8 : wA.cell? ⟨w.heap.size, 8, none⟩ = some (.int .i64 y9) := by simp [World.cell?, tF]
  clear tF
  have zY := sQ
  obtain ⟨k9, bS⟩ : ∃ k, k = 9 := ⟨_, rfl⟩
  rw [← bS] at zY
  have lY := iC y
  rw [← bS] at lY
  have hk0 : ¬ k9 = 0 := by omega
  replace bS := Lib.hid bS
  replace key := Lib.hid key
  replace hf0 := Lib.hid hf0
  replace iq := Lib.hid iq
  go_enter Tryz.func14, Tryz.ntmps14
  go_wp2_with fail
  rw [← aK]
  replace aK := Lib.hid aK
  go_at_call 34
  refine hl.mono ?_
  clear hl
  rintro e w' ⟨rfl, rfl⟩
  go_wp2_with fail
  go_at_call 48
  refine hi.mono ?_
  clear hi
  rintro e w' ⟨rfl, rfl⟩
  go_wp2_with fail
  go_at_call 49
  refine hq.mono ?_
  clear hq
  rintro e w2 ⟨b, rfl, hW2, hlb, hb2⟩
  have wX : Below w.heap.size w w2 := bR.trans (hb2.mono bR.size)
  have hp := key.out w2 b hW2 wX
  go_wp2_with fail
  go_at_call 35
  refine hp.mono ?_
  clear hp
  rintro e w3 ⟨v', g', R, rfl, BC, hW3, hr, _, hs3⟩
  have KR := N8 hW3
  rw [hr] at KR
  go_wp2_with fail
  go_at_call 50
  refine KR.mono ?_
  clear KR
  rintro e w4 ⟨rfl, hb4⟩
  have hcs : CS w w4 c t d p v g v' g' := (CS.QO wX (by omega) hs3).later hb4
  have hG : ¬ Bh b c t d p v g (w.heap.size + 1) := by
   rintro (e | hf)
   ·omega
   ·have := hf0.out _ hf
    omega
  have hlt2 : w.heap.size + 1 < w2.heap.size := by have := hb2.size; omega
  have hR2 := (hb2.block (w.heap.size + 1) (by omega)).trans iq.out
  have Na := (hs3.heap hlt2 hG).trans hR2
  have oq := (hb4.block (w.heap.size + 1) (Nat.lt_of_lt_of_le hlt2 hs3.off.size)).trans Na
  obtain ⟨st, EJ⟩ := FE oq y
  have oM := BC.kept hb4
  have hnf : ¬ dH c t d p v' g' (w.heap.size + 1) := fun hf => (hs3.grew _ (.inr hf)).elim hG (fun h2 => by omega)
  have gL := oM.Lt (dh w4 (bu y).toArray) hnf
  have oK := hcs.row (G := w.heap.size + 1) (Nat.le_succ _) (bu y).toArray
  have hfin : Hid (SO B (w4.setRow (w.heap.size + 1) (bu y).toArray) s c t d p v' g' (m + 1000) M2 ∧ CS w (w4.setRow (w.heap.size + 1) (bu y).toArray) c t d p v g v' g' ∧ Below B w (w4.setRow (w.heap.size + 1) (bu y).toArray)) :=
   ⟨h.turn oK gL hB, oK, h.below oK hB⟩
  have hsz : (bu y).toArray.size = 9 := rfl
  clear hs3 hb4 hb2 BC oM gL hcs oK hW3 hW2 hR2 Na oq h
  go_wp2_with fail
  exact eH rfl rfl rfl EJ Tryz.underlying39 rfl (by rw [hsz]; kernel_rfl) ⟨v', g', rfl, hfin.out⟩
 ·rw [yn (show ¬ (1 ≤ (toW r).kind ∧ (toW r).kind ≤ 13) from hk), ← N9, yn (show ¬ (1 ≤ (toW r).kind ∧ (toW r).kind ≤ 13) from hk)]
  obtain ⟨y1, y2, y3, y4, y5, y6, y7, y8, y9⟩ := r
  dsimp only at hk
  obtain ⟨wA, aK⟩ : ∃ wA, wA = (w.alloc (.cells #[.int .i64 y1, .int .i64 y2, .int .i64 y3, .int .i64 y4, .int .i64 y5, .int .i64 y6, .bool y7, .int .i64 y8, .int .i64 y9] 32)).alloc (.cells #[.int .i64 0, .int .i64 0, .int .i64 0, .int .i64 0, .int .i64 0, .int .i64 0, .int .i64 0, .int .i64 0, .int .i64 0] 39) := ⟨_, rfl⟩
  have bR : Below w.heap.size w wA := by rw [aK]; exact ((Below.refl _ _).alloc (Nat.le_refl _) _).alloc (by simp) _
  have hsA : wA.heap.size = w.heap.size + 2 := by rw [aK]; simp
  have iq : wA.heap[w.heap.size + 1]? = some (.cells (bu jY).toArray 39 (0, 0)) := by rw [aK]; exact heap_alloc2_new w _ _
  have tF : wA.heap[w.heap.size]? = some (.cells #[.int .i64 y1, .int .i64 y2, .int .i64 y3, .int .i64 y4, .int .i64 y5, .int .i64 y6, .bool y7, .int .i64 y8, .int .i64 y9] 32 (0, 0)) := by rw [aK]; exact fF (heap_alloc_new w _)
  have r0 : wA.cell? ⟨w.heap.size, 0, none⟩ = some (.int .i64 y1) := by simp [World.cell?, tF]
  have hl := qz (h.kept bR)
  have hi := Bl y1 wA
  have hii : (decide (1 ≤ y1) && decide (y1 ≤ 13)) = false := by
   by_cases c1 : 1 ≤ y1
   ·rw [decide_eq_false (show ¬ y1 ≤ 13 by omega), Bool.and_false]
   ·rw [decide_eq_false c1, Bool.false_and]
  rw [hii] at hi
  have hq := Bf 4 wA
  generalize hy : (⟨4, 0, 0, 0, 0, 0, 0, 0, 0⟩ : Ry) = y at *
  rw [show jk (fJ 4, M).1 = y from hy]
  rw [show (encR ⟨y1, y2, y3, y4, y5, y6, y7, y8, y9⟩).toArray = #[.int .i64 y1, .int .i64 y2, .int .i64 y3, .int .i64 y4, .int .i64 y5, .int .i64 y6, .bool y7, .int .i64 y8, .int .i64 y9] from rfl]
  clear hy hii tF
  have zY := sQ
  obtain ⟨k9, bS⟩ : ∃ k, k = 9 := ⟨_, rfl⟩
  rw [← bS] at zY
  have lY := iC y
  rw [← bS] at lY
  have hk0 : ¬ k9 = 0 := by omega
  replace bS := Lib.hid bS
  replace iq := Lib.hid iq
  go_enter Tryz.func14, Tryz.ntmps14
  go_wp2_with fail
  rw [← aK]
  replace aK := Lib.hid aK
  go_at_call 34
  refine hl.mono ?_
  clear hl
  rintro e w' ⟨rfl, rfl⟩
  go_wp2_with fail
  go_at_call 48
  refine hi.mono ?_
  clear hi
  rintro e w' ⟨rfl, rfl⟩
  go_wp2_with fail
  go_at_call 47
  refine hq.mono ?_
  clear hq
  rintro e w4 ⟨rfl, hb4⟩
  have IY : Below w.heap.size w w4 := bR.trans (hb4.mono bR.size)
  have oq := (hb4.block (w.heap.size + 1) (by omega)).trans iq.out
  obtain ⟨st, EJ⟩ := FE oq y
  have oK := (CS.of_below (c := c) (t := t) (d := d) (p := p) (v := v) (g := g) IY).row (G := w.heap.size + 1) (Nat.le_succ _) (bu y).toArray
  have hnf : ¬ dH c t d p v g (w.heap.size + 1) := fun hf => by have := h.cw.lt hf; omega
  have gL := (h.cw.kept IY).Lt (dh w4 (bu y).toArray) hnf
  have hfin : Hid (SO B (w4.setRow (w.heap.size + 1) (bu y).toArray) s c t d p v g (m + 1000) M ∧ CS w (w4.setRow (w.heap.size + 1) (bu y).toArray) c t d p v g v g ∧ Below B w (w4.setRow (w.heap.size + 1) (bu y).toArray)) :=
   ⟨(h.turn oK gL hB).wider (by omega), oK, h.below oK hB⟩
  have hsz : (bu y).toArray.size = 9 := rfl
  clear hb4 gL oK oq h
  go_wp2_with fail
  exact eH rfl rfl rfl EJ Tryz.underlying39 rfl (by rw [hsz]; kernel_rfl) ⟨v, g, rfl, hfin.out⟩
theorem zf (h : SO B w s c t d p v g m M) (hB : B ≤ w.heap.size) (i x : Int) (hM : Ok M) (h1 : 1 ≤ M.dr.length) (hll : M.L.length ≤ 190) (hm : m + 1000 ≤ 1000000) (hx : -9223372036854775808 ≤ x ∧ x ≤ 9223372036854775807) :
  Calls Tryz.prog 11 #[.pointer (some ⟨s, 0, none⟩), .agg #[.int .i64 i, .int .i64 x]] w (LK B w s c t d p v g m (dw M i x).2 (.bool (dw M i x).1)) := by
 obtain ⟨wA, aK⟩ : ∃ wA, wA = w.alloc (.cells #[.int .i64 i, .int .i64 x] 34) := ⟨_, rfl⟩
 have bR : Below w.heap.size w wA := by rw [aK]; exact (Below.refl _ _).alloc (Nat.le_refl _) _
 have tF : wA.heap[w.heap.size]? = some (.cells #[.int .i64 i, .int .i64 x] 34 (0, 0)) := by rw [aK]; exact heap_alloc_new w _
 have r0 : wA.cell? ⟨w.heap.size, 0, none⟩ = some (.int .i64 i) := by simp [World.cell?, tF]
 have r1 : wA.cell? ⟨w.heap.size, 1, none⟩ = some (.int .i64 x) := by simp [World.cell?, tF]
 clear tF
 have hl := qz (h.kept bR)
 have hq := Ct i x wA
 have key : ∀ w2 b, cO w2 b (Bt i x) → Below w.heap.size w w2 → Calls Tryz.prog 35 #[.pointer (some ⟨s, 0, none⟩), .pointer (some ⟨b, 0, none⟩)] w2 (BB w2 b c t d p v g m (dw M i x).2 (mW M) (dw M i x).1) :=
  fun w2 b hW hb2 => zy (h.at'.kept hb2) (h.cw.kept hb2) i x hW hM h1 hll hm hx
 replace key := Lib.hid key
 go_enter Tryz.func11, Tryz.ntmps11
 go_wp2_with fail
 rw [← aK]
 replace aK := Lib.hid aK
 go_at_call 34
 refine hl.mono ?_
 clear hl
 rintro e w' ⟨rfl, rfl⟩
 go_wp2_with fail
 go_at_call 36
 refine hq.mono ?_
 clear hq
 rintro e w2 ⟨b, rfl, hW2, hlb, hb2⟩
 have wX : Below w.heap.size w w2 := bR.trans (hb2.mono bR.size)
 have hp := key.out w2 b hW2 wX
 go_wp2_with fail
 go_at_call 35
 refine hp.mono ?_
 clear hp
 rintro e w3 ⟨v', g', R, rfl, BC, hW3, _, hr, hs3⟩
 have KR := Uo hW3
 rw [hr] at KR
 go_wp2_with fail
 go_at_call 37
 refine KR.mono ?_
 clear KR
 rintro e w' ⟨rfl, rfl⟩
 have hcs : CS w w3 c t d p v g v' g' := CS.QO wX (by have := bR.size; omega) hs3
 have hfin := Lib.hid (And.intro (h.turn hcs BC hB) (And.intro hcs (h.below hcs hB)))
 clear hs3 hb2 BC hcs hW3 hW2 h key
 generalize (dw M i x).1 = ok at *
 go_wp2_with fail
 go_ret
 exact ⟨v', g', rfl, hfin.out⟩
end
end Go.Proofs.YtnihdgcfamoplaaGreat

namespace Go.Proofs.YtnihdgcfamoplaaGreat
open Go.RowKit Go.Lib Go.Sort
def yo (x : De) : Prop := rR x.r ∧ (-9223372036854775808 ≤ x.xi ∧ x.xi ≤ 9223372036854775807) ∧ (-9223372036854775808 ≤ x.xt ∧ x.xt ≤ 9223372036854775807)
section
end
end Go.Proofs.YtnihdgcfamoplaaGreat

namespace Go.Proofs.YtnihdgcfamoplaaGreat
open Go.RowKit Go.Lib Go.Sort
def Uq : Rq := ⟨1, 0, 0, 2, 10, 0, false, 0, 0⟩
def R6 : Rq := ⟨9, 0, 0, 0, 0, 0, false, 0, 5⟩
def R7 : Md := (fE (eZ 2) (toW Uq)).2
def R8 : Md := (dw R7 1 5).2
def QP : Md := (fE R8 (toW R6)).2
theorem Ur : (dw R7 1 5).1 = true := by decide
theorem Us : gP QP.L 1 = 0 ∧ (bM QP.L 1).st = 3 ∧ (bM QP.L 1).jl = 5 := by decide
theorem SV : Ok R7 := (Ok.new (by decide)).Gc _
theorem VW : Ok R8 := SV.jK _ _
theorem BD (w : World) : Calls Tryz.prog 9 #[] w fun e w' => e = .returned (.bool true) ∧ Below w.heap.size w w' := by
 have hn := IW 2 w (by decide) (by decide)
 go_enter Tryz.func9, Tryz.ntmps9
 go_wp2_with fail
 go_at_call 8
 refine hn.mono ?_
 clear hn
 rintro e w1 ⟨s, c, t, d, p, v, g, rfl, h1, hb1⟩
 have hq := wW h1 hb1.size Uq (Ok.new (by decide)) (by decide) (by decide) (by decide) (by decide)
 rw [show (encR Uq).toArray = #[.int .i64 1, .int .i64 0, .int .i64 0, .int .i64 2, .int .i64 10, .int .i64 0, .bool false, .int .i64 0, .int .i64 0] from rfl] at hq
 replace hq := Lib.hid hq
 go_wp2_with fail
 go_at_call 14
 refine hq.out.mono ?_
 clear hq
 rintro e w2 ⟨v2, g2, rfl, h2, _, hb2⟩
 have wX := hb1.trans hb2
 have hq := zf (M := R7) h2 wX.size 1 5 SV (by decide) (by decide) (by decide) (by decide)
 rw [Ur] at hq
 replace hq := Lib.hid hq
 go_wp2_with fail
 go_at_call 11
 refine hq.out.mono ?_
 clear hq
 rintro e w3 ⟨v3, g3, rfl, h3, _, hb3⟩
 have QQ := wX.trans hb3
 have hq := wW (M := R8) h3 QQ.size R6 VW (by decide) (by decide) (by decide) (by decide)
 rw [show (encR R6).toArray = #[.int .i64 9, .int .i64 0, .int .i64 0, .int .i64 0, .int .i64 0, .int .i64 0, .bool false, .int .i64 0, .int .i64 5] from rfl] at hq
 replace hq := Lib.hid hq
 go_wp2_with fail
 go_at_call 14
 refine hq.out.mono ?_
 clear hq
 rintro e w4 ⟨v4, g4, rfl, h4, _, hb4⟩
 have IY := Lib.hid (QQ.trans hb4)
 have k0 := h4.at'.c0
 have k1 := h4.cw.c0
 have hg := gK h4.cw.dX 1
 rw [show (aj (fE R8 (toW R6)).2).J = QP.L from rfl] at hg
 unfold iF at hg
 rw [Us.1] at hg
 have hj := Us.2
 obtain ⟨j, hjd⟩ : ∃ j, j = bM QP.L 1 := ⟨_, rfl⟩
 rw [← hjd] at hg hj
 clear hjd
 obtain ⟨j1, j2, j3, j4, j5, j6, j7, j8, j9, j0⟩ := j
 obtain ⟨e6, e7⟩ : j6 = 3 ∧ j7 = 5 := hj
 subst e6 e7
 rw [show (ah (j1, j2, j3, j4, j5, (3 : Int), (5 : Int), j8, j9, j0)).toArray = #[.int .i64 j1, .int .i64 j2, .int .i64 j3, .int .i64 j4, .int .i64 j5, .int .i64 3, .int .i64 5, .int .i64 j8, .int .i64 j9, .int .u64 j0] from rfl] at hg
 clear h1 h2 h3 h4 hb1 hb2 hb3 hb4 wX QQ
 go_wp2_with fail
 go_at_call 33
 refine hg.mono ?_
 clear hg k0 k1
 rintro e w5 ⟨rfl, hg5⟩
 have SX : Hid (Below w.heap.size w w5) := IY.out.trans (hg5.below.mono IY.out.size)
 go_wp2_with fail
 go_ret
 exact ⟨rfl, SX.out.alloc SX.out.size _⟩
section
variable {w : World} {u : Value} {l : List De}
theorem Oc (h : az qY 12 w u l) (n : Int) (hn : n < 1 ∨ 64 < n) : Calls Tryz.prog 16 #[.int .i64 n, u] w fun e w' => e = .returned (.pointer none) ∧ w = w' := by
 have hf := LH h
 have hb := Ob n w hn
 go_enter Tryz.func16, Tryz.ntmps16
 go_wp2_with fail
 go_at_call 7
 refine hf.mono ?_
 rintro e w' ⟨v', rfl, _, rfl⟩
 go_wp2_with fail
 go_at_call 8
 refine hb.mono ?_
 rintro e w' ⟨rfl, rfl⟩
 go_wp2_with fail
 go_ret
 exact ⟨rfl, rfl⟩
theorem QR (h : az qY 12 w u l) (hfit : ∀ x ∈ l, yo x) (n : Nat) (h1 : 1 ≤ n) (h2 : n ≤ 64) : Calls Tryz.prog 16 #[.int .i64 n, u] w fun e w' => ∃ s c t d p v g, e = .returned (.pointer (some ⟨s, 0, none⟩)) ∧
  SO w.heap.size w' s c t d p v g 60000 (kM (eZ n) (l.take 60)) ∧ Below w.heap.size w w' := by
 have hf := LH h
 have hb := IW n w h1 h2
 have Ut : ∀ x ∈ l.take 60, yo x := fun x hx => hfit x (List.mem_of_mem_take hx)
 have hlen : (l.take 60).length ≤ 60 := by rw [List.length_take]; omega
 generalize l.take 60 = ds at *
 clear h hfit
 go_enter Tryz.func16, Tryz.ntmps16
 go_wp2_with fail
 go_at_call 7
 refine hf.mono ?_
 clear hf
 rintro e w' ⟨u', rfl, hr, rfl⟩
 go_wp2_with fail
 go_at_call 8
 refine hb.mono ?_
 clear hb
 rintro e w1 ⟨s, c, t, d, p, v1, g1, rfl, hS1, hb1⟩
 replace hr := Lib.hid hr
 obtain ⟨ao, cap, rfl, q1, q2, q3⟩ := hr.out
 clear q1 q3
 go_wp2_with fail
 go_loopw [7] (fun ii wr => ∃ (i : Nat) (v : Value) (g : Nat), i ≤ ds.length ∧ ii = .int .i64 i ∧ Hid (SO w.heap.size wr s c t d p v g (1000 * i) (kM (eZ n) (ds.take i))) ∧ Hid (Below w.heap.size w wr)) (fun ii _ => ds.length - (intOf ii).toNat)
 case atStart =>
  exact ⟨0, v1, g1, Nat.zero_le _, rfl, Lib.hid hS1, Lib.hid hb1⟩
 case round =>
  clear hS1 hb1
  obtain ⟨i, v, g, hin, rfl, hC, hbr⟩ := hrel
  obtain ⟨hok, hpl, Uu⟩ := ym (Ok.new h2) (ds.take i)
  have hle : (ds.take i).length ≤ 60 := by rw [List.length_take]; omega
  have hnl : (eZ n).L.length = 0 ∧ (eZ n).dr.length = n := ⟨rfl, by simp [eZ]⟩
  by_cases hlt : i < ds.length
  ·have b2 : (i : Int) < (ds.length : Int) := by omega
   have wi : IntKind.i64.wrap ((i : Int) + 1) = (i : Int) + 1 := by rw [IntKind.wrap_i64]; omega
   have hrr := hr.out.below hbr.out
   obtain ⟨I5, cap', e0, r1, r2, r3⟩ := hrr
   injection e0 with e1 _ e2
   subst e1 e2
   obtain ⟨B, off, rfl, hB, hcell⟩ := r3 (by omega)
   have hx := fun (j : Nat) (z : Value) (hz : (qY ds[i])[j]? = some z) => hcell i ds[i] j z (List.getElem?_eq_getElem hlt) hz
   have hsn := KQ (eZ n) hlt
   generalize hxd : ds[i] = x at *
   have hfx := Ut x (by rw [← hxd]; exact List.getElem_mem hlt)
   obtain ⟨cm, ⟨y1, y2, y3, y4, y5, y6, y7, y8, y9⟩, xi, xt⟩ := x
   have k0 : wr.cell? ⟨B, off + i * 12, none⟩ = some (.bool cm) := hx 0 _ rfl
   have k1 : wr.cell? ⟨B, off + i * 12 + 1, none⟩ = some (.int .i64 y1) := hx 1 _ rfl
   have k2 : wr.cell? ⟨B, off + i * 12 + 1 + 1, none⟩ = some (.int .i64 y2) := (congrArg (fun z => wr.cell? ⟨B, z, none⟩) (show off + i * 12 + 1 + 1 = off + (i * 12 + 2) by omega)).trans (hx 2 _ rfl)
   have k3 : wr.cell? ⟨B, off + i * 12 + 1 + 2, none⟩ = some (.int .i64 y3) := (congrArg (fun z => wr.cell? ⟨B, z, none⟩) (show off + i * 12 + 1 + 2 = off + (i * 12 + 3) by omega)).trans (hx 3 _ rfl)
   have k4 : wr.cell? ⟨B, off + i * 12 + 1 + 3, none⟩ = some (.int .i64 y4) := (congrArg (fun z => wr.cell? ⟨B, z, none⟩) (show off + i * 12 + 1 + 3 = off + (i * 12 + 4) by omega)).trans (hx 4 _ rfl)
   have k5 : wr.cell? ⟨B, off + i * 12 + 1 + 4, none⟩ = some (.int .i64 y5) := (congrArg (fun z => wr.cell? ⟨B, z, none⟩) (show off + i * 12 + 1 + 4 = off + (i * 12 + 5) by omega)).trans (hx 5 _ rfl)
   have k6 : wr.cell? ⟨B, off + i * 12 + 1 + 5, none⟩ = some (.int .i64 y6) := (congrArg (fun z => wr.cell? ⟨B, z, none⟩) (show off + i * 12 + 1 + 5 = off + (i * 12 + 6) by omega)).trans (hx 6 _ rfl)
   have k7 : wr.cell? ⟨B, off + i * 12 + 1 + 6, none⟩ = some (.bool y7) := (congrArg (fun z => wr.cell? ⟨B, z, none⟩) (show off + i * 12 + 1 + 6 = off + (i * 12 + 7) by omega)).trans (hx 7 _ rfl)
   have k8 : wr.cell? ⟨B, off + i * 12 + 1 + 7, none⟩ = some (.int .i64 y8) := (congrArg (fun z => wr.cell? ⟨B, z, none⟩) (show off + i * 12 + 1 + 7 = off + (i * 12 + 8) by omega)).trans (hx 8 _ rfl)
   have k9 : wr.cell? ⟨B, off + i * 12 + 1 + 8, none⟩ = some (.int .i64 y9) := (congrArg (fun z => wr.cell? ⟨B, z, none⟩) (show off + i * 12 + 1 + 8 = off + (i * 12 + 9) by omega)).trans (hx 9 _ rfl)
   have k10 : wr.cell? ⟨B, off + i * 12 + 10, none⟩ = some (.int .i64 xi) := hx 10 _ rfl
   have k11 : wr.cell? ⟨B, off + i * 12 + 10 + 1, none⟩ = some (.int .i64 xt) := hx 11 _ rfl
   clear hx r3 hcell
   obtain ⟨M, hM⟩ : ∃ M, M = kM (eZ n) (ds.take i) := ⟨_, rfl⟩
   rw [← hM] at hC hok hpl Uu hsn
   cases cm with
   | false =>
    have hq := wW hC.out hbr.out.size ⟨y1, y2, y3, y4, y5, y6, y7, y8, y9⟩ hok (by omega) (by omega) (by omega) hfx.1.node
    rw [show (fE M (toW ⟨y1, y2, y3, y4, y5, y6, y7, y8, y9⟩)).2 = kM (eZ n) (ds.take (i + 1)) from hsn.symm, show (encR ⟨y1, y2, y3, y4, y5, y6, y7, y8, y9⟩).toArray = #[.int .i64 y1, .int .i64 y2, .int .i64 y3, .int .i64 y4, .int .i64 y5, .int .i64 y6, .bool y7, .int .i64 y8, .int .i64 y9] from rfl] at hq
    replace hq := Lib.hid hq
    go_wp2_with fail
    go_at_call 14
    refine hq.out.mono ?_
    clear hq k0 k1 k2 k3 k4 k5 k6 k7 k8 k9 k10 k11
    rintro e w3 ⟨v3, g3, rfl, BC, _, hb3⟩
    have QS := Lib.hid (hbr.out.trans hb3)
    have QT := Lib.hid (BC.wider (show 1000 * (i : Int) + 1000 ≤ 1000 * ((i + 1 : Nat) : Int) by omega))
    clear BC hb3
    go_wp2_with fail
    go_roundw
    case rel => exact ⟨i + 1, v3, g3, by omega, by go_num, QT, QS⟩
    case measure => simp [intOf]; omega
   | true =>
    have hq := zf hC.out hbr.out.size xi xt hok (by omega) (by omega) (by omega) hfx.2.2
    rw [show (dw M xi xt).2 = kM (eZ n) (ds.take (i + 1)) from hsn.symm] at hq
    replace hq := Lib.hid hq
    go_wp2_with fail
    go_at_call 11
    refine hq.out.mono ?_
    clear hq k0 k1 k2 k3 k4 k5 k6 k7 k8 k9 k10 k11
    rintro e w3 ⟨v3, g3, rfl, BC, _, hb3⟩
    have QS := Lib.hid (hbr.out.trans hb3)
    have QT := Lib.hid (BC.wider (show 1000 * (i : Int) + 1000 ≤ 1000 * ((i + 1 : Nat) : Int) by omega))
    clear BC hb3
    go_wp2_with fail
    go_roundw
    case rel => exact ⟨i + 1, v3, g3, by omega, by go_num, QT, QS⟩
    case measure => simp [intOf]; omega
  ·have b2 : ¬ (i : Int) < (ds.length : Int) := by omega
   have hi : i = ds.length := by omega
   subst hi
   rw [List.take_length] at hC
   have hC' := Lib.hid (hC.out.wider (show (1000 * (ds.length : Int)) ≤ 60000 by omega))
   go_wp2_with fail
   go_ret
   exact ⟨s, rfl, ⟨c, t, d, p, v, g, hC'.out⟩, hbr.out⟩
end
end Go.Proofs.YtnihdgcfamoplaaGreat

namespace Go.Proofs.YtnihdgcfamoplaaGreat
open Go.ChangeShapes Go.WideShapes Go.ChangeAt Go.RowKit Go.Lib Go.Sort Go.Deep
section
variable {H : Type} {enc : TypeId × Value → H} {w : World} {base : Nat} {v : Value} {d : DataW H} {ps : List MemPlace}
def R9 : List TypeId := [4, 3, 3, 3, 3, 2, 3, 4, 3, 2, 3, 2]
theorem vN {α : Type} {zg : α → List Value} {p : α → Prop} : ∀ {l : List (List Value)}, (∀ s ∈ l, ∃ x : α, s = zg x ∧ p x) → ∃ L : List α, l = L.map zg ∧ ∀ x ∈ L, p x
 | [], _ => ⟨[], rfl, fun _ h => nomatch h⟩
 | s :: l, h => by
  obtain ⟨x, rfl, hx⟩ := h s List.mem_cons_self
  obtain ⟨L, rfl, hL⟩ := vN (l := l) fun s hs => h s (List.mem_cons_of_mem _ hs)
  exact ⟨x :: L, rfl, fun y hy => by
   rcases List.mem_cons.1 hy with rfl | hy
   ·exact hx
   ·exact hL y hy⟩
theorem BF {α : Type} {zg : α → List Value} {n : Nat} {L : List α} (h : az id n w v (L.map zg)) : az zg n w v L := by
 obtain ⟨ao, cap, h1, h2, h3, h4⟩ := h
 rw [List.length_map] at h1 h2 h4
 refine ⟨ao, cap, h1, h2, h3, fun hn => ?_⟩
 obtain ⟨b, off, e, hlt, hc⟩ := h4 hn
 exact ⟨b, off, e, hlt, fun i s j u hi hj => hc i (zg s) j u (by rw [List.getElem?_map, hi]; rfl) hj⟩
theorem Od (hval : Value.okWide Tryz.prog w .any base 22 v) (hd : DataW.Trod enc Tryz.prog w 0 (fun _ => true) true 22 v d ps) : ∃ l : List De, az qY 12 w v l ∧ ∀ x ∈ l, yo x := by
 obtain ⟨l, hr, hf⟩ := CR (n := 3) (ts := R9) Tryz.underlying22 (by kernel_rfl) (by kernel_rfl) (by kernel_rfl) (by decide) hval hd
 obtain ⟨L, rfl, hL⟩ := vN (zg := qY) (p := yo) fun s hs => by
  obtain ⟨hl, hf⟩ := hf s hs
  match s, hl with
  | [a0, a1, a2, a3, a4, a5, a6, a7, a8, a9, Yp, Yq], _ =>
   obtain ⟨x0, rfl⟩ := uZ hf 0 rfl Tryz.underlying4 rfl
   obtain ⟨x1, rfl, b1⟩ := eu hf 1 rfl Tryz.underlying3 rfl
   obtain ⟨x2, rfl, b2⟩ := eu hf 2 rfl Tryz.underlying3 rfl
   obtain ⟨x3, rfl, b3⟩ := eu hf 3 rfl Tryz.underlying3 rfl
   obtain ⟨x4, rfl, b4⟩ := eu hf 4 rfl Tryz.underlying3 rfl
   obtain ⟨x5, rfl, b5⟩ := eu hf 5 rfl Tryz.underlying2 rfl
   obtain ⟨x6, rfl, b6⟩ := eu hf 6 rfl Tryz.underlying3 rfl
   obtain ⟨x7, rfl⟩ := uZ hf 7 rfl Tryz.underlying4 rfl
   obtain ⟨x8, rfl, b8⟩ := eu hf 8 rfl Tryz.underlying3 rfl
   obtain ⟨x9, rfl, b9⟩ := eu hf 9 rfl Tryz.underlying2 rfl
   obtain ⟨JO, rfl, b10⟩ := eu hf 10 rfl Tryz.underlying3 rfl
   obtain ⟨Ve, rfl, b11⟩ := eu hf 11 rfl Tryz.underlying2 rfl
   exact ⟨⟨x0, ⟨x1, x2, x3, x4, x5, x6, x7, x8, x9⟩, JO, Ve⟩, rfl, ⟨b1, b2, b3, b4, b5, b6, b8, b9⟩, b10, b11⟩
 exact ⟨L, BF hr, hL⟩
end
end Go.Proofs.YtnihdgcfamoplaaGreat

namespace Go.Proofs.YtnihdgcfamoplaaGreat
open Go.RowKit Go.Lib Go.Sort
def iB (j : Jb) : List Value := [.int .i64 j.id, .int .i64 j.wid, .int .i64 j.lim, .int .i64 j.aL]
theorem BG (j : Jb) : (iB j).length = 4 := rfl
theorem KS (j : Jb) : ∀ v ∈ iB j, v.oneCell' = true := by
 intro v hv
 simp only [iB, List.mem_cons, List.not_mem_nil, or_false] at hv
 rcases hv with rfl | rfl | rfl | rfl <;> rfl
theorem Oe : (Tryz.prog.info? 72).map (fun i => (i.zero, i.size, i.bytes)) = some (some (.agg (iB default).toArray), 4, 32) := by kernel_rfl
theorem KT : (Tryz.prog.info? 39).map (fun i => (i.zero, i.size, i.bytes)) = some (some (.agg (bu jY).toArray), 9, 72) := by kernel_rfl
theorem QU (x : Jb) (w : World) : Calls Tryz.prog 66 #[.agg (ah x).toArray] w fun e w' => e = .returned (.agg (iB x).toArray) ∧ Below w.heap.size w w' := by
 obtain ⟨x1, x2, x3, x4, x5, x6, x7, x8, x9, x0⟩ := x
 rw [show (ah (x1, x2, x3, x4, x5, x6, x7, x8, x9, x0)).toArray = #[.int .i64 x1, .int .i64 x2, .int .i64 x3, .int .i64 x4, .int .i64 x5, .int .i64 x6, .int .i64 x7, .int .i64 x8, .int .i64 x9, .int .u64 x0] from rfl, show (iB (x1, x2, x3, x4, x5, x6, x7, x8, x9, x0)).toArray = #[.int .i64 x1, .int .i64 x3, .int .i64 x4, .int .i64 x9] from rfl]
 go_enter Tryz.func66, Tryz.ntmps66
 go_wp2_with fail
 refine eH rfl rfl rfl (heap_alloc2_new w _ _) Tryz.underlying72 rfl (by kernel_rfl) ⟨rfl, ?_⟩
 exact ((Below.refl _ _).alloc (Nat.le_refl _) _).alloc (by simp) _
section
variable {w : World} {u : Value} {L : List Jb}
def BH (w : World) (e : TypeId) (sz n : Nat) (xs : List Value) (en : Ending) (w' : World) : Prop := ∃ v', en = .returned v' ∧ w'.ownsRow w.heap.size e sz v' n xs ∧ Below w.heap.size w w'
theorem Og (h : az ah 10 w u L) (hL : L.length ≤ 1000) : Calls Tryz.prog 65 #[.func (.func 66) #[] #[], u] w (BH w 72 4 L.length (L.flatMap iB)) := by
 obtain ⟨i0, hi0, hz0, hz1, hz2⟩ := info_parts Oe
 have hr := Lib.hid h
 obtain ⟨ao, cap, rfl, q1, q2, _⟩ := h
 have Ca : cap ≤ 9223372036854775807 := by unfold maxLen at q2; omega
 go_enter Tryz.func65, Tryz.ntmps65
 go_wp2_with (at_make; refine wpList_make_own w rfl _ _ 68 rfl w.heap.size 72 i0 (.agg (iB default).toArray) 4 Tryz.underlying68 hi0 hz0 hz1 .i64 .i64 _ L.length rfl rfl rfl (by rw [hz2]; omega) (by unfold maxLen; omega) (Nat.le_refl _) ?_; intro w1 ho1 hg1)
 have hb1 : Below w.heap.size w w1 := (Below.refl _ _).grown hg1 (Nat.le_refl _) (fun k hk => nomatch hk)
 obtain ⟨n, hn⟩ : ∃ n, L.length = n := ⟨_, rfl⟩
 rw [hn] at hL q1 ho1 ⊢
 replace hn := Lib.hid hn
 clear hg1
 go_wp2_with fail
 go_loopw [5, 13] (fun oo ii wr => ∃ (i : Nat), i ≤ n ∧ ii = .int .i64 i ∧ wr.ownsRow w.heap.size 72 4 oo (L.take i).length ((L.take i).flatMap iB) ∧ Below w.heap.size w wr) (fun _ ii _ => n - (intOf ii).toNat)
 case atStart => exact ⟨0, Nat.zero_le _, rfl, by simpa using ho1, hb1⟩
 case round =>
  obtain ⟨i, hin, rfl, hown, hbr⟩ := hrel
  clear ho1 hb1
  by_cases hlt : i < n
  ·have b2 : (i : Int) < (n : Int) := by omega
   have wi : IntKind.i64.wrap ((i : Int) + 1) = (i : Int) + 1 := by rw [IntKind.wrap_i64]; omega
   have iL : i < L.length := by have := hn.out; omega
   have hrr := hr.out.below hbr
   obtain ⟨B, off, cap', eJ, _, _, hB, LJ⟩ := hrr.D8 i iL
   injection eJ with Uv Yr Uw
   subst Uv Uw
   obtain ⟨X, hX⟩ : ∃ X, X = L.take i := ⟨_, rfl⟩
   have Rm : X.length ≤ 1000 := by rw [hX, List.length_take]; omega
   have HE : Hid (L.take (i + 1) = X ++ [L.getD i default]) := by
    show _ = _
    rw [hX, List.take_succ_eq_append_getElem iL, List.getD_eq_getElem?_getD, List.getElem?_eq_getElem iL]; rfl
   rw [← hX] at hown
   replace hX := Lib.hid hX
   generalize L.getD i default = x at *
   have hit := QU x
   obtain ⟨x1, x2, x3, x4, x5, x6, x7, x8, x9, x0⟩ := x
   rw [show (ah (x1, x2, x3, x4, x5, x6, x7, x8, x9, x0)).toArray = #[.int .i64 x1, .int .i64 x2, .int .i64 x3, .int .i64 x4, .int .i64 x5, .int .i64 x6, .int .i64 x7, .int .i64 x8, .int .i64 x9, .int .u64 x0] from rfl, show (iB (x1, x2, x3, x4, x5, x6, x7, x8, x9, x0)).toArray = #[.int .i64 x1, .int .i64 x3, .int .i64 x4, .int .i64 x9] from rfl] at hit
   have a0 := LJ 0 _ rfl
   have a1 := LJ 1 _ rfl
   have a2 := LJ 2 _ rfl
   have a3 := LJ 3 _ rfl
   have a4 := LJ 4 _ rfl
   have a5 := LJ 5 _ rfl
   have a6 := LJ 6 _ rfl
   have a7 := LJ 7 _ rfl
   have a8 := LJ 8 _ rfl
   have a9 := LJ 9 _ rfl
   rw [Nat.add_zero] at a0
   clear LJ
   obtain ⟨w1, hw1⟩ : ∃ w1, w1 = wr.alloc (.cells #[.int .i64 x1, .int .i64 x2, .int .i64 x3, .int .i64 x4, .int .i64 x5, .int .i64 x6, .int .i64 x7, .int .i64 x8, .int .i64 x9, .int .u64 x0] 63) := ⟨_, rfl⟩
   have hb1 : Below wr.heap.size wr w1 := by rw [hw1]; exact (Below.refl _ _).alloc (Nat.le_refl _) _
   replace hown := Lib.hid hown
   go_wp2_with fail
   rw [← hw1]
   replace hw1 := Lib.hid hw1
   go_at_call 66
   refine (hit w1).mono ?_
   clear hit a0 a1 a2 a3 a4 a5 a6 a7 a8 a9
   rintro e w5 ⟨rfl, hb5⟩
   have zh := hb1.trans (hb5.mono hb1.size)
   have hown1 := xk hown.out (w' := w5) fun k hk => zh.block k (hown.out.lt k hk).2
   have LM := hbr.trans (zh.mono hbr.size)
   clear hb1 hb5 zh hown hbr
   have hsz : w.heap.size ≤ w5.heap.size := LM.size
   go_wp2_with (at_builtin; go_must (refine wpList_append_own _ rfl (.tmp 17) (.tmp 21) 68 rfl w.heap.size 72 i0 (.agg (iB default).toArray) 4 32 Tryz.underlying68 hi0 hz0 hz1 hz2 rfl (by decide) u5 X.length (X.flatMap iB) rfl (hown1.alloc _) ⟨w5.heap.size, 0, none⟩ 1 1 (iB (x1, x2, x3, x4, x5, x6, x7, x8, x9, x0)) rfl rfl ?c0 ?c1 ?c2 ?c3 ?c4 ?c5))
   case c0 => exact nO (vs := iB (x1, x2, x3, x4, x5, x6, x7, x8, x9, x0)) rfl
   case c1 => exact KS _
   case c2 => unfold maxLen; omega
   case c3 => omega
   case c4 => (have hh : ∀ o, (w5.alloc o).heap.size = w5.heap.size + 1 := fun o => by simp); first | omega | (rw [hh]; omega)
   case c5 =>
    intro v6 w7 Ao zm _
    have kV : Below w.heap.size w w7 := (LM.alloc LM.size _).grown zm (by simp; omega) (fun k hk => (hown1.lt k hk).1)
    have EE : Hid (w7.ownsRow w.heap.size 72 4 v6 (L.take (i + 1)).length ((L.take (i + 1)).flatMap iB)) := by
     show World.ownsRow _ _ _ _ _ _ _
     rw [HE.out, List.length_append, List.flatMap_append]
     simp only [List.length_singleton, List.flatMap_cons, List.flatMap_nil, List.append_nil]
     exact Ao
    clear Ao zm hown1 LM
    go_wp2_with fail
    go_roundw
    case rel => exact ⟨i + 1, by omega, by go_num, EE.out, kV⟩
    case measure => simp [intOf]; omega
  ·obtain rfl : i = n := by omega
   have b2 : ¬ (i : Int) < (i : Int) := by omega
   have e1 : L.take i = L := List.take_of_length_le (by rw [hn.out]; exact Nat.le_refl _)
   rw [e1, hn.out] at hown
   have hfin : Hid (BH w 72 4 L.length (L.flatMap iB) (.returned u5) wr) := by
    rw [← hn.out] at hown
    exact ⟨u5, rfl, hown, hbr⟩
   clear hown e1
   go_wp2_with fail
   go_ret
   exact hfin.out
end
end Go.Proofs.YtnihdgcfamoplaaGreat

namespace Go.Proofs.YtnihdgcfamoplaaGreat
open Go.RowKit Go.Lib Go.Sort
def fU (M : Md) (l : List Rq) : Md := l.foldl (fun M r => (fE M (toW r)).2) M
def l8 : Md → List Rq → List Ry
 | _, [] => []
 | M, r :: l => jk (oI M (toW r)).1 :: l8 (fE M (toW r)).2 l
theorem Oh (M : Md) (l : List Rq) : fU M l = kM M (l.map fun r => ⟨false, r, 0, 0⟩) := by
 unfold fU kM
 rw [List.foldl_map]
 rfl
theorem BI {M : Md} (h : Ok M) (l : List Rq) : Ok (fU M l) ∧ (fU M l).L.length ≤ M.L.length + l.length ∧ (fU M l).dr.length = M.dr.length := by
 have := ym h (l.map fun r => ⟨false, r, 0, 0⟩)
 rw [← Oh, List.length_map] at this
 exact this
theorem zi (M : Md) {l : List Rq} {i : Nat} (hi : i < l.length) : fU M (l.take (i + 1)) = (fE (fU M (l.take i)) (toW l[i])).2 := by
 unfold fU
 rw [List.take_succ_eq_append_getElem hi, List.foldl_append]
 rfl
theorem qA (l : List Rq) : ∀ M, (l8 M l).length = l.length := by
 induction l with
 | nil => exact fun _ => rfl
 | cons r l ih => exact fun M => congrArg (· + 1) (ih _)
theorem Oi (r : Rq) (l : List Rq) : ∀ M, l8 M (l ++ [r]) = l8 M l ++ [jk (oI (fU M l) (toW r)).1] := by
 induction l with
 | nil => exact fun _ => rfl
 | cons x l ih =>
  intro M
  show _ :: l8 _ (l ++ [r]) = _ :: (l8 _ l ++ _)
  rw [ih]; rfl
theorem KU (M : Md) {l : List Rq} {i : Nat} (hi : i < l.length) : l8 M (l.take (i + 1)) = l8 M (l.take i) ++ [jk (oI (fU M (l.take i)) (toW l[i])).1] := by
 rw [List.take_succ_eq_append_getElem hi, Oi]
theorem DX (M : Md) {l : List Rq} {i : Nat} (hi : i < l.length) : (l8 M l)[i]? = some (jk (oI (fU M (l.take i)) (toW l[i])).1) := by
 have e : l = l.take (i + 1) ++ l.drop (i + 1) := (List.take_append_drop _ _).symm
 have key : ∀ (k : List Rq) (M : Md) (n : Nat), n < k.length → (l8 M k)[n]? = some (jk (oI (fU M (k.take n)) (toW (k.getD n ⟨0, 0, 0, 0, 0, 0, false, 0, 0⟩))).1) := by
  intro k
  induction k with
  | nil => intro M n h; exact absurd h (Nat.not_lt_zero _)
  | cons x k ih =>
   intro M n h
   cases n with
   | zero => rfl
   | succ n => exact ih _ n (Nat.lt_of_succ_lt_succ h)
 rw [key l M i hi, List.getD_eq_getElem?_getD, List.getElem?_eq_getElem hi]; rfl
section
variable {w w' w1 : World} {B s c t d p g g' : Nat} {v v' : Value} {m : Int} {M : Md}
theorem SO.grown (h : SO B w s c t d p v g m M) {o : Option Nat} (hg : w.grownBy w' o) (ho : ∀ k, o = some k → ∃ cs, w.heap[k]? = some (.cells cs 39 (0, 0))) : SO B w' s c t d p v g m M := by
 cases o with
 | none => exact h.kept ⟨hg.os, hg.tape, hg.output, hg.size, fun k hk => hg.block k hk (fun e => nomatch e)⟩
 | some G =>
  obtain ⟨cs, hG⟩ := ho G rfl
  have hO : eO (fun k => k = G) w w' := ⟨hg.os, hg.tape, hg.output, hg.size, fun k hk hne => hg.block k hk (fun e => hne (Option.some.inj e))⟩
  have hs : s ≠ G := by
   rintro rfl
   have e := h.at'
   unfold lZ at e
   rw [hG] at e
   exact absurd (Obj.cells.inj (Option.some.inj e)).2.1 (by decide)
  exact ⟨(hO.block s h.at'.lt hs).trans h.at', h.Oa, h.cw.Lt hO (h.cw.other hG (by decide)), h.lo⟩
theorem CS.grown (h : CS w w1 c t d p v g v' g') {o : Option Nat} (hg : w1.grownBy w' o) (ho : ∀ k, o = some k → w.heap.size ≤ k) : CS w w' c t d p v g v' g' :=
 ⟨⟨hg.os.trans h.off.os, hg.tape.trans h.off.tape, hg.output.trans h.off.output, Nat.le_trans h.off.size hg.size, fun k hk hf => (hg.block k (Nat.lt_of_lt_of_le hk h.off.size) (fun e => by have := ho k e.symm; omega)).trans (h.off.block k hk hf)⟩, h.grew⟩
end
section
variable {w : World} {B s c t d p g : Nat} {v u : Value} {m : Int} {M : Md} {l : List Rq}
def BJ (B : Nat) (w : World) (s c t d p : Nat) (v : Value) (g : Nat) (m : Int) (M : Md) (l : List Rq) (e : Ending) (w' : World) : Prop :=
 ∃ (u' v' : Value) (g' : Nat), e = .returned u' ∧ SO B w' s c t d p v' g' (m + 1000 * l.length) (fU M l) ∧ CS w w' c t d p v g v' g' ∧ w'.ownsRow w.heap.size 39 9 u' (l8 M l).length ((l8 M l).flatMap bu)
theorem Oj (h : SO B w s c t d p v g m M) (hB : B ≤ w.heap.size) (hu : ∀ W, Below B w W → az encR 9 W u l) (hfit : ∀ r ∈ l, rR r) (hM : Ok M) (h1 : 1 ≤ M.dr.length) (hll : M.L.length + l.length ≤ 150) (hm : m + 1000 * l.length ≤ 1000000) :
  Calls Tryz.prog 67 #[.func (.func 14) #[.pointer (some ⟨s, 0, none⟩)] #[], u] w (BJ B w s c t d p v g m M l) := by
 obtain ⟨i0, hi0, hz0, hz1, hz2⟩ := info_parts KT
 obtain ⟨ao, cap, rfl, q1, q2, _⟩ := hu w (Below.refl _ _)
 have Ca : cap ≤ 9223372036854775807 := by unfold maxLen at q2; omega
 have Yt : l.length ≤ 150 := by omega
 replace hu := Lib.hid hu
 go_enter Tryz.func67, Tryz.ntmps67
 go_wp2_with (at_make; refine wpList_make_own w rfl _ _ 73 rfl w.heap.size 39 i0 (.agg (bu jY).toArray) 9 Tryz.underlying73 hi0 hz0 hz1 .i64 .i64 _ l.length rfl rfl rfl (by rw [hz2]; omega) (by unfold maxLen; omega) (Nat.le_refl _) ?_; intro w1 ho1 hg1)
 have hb1 : Below w.heap.size w w1 := (Below.refl _ _).grown hg1 (Nat.le_refl _) (fun k hk => nomatch hk)
 have S1 := Lib.hid (h.kept hb1)
 have cs1 := Lib.hid (CS.of_below (c := c) (t := t) (d := d) (p := p) (v := v) (g := g) hb1)
 replace ho1 := Lib.hid ho1
 replace h := Lib.hid h
 clear hg1 hb1
 go_wp2_with fail
 go_loopw [5, 13] (fun oo ii wr => ∃ (i : Nat) (vi : Value) (gi : Nat), i ≤ l.length ∧ ii = .int .i64 i ∧ Hid (wr.ownsRow w.heap.size 39 9 oo (l8 M (l.take i)).length ((l8 M (l.take i)).flatMap bu)) ∧ Hid (SO B wr s c t d p vi gi (m + 1000 * i) (fU M (l.take i))) ∧ Hid (CS w wr c t d p v g vi gi)) (fun _ ii _ => l.length - (intOf ii).toNat)
 case atStart => exact ⟨0, v, g, Nat.zero_le _, rfl, ho1, (by have := S1.out; show SO _ _ _ _ _ _ _ _ _ _ _; simpa [fU] using this), cs1⟩
 case round =>
  clear ho1 S1 cs1
  obtain ⟨i, vi, gi, hin, rfl, hown, hS, hcs⟩ := hrel
  obtain ⟨hok, hpl, Uu⟩ := BI hM (l.take i)
  have hle : (l.take i).length ≤ l.length := by rw [List.length_take]; omega
  have hbr := Lib.hid (h.out.below hcs.out hB)
  by_cases hlt : i < l.length
  ·have b2 : (i : Int) < (l.length : Int) := by omega
   have wi : IntKind.i64.wrap ((i : Int) + 1) = (i : Int) + 1 := by rw [IntKind.wrap_i64]; omega
   obtain ⟨I5, cap', e0, r1, r2, r3⟩ := hu.out wr hbr.out
   injection e0 with e1 _ e2
   subst e1 e2
   obtain ⟨G, off, rfl, hG, hcell⟩ := r3 (by omega)
   have hx := fun (j : Nat) (z : Value) (hz : (encR l[i])[j]? = some z) => hcell i l[i] j z (List.getElem?_eq_getElem hlt) hz
   have hsn := zi M hlt
   have hrs := KU M hlt
   have hfx := hfit l[i] (List.getElem_mem hlt)
   generalize l[i] = x at *
   obtain ⟨y1, y2, y3, y4, y5, y6, y7, y8, y9⟩ := x
   have k0 : wr.cell? ⟨G, off + i * 9, none⟩ = some (.int .i64 y1) := hx 0 _ rfl
   have k1 : wr.cell? ⟨G, off + i * 9 + 1, none⟩ = some (.int .i64 y2) := (by rw [Nat.add_assoc]; exact hx 1 _ rfl)
   have k2 : wr.cell? ⟨G, off + i * 9 + 2, none⟩ = some (.int .i64 y3) := (by rw [Nat.add_assoc]; exact hx 2 _ rfl)
   have k3 : wr.cell? ⟨G, off + i * 9 + 3, none⟩ = some (.int .i64 y4) := (by rw [Nat.add_assoc]; exact hx 3 _ rfl)
   have k4 : wr.cell? ⟨G, off + i * 9 + 4, none⟩ = some (.int .i64 y5) := (by rw [Nat.add_assoc]; exact hx 4 _ rfl)
   have k5 : wr.cell? ⟨G, off + i * 9 + 5, none⟩ = some (.int .i64 y6) := (by rw [Nat.add_assoc]; exact hx 5 _ rfl)
   have k6 : wr.cell? ⟨G, off + i * 9 + 6, none⟩ = some (.bool y7) := (by rw [Nat.add_assoc]; exact hx 6 _ rfl)
   have k7 : wr.cell? ⟨G, off + i * 9 + 7, none⟩ = some (.int .i64 y8) := (by rw [Nat.add_assoc]; exact hx 7 _ rfl)
   have k8 : wr.cell? ⟨G, off + i * 9 + 8, none⟩ = some (.int .i64 y9) := (by rw [Nat.add_assoc]; exact hx 8 _ rfl)
   clear hx r3 hcell
   obtain ⟨Mi, Ux⟩ : ∃ Mi, Mi = fU M (l.take i) := ⟨_, rfl⟩
   obtain ⟨X, hX⟩ : ∃ X, X = l8 M (l.take i) := ⟨_, rfl⟩
   have Rm : X.length ≤ 150 := by rw [hX, qA]; omega
   rw [← Ux] at hS hok hpl Uu hsn hrs
   rw [← hX] at hown hrs
   replace hX := Lib.hid hX
   replace Ux := Lib.hid Ux
   obtain ⟨w1, hw1⟩ : ∃ w1, w1 = wr.alloc (.cells #[.int .i64 y1, .int .i64 y2, .int .i64 y3, .int .i64 y4, .int .i64 y5, .int .i64 y6, .bool y7, .int .i64 y8, .int .i64 y9] 32) := ⟨_, rfl⟩
   have hb1 : Below wr.heap.size wr w1 := by rw [hw1]; exact (Below.refl _ _).alloc (Nat.le_refl _) _
   have hBr : B ≤ wr.heap.size := Nat.le_trans hB hcs.out.off.size
   have hS1 := hS.out.kept hb1
   have hq := wW hS1 (Nat.le_trans hBr hb1.size) ⟨y1, y2, y3, y4, y5, y6, y7, y8, y9⟩ hok (by omega) (by omega) (by omega) hfx.node
   rw [← hsn, show (encR ⟨y1, y2, y3, y4, y5, y6, y7, y8, y9⟩).toArray = #[.int .i64 y1, .int .i64 y2, .int .i64 y3, .int .i64 y4, .int .i64 y5, .int .i64 y6, .bool y7, .int .i64 y8, .int .i64 y9] from rfl] at hq
   generalize VX : jk (oI Mi (toW ⟨y1, y2, y3, y4, y5, y6, y7, y8, y9⟩)).1 = y at *
   replace VX := Lib.hid VX
   obtain ⟨z1, z2, z3, z4, z5, z6, z7, z8, z9⟩ := y
   rw [show (bu ⟨z1, z2, z3, z4, z5, z6, z7, z8, z9⟩).toArray = #[.int .i64 z1, .int .i64 z2, .int .i64 z3, .int .i64 z4, .int .i64 z5, .int .i64 z6, .int .i64 z7, .int .i64 z8, .int .i64 z9] from rfl] at hq
   replace hrs := Lib.hid hrs
   replace hq := Lib.hid hq
   replace hsn := Lib.hid hsn
   go_wp2_with fail
   rw [← hw1]
   replace hw1 := Lib.hid hw1
   go_at_call 14
   refine hq.out.mono ?_
   clear hq k0 k1 k2 k3 k4 k5 k6 k7 k8
   rintro e w5 ⟨v5, g5, rfl, S5, oK, hb5⟩
   have hown1 : w5.ownsRow w.heap.size 39 9 u5 X.length (X.flatMap bu) := by
    refine xk hown.out fun k hk => ?_
    obtain ⟨cs, hkc⟩ := kz hown.out hk
    have hk1 := (hb1.block k (hown.out.lt k hk).2).trans hkc
    exact (oK.heap (aG hk1) (hS1.cw.other hk1 (by decide))).trans (hk1.trans hkc.symm)
   have KV : CS w w5 c t d p v g v5 g5 := (hcs.out.later hb1).trans oK
   have hsz : w.heap.size ≤ w5.heap.size := KV.off.size
   clear oK hb5 hb1 hS1 hown hS hcs hbr
   go_wp2_with (at_builtin; go_must (refine wpList_append_own _ rfl (.tmp 17) (.tmp 21) 73 rfl w.heap.size 39 i0 (.agg (bu jY).toArray) 9 72 Tryz.underlying73 hi0 hz0 hz1 hz2 rfl (by decide) u5 X.length (X.flatMap bu) rfl (hown1.alloc _) ⟨w5.heap.size, 0, none⟩ 1 1 (bu ⟨z1, z2, z3, z4, z5, z6, z7, z8, z9⟩) rfl rfl ?c0 ?c1 ?c2 ?c3 ?c4 ?c5))
   case c0 => exact nO (vs := bu ⟨z1, z2, z3, z4, z5, z6, z7, z8, z9⟩) rfl
   case c1 => exact uk _
   case c2 => unfold maxLen; omega
   case c3 => omega
   case c4 => (have hh : ∀ o, (w5.alloc o).heap.size = w5.heap.size + 1 := fun o => by simp); first | omega | (rw [hh]; omega)
   case c5 =>
    intro v6 w7 Ao zm _
    have bR : Below w5.heap.size w5 (w5.alloc (.cells #[.int .i64 z1, .int .i64 z2, .int .i64 z3, .int .i64 z4, .int .i64 z5, .int .i64 z6, .int .i64 z7, .int .i64 z8, .int .i64 z9] 39)) := (Below.refl _ _).alloc (Nat.le_refl _) _
    have VY := Lib.hid ((KV.later bR).grown zm (fun k hk => (hown1.lt k hk).1))
    have gM : Hid (SO B w7 s c t d p v5 g5 (m + 1000 * ((i + 1 : Nat) : Int)) (fU M (l.take (i + 1)))) := ((S5.kept bR).grown zm (fun k hk => kz (hown1.alloc _) hk)).wider (by omega)
    have EE : Hid (w7.ownsRow w.heap.size 39 9 v6 (l8 M (l.take (i + 1))).length ((l8 M (l.take (i + 1))).flatMap bu)) := by
     show World.ownsRow _ _ _ _ _ _ _
     rw [hrs.out, List.length_append, List.flatMap_append]
     simp only [List.length_singleton, List.flatMap_cons, List.flatMap_nil, List.append_nil]
     exact Ao
    clear Ao zm hown1 KV S5 bR
    go_wp2_with fail
    go_roundw
    case rel => exact ⟨i + 1, v5, g5, by omega, by go_num, EE, gM, VY⟩
    case measure => simp [intOf]; omega
  ·obtain rfl : i = l.length := by omega
   have b2 : ¬ ((l.length : Nat) : Int) < ((l.length : Nat) : Int) := by omega
   rw [List.take_length] at hown hS
   have hfin : Hid (BJ B w s c t d p v g m M l (.returned u5) wr) := ⟨u5, vi, gi, rfl, hS.out, hcs.out, hown.out⟩
   clear hown hS hcs
   go_wp2_with fail
   go_ret
   exact hfin.out
theorem QV (h : SO B w s c t d p v g m M) (hB : B ≤ w.heap.size) (hu : ∀ W, Below B w W → az encR 9 W u l) (hfit : ∀ r ∈ l, rR r) (hM : Ok M) (h1 : 1 ≤ M.dr.length) (hll : M.L.length + l.length ≤ 150) (hm : m + 1000 * l.length ≤ 1000000) :
  Calls Tryz.prog 30 #[.pointer (some ⟨s, 0, none⟩), u] w (BJ B w s c t d p v g m M l) := by
 have hq := Oj h hB hu hfit hM h1 hll hm
 have Yu : ∀ (fn : Fn) (first cap : Array Value) (w : World), (Instr.makeFunc fn first cap).run Tryz.prog w = .ok (.func fn first cap) w := fun _ _ _ _ => rfl
 go_enter Tryz.func30, Tryz.ntmps30
 go_wp2_with fail
 go_at_call 67
 refine hq.mono ?_
 clear hq
 rintro e w' ⟨u', v', g', rfl, h1, h2, h3⟩
 have hfin := Lib.hid (And.intro h1 (And.intro h2 h3))
 clear h1 h2 h3
 go_wp2_with fail
 go_ret
 exact ⟨u', v', g', rfl, hfin.out⟩
end
end Go.Proofs.YtnihdgcfamoplaaGreat

namespace Go.Proofs.YtnihdgcfamoplaaGreat
open Go.RowKit Go.Lib
theorem KW {L K : List Jb} {i : Nat} (h1 : i < L.length) (h2 : i < K.length) (he : L.take i = K.take i) (hx : L.getD i default = K.getD i default) : L.take (i + 1) = K.take (i + 1) := by
 rw [List.take_succ_eq_append_getElem h1, List.take_succ_eq_append_getElem h2, he]
 rw [List.getD, List.getElem?_eq_getElem h1, List.getD, List.getElem?_eq_getElem h2] at hx
 simp only [Option.getD_some] at hx
 rw [hx]
section
variable {w w' : World} {u v : Value} {L K : List Jb}
theorem FH (hu : az ah 10 w u L) (hv : az ah 10 w v K) (hL : L.length ≤ 100000) : Calls Tryz.prog 22 #[u, v] w fun e w' => e = .returned (.bool (decide (L = K))) ∧ Below w.heap.size w w' := by
 have hU := Lib.hid hu
 have hV := Lib.hid hv
 obtain ⟨ao, cap, rfl, h1, h2⟩ := hu.shape
 obtain ⟨bo, Xe, rfl, h3, h4⟩ := hv.shape
 obtain ⟨n, hn⟩ : ∃ n, n = L.length := ⟨_, rfl⟩
 obtain ⟨m, hm⟩ : ∃ m, m = K.length := ⟨_, rfl⟩
 rw [← hn] at h1 hL ⊢
 rw [← hm] at h3 ⊢
 clear hu hv
 by_cases hnm : n = m
 ·subst hnm
  replace hn := Lib.hid hn
  replace hm := Lib.hid hm
  go_enter Tryz.func22, Tryz.ntmps22
  go_wp2_with fail
  go_loopw [5] (fun ii wr => ∃ i : Nat, i ≤ n ∧ ii = .int .i64 i ∧ Hid (L.take i = K.take i) ∧ Hid (Below w.heap.size w wr)) (fun ii _ => n - (intOf ii).toNat)
  case atStart => exact ⟨0, Nat.zero_le _, rfl, by show _ = _; simp, Below.refl _ _⟩
  case round =>
   obtain ⟨i, hi, rfl, hsm, hbw⟩ := hrel
   by_cases hlt : i < n
   ·have b2 : (i : Int) < (n : Int) := by omega
    have b0 : (0 : Int) ≤ (i : Int) := by omega
    have wi : IntKind.i64.wrap ((i : Int) + 1) = (i : Int) + 1 := by rw [IntKind.wrap_i64]; omega
    have hi1 : i < L.length := by rw [← hn.out]; exact hlt
    have hi2 : i < K.length := by rw [← hm.out]; exact hlt
    obtain ⟨b, off, cp, hv5, _, _, hbl, hc⟩ := (hU.out.below hbw.out).D8 i hi1
    obtain ⟨d, VZ, cp2, hv6, _, _, hdl, hd⟩ := (hV.out.below hbw.out).D8 i hi2
    rw [← hn.out] at hv5
    rw [← hm.out] at hv6
    cases hv5
    cases hv6
    have hmore := KW hi1 hi2 hsm.out
    have hless : L.getD i default ≠ K.getD i default → ¬ L = K := fun h e => h (by rw [e])
    generalize L.getD i default = x at *
    generalize K.getD i default = y at *
    obtain ⟨x1, x2, x3, x4, x5, x6, x7, x8, x9, x0⟩ := x
    obtain ⟨y1, y2, y3, y4, y5, y6, y7, y8, y9, y0⟩ := y
    have a0 := hc 0 _ rfl
    have a1 := hc 1 _ rfl
    have a2 := hc 2 _ rfl
    have a3 := hc 3 _ rfl
    have a4 := hc 4 _ rfl
    have a5 := hc 5 _ rfl
    have a6 := hc 6 _ rfl
    have a7 := hc 7 _ rfl
    have a8 := hc 8 _ rfl
    have a9 := hc 9 _ rfl
    rw [Nat.add_zero] at a0
    have e0 := hd 0 _ rfl
    have e1 := hd 1 _ rfl
    have e2 := hd 2 _ rfl
    have e3 := hd 3 _ rfl
    have e4 := hd 4 _ rfl
    have e5 := hd 5 _ rfl
    have e6 := hd 6 _ rfl
    have e7 := hd 7 _ rfl
    have e8 := hd 8 _ rfl
    have e9 := hd 9 _ rfl
    rw [Nat.add_zero] at e0
    have hq := fun W => Ot (x1, x2, x3, x4, x5, x6, x7, x8, x9, x0) (y1, y2, y3, y4, y5, y6, y7, y8, y9, y0) W
    rw [tJ, tJ] at hq
    clear hc hd
    by_cases hxy : (x1, x2, x3, x4, x5, x6, x7, x8, x9, x0) = (y1, y2, y3, y4, y5, y6, y7, y8, y9, y0)
    ·rw [decide_eq_true hxy, Bool.not_true] at hq
     have hm1 : Hid (L.take (i + 1) = K.take (i + 1)) := hmore hxy
     have hbd : Hid (Below w.heap.size w wr.drew) := hbw.out.drew
     clear hmore hless hxy
     go_wp2_with fail
     go_region
     all_goals (try go_wp2_with fail)
     exact ⟨⟨i + 1, by omega, by go_num, hm1, hbd⟩, by simp [intOf]; omega⟩
    ·rw [decide_eq_false hxy, Bool.not_false] at hq
     have hf : Hid (decide (L = K) = false) := decide_eq_false (hless hxy)
     have hbd : Hid (Below w.heap.size w wr.drew) := hbw.out.drew
     clear hmore hless hxy
     go_wp2_with fail
     go_region
     all_goals (try go_wp2_with fail)
     go_ret
     exact ⟨by rw [hf.out]; rfl, hbd.out⟩
   ·obtain rfl : i = n := by omega
    have b2 : ¬ (i : Int) < (i : Int) := by omega
    have hf : Hid (decide (L = K) = true) := by
     refine decide_eq_true ?_
     have h := hsm.out
     rw [hn.out, List.take_length] at h
     rw [h, ← hn.out, hm.out, List.take_length]
    go_wp2_with fail
    go_ret
    exact ⟨by rw [hf.out]; rfl, hbw.out⟩
 ·have dn : ((n : Int) != (m : Int)) = true := by simp; omega
  have hf : Hid (decide (L = K) = false) := decide_eq_false fun e => hnm (by rw [hn, hm, e])
  replace hn := Lib.hid hn
  replace hm := Lib.hid hm
  clear hnm
  go_enter Tryz.func22, Tryz.ntmps22
  go_wp2_with fail
  go_ret
  exact ⟨by rw [hf.out]; rfl, Below.refl _ _⟩
end
theorem IZ {L K : List (Int × Int)} {i : Nat} (h1 : i < L.length) (h2 : i < K.length) (he : L.take i = K.take i) (hx : L.getD i (0, 0) = K.getD i (0, 0)) : L.take (i + 1) = K.take (i + 1) := by
 rw [List.take_succ_eq_append_getElem h1, List.take_succ_eq_append_getElem h2, he]
 rw [List.getD, List.getElem?_eq_getElem h1, List.getD, List.getElem?_eq_getElem h2] at hx
 simp only [Option.getD_some] at hx
 rw [hx]
theorem az.QW {w : World} {v : Value} {L : List (Int × Int)} (h : az CB 2 w v L) (i : Nat) (hi : i < L.length) : ∃ b off cap, v = .slice (some ⟨b, off, none⟩) L.length cap ∧ L.length ≤ cap ∧ cap ≤ maxLen ∧ b < w.heap.size ∧ ∀ j u, (CB (L.getD i (0, 0)))[j]? = some u → w.cell? ⟨b, off + i * 2 + j, none⟩ = some u := by
 obtain ⟨ao, cap, rfl, h1, h2, h3⟩ := h
 obtain ⟨b, off, rfl, hb, hc⟩ := h3 (by omega)
 exact ⟨b, off, cap, rfl, h1, h2, hb, fun j u hj => by rw [Nat.add_assoc]; exact hc i (L.getD i (0, 0)) j u (by simp [List.getD, hi]) hj⟩
section
theorem Cx (x y : Int × Int) (w : World) : (Op.equalIn 10000 102 (.agg #[.int .i64 x.1, .int .i64 x.2]) (.agg #[.int .i64 y.1, .int .i64 y.2])).run Tryz.prog w = .ok (decide (x = y)) w := by
 have u2 := Tryz.underlying2
 have a2 := Tryz.isAgg2
 have z2 := Tryz.sizeOf2
 have u3 := Tryz.underlying3
 have a3 := Tryz.isAgg3
 have z3 := Tryz.sizeOf3
 have hS : Tryz.prog.underlying 102 = some (.struct (Tryz.prog.fieldsOf 102)) := by kernel_rfl
 have hp : Tryz.prog.stoodInHeld 102 = false := by kernel_rfl
 rw [show (10000 : Nat) = 9999 + 1 from rfl, run_equalIn_agg w 9999 102 _ _ hS hp]
 simp only [Program.fieldsOf, Tryz.underlying102]
 go_simp
 obtain ⟨x1, x2⟩ := x
 obtain ⟨y1, y2⟩ := y
 by_cases h1 : x1 = y1 <;> by_cases h2 : x2 = y2 <;> simp [h1, h2]
theorem Ol (x y : Int × Int) (w : World) : (binOp .neq 102 (.agg #[.int .i64 x.1, .int .i64 x.2]) (.agg #[.int .i64 y.1, .int .i64 y.2])).run Tryz.prog w = .ok (.bool (!decide (x = y))) w := by
 rw [run_neq_struct, Cx]; rfl
end
section
variable {w w' : World} {u v : Value} {L K : List (Int × Int)}
theorem Cy (hu : az CB 2 w u L) (hv : az CB 2 w v K) (hL : L.length ≤ 100000) : Calls Tryz.prog 23 #[u, v] w fun e w' => e = .returned (.bool (decide (L = K))) ∧ Below w.heap.size w w' := by
 have hU := Lib.hid hu
 have hV := Lib.hid hv
 obtain ⟨ao, cap, rfl, h1, h2⟩ := hu.shape
 obtain ⟨bo, Xe, rfl, h3, h4⟩ := hv.shape
 obtain ⟨n, hn⟩ : ∃ n, n = L.length := ⟨_, rfl⟩
 obtain ⟨m, hm⟩ : ∃ m, m = K.length := ⟨_, rfl⟩
 rw [← hn] at h1 hL ⊢
 rw [← hm] at h3 ⊢
 clear hu hv
 by_cases hnm : n = m
 ·subst hnm
  replace hn := Lib.hid hn
  replace hm := Lib.hid hm
  go_enter Tryz.func23, Tryz.ntmps23
  go_wp2_with fail
  go_loopw [5] (fun ii wr => ∃ i : Nat, i ≤ n ∧ ii = .int .i64 i ∧ Hid (L.take i = K.take i) ∧ Hid (Below w.heap.size w wr)) (fun ii _ => n - (intOf ii).toNat)
  case atStart => exact ⟨0, Nat.zero_le _, rfl, by show _ = _; simp, Below.refl _ _⟩
  case round =>
   obtain ⟨i, hi, rfl, hsm, hbw⟩ := hrel
   by_cases hlt : i < n
   ·have b2 : (i : Int) < (n : Int) := by omega
    have b0 : (0 : Int) ≤ (i : Int) := by omega
    have wi : IntKind.i64.wrap ((i : Int) + 1) = (i : Int) + 1 := by rw [IntKind.wrap_i64]; omega
    have hi1 : i < L.length := by rw [← hn.out]; exact hlt
    have hi2 : i < K.length := by rw [← hm.out]; exact hlt
    obtain ⟨b, off, cp, hv5, _, _, hbl, hc⟩ := (hU.out.below hbw.out).QW i hi1
    obtain ⟨d, VZ, cp2, hv6, _, _, hdl, hd⟩ := (hV.out.below hbw.out).QW i hi2
    rw [← hn.out] at hv5
    rw [← hm.out] at hv6
    cases hv5
    cases hv6
    have hmore := IZ hi1 hi2 hsm.out
    have hless : L.getD i (0, 0) ≠ K.getD i (0, 0) → ¬ L = K := fun h e => h (by rw [e])
    generalize L.getD i (0, 0) = x at *
    generalize K.getD i (0, 0) = y at *
    obtain ⟨x1, x2⟩ := x
    obtain ⟨y1, y2⟩ := y
    have a0 := hc 0 _ rfl
    have a1 := hc 1 _ rfl
    rw [Nat.add_zero] at a0
    have e0 := hd 0 _ rfl
    have e1 := hd 1 _ rfl
    rw [Nat.add_zero] at e0
    have hq := fun W => Ol (x1, x2) (y1, y2) W
    simp only at hq
    clear hc hd
    by_cases hxy : (x1, x2) = (y1, y2)
    ·rw [decide_eq_true hxy, Bool.not_true] at hq
     have hm1 : Hid (L.take (i + 1) = K.take (i + 1)) := hmore hxy
     have hbd : Hid (Below w.heap.size w wr.drew) := hbw.out.drew
     clear hmore hless hxy
     go_wp2_with fail
     go_region
     all_goals (try go_wp2_with fail)
     exact ⟨⟨i + 1, by omega, by go_num, hm1, hbd⟩, by simp [intOf]; omega⟩
    ·rw [decide_eq_false hxy, Bool.not_false] at hq
     have hf : Hid (decide (L = K) = false) := decide_eq_false (hless hxy)
     have hbd : Hid (Below w.heap.size w wr.drew) := hbw.out.drew
     clear hmore hless hxy
     go_wp2_with fail
     go_region
     all_goals (try go_wp2_with fail)
     go_ret
     exact ⟨by rw [hf.out]; rfl, hbd.out⟩
   ·obtain rfl : i = n := by omega
    have b2 : ¬ (i : Int) < (i : Int) := by omega
    have hf : Hid (decide (L = K) = true) := by
     refine decide_eq_true ?_
     have h := hsm.out
     rw [hn.out, List.take_length] at h
     rw [h, ← hn.out, hm.out, List.take_length]
    go_wp2_with fail
    go_ret
    exact ⟨by rw [hf.out]; rfl, hbw.out⟩
 ·have dn : ((n : Int) != (m : Int)) = true := by simp; omega
  have hf : Hid (decide (L = K) = false) := decide_eq_false fun e => hnm (by rw [hn, hm, e])
  replace hn := Lib.hid hn
  replace hm := Lib.hid hm
  clear hnm
  go_enter Tryz.func23, Tryz.ntmps23
  go_wp2_with fail
  go_ret
  exact ⟨by rw [hf.out]; rfl, Below.refl _ _⟩
end
end Go.Proofs.YtnihdgcfamoplaaGreat

namespace Go.Proofs.YtnihdgcfamoplaaGreat
open Go.RowKit Go.Lib Go.Sort
section
variable {w : World} {c t d p g a : Nat} {v : Value} {m : Int} {P : Pg}
def Xf (w : World) (L : List Jb) (x : Nat × Value) (W : World) : Prop := TV W x.1 x.2 L ∧ w.heap.size ≤ x.1 ∧ ∀ k, x.2.ownBlock = some k → w.heap.size ≤ k
def Xg (w : World) (l : List Int) (x : Nat) (W : World) : Prop := TW W x l ∧ w.heap.size ≤ x
def Xh (w : World) (S : List (Int × Int)) (aJ : Int) (x : Nat × Nat) (W : World) : Prop := PW W x.1 x.2 S aJ ∧ w.heap.size ≤ x.1 ∧ w.heap.size ≤ x.2
theorem QX (h : CW w c t d p v g a m P) (hk : PK P) (ha : a ≤ 1000) : Calls Tryz.prog 62 #[.pointer (some ⟨c, 0, none⟩)] w fun e w' => ∃ c2 t2 d2 p2 v2 g2, e = .returned (.pointer (some ⟨c2, 0, none⟩)) ∧ QF w w' c2 t2 d2 p2 v2 g2 a m P ∧ Below w.heap.size w w' := by
 obtain ⟨S, aJ, hp, hC, hl, h0, h1⟩ := h.kT
 have hcJ := fun (W : World) (hW : Below w.heap.size w W) => Pb (h.kept hW).dX (show P.J.length ≤ 1000 from Nat.le_trans hk.few (by decide))
 have V3 := fun (W : World) (hW : Below w.heap.size w W) => ES (h.kept hW).nodes hk.qo
 have hcP := fun (W : World) (hW : Below w.heap.size w W) => ET (hp.kept hW) hC.sm.pos (show S.length ≤ 1000 by omega)
 have hno := kE h
 have hS := Lib.hid h
 clear h
 go_enter Tryz.func62, Tryz.ntmps62
 go_wp2_with (go_at_call 51; go_must (refine hno.mono ?_); rintro e w' ⟨rfl, rfl⟩)
 clear hno
 refine Reg2.rd w 19 26 [[],[ae],[ae,ae],[ae,ae,ae],[ae,ae,ae,ae],[af,af,af,af,af],[af,af,af,af,af,ae],[af,af,af,af,af,ae,ae],[af,af,af,af,af,ae,ae,ae],[ae,ae,ae,ae,ae,ae,ae,ae,ae],[af,af,af,af,af,af,af,af,af,af],[af,af,af,af,af,af,af,af,af,af,ae],[af,af,af,af,af,af,af,af,af,af,ae,ae],[af,af,af,af,af,af,af,af,af,af,ae,ae,ae],[ae,ae,ae,ae,ae,ae,ae,ae,ae,ae,ae,ae,ae,ae],[af,af,af,af,af,af,af,af,af,af,af,af,af,af,af],[af,af,af,af,af,af,af,af,af,af,af,af,af,af,af,ae],[af,af,af,af,af,af,af,af,af,af,af,af,af,af,af,ae,ae],[af,af,af,af,af,af,af,af,af,af,af,af,af,af,af,ae,ae,ae]] [0, 0, 0, 1, 1, 0, 0, 0, 1, 1, 0, 0, 0, 1, 1, 0, 0, 0, 1] [.pure, .pure, .pure, .mU (.pointer (some ⟨t, 0, none⟩)), .minor (Nat × Value) (0, .bool false) (fun x => .pointer (some ⟨x.1, 0, none⟩)) (fun x W => Xf w P.J x W), .pure, .pure, .pure, .mU (.pointer (some ⟨d, 0, none⟩)), .minor Nat 0 (fun x => .pointer (some ⟨x, 0, none⟩)) (fun x W => Xg w P.T x W), .pure, .pure, .pure, .mU (.pointer (some ⟨p, 0, none⟩)), .minor (Nat × Nat) (0, 0) (fun x => .pointer (some ⟨x.1, 0, none⟩)) (fun x W => Xh w S aJ x W), .pure, .pure, .pure, .mU (.bool P.cl)] (by kernel_rfl) (by kernel_rfl) rfl rfl ⟨trivial, trivial, trivial, Reg2.tt, ⟨fun x a b he hx => ⟨hx.1.kept he, hx.2.1, hx.2.2⟩, fun x a b he hx => ⟨hx.1.kept he, hx.2.1, hx.2.2⟩⟩, trivial, trivial, trivial, Reg2.tt, ⟨fun x a b he hx => ⟨hx.1.kept he, hx.2⟩, fun x a b he hx => ⟨hx.1.kept he, hx.2⟩⟩, trivial, trivial, trivial, Reg2.tt, ⟨fun x a b he hx => ⟨hx.1.kept he, hx.2.1, hx.2.2⟩, fun x a b he hx => ⟨hx.1.kept he, hx.2.1, hx.2.2⟩⟩, trivial, trivial, trivial, Reg2.tt, trivial⟩ ⟨rfl, rfl, rfl, Nat.le_refl _, fun _ _ => rfl⟩ ?_
 dsimp only [Reg2.mk, List.zip, List.zipWith, List.take]
 repeat (refine' Reg2.ai _ (by rfl) (fun wz => ?_) ?_; rotate_left; (go_simp; first | rfl | rw [if_neg (by omega)]); simp only [Act.put, xA, xB, xC]; (try simp only [xD]); (try simp only [xE]); (try simp only [id]))
 refine Reg2.pm (fun wz hI hF => ?_) (fun r3 => ?_) (by rfl)
 ·have c0 := (hS.out.kept hI).c0
  go_wp2_with fail
  first | exact ⟨_, rfl, rfl, Reg2.Ext.refl _⟩ | exact ⟨_, rfl, ⟨(), rfl, trivial⟩, Reg2.Ext.refl _⟩
 simp only [Act.put, xA, xB, xC]; (try simp only [xD]); (try simp only [xE]); (try simp only [id])
 refine Reg2.pm (fun wz hI hF => ?_) (fun r4 => ?_) (by rfl)
 ·have hc1 := hcJ wz hI
  go_wp2_with (go_at_call 87; go_must (refine hc1.mono ?_); rintro e w1 ⟨q1, u1, rfl, k1, k2, k3, hb5⟩)
  exact ⟨_, rfl, ⟨(q1, u1), rfl, k1, Nat.le_trans hI.size k2, fun k hk => Nat.le_trans hI.size (k3 k hk)⟩, hb5⟩
 simp only [Act.put, xA, xB, xC]; (try simp only [xD]); (try simp only [xE]); (try simp only [id])
 repeat (refine' Reg2.ai _ (by rfl) (fun wz => ?_) ?_; rotate_left; (go_simp; first | rfl | rw [if_neg (by omega)]); simp only [Act.put, xA, xB, xC]; (try simp only [xD]); (try simp only [xE]); (try simp only [id]))
 refine Reg2.pm (fun wz hI hF => ?_) (fun r8 => ?_) (by rfl)
 ·have c0 := (hS.out.kept hI).c1
  go_wp2_with fail
  first | exact ⟨_, rfl, rfl, Reg2.Ext.refl _⟩ | exact ⟨_, rfl, ⟨(), rfl, trivial⟩, Reg2.Ext.refl _⟩
 simp only [Act.put, xA, xB, xC]; (try simp only [xD]); (try simp only [xE]); (try simp only [id])
 refine Reg2.pm (fun wz hI hF => ?_) (fun r9 => ?_) (by rfl)
 ·have hc1 := V3 wz hI
  go_wp2_with (go_at_call 88; go_must (refine hc1.mono ?_); rintro e w1 ⟨rfl, k1, hb5⟩)
  exact ⟨_, rfl, ⟨wz.heap.size, rfl, k1, hI.size⟩, hb5⟩
 simp only [Act.put, xA, xB, xC]; (try simp only [xD]); (try simp only [xE]); (try simp only [id])
 repeat (refine' Reg2.ai _ (by rfl) (fun wz => ?_) ?_; rotate_left; (go_simp; first | rfl | rw [if_neg (by omega)]); simp only [Act.put, xA, xB, xC]; (try simp only [xD]); (try simp only [xE]); (try simp only [id]))
 refine Reg2.pm (fun wz hI hF => ?_) (fun Fh => ?_) (by rfl)
 ·have c0 := (hS.out.kept hI).c2
  go_wp2_with fail
  first | exact ⟨_, rfl, rfl, Reg2.Ext.refl _⟩ | exact ⟨_, rfl, ⟨(), rfl, trivial⟩, Reg2.Ext.refl _⟩
 simp only [Act.put, xA, xB, xC]; (try simp only [xD]); (try simp only [xE]); (try simp only [id])
 refine Reg2.pm (fun wz hI hF => ?_) (fun Ck => ?_) (by rfl)
 ·have hc1 := hcP wz hI
  go_wp2_with (go_at_call 89; go_must (refine hc1.mono ?_); rintro e w1 ⟨q1, q2, rfl, k1, k2, k3, hb5⟩)
  exact ⟨_, rfl, ⟨(q1, q2), rfl, k1, Nat.le_trans hI.size k2, Nat.le_trans hI.size k3⟩, hb5⟩
 simp only [Act.put, xA, xB, xC]; (try simp only [xD]); (try simp only [xE]); (try simp only [id])
 repeat (refine' Reg2.ai _ (by rfl) (fun wz => ?_) ?_; rotate_left; (go_simp; first | rfl | rw [if_neg (by omega)]); simp only [Act.put, xA, xB, xC]; (try simp only [xD]); (try simp only [xE]); (try simp only [id]))
 refine Reg2.pm (fun wz hI hF => ?_) (fun TZ => ?_) (by rfl)
 ·have c0 := (hS.out.kept hI).c4
  go_wp2_with fail
  first | exact ⟨_, rfl, rfl, Reg2.Ext.refl _⟩ | exact ⟨_, rfl, ⟨(), rfl, trivial⟩, Reg2.Ext.refl _⟩
 simp only [Act.put, xA, xB, xC]; (try simp only [xD]); (try simp only [xE]); (try simp only [id])
 refine Reg2.aC ?_
 intro w3 HI3 _ pJ
 have hj := pJ.2.2.2.2.1
 have hn := pJ.2.2.2.2.2.2.2.2.2.1
 have hq := pJ.2.2.2.2.2.2.2.2.2.2.2.2.2.2.1
 obtain ⟨t2, v2⟩ := r4
 obtain ⟨p2, g2⟩ := Ck
 obtain ⟨j1, j2, j3⟩ := hj
 obtain ⟨n1, n2⟩ := hn
 obtain ⟨q1, q2, q3⟩ := hq
 clear pJ
 have hs3 := HI3.size
 obtain ⟨w5, vB⟩ : ∃ w5, w5 = w3.alloc (.cells #[.pointer (some ⟨t2, 0, none⟩), .pointer (some ⟨r9, 0, none⟩), .pointer (some ⟨p2, 0, none⟩), .bool true, .bool P.cl] 52) := ⟨_, rfl⟩
 have hb5 : Below w3.heap.size w3 w5 := by rw [vB]; exact (Below.refl _ _).alloc (Nat.le_refl _) _
 have QE : w5.heap[w3.heap.size]? = some (.cells #[.pointer (some ⟨t2, 0, none⟩), .pointer (some ⟨r9, 0, none⟩), .pointer (some ⟨p2, 0, none⟩), .bool true, .bool P.cl] 52 (0, 0)) := by rw [vB]; exact heap_alloc_new w3 _
 have hfin : Hid (QF w w5 w3.heap.size t2 r9 p2 v2 g2 a m P ∧ Below w.heap.size w w5) := by
  refine ⟨⟨⟨QE, (show TV w3 t2 v2 P.J from j1).kept hb5, (show TW w3 r9 P.T from n1).kept hb5, S, aJ, (show PW w3 p2 g2 S aJ from q1).kept hb5, hC, hl, h0, h1⟩, ?_⟩, HI3.trans (hb5.mono hs3)⟩
  rintro k (rfl | rfl | rfl | rfl | hv | rfl)
  ·exact hs3
  ·exact j2
  ·exact n2
  ·exact q2
  ·exact j3 k hv
  ·exact q3
 clear j1 n1 q1 QE hcJ V3 hcP hp
 dsimp only [List.drop]
 go_wp2_with fail
 rw [← vB]
 go_ret
 exact ⟨w3.heap.size, rfl, ⟨t2, r9, p2, v2, g2, hfin.out.1⟩, hfin.out.2⟩
end
end Go.Proofs.YtnihdgcfamoplaaGreat

namespace Go.Proofs.YtnihdgcfamoplaaGreat
open Go.RowKit Go.Lib Go.Sort
theorem QY {L r r' : List Jb} {p : Jb → Bool} (hid : ∀ a ∈ L, ∀ b ∈ L, a.id = b.id → a = b) (h : r.Perm (L.filter p)) (h' : r'.Perm (L.filter p)) (hw : r.Pairwise fun x y => aO y x = false) (hw' : r'.Pairwise fun x y => aO y x = false) : r = r' := by
 refine List.Perm.eq_of_pairwise (le := fun x y => aO y x = false) (fun x y hx hy h1 h2 => ?_) hw hw' (h.trans h'.symm)
 refine hid x (List.mem_filter.1 (h.subset hx)).1 y (List.mem_filter.1 (h'.subset hy)).1 ?_
 unfold aO at h1 h2
 simp only [Bool.or_eq_false_iff, Bool.and_eq_false_iff, decide_eq_false_iff_not] at h1 h2
 omega
theorem QZ {M : Md} (h : aF M) : ∀ a ∈ M.L, ∀ b ∈ M.L, a.id = b.id → a = b := by
 intro x hx y hy e
 obtain ⟨i, hi, rfl⟩ := List.getElem_of_mem hx
 obtain ⟨j, hj, rfl⟩ := List.getElem_of_mem hy
 have e1 := h.ids i hi
 have e2 := h.ids j hj
 rw [List.getD_eq_getElem?_getD, List.getElem?_eq_getElem hi] at e1
 rw [List.getD_eq_getElem?_getD, List.getElem?_eq_getElem hj] at e2
 have Xi : M.L[i].id = (i : Int) + 1 := e1
 have e2' : M.L[j].id = (j : Int) + 1 := e2
 obtain rfl : i = j := by omega
 rfl
section
variable {w : World} {B s c t d p g : Nat} {v u : Value} {m : Int} {M : Md} {L : List Jb}
theorem BK (h : az ah 10 w u L) (hL : L.length ≤ 1000) : Calls Tryz.prog 29 #[u] w (BH w 72 4 L.length (L.flatMap iB)) := by
 have hq := Og h hL
 go_enter Tryz.func29, Tryz.ntmps29
 go_wp2_with fail
 go_at_call 65
 refine hq.mono ?_
 clear hq
 rintro e w' ⟨u', rfl, h1, h2⟩
 have hfin := Lib.hid (And.intro h1 h2)
 clear h1 h2
 go_wp2_with fail
 go_ret
 exact ⟨u', rfl, hfin.out⟩
def vO (M : Md) (r : List Jb) : Prop := r.Perm (M.L.filter fun j => decide (j.state = 1)) ∧ r.Pairwise (fun x y => aO y x = false)
theorem vO.uniq {r r' : List Jb} (hI : aF M) (h : vO M r) (h' : vO M r') : r = r' := QY (QZ hI) h.1 h'.1 h.2 h'.2
theorem vO.len {r : List Jb} (h : vO M r) : r.length ≤ M.L.length := by rw [h.1.length_eq]; exact List.length_filter_le _ _
theorem DY {a : Nat} (h : CW w c t d p v g a m (aj M)) (hll : M.L.length ≤ 900) : Calls Tryz.prog 28 #[.pointer (some ⟨t, 0, none⟩)] w fun e w' => ∃ (v' : Value) (r : List Jb), e = .returned v' ∧ az ah 10 w' v' r ∧ vO M r ∧ Below w.heap.size w w' := by
 refine (Gz h.dX (by show M.L.length ≤ 1000; omega)).mono ?_
 rintro e w' ⟨v', r, rfl, h1, h2, h3, h4⟩
 exact ⟨v', r, rfl, h1, ⟨h2, h3⟩, h4⟩
theorem KX (h : SO B w s c t d p v g m M) (hll : M.L.length ≤ 900) : Calls Tryz.prog 27 #[.pointer (some ⟨s, 0, none⟩)] w fun e w' => ∃ (v' : Value) (r : List Jb), e = .returned v' ∧ vO M r ∧ az iB 4 w' v' r ∧ Below w.heap.size w w' := by
 have hl := qz h
 have q0 := h.at'.c0
 have q1 := h.cw.c0
 have hw := DY h.cw hll
 go_enter Tryz.func27, Tryz.ntmps27
 go_wp2_with fail
 go_at_call 34
 refine hl.mono ?_
 clear hl
 rintro e w' ⟨rfl, rfl⟩
 go_wp2_with fail
 go_at_call 28
 refine hw.mono ?_
 clear hw q0 q1
 rintro e w1 ⟨v1, r, rfl, h1, h2, hb1⟩
 have hi := BK h1 (by have := h2.len; omega)
 go_wp2_with fail
 go_at_call 29
 refine hi.mono ?_
 clear hi
 rintro e w2 ⟨u', rfl, h3, hb2⟩
 have hfin : Hid (az iB 4 w2 u' r ∧ Below w.heap.size w w2) := ⟨az.gB h3 BG rfl rfl, hb1.trans (hb2.mono hb1.size)⟩
 replace h2 := Lib.hid h2
 clear h1 h3 hb1 hb2
 go_wp2_with fail
 go_ret
 exact ⟨u', r, rfl, h2.out, hfin.out⟩
theorem Om (h : SO B w s c t d p v g m M) (hI : aF M) (h1 : 1 ≤ M.dr.length) (hll : M.L.length ≤ 400) : Calls Tryz.prog 26 #[.pointer (some ⟨s, 0, none⟩)] w fun e w' => ∃ s2 c2 t2 d2 p2 v2 g2, e = .returned (.pointer (some ⟨s2, 0, none⟩)) ∧ SO w.heap.size w' s2 c2 t2 d2 p2 v2 g2 m M ∧ Below w.heap.size w w' := by
 have hl := qz h
 have q0 := h.at'.c0
 have hw := QX h.cw (fA hI h1 (by omega)) (by omega)
 go_enter Tryz.func26, Tryz.ntmps26
 go_wp2_with fail
 go_at_call 34
 refine hl.mono ?_
 clear hl
 rintro e w' ⟨rfl, rfl⟩
 go_wp2_with fail
 go_at_call 62
 refine hw.mono ?_
 clear hw q0
 rintro e w1 ⟨c2, t2, d2, p2, v2, g2, rfl, ⟨uC, hlo1⟩, hb1⟩
 have ho := IV c2 w1
 go_wp2_with fail
 go_at_call 32
 refine ho.mono ?_
 clear ho
 rintro e w2 ⟨rfl, hS2, hb2⟩
 have hfin : Hid (SO w.heap.size w2 w1.heap.size c2 t2 d2 p2 v2 g2 m M ∧ Below w.heap.size w w2) := ⟨⟨hS2, hb1.size, uC.kept hb2, hlo1⟩, hb1.trans (hb2.mono hb1.size)⟩
 clear uC hlo1 hS2 hb1 hb2
 go_wp2_with fail
 go_ret
 exact ⟨w1.heap.size, c2, t2, d2, p2, v2, g2, rfl, hfin.out⟩
theorem Q0 (w : World) : Calls Tryz.prog 14 #[.pointer none, .agg #[.int .i64 10, .int .i64 0, .int .i64 0, .int .i64 0, .int .i64 0, .int .i64 0, .bool false, .int .i64 0, .int .i64 0]] w fun e w' => e = .returned (.agg (bu ⟨8, 0, 0, 0, 0, 0, 0, 0, 0⟩).toArray) ∧ Below w.heap.size w w' := by
 obtain ⟨wA, aK⟩ : ∃ wA, wA = (w.alloc (.cells #[.int .i64 10, .int .i64 0, .int .i64 0, .int .i64 0, .int .i64 0, .int .i64 0, .bool false, .int .i64 0, .int .i64 0] 32)).alloc (.cells #[.int .i64 0, .int .i64 0, .int .i64 0, .int .i64 0, .int .i64 0, .int .i64 0, .int .i64 0, .int .i64 0, .int .i64 0] 39) := ⟨_, rfl⟩
 have bR : Hid (Below w.heap.size w wA) := by show Below _ _ _; rw [aK]; exact ((Below.refl _ _).alloc (Nat.le_refl _) _).alloc (by simp) _
 have hsA : wA.heap.size = w.heap.size + 2 := by rw [aK]; simp
 have iq : Hid (wA.heap[w.heap.size + 1]? = some (.cells (bu jY).toArray 39 (0, 0))) := by show _ = _; rw [aK]; exact heap_alloc2_new w _ _
 have hl := qZ wA
 have hq := Bf 8 wA
 generalize (⟨8, 0, 0, 0, 0, 0, 0, 0, 0⟩ : Ry) = y at *
 have zY := sQ
 obtain ⟨k9, bS⟩ : ∃ k, k = 9 := ⟨_, rfl⟩
 rw [← bS] at zY
 have lY := iC y
 rw [← bS] at lY
 have hk0 : ¬ k9 = 0 := by omega
 replace bS := Lib.hid bS
 go_enter Tryz.func14, Tryz.ntmps14
 go_wp2_with fail
 rw [← aK]
 replace aK := Lib.hid aK
 go_at_call 34
 refine hl.mono ?_
 clear hl
 rintro e w' ⟨rfl, rfl⟩
 go_wp2_with fail
 go_at_call 47
 refine hq.mono ?_
 clear hq
 rintro e w4 ⟨rfl, hb4⟩
 have oq := (hb4.block (w.heap.size + 1) (by omega)).trans iq.out
 obtain ⟨st, EJ⟩ := FE oq y
 have hfin : Hid (Below w.heap.size w (w4.setRow (w.heap.size + 1) (bu y).toArray)) := by
  have h1 := bR.out.trans (hb4.mono bR.out.size)
  exact ⟨h1.os, h1.tape, h1.output, by simp; exact h1.size, fun k hk => (setRow_other w4 _ k _ (by omega)).trans (h1.block k hk)⟩
 have hsz : (bu y).toArray.size = 9 := rfl
 clear hb4 oq
 go_wp2_with fail
 exact eH rfl rfl rfl EJ Tryz.underlying39 rfl (by rw [hsz]; kernel_rfl) ⟨rfl, hfin.out⟩
theorem FI (w : World) : Calls Tryz.prog 11 #[.pointer none, .agg #[.int .i64 0, .int .i64 0]] w fun e w' => e = .returned (.bool false) ∧ Below w.heap.size w w' := by
 have hl := fun W => qZ W
 go_enter Tryz.func11, Tryz.ntmps11
 go_wp2_with fail
 go_at_call 34
 refine (hl _).mono ?_
 clear hl
 rintro e w' ⟨rfl, rfl⟩
 go_wp2_with fail
 go_ret
 exact ⟨rfl, (Below.refl _ _).alloc (Nat.le_refl _) _⟩
theorem KY (w : World) : Calls Tryz.prog 26 #[.pointer none] w fun e w' => e = .returned (.pointer none) ∧ w = w' := by
 have hl := qZ w
 go_enter Tryz.func26, Tryz.ntmps26
 go_wp2_with (go_at_call 34; go_must (refine hl.mono ?_); rintro e w' ⟨rfl, rfl⟩)
 go_ret
 exact ⟨rfl, rfl⟩
theorem I1 (w : World) : Calls Tryz.prog 27 #[.pointer none] w fun e w' => e = .returned (.slice none 0 0) ∧ w = w' := by
 have hl := qZ w
 go_enter Tryz.func27, Tryz.ntmps27
 go_wp2_with (go_at_call 34; go_must (refine hl.mono ?_); rintro e w' ⟨rfl, rfl⟩)
 go_ret
 exact ⟨rfl, rfl⟩
end
end Go.Proofs.YtnihdgcfamoplaaGreat

namespace Go.Proofs.YtnihdgcfamoplaaGreat
open Go.RowKit Go.Lib Go.Sort
def wY (B : Nat) (w : World) (P : World → Prop) : Prop := ∀ w' : World, (∀ k, B ≤ k → k < w.heap.size → w'.heap[k]? = w.heap[k]?) → w.heap.size ≤ w'.heap.size → P w'
section
variable {B : Nat} {w w' : World} {P : World → Prop}
theorem wY.now (h : wY B w P) : P w := h w (fun _ _ _ => rfl) (Nat.le_refl _)
theorem wY.off (h : wY B w P) (hk : ∀ k, B ≤ k → k < w.heap.size → w'.heap[k]? = w.heap[k]?) (hs : w.heap.size ≤ w'.heap.size) : wY B w' P := fun W h1 h2 =>
 h W (fun k a b => (h1 k a (Nat.lt_of_lt_of_le b hs)).trans (hk k a b)) (Nat.le_trans hs h2)
theorem wY.cs {c t d p g g' : Nat} {v v' : Value} (h : wY B w P) (hcs : CS w w' c t d p v g v' g') (hf : ∀ k, dH c t d p v g k → k < B) : wY B w' P :=
 h.off (fun k hB hk => hcs.heap hk fun hf' => absurd (hf k hf') (Nat.not_lt.2 hB)) hcs.off.size
end
theorem Sa (x y : Ry) (w : World) : (binOp .neq 39 (.agg (bu x).toArray) (.agg (bu y).toArray)).run Tryz.prog w = .ok (.bool (!decide (x = y))) w := by
 rw [run_neq_struct, Ho]; rfl
section
end
end Go.Proofs.YtnihdgcfamoplaaGreat

namespace Go.Proofs.YtnihdgcfamoplaaGreat
open Go.ChangeShapes Go.WideShapes Go.ChangeAt Go.RowKit Go.Lib Go.Sort Go.Deep
section
variable {H : Type} {enc : TypeId × Value → H} {w : World} {base : Nat} {v : Value} {d : DataW H} {ps : List MemPlace}
def V4 : List TypeId := [3, 3, 3, 3, 2, 3, 4, 3, 2]
theorem Q3 (hval : Value.okWide Tryz.prog w .any base 66 v) (hd : DataW.Trod enc Tryz.prog w 0 (fun _ => true) true 66 v d ps) : ∃ l : List Rq, az encR 9 w v l ∧ ∀ x ∈ l, rR x := by
 obtain ⟨l, hr, hf⟩ := CR (n := 2) (ts := V4) Tryz.underlying66 (by kernel_rfl) (by kernel_rfl) (by kernel_rfl) (by decide) hval hd
 obtain ⟨L, rfl, hL⟩ := vN (zg := encR) (p := rR) fun s hs => by
  obtain ⟨hl, hf⟩ := hf s hs
  match s, hl with
  | [a1, a2, a3, a4, a5, a6, a7, a8, a9], _ =>
   obtain ⟨x1, rfl, b1⟩ := eu hf 0 rfl Tryz.underlying3 rfl
   obtain ⟨x2, rfl, b2⟩ := eu hf 1 rfl Tryz.underlying3 rfl
   obtain ⟨x3, rfl, b3⟩ := eu hf 2 rfl Tryz.underlying3 rfl
   obtain ⟨x4, rfl, b4⟩ := eu hf 3 rfl Tryz.underlying3 rfl
   obtain ⟨x5, rfl, b5⟩ := eu hf 4 rfl Tryz.underlying2 rfl
   obtain ⟨x6, rfl, b6⟩ := eu hf 5 rfl Tryz.underlying3 rfl
   obtain ⟨x7, rfl⟩ := uZ hf 6 rfl Tryz.underlying4 rfl
   obtain ⟨x8, rfl, b8⟩ := eu hf 7 rfl Tryz.underlying3 rfl
   obtain ⟨x9, rfl, b9⟩ := eu hf 8 rfl Tryz.underlying2 rfl
   exact ⟨⟨x1, x2, x3, x4, x5, x6, x7, x8, x9⟩, rfl, ⟨b1, b2, b3, b4, b5, b6, b8, b9⟩⟩
 exact ⟨L, BF hr, hL⟩
end
end Go.Proofs.YtnihdgcfamoplaaGreat
