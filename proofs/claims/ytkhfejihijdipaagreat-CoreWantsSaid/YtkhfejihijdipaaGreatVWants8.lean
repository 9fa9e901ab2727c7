/-
 CoreWants of the Go text returns true for every input, and each argument reads afterwards as it read before. No condition.
-/
import Derived.Test.YtkhfejihijdipaaGreatRows
import Derived.ProofKit
import Derived.OpenShut
import Derived.Test.YtkhfejihijdipaaGreatVWants7
set_option maxRecDepth 1000000
set_option maxHeartbeats 8000000
set_option linter.all false
namespace Go.Proofs.YtkhfejihijdipaaGreat
open Go.RowKit Go.Lib Go.Sort
structure Bg (w0 w : World) (b c t d p : Nat) (v0 : Value) (g0 : Nat) (v : Value) (g a : Nat) (m mx : Int) (R : Wk) (M : Md) : Prop where
 sw : SW w b c t d p v g a m R (aj M)
 left : R.left = eY 64
 inv : aB M
 calm : Calm M
 cl : M.cl = false
 one : 1 ≤ M.dr.length
 few : M.L.length ≤ 190
 ha : a ≤ 1 + 2 * M.L.length
 hm : m + 1000 ≤ mx
 hmx : mx ≤ 1000000
 ok : R.ok = false
 ws : WS w0 w b c t d p v0 g0 v g
section
variable {L : List Jb} {id : Int} {ok : Jb → Bool} {ch : Jb → Jb} {M : Md}
theorem vH (L : List Jb) (i : Nat) : L[i]! = L.getD i default := by rw [List.getElem!_eq_getElem?_getD, List.getD_eq_getElem?_getD]
theorem rP (h : ¬ (id < 1 ∨ (L.length : Int) < id)) : bE L id = L.getD (id - 1).toNat default := by
 unfold bE
 rw [if_neg (by omega), if_neg (by omega), vH]
theorem wP (h : id < 1 ∨ (L.length : Int) < id) : bD L 0 id ok = 7 := by
 unfold bD
 rw [if_neg (by decide)]
 split
 ·rfl
 ·rw [if_pos (by omega)]
theorem Ag (h : ¬ (id < 1 ∨ (L.length : Int) < id)) (ho : ok (L.getD (id - 1).toNat default) = false) : bD L 0 id ok = 8 := by
 unfold bD
 rw [if_neg (by decide), if_neg (by omega), if_neg (by omega), vH, ho]
 rfl
theorem sN (h : ¬ (id < 1 ∨ (L.length : Int) < id)) (ho : ok (L.getD (id - 1).toNat default) = true) : bD L 0 id ok = 0 := by
 unfold bD
 rw [if_neg (by decide), if_neg (by omega), if_neg (by omega), vH, ho]
 rfl
theorem nM {e0 : Int} (h : bD L e0 id ok = 0) : bR L e0 id ok ch = L.set (id - 1).toNat (ch (L.getD (id - 1).toNat default)) := by
 unfold bR
 rw [if_pos h, vH]
theorem Cn (h : id < 1 ∨ (M.L.length : Int) < id) : getM M id = (default, false) := if_pos h
theorem vI (h : ¬ (id < 1 ∨ (M.L.length : Int) < id)) : getM M id = (M.L.getD (id - 1).toNat default, true) := if_neg h
theorem wQ {x : Jb} (h : ¬ (id < 1 ∨ (L.length : Int) < id)) : bE (L.set (id - 1).toNat x) id = x := by
 rw [rP (by rw [List.length_set]; exact h), fF, if_pos ⟨rfl, by omega⟩]
theorem uI (r : Rw) (h : r.id < 1 ∨ (M.L.length : Int) < r.id) : fq M r = (fE 7, M) := by
 unfold fq
 rw [Cn h]
 exact if_pos rfl
theorem LV (r : Rw) (h : r.id < 1 ∨ (M.L.length : Int) < r.id) : kS M r = (fE 7, M) := by
 unfold kS
 rw [Cn h]
 exact if_pos rfl
end
section
variable {w0 w : World} {b c t d p g g0 a N : Nat} {v v0 : Value} {m mx : Int} {P : Pg} {M M' : Md} {R : Wk} {Q : World → Prop}
theorem Je (h : SW w b c t d p v g a m R (aj M)) (hl : R.left = eY 64) (hc : M.cl = true) (ha : a ≤ 800) (hm : m ≤ mx) (hw : WS w0 w b c t d p v0 g0 v g) :
  Goes b c 1000 w (Fin w0 b c t d p v0 g0 mx M (oh (fE 12)) false) :=
 aV (N := 999) bg (A7 h hc) h hl rfl ha hm hw rfl rfl rfl
theorem Jf (h : Bg w0 w b c t d p v0 g0 v g a m mx R M) (hq : ¬ (1 ≤ R.ag.kind ∧ R.ag.kind ≤ 13)) :
  Goes b c 1000 w (Fin w0 b c t d p v0 g0 mx M (oh (fE 4)) false) :=
 aV (N := 999) bg (Gm h.sw h.cl hq) h.sw h.left rfl (by have := h.ha; have := h.few; omega) (by have := h.hm; omega) h.ws rfl rfl rfl
theorem eZ {k k' a' : Nat} {m' : Int} {R' : Wk} {P' : Pg} (hk : ∀ args w, Sem.run Tryz.prog (callFunc k args) w = .ok (.enter k args) w)
  (hp : Calls Tryz.prog k #[.pointer (some ⟨b, 0, none⟩), .pointer (some ⟨c, 0, none⟩)] w (au w b c t d p v g a' m' (eY k') R' P'))
  (h : SW w b c t d p v g a m R P) (hl : R.left = eY k) (hl' : R'.left = R.left)
  (hn : ∀ w' v' g', SW w' b c t d p v' g' a' m' { R' with left := eY k' } P' → WS w w' b c t d p v g v' g' → Goes b c N w' Q) : Goes b c (N + 1) w Q :=
 uF h hl (hl'.trans hl) hk hp hn
theorem A8 (h : Bg w0 w b c t d p v0 g0 v g a m mx R M) (hk : R.ag.kind = 4) :
  Goes b c 1000 w (Fin w0 b c t d p v0 g0 mx (fq M (toW R.ag)).2 (oh (fq M (toW R.ag)).1) false) := by
 have hll := h.few
 have ha := h.ha
 have hm := h.hm
 have hrd : iW R.ag.kind = false := by rw [hk]; rfl
 have iM : ∀ {L : Value} {a' : Nat} {m' : Int} {R' : Wk} {P' : Pg}, Calls Tryz.prog 120 #[.pointer (some ⟨b, 0, none⟩), .pointer (some ⟨c, 0, none⟩)] w (au w b c t d p v g a' m' L R' P') → Calls Tryz.prog 64 #[.pointer (some ⟨b, 0, none⟩), .pointer (some ⟨c, 0, none⟩)] w (au w b c t d p v g a' m' L R' P') := fun hn => fo h.sw h.cl (by rw [hk]; decide) hrd (LG h.sw hk hn)
 by_cases hid : R.ag.id < 1 ∨ (M.L.length : Int) < R.ag.id
 ·rw [uI (toW R.ag) hid]
  exact aV (N := 999) bg (iM (vE h.sw 7 (by decide) (wP hid))) h.sw h.left rfl (by omega) (by omega) h.ws rfl rfl rfl
 ·have hi : (R.ag.id - 1).toNat < M.L.length := by omega
  have hmem := aW hi
  have eM := vI (M := M) hid
  by_cases hs : (M.L.getD (R.ag.id - 1).toNat default).st = 2
  ·have hE : bD M.L 0 R.ag.id (fun j : Jb => decide (j.state = 2)) = 0 := sN hid (decide_eq_true hs)
   have hr := F8 h.sw hE
   have eL : bR (aj M).J 0 R.ag.id (fun j : Jb => decide (j.state = 2)) nC = M.L.set (R.ag.id - 1).toNat ((M.L.getD (R.ag.id - 1).toNat default).setSt 1) := nM hE
   rw [eL, wQ hid] at hr
   generalize hx : M.L.getD (R.ag.id - 1).toNat default = x at *
   have bo := h.inv.one _ hmem
   have bw := h.inv.mb.wid _ hmem
   have bl := h.inv.mb.lim _ hmem
   have bf := h.inv.mb.fin _ hmem
   have bn := h.inv.mb.bF _ hmem
   have hp : x.aJ = -1 := h.inv.rest _ hmem (by omega)
   have hpl : ak (x.setSt 1) = false := by unfold ak; simp [show (x.setSt 1).aJ = -1 from hp]
   have hI1 : aB { M with L := M.L.set (R.ag.id - 1).toNat (x.setSt 1) } :=
    h.inv.set (i := (R.ag.id - 1).toNat) (y := x.setSt 1) (h.inv.mb.set _ _ bw bl (by show -1 ≤ x.aJ ∧ x.aJ ≤ _; omega) bf bn) (by rw [hx]; rfl) ⟨bo.1, bo.2.1, bo.2.2.1, (show (1 : Int) ≤ 1 by omega), (show (1 : Int) ≤ 6 by omega)⟩ (fun _ => hp) (fun e => absurd (show (1 : Int) = 3 from e) (by decide)) (.inl hp) (h.inv.kF.set hi fun n e => by unfold aD at e; simp [Jb.setSt, Jb.st] at e)
     fun t ht => lM h.inv hi (by rw [hx]; exact ⟨fun e => absurd (show (1 : Int) = 3 from e) (by decide), fun e => by omega⟩) (by rw [hx]; rfl) (by rw [hx]; rfl) hpl t ht
   have hP : ({ aj M with J := M.L.set (R.ag.id - 1).toNat (x.setSt 1) } : Pg) = aj { M with L := M.L.set (R.ag.id - 1).toNat (x.setSt 1) } := by
    have h3 : ((x.setSt 1).st = 3) ↔ ((M.L.getD (R.ag.id - 1).toNat default).st = 3) := by rw [hx]; exact ⟨fun e => absurd (show (1 : Int) = 3 from e) (by decide), fun e => by omega⟩
    have e1 : bU M = bU { M with L := M.L.set (R.ag.id - 1).toNat (x.setSt 1) } := by
     refine nL (by rw [aZ, aZ]) fun n hn => ?_
     rw [bV, bV, nS hi h3 (by rw [hx]; rfl)]
    have e2 : (fun t => ax M t 0) = fun t => ax { M with L := M.L.set (R.ag.id - 1).toNat (x.setSt 1) } t 0 := by
     funext t
     rw [pQ hi h3 (by rw [hx]; rfl) (by rw [hx]; rfl), dC hpl, hx, dC (by unfold ak; simp [hp])]
     omega
    show Pg.mk _ _ (bU M) (fun t => ax M t 0) _ = _
    rw [e1, e2]
    rfl
   rw [hP] at hr
   have e : fq M (toW R.ag) = (ma (x.setSt 1), dX { M with L := M.L.set (R.ag.id - 1).toNat (x.setSt 1) } (x.setSt 1)) := by
    have hj : dY (toW R.ag).kind x = x.setSt 1 := by unfold dY; rw [show (toW R.ag).kind = 4 from hk]; rfl
    unfold fq
    rw [show (toW R.ag).id = R.ag.id from rfl, eM]
    refine (if_neg (fun e => nomatch e)).trans ((if_neg ?_).trans ((if_pos hk).trans ?_))
    ·show ¬ ((R.ag.kind = 3 ∧ x.st ≠ 1) ∨ (R.ag.kind = 4 ∧ x.st ≠ 2))
     omega
    ·show (ma (dY (toW R.ag).kind x), dX { M with L := M.L.set (R.ag.id - 1).toNat (dY (toW R.ag).kind x) } (dY (toW R.ag).kind x)) = _
     rw [hj]
   rw [e]
   refine (eZ (N := 901) (k := 64) (k' := 135) bg (iM hr) h.sw h.left rfl fun w' v' g' hS' hw' => ?_).more (show 902 ≤ 1000 by decide)
   have hL : (M.L.set (R.ag.id - 1).toNat (x.setSt 1)).length = M.L.length := List.length_set
   have TA := Af (x.setSt 1) (M.L.set (R.ag.id - 1).toNat (x.setSt 1))
   have hidx : x.id = (((R.ag.id - 1).toNat : Nat) : Int) + 1 := by rw [← hx]; exact h.inv.ids _ hi
   have := rO (M := { M with L := M.L.set (R.ag.id - 1).toNat (x.setSt 1) }) (M' := dX { M with L := M.L.set (R.ag.id - 1).toNat (x.setSt 1) } (x.setSt 1)) (R := { ({ R with az := x.setSt 1, rep := iy (x.setSt 1) } : Wk) with left := eY 135 }) (w0 := w0) (b := b) (c := c) (t := t) (d := d) (p := p) (v0 := v0) (g0 := g0) (mx := mx) rfl (by show x.id ≠ 0; omega) h.one (by show (M.L.set (R.ag.id - 1).toNat (x.setSt 1)).length ≤ 900; omega) h.hmx 900 (L := M.L.set (R.ag.id - 1).toNat (x.setSt 1)) rfl (by show hits (x.setSt 1) _ ≤ 900; omega) hI1 rfl hS' (by show a + 2 * hits (x.setSt 1) _ ≤ 800; omega) (by show m + (hits (x.setSt 1) _ : Nat) ≤ mx; omega) (h.ws.trans hw')
   rw [show ({ ({ R with az := x.setSt 1, rep := iy (x.setSt 1) } : Wk) with left := eY 135 } : Wk).ok = false from h.ok] at this
   exact this
  ·have hE : bD M.L 0 R.ag.id (fun j : Jb => decide (j.state = 2)) = 8 := Ag hid (decide_eq_false hs)
   have e : fq M (toW R.ag) = (fE 8, M) := by
    unfold fq
    rw [show (toW R.ag).id = R.ag.id from rfl, eM]
    exact (if_neg (fun e => nomatch e)).trans (if_pos (.inr ⟨hk, hs⟩))
   rw [e]
   exact aV (N := 999) bg (iM (vE h.sw 8 (by decide) hE)) h.sw h.left rfl (by omega) (by omega) h.ws rfl rfl rfl
end
end Go.Proofs.YtkhfejihijdipaaGreat

namespace Go.Proofs.YtkhfejihijdipaaGreat
open Go.RowKit Go.Lib Go.Sort
section
variable {w0 w : World} {b c t d p g g0 a N : Nat} {v v0 : Value} {m mx : Int} {P : Pg} {M M' : Md} {R : Wk} {Q : World → Prop}
theorem Co {i : Nat} {y : Jb} (hi : i < M.L.length) (hs : (M.L.getD i default).st ≠ 3) (hy : y.st ≠ 3) (hy2 : y.bF = (M.L.getD i default).bF) (hy3 : y.fin = (M.L.getD i default).fin) (hyp : ak y = false)
  (hI : aB M) (hI1 : aB { M with L := M.L.set i y }) (h1 : 1 ≤ M.dr.length) (hll : M.L.length ≤ 900) (ha : a ≤ 700) (hm : m + 1 ≤ mx) (hmx : mx ≤ 1000000)
  (h : SW w b c t d p v g a m R { aj M with J := M.L.set i y }) (hl : R.left = eY 139) (hj : R.az = M.L.getD i default) (hw : WS w0 w b c t d p v0 g0 v g) :
  Goes b c (N + 1) w (Fin w0 b c t d p v0 g0 mx { M with L := M.L.set i y } R.rep R.ok) := by
 have hmem := aW hi
 have bo := hI.one _ hmem
 have bw := hI.mb.wid _ hmem
 have bl := hI.mb.lim _ hmem
 have bp := hI.mb.aJ _ hmem
 have hst : (y.st = 3) ↔ ((M.L.getD i default).st = 3) := ⟨fun e => absurd e hy, fun e => absurd e hs⟩
 have dw := eu hI h1 hll
 have kQ := eu hI1 h1 (by rw [List.length_set]; exact hll)
 have qF : PK { aj M with J := M.L.set i y } := ⟨dw.now, kQ.few, kQ.st, kQ.lim, dw.qd, dw.f⟩
 have eT : bU M = bU { M with L := M.L.set i y } := by
  refine nL (by rw [aZ, aZ]) fun n hn => ?_
  rw [bV, bV, nS hi hst hy2]
 have ef : ∀ t, ax { M with L := M.L.set i y } t 0 = ax M t 0 + dB t 0 (M.L.getD i default) := fun t => by
  rw [pQ hi hst hy2 hy3, dC hyp]
  omega
 have eP : ∀ F : Int → Int, F = (fun t => ax { M with L := M.L.set i y } t 0) → ({ aj M with J := M.L.set i y, f := F } : Pg) = aj { M with L := M.L.set i y } := fun F hF => by
  show Pg.mk _ _ (bU M) F _ = _
  rw [eT, hF]
  rfl
 cases hp : ak (M.L.getD i default) with
 | true =>
  have hv := DT h qF (by omega) (by omega) (by rw [hj]; exact hp) (by rw [hj]; exact bp.2) (by rw [hj]; exact bl) (by rw [hj]; exact bo.2.2.1) (by rw [hj]; exact bw) (fun t => ax { M with L := M.L.set i y } t 0) (fun t ht => by
   rw [hj]
   have hu := qh hI hi hp t
   rw [iD hi, dC (j := (M.L.getD i default).aC (-1)) (by unfold ak; simp [Jb.aC, Jb.aJ])] at hu
   show ax { M with L := M.L.set i y } t 0 = ax M t 0 + had (max (M.L.getD i default).aJ M.now) ((M.L.getD i default).aJ + (M.L.getD i default).lim) (M.L.getD i default).wid t
   rw [ef]
   omega) (fun t ht => kQ.f t ht)
  have e := eP (fun t => ax { M with L := M.L.set i y } t 0) rfl
  rw [e] at hv
  exact aV (a' := a + 2) (m' := m + 1) uH hv h hl rfl (by omega) (by omega) hw rfl rfl rfl
 | false =>
  have hv := DU h qF (by omega) (by omega) (by rw [hj]; exact hp) (by rw [hj]; exact hs) (by rw [hj]; exact bp.2) (by rw [hj]; exact bl)
  have e : ({ aj M with J := M.L.set i y } : Pg) = aj { M with L := M.L.set i y } := eP _ (by
   funext t
   rw [ef, dC hp]
   show ax M t 0 = _
   omega)
  rw [e] at hv
  exact aV (a' := a) (m' := m) uH hv h hl rfl (by omega) (by omega) hw rfl rfl rfl
theorem Jg (h : Bg w0 w b c t d p v0 g0 v g a m mx R M) (hk : R.ag.kind = 3) :
  Goes b c 1000 w (Fin w0 b c t d p v0 g0 mx (fq M (toW R.ag)).2 (oh (fq M (toW R.ag)).1) false) := by
 have hll := h.few
 have ha := h.ha
 have hm := h.hm
 have hrd : iW R.ag.kind = false := by rw [hk]; rfl
 have iM : ∀ {L : Value} {a' : Nat} {m' : Int} {R' : Wk} {P' : Pg}, Calls Tryz.prog 119 #[.pointer (some ⟨b, 0, none⟩), .pointer (some ⟨c, 0, none⟩)] w (au w b c t d p v g a' m' L R' P') → Calls Tryz.prog 64 #[.pointer (some ⟨b, 0, none⟩), .pointer (some ⟨c, 0, none⟩)] w (au w b c t d p v g a' m' L R' P') := fun hn => fo h.sw h.cl (by rw [hk]; decide) hrd (LF h.sw hk hn)
 by_cases hid : R.ag.id < 1 ∨ (M.L.length : Int) < R.ag.id
 ·rw [uI (toW R.ag) hid]
  exact aV (N := 999) bg (iM (Cb h.sw 7 (by decide) (wP hid))) h.sw h.left rfl (by omega) (by omega) h.ws rfl rfl rfl
 ·have hi : (R.ag.id - 1).toNat < M.L.length := by omega
  have eM := vI (M := M) hid
  by_cases hs : (M.L.getD (R.ag.id - 1).toNat default).st = 1
  ·have hE : bD M.L 0 R.ag.id (fun j : Jb => decide (j.state = 1)) = 0 := sN hid (decide_eq_true hs)
   have hr := Oj h.sw hE
   have eL : bR (aj M).J 0 R.ag.id (fun j : Jb => decide (j.state = 1)) ou = M.L.set (R.ag.id - 1).toNat (((M.L.getD (R.ag.id - 1).toNat default).setSt 2).aC (-1)) := nM hE
   rw [eL, wQ hid, show bE (aj M).J R.ag.id = M.L.getD (R.ag.id - 1).toNat default from rP hid] at hr
   have e : fq M (toW R.ag) = (ma (((M.L.getD (R.ag.id - 1).toNat default).setSt 2).aC (-1)), { M with L := M.L.set (R.ag.id - 1).toNat (((M.L.getD (R.ag.id - 1).toNat default).setSt 2).aC (-1)) }) := by
    have hj : dY (toW R.ag).kind (M.L.getD (R.ag.id - 1).toNat default) = ((M.L.getD (R.ag.id - 1).toNat default).setSt 2).aC (-1) := by unfold dY; rw [show (toW R.ag).kind = 3 from hk]; rfl
    have hk4 : ¬ (toW R.ag).kind = 4 := by rw [show (toW R.ag).kind = 3 from hk]; decide
    unfold fq
    rw [show (toW R.ag).id = R.ag.id from rfl, eM]
    refine (if_neg (fun e => nomatch e)).trans ((if_neg ?_).trans ((if_neg hk4).trans ?_))
    ·show ¬ ((R.ag.kind = 3 ∧ (M.L.getD (R.ag.id - 1).toNat default).st ≠ 1) ∨ (R.ag.kind = 4 ∧ (M.L.getD (R.ag.id - 1).toNat default).st ≠ 2))
     omega
    ·show (ma (dY (toW R.ag).kind (M.L.getD (R.ag.id - 1).toNat default)), { M with L := M.L.set (R.ag.id - 1).toNat (dY (toW R.ag).kind (M.L.getD (R.ag.id - 1).toNat default)) }) = _
     rw [hj]
   have hI1 := (h.inv.CQ h.calm (toW R.ag)).1
   rw [e] at hI1 ⊢
   refine (eZ (N := 1) (k := 64) (k' := 139) bg (iM hr) h.sw h.left rfl fun w' v' g' hS' hw' => ?_).more (show 2 ≤ 1000 by decide)
   have := Co (N := 0) (mx := mx) (a := a) (m := m) (y := ((M.L.getD (R.ag.id - 1).toNat default).setSt 2).aC (-1)) hi (by rw [hs]; decide) (show (2 : Int) ≠ 3 by decide) rfl rfl (by unfold ak; rw [show (((M.L.getD (R.ag.id - 1).toNat default).setSt 2).aC (-1)).aJ = -1 from rfl]; simp) h.inv hI1 h.one (by omega) (by omega) (by omega) h.hmx hS' rfl rfl (h.ws.trans hw')
   rw [show ({ ({ R with az := M.L.getD (R.ag.id - 1).toNat default, rep := iy (((M.L.getD (R.ag.id - 1).toNat default).setSt 2).aC (-1)) } : Wk) with left := eY 139 } : Wk).ok = false from h.ok] at this
   exact this
  ·have hE : bD M.L 0 R.ag.id (fun j : Jb => decide (j.state = 1)) = 8 := Ag hid (decide_eq_false hs)
   have e : fq M (toW R.ag) = (fE 8, M) := by
    unfold fq
    rw [show (toW R.ag).id = R.ag.id from rfl, eM]
    exact (if_neg (fun e => nomatch e)).trans (if_pos (.inl ⟨hk, hs⟩))
   rw [e]
   exact aV (N := 999) bg (iM (Cb h.sw 8 (by decide) hE)) h.sw h.left rfl (by omega) (by omega) h.ws rfl rfl rfl
theorem vJ (h : Bg w0 w b c t d p v0 g0 v g a m mx R M) (s : Int) (hk : (R.ag.kind = 2 ∧ s = 5) ∨ (R.ag.kind = 5 ∧ s = 4)) :
  Goes b c 1000 w (Fin w0 b c t d p v0 g0 mx (kS M (toW R.ag)).2 (oh (kS M (toW R.ag)).1) false) := by
 have hll := h.few
 have ha := h.ha
 have hm := h.hm
 have jJ := h.inv.mb.now
 have dw := eu h.inv h.one (by omega)
 have hrd : iW R.ag.kind = false := by rcases hk with ⟨hk, _⟩ | ⟨hk, _⟩ <;> (rw [hk]; rfl)
 have iM : ∀ {L : Value} {a' : Nat} {m' : Int} {R' : Wk} {P' : Pg}, Calls Tryz.prog 118 #[.pointer (some ⟨b, 0, none⟩), .pointer (some ⟨c, 0, none⟩), .int .i64 s] w (au w b c t d p v g a' m' L R' P') → Calls Tryz.prog 64 #[.pointer (some ⟨b, 0, none⟩), .pointer (some ⟨c, 0, none⟩)] w (au w b c t d p v g a' m' L R' P') := fun hn => by
  rcases hk with ⟨hk, rfl⟩ | ⟨hk, rfl⟩
  ·exact fo h.sw h.cl (by rw [hk]; decide) hrd (LB h.sw hk hn)
  ·exact fo h.sw h.cl (by rw [hk]; decide) hrd (LC h.sw hk hn)
 have Rf : bq s M.now = 0 := by unfold bq; (repeat' split) <;> omega
 by_cases hid : R.ag.id < 1 ∨ (M.L.length : Int) < R.ag.id
 ·rw [LV (toW R.ag) hid]
  exact aV (N := 999) bg (iM (xP h.sw dw s 7 (by decide) (by rw [show (aj M).now = M.now from rfl, Rf]; exact wP hid))) h.sw h.left rfl (by omega) (by omega) h.ws rfl rfl rfl
 ·have hi : (R.ag.id - 1).toNat < M.L.length := by omega
  have hmem := aW hi
  have bo := h.inv.one _ hmem
  have eM := vI (M := M) hid
  by_cases hs : dS s (M.L.getD (R.ag.id - 1).toNat default) = true
  ·have hE : bD (aj M).J (bq s (aj M).now) R.ag.id (dS s) = 0 := by rw [show (aj M).now = M.now from rfl, Rf]; exact sN hid hs
   have hr := IK h.sw dw s hE
   obtain ⟨y, LW⟩ : ∃ y, y = ib M R.ag.kind (M.L.getD (R.ag.id - 1).toNat default) := ⟨_, rfl⟩
   have hyj : bG s M.now (M.L.getD (R.ag.id - 1).toNat default) = y := by
    rw [LW]
    unfold ib bG
    have es : (if R.ag.kind = 5 then (4 : Int) else 5) = s := by split <;> omega
    rw [es]
    by_cases e3 : (M.L.getD (R.ag.id - 1).toNat default).st = 3
    ·rw [if_pos e3, if_pos (show (M.L.getD (R.ag.id - 1).toNat default).2.2.2.2.2.1 = 3 from e3)]; rfl
    ·rw [if_neg e3, if_neg (show ¬ (M.L.getD (R.ag.id - 1).toNat default).2.2.2.2.2.1 = 3 from e3)]; rfl
   have eL : bR (aj M).J (bq s (aj M).now) R.ag.id (dS s) (bG s (aj M).now) = M.L.set (R.ag.id - 1).toNat y := (nM hE).trans (by rw [← hyj]; rfl)
   rw [eL, wQ hid, show bE (aj M).J R.ag.id = M.L.getD (R.ag.id - 1).toNat default from rP hid] at hr
   have hok : ¬ (3 < (M.L.getD (R.ag.id - 1).toNat default).st ∨ (R.ag.kind = 5 ∧ (M.L.getD (R.ag.id - 1).toNat default).st ≠ 3)) := by
    unfold dS at hs
    rw [Bool.or_eq_true, Bool.and_eq_true, decide_eq_true_iff, decide_eq_true_iff, decide_eq_true_iff] at hs
    have : (M.L.getD (R.ag.id - 1).toNat default).state = (M.L.getD (R.ag.id - 1).toNat default).st := rfl
    omega
   have e : kS M (toW R.ag) = (ma y, { M with L := M.L.set (R.ag.id - 1).toNat y }) := by
    unfold kS
    rw [show (toW R.ag).id = R.ag.id from rfl, eM]
    refine (if_neg (fun e => nomatch e)).trans ((if_neg hok).trans ?_)
    rw [LW]
    rfl
   have hI1 := (h.inv.Jt h.calm (toW R.ag)).1
   rw [e] at hI1 ⊢
   have hy3 : y.st ≠ 3 := by
    rw [LW]
    show (if R.ag.kind = 5 then (4 : Int) else 5) ≠ 3
    split <;> omega
   have hyp : ak y = false := by
    unfold ak
    rw [show y.aJ = -1 by rw [LW]; rfl]
    simp
   have Rh : y.bF = (M.L.getD (R.ag.id - 1).toNat default).bF := by rw [LW]; unfold ib; split <;> rfl
   refine (eZ (N := 2) (k := 64) (k' := 137) bg (iM hr) h.sw h.left rfl fun w' v' g' hS' hw' => ?_).more (show 3 ≤ 1000 by decide)
   clear LW hyj
   have kQ := eu hI1 h.one (by rw [List.length_set]; omega)
   by_cases h3 : (M.L.getD (R.ag.id - 1).toNat default).st = 3
   ·have hrn := h.inv.runs _ hmem h3
    have Ju := h.inv.mb.bF _ hmem
    have hfin := h.inv.mb.fin _ hmem
    have hlt := h.calm.runs _ hmem h3
    have hg := K9 hS' ⟨dw.now, kQ.few, kQ.st, kQ.lim, dw.qd, dw.f⟩ h3 Ju
    obtain ⟨n, hn⟩ : ∃ n : Int, n = ((List.range M.dr.length).countP (fun k => bS (M.L.getD (R.ag.id - 1).toNat default).bF.toNat k && !(M.dr.getD k false)) : Nat) := ⟨_, rfl⟩
    have hn2 : 0 ≤ n ∧ n ≤ 64 := by
     have h4 := List.countP_le_length (p := fun k => bS (M.L.getD (R.ag.id - 1).toNat default).bF.toNat k && !(M.dr.getD k false)) (l := List.range M.dr.length)
     rw [List.length_range] at h4
     have := h.inv.mb.nn
     omega
    refine eZ (N := 1) (k := 137) (k' := 139) (a' := a) (m' := m)
     (R' := { ({ ({ R with az := M.L.getD (R.ag.id - 1).toNat default, rep := iy y } : Wk) with left := eY 137 } : Wk) with idle := n }) (P' := { aj M with J := M.L.set (R.ag.id - 1).toNat y, T := bU { M with L := M.L.set (R.ag.id - 1).toNat y } })
     Gq (hg.mono fun e w' hp => ?_) hS' rfl rfl fun w2 v2 g2 hS2 hw2 => ?_
    ·obtain ⟨n', x', T', h5, h6⟩ := hp
     obtain ⟨h7, _, h8⟩ := BN h.inv hi h3 hy3 h5
     rw [← hn] at h7
     subst h7 h8
     exact h6
    ·have hv := FV hS2 ⟨dw.now, kQ.few, kQ.st, kQ.lim, kQ.qd, dw.f⟩ (by omega) (by have := h.hmx; omega) h3 (h.inv.mb.aJ _ hmem).2 (h.inv.mb.lim _ hmem) ⟨hlt, hfin.2⟩ (by show -64 ≤ n ∧ n ≤ 64; omega) (fun t => ax { M with L := M.L.set (R.ag.id - 1).toNat y } t 0) (fun t ht => by
      have hf := pU h.inv.kF hi h3 hy3 hyp t 0
      show ax { M with L := M.L.set (R.ag.id - 1).toNat y } t 0 = ax M t 0 + had (max M.now M.now) (M.L.getD (R.ag.id - 1).toNat default).fin n t
      have ht' : M.now ≤ t := ht
      unfold had
      by_cases c1 : t < (M.L.getD (R.ag.id - 1).toNat default).fin
      ·rw [if_pos c1] at hf
       rw [if_pos ⟨by omega, .inl c1⟩, hf, hn]
      ·rw [if_neg c1] at hf
       rw [if_neg (by omega), hf]
       rfl) (fun t ht => kQ.f t ht)
     exact aV (N := 0) uH hv hS2 rfl rfl (by omega) (by omega) ((h.ws.trans hw').trans hw2) rfl rfl h.ok
   ·have hg := NV hS' h3
    refine eZ (N := 1) (k := 137) (k' := 139) Gq hg hS' rfl rfl fun w2 v2 g2 hS2 hw2 => ?_
    have Ut : y.fin = (M.L.getD (R.ag.id - 1).toNat default).fin := by
     have : y = bG s M.now (M.L.getD (R.ag.id - 1).toNat default) := by
      have := congrArg (fun l : List Jb => l.getD (R.ag.id - 1).toNat default) eL
      rw [show bR (aj M).J (bq s (aj M).now) R.ag.id (dS s) (bG s (aj M).now) = M.L.set (R.ag.id - 1).toNat (bG s M.now (M.L.getD (R.ag.id - 1).toNat default)) from nM hE] at this
      simp only [fF] at this
      rw [if_pos ⟨trivial, hi⟩, if_pos ⟨trivial, hi⟩] at this
      exact this.symm
     rw [this]
     show (if (M.L.getD (R.ag.id - 1).toNat default).2.2.2.2.2.1 = 3 then M.now else _) = _
     rw [if_neg (show ¬ (M.L.getD (R.ag.id - 1).toNat default).2.2.2.2.2.1 = 3 from h3)]
     rfl
    have := Co (N := 0) (mx := mx) (a := a) (m := m) (y := y) hi h3 hy3 Rh Ut hyp h.inv hI1 h.one (by omega) (by omega) (by omega) h.hmx hS2 rfl rfl ((h.ws.trans hw').trans hw2)
    rw [show ({ ({ ({ R with az := M.L.getD (R.ag.id - 1).toNat default, rep := iy y } : Wk) with left := eY 137 } : Wk) with left := eY 139 } : Wk).ok = false from h.ok] at this
    exact this
  ·rw [Bool.not_eq_true] at hs
   have hE : bD M.L (bq s M.now) R.ag.id (dS s) = 8 := by rw [Rf]; exact Ag hid hs
   have hno : 3 < (M.L.getD (R.ag.id - 1).toNat default).st ∨ (R.ag.kind = 5 ∧ (M.L.getD (R.ag.id - 1).toNat default).st ≠ 3) := by
    unfold dS at hs
    rw [Bool.or_eq_false_iff, Bool.and_eq_false_iff, decide_eq_false_iff_not, decide_eq_false_iff_not, decide_eq_false_iff_not] at hs
    have : (M.L.getD (R.ag.id - 1).toNat default).state = (M.L.getD (R.ag.id - 1).toNat default).st := rfl
    omega
   have e : kS M (toW R.ag) = (fE 8, M) := by
    unfold kS
    rw [show (toW R.ag).id = R.ag.id from rfl, eM]
    exact (if_neg (fun e => nomatch e)).trans (if_pos hno)
   rw [e]
   exact aV (N := 999) bg (iM (xP h.sw dw s 8 (by decide) hE)) h.sw h.left rfl (by omega) (by omega) h.ws rfl rfl rfl
end
end Go.Proofs.YtkhfejihijdipaaGreat

namespace Go.Proofs.YtkhfejihijdipaaGreat
open Go.RowKit Go.Lib Go.Sort
section
variable {w0 w : World} {b c t d p g g0 a N : Nat} {v v0 : Value} {m mx : Int} {P : Pg} {M M' : Md} {R : Wk} {Q : World → Prop}
theorem OB {k : Nat} (hk : k < 64) (L : List Jb) : (holderL L k < 0 ∧ jW L k = gM) ∨ ∃ i : Nat, holderL L k = i ∧ i < L.length ∧ jW L k = L.getD i default ∧ (L.getD i default).st = 3 := by
 have e : (fun j : Jb => decide (j.state ∈ [(3 : Int)]) && Ca (k : Int) j) = aD k := by
  funext j
  unfold aD Ca
  rw [mK hk, kg]
  have : (j.state ∈ [(3 : Int)]) ↔ (j.st = 3) := List.mem_singleton
  rw [decide_eq_decide.2 this]
 have e2 : jW L (k : Int) = match L.findIdx? (aD k) with | some i => L.getD i default | none => gM := by
  unfold jW
  rw [e]
  cases L.findIdx? (aD k) <;> rfl
 rcases eH L k with h | ⟨i, h, hi, h2⟩
 ·refine .inl ⟨h, ?_⟩
  rw [e2]
  unfold holderL at h
  cases hf : L.findIdx? (aD k) with
  | none => rfl
  | some i => rw [hf] at h; simp only at h; omega
 ·refine .inr ⟨i, h, hi, ?_, by unfold aD at h2; simp at h2; exact h2.1⟩
  rw [e2]
  unfold holderL at h
  cases hf : L.findIdx? (aD k) with
  | none => rw [hf] at h; simp only at h; omega
  | some q =>
   rw [hf] at h
   simp only at h
   have : q = i := by omega
   subst this
   rfl
theorem uJ {k : Nat} {bb : Bool} (hk : k < M.dr.length) (hb : M.dr.getD k false = !bb) (hI : aB M) (hC : ∀ j ∈ M.L, j.st = 3 → M.now < j.fin) (h1 : 1 ≤ M.dr.length) (hll : M.L.length ≤ 900)
  (hI' : aB { M with dr := M.dr.set k bb }) (hn : R.ag.node = k) (ha : a ≤ 800) (hm : m ≤ 1000000) {by' : Int} (hby : by' = if bb then -1 else 1)
  (h : SW w b c t d p v g a m R { aj M with T := bU { M with dr := M.dr.set k bb } }) :
  Calls Tryz.prog 142 #[.pointer (some ⟨b, 0, none⟩), .pointer (some ⟨c, 0, none⟩), .int .i64 0, .int .i64 by'] w
   (au w b c t d p v g (a + 2) (m + 1) .nilFunc { R with rep := ⟨0, (k : Int), aO { M with dr := M.dr.set k bb } k, 0, 0, 0, 0, 0, 0⟩ } (aj { M with dr := M.dr.set k bb })) := by
 have hnn := hI.mb.nn
 have jJ := hI.mb.now
 have dw := eu hI h1 hll
 have kQ := eu hI' (by show 1 ≤ (M.dr.set k bb).length; rw [List.length_set]; exact h1) hll
 have hX : (max (gG (aj M) (k : Int)) M.now < 1152921504606846976) ∧ ∀ u, M.now ≤ u → ((decide (holderL M.L k < 0) || decide ((M.L.getD (holderL M.L k).toNat default).fin ≤ u)) = decide (max (gG (aj M) (k : Int)) M.now ≤ u)) := by
  rcases OB (show k < 64 by omega) M.L with ⟨g1, g2⟩ | ⟨i, g1, hi, g2, g3⟩
  ·have e : gG (aj M) (k : Int) = M.now := by
    unfold gG
    rw [show (aj M).J = M.L from rfl, g2]
    rfl
   rw [e]
   refine ⟨by omega, fun u hu => ?_⟩
   rw [decide_eq_true g1, Bool.true_or]
   exact (decide_eq_true (by omega)).symm
  ·have hf := hC _ (aW hi) g3
   have hf2 := hI.mb.fin _ (aW hi)
   have e : gG (aj M) (k : Int) = max (M.L.getD i default).fin (M.now + 1) := by
    unfold gG
    rw [show (aj M).J = M.L from rfl, g2, if_pos g3]
    rfl
   rw [e, g1, Int.toNat_natCast]
   refine ⟨by omega, fun u hu => ?_⟩
   rw [decide_eq_false (show ¬ ((i : Int) < 0) by omega), Bool.false_or]
   exact decide_eq_decide.2 (by omega)
 have Uu : oC (bU { M with dr := M.dr.set k bb }) (k : Int) = aO { M with dr := M.dr.set k bb } k := by
  unfold oC
  rw [if_pos ⟨by omega, by rw [aZ]; show (k : Int) < ((M.dr.set k bb).length : Nat); rw [List.length_set]; omega⟩, Int.toNat_natCast, bV]
 have hv := IL (by' := by') h ⟨dw.now, dw.few, dw.st, dw.lim, kQ.qd, dw.f⟩ ha hm hI.mb.bF (by omega) (by rw [hby]; split <;> omega) (fun u => ax { M with dr := M.dr.set k bb } u 0) (fun u hu => by
  have hu' : M.now ≤ u := hu
  have hd := uT hk bb u 0
  have hx := hX.2 u hu'
  rw [hn]
  show ax { M with dr := M.dr.set k bb } u 0 = ax M u 0 + had (max (gG (aj M) (k : Int)) M.now) 1152921504606846976 by' u
  have hnf : bL M u k = (!(M.dr.getD k false) && decide (max (gG (aj M) (k : Int)) M.now ≤ u)) := by rw [← hx]; rfl
  have hh : had (max (gG (aj M) (k : Int)) M.now) 1152921504606846976 by' u = if max (gG (aj M) (k : Int)) M.now ≤ u then by' else 0 := by unfold had; simp
  rw [hd, hnf, hx, hb, hh, hby]
  by_cases c1 : max (gG (aj M) (k : Int)) M.now ≤ u
  ·rw [decide_eq_true c1, if_pos c1]
   cases bb <;> simp <;> omega
  ·rw [decide_eq_false c1, if_neg c1]
   cases bb <;> simp) (fun u hu => kQ.f u hu) (by
  rw [hn]
  have : gG { aj M with T := bU { M with dr := M.dr.set k bb } } (k : Int) = gG (aj M) (k : Int) := rfl
  rw [this]
  omega)
 rw [hn, show ({ aj M with T := bU { M with dr := M.dr.set k bb } } : Pg).T = bU { M with dr := M.dr.set k bb } from rfl, Uu] at hv
 exact hv
theorem drain_eq {n : Nat} (h : dI kC M.L = none) : eO M n true = { M with dr := M.dr.set n true } := by
 unfold eO
 rw [if_pos rfl, pX h]
theorem uK {k : Nat} (hk : k < M.dr.length) {bb : Bool} (hb : M.dr.getD k false = !bb) : lG (bU M) (k : Int) bb 0 (bU { M with dr := M.dr.set k bb }) := by
 have hd : bb = decide ((bU M).getD (k : Int).toNat 0 < 3) := by
  rw [Int.toNat_natCast, bV, dR hk, hb]
  cases bb <;> (by_cases h1 : 0 ≤ holderL M.L k <;> simp [h1])
 have hc : lG (bU M) (k : Int) bb 0 ((bU M).set (k : Int).toNat (jL ((bU M).getD (k : Int).toNat 0))) :=
  ⟨fun h => absurd h (by rw [aZ]; omega), fun _ _ h => absurd hd h, fun _ _ _ => ⟨rfl, rfl⟩⟩
 have e := (FB hk hb hc).2
 rw [e] at hc
 exact hc
theorem D8 (h : Bg w0 w b c t d p v0 g0 v g a m mx R M) (hk : R.ag.kind = 8) (hnd : -9223372036854775808 ≤ R.ag.node ∧ R.ag.node ≤ 9223372036854775807) :
  Goes b c 1000 w (Fin w0 b c t d p v0 g0 mx (gK M (toW R.ag)).2 (oh (gK M (toW R.ag)).1) false) := by
 have hll := h.few
 have ha := h.ha
 have hm := h.hm
 have hmx := h.hmx
 have dw := eu h.inv h.one (by omega)
 have hrd : iW R.ag.kind = false := by rw [hk]; rfl
 have iM : ∀ {L : Value} {a' : Nat} {m' : Int} {R' : Wk} {P' : Pg}, Calls Tryz.prog 122 #[.pointer (some ⟨b, 0, none⟩), .pointer (some ⟨c, 0, none⟩)] w (au w b c t d p v g a' m' L R' P') → Calls Tryz.prog 64 #[.pointer (some ⟨b, 0, none⟩), .pointer (some ⟨c, 0, none⟩)] w (au w b c t d p v g a' m' L R' P') := fun hn => fo h.sw h.cl (by rw [hk]; decide) hrd (LJ h.sw hk hn)
 have hd7 : decide ((toW R.ag).kind = 7) = false := decide_eq_false (by rw [show (toW R.ag).kind = 8 from hk]; decide)
 by_cases ho : R.ag.node < 0 ∨ (M.dr.length : Int) ≤ R.ag.node
 ·have e : gK M (toW R.ag) = (fE 11, M) := if_pos ho
  have hT : lG (bU M) R.ag.node false 11 (bU M) := ⟨fun _ => ⟨rfl, rfl⟩, fun h1 h2 => by rw [aZ] at h2; omega, fun h1 h2 => by rw [aZ] at h2; omega⟩
  rw [e]
  refine aV (N := 999) (a' := a) (m' := m) (R' := { R with rep := jM 11, ok := false }) bg (iM (resume_fn (P' := aj M) h.sw dw hnd hT fun W v1 g1 hW => ?_)) h.sw h.left rfl (by omega) (by omega) h.ws rfl rfl rfl
  exact Cc hW 11 1 (by decide)
 ·obtain ⟨k, hkk⟩ := Int.eq_ofNat_of_zero_le (show 0 ≤ R.ag.node by omega)
  have hk2 : k < M.dr.length := by omega
  cases hdr : M.dr.getD k false with
  | false =>
   have e : gK M (toW R.ag) = (fE 8, M) := by
    unfold gK
    refine (if_neg ho).trans (if_pos ?_)
    rw [hd7, show (toW R.ag).node = R.ag.node from rfl, hkk, Int.toNat_natCast, hdr]
   have hs : (bU M).getD R.ag.node.toNat 0 < 3 := by
    rw [hkk, Int.toNat_natCast, bV, dR hk2, hdr]
    split <;> simp
   have hT : lG (bU M) R.ag.node false 8 (bU M) := ⟨fun h1 => by rw [aZ] at h1; omega, fun _ _ _ => ⟨rfl, rfl⟩, fun _ _ h3 => by rw [decide_eq_true hs] at h3; cases h3⟩
   rw [e]
   refine aV (N := 999) (a' := a) (m' := m) (R' := { R with rep := jM 8, ok := false }) bg (iM (resume_fn (P' := aj M) h.sw dw hnd hT fun W v1 g1 hW => ?_)) h.sw h.left rfl (by omega) (by omega) h.ws rfl rfl rfl
   exact Cc hW 8 1 (by decide)
  | true =>
   have e : gK M (toW R.ag) = ((0, (k : Int), aO { M with dr := M.dr.set k false } (k : Int), 0, 0, 0, 0, 0, 0), { M with dr := M.dr.set k false }) := by
    unfold gK
    refine (if_neg ho).trans ((if_neg ?_).trans ?_)
    ·rw [hd7, show (toW R.ag).node = R.ag.node from rfl, hkk, Int.toNat_natCast, hdr]
     exact fun e => nomatch e
    ·rw [hd7, show (toW R.ag).node = R.ag.node from rfl, hkk, Int.toNat_natCast]
     rfl
   have hI' := (h.inv.GL h.calm (toW R.ag)).1
   rw [e] at hI' ⊢
   have hT := uK hk2 (bb := false) hdr
   rw [← hkk] at hT
   refine aV (N := 999) bg (iM (resume_fn h.sw dw hnd hT fun W v1 g1 hW => uJ (bb := false) (by' := 1) hk2 hdr h.inv h.calm.runs h.one (by omega) hI' hkk (by omega) (by omega) rfl hW)) h.sw h.left rfl (by omega) (by omega) h.ws rfl rfl h.ok
theorem Gs {k : Nat} (hl : R.left = eY 141) (hkk : R.ag.node = k) (hk : k < M.dr.length) (hdr : M.dr.getD k false = false) (h1 : 1 ≤ M.dr.length) (hll : M.L.length ≤ 900) (hmx : mx ≤ 1000000) (hI' : aB (eO M k true)) (q : Nat) :
  ∀ {L : List Jb} {w : World} {v : Value} {g a : Nat} {m : Int}, L.length = M.L.length → hits kC L ≤ q → aB { M with L := L } → (∀ j ∈ L, j.st = 3 → M.now < j.fin) → dX { M with L := L } kC = dX M kC → SW w b c t d p v g a m R (aj { M with L := L }) → a + 2 * hits kC L + 2 ≤ 800 → m + hits kC L + 1 ≤ mx → WS w0 w b c t d p v0 g0 v g →
   Goes b c (q + 1) w (Fin w0 b c t d p v0 g0 mx (eO M k true) ⟨0, (k : Int), aO (eO M k true) k, 0, 0, 0, 0, 0, 0⟩ R.ok) := by
 have last : ∀ {L : List Jb} {w : World} {v : Value} {g a : Nat} {m : Int} (q : Nat), L.length = M.L.length → dI kC L = none → aB { M with L := L } → (∀ j ∈ L, j.st = 3 → M.now < j.fin) → dX { M with L := L } kC = dX M kC → SW w b c t d p v g a m R (aj { M with L := L }) → a + 2 ≤ 800 → m + 1 ≤ mx → WS w0 w b c t d p v0 g0 v g →
   Goes b c (q + 1) w (Fin w0 b c t d p v0 g0 mx (eO M k true) ⟨0, (k : Int), aO (eO M k true) k, 0, 0, 0, 0, 0, 0⟩ R.ok) := by
  intro L w v g a m q hL ho hI hC hM hS ha hm hw
  have eD : eO M k true = { M with L := L, dr := M.dr.set k true } := by
   have h2 := pX (M := { M with L := L }) ho
   rw [h2] at hM
   unfold eO
   rw [if_pos rfl, ← hM]
  rw [eD] at hI' ⊢
  have hT := uK (M := { M with L := L }) (k := k) hk (bb := true) hdr
  rw [← hkk] at hT
  refine aV (N := q) Cm (xR (M := { M with L := L }) hS (eu hI h1 (by show L.length ≤ 900; omega)) rfl hI h1 (by show L.length ≤ 900; omega) (by omega) (by omega) ho (by have := hI.mb.nn; have : M.dr.length ≤ 64 := this; omega) hT fun W v1 g1 hW => uJ (M := { M with L := L }) (bb := true) (by' := -1) hk hdr hI hC h1 (by show L.length ≤ 900; omega) hI' hkk (by omega) (by omega) rfl hW) hS hl rfl (by omega) (by omega) hw rfl rfl rfl
 induction q with
 | zero =>
  intro L w v g a m hL hq hI hC hM hS ha hm hw
  cases ho : dI kC L with
  | none => exact last 0 hL ho hI hC hM hS (by omega) (by omega) hw
  | some i =>
   have := (iP (L := L) ho).2.2.2.2
   omega
 | succ q ih =>
  intro L w v g a m hL hq hI hC hM hS ha hm hw
  cases ho : dI kC L with
  | none => exact last (q + 1) hL ho hI hC hM hS (by omega) (by omega) hw
  | some i =>
   obtain ⟨hi, _, _, _, hh⟩ := iP ho
   refine eZ (k := 141) (k' := 141) Cm (xS (M := { M with L := L }) hS hI h1 (by show L.length ≤ 900; omega) (by omega) (by omega) ho) hS hl rfl fun w' v' g' hS' hw' => ?_
   rw [← hl] at hS'
   refine ih (L := L.set i ((L.getD i default).aC (-1))) (by rw [List.length_set]; exact hL) (by omega) (hI.uW hi) (fun j hj => ?_) ((ug (M := { M with L := L }) ho).trans hM) hS' (by omega) (by omega) (hw.trans hw')
   rcases List.mem_or_eq_of_mem_set hj with h2 | rfl
   ·exact hC j h2
   ·exact fun hs => hC (L.getD i default) (aW hi) hs
theorem Gt (h : Bg w0 w b c t d p v0 g0 v g a m mx R M) (hk : R.ag.kind = 7) (hnd : -9223372036854775808 ≤ R.ag.node ∧ R.ag.node ≤ 9223372036854775807) :
  Goes b c 1000 w (Fin w0 b c t d p v0 g0 mx (gK M (toW R.ag)).2 (oh (gK M (toW R.ag)).1) false) := by
 have hll := h.few
 have ha := h.ha
 have hm := h.hm
 have hmx := h.hmx
 have dw := eu h.inv h.one (by omega)
 have hrd : iW R.ag.kind = false := by rw [hk]; rfl
 have iM : ∀ {L : Value} {a' : Nat} {m' : Int} {R' : Wk} {P' : Pg}, Calls Tryz.prog 121 #[.pointer (some ⟨b, 0, none⟩), .pointer (some ⟨c, 0, none⟩)] w (au w b c t d p v g a' m' L R' P') → Calls Tryz.prog 64 #[.pointer (some ⟨b, 0, none⟩), .pointer (some ⟨c, 0, none⟩)] w (au w b c t d p v g a' m' L R' P') := fun hn => fo h.sw h.cl (by rw [hk]; decide) hrd (LH h.sw hk hn)
 have hd7 : decide ((toW R.ag).kind = 7) = true := decide_eq_true hk
 by_cases ho : R.ag.node < 0 ∨ (M.dr.length : Int) ≤ R.ag.node
 ·have e : gK M (toW R.ag) = (fE 11, M) := if_pos ho
  rw [e]
  exact aV (N := 999) bg (iM (Ci h.sw dw hnd 11 (.inl ⟨by
   unfold oC
   rw [if_neg (by rw [show (aj M).T = bU M from rfl, aZ]; omega)], rfl⟩))) h.sw h.left rfl (by omega) (by omega) h.ws rfl rfl rfl
 ·obtain ⟨k, hkk⟩ := Int.eq_ofNat_of_zero_le (show 0 ≤ R.ag.node by omega)
  have hk2 : k < M.dr.length := by omega
  have est : oC (aj M).T R.ag.node = aO M (k : Int) := by
   unfold oC
   rw [if_pos ⟨by omega, by rw [show (aj M).T = bU M from rfl, aZ]; omega⟩, hkk, Int.toNat_natCast]
   exact bV k
  cases hdr : M.dr.getD k false with
  | true =>
   have e : gK M (toW R.ag) = (fE 8, M) := by
    unfold gK
    refine (if_neg ho).trans (if_pos ?_)
    rw [hd7, show (toW R.ag).node = R.ag.node from rfl, hkk, Int.toNat_natCast, hdr]
   rw [e]
   exact aV (N := 999) bg (iM (Ci h.sw dw hnd 8 (.inr ⟨by
    rw [est, dR hk2, hdr]
    split <;> simp, rfl⟩))) h.sw h.left rfl (by omega) (by omega) h.ws rfl rfl rfl
  | false =>
   have e : gK M (toW R.ag) = ((0, (k : Int), aO (eO M k true) (k : Int), 0, 0, 0, 0, 0, 0), eO M k true) := by
    unfold gK
    refine (if_neg ho).trans ((if_neg ?_).trans ?_)
    ·rw [hd7, show (toW R.ag).node = R.ag.node from rfl, hkk, Int.toNat_natCast, hdr]
     exact fun e => nomatch e
    ·rw [hd7, show (toW R.ag).node = R.ag.node from rfl, hkk, Int.toNat_natCast]
   have hI' := (h.inv.GL h.calm (toW R.ag)).1
   rw [e] at hI' ⊢
   have hst : oC (aj M).T R.ag.node = 1 ∨ oC (aj M).T R.ag.node = 2 := by
    rw [est, dR hk2, hdr]
    split <;> simp
   have TA := Af kC M.L
   cases hz : dI kC M.L with
   | none =>
    have eD := drain_eq (n := k) hz
    have hI2 : aB { M with dr := M.dr.set k true } := by rw [← eD]; exact hI'
    have hT := uK hk2 (bb := true) hdr
    rw [← hkk] at hT
    show Goes b c 1000 w (Fin w0 b c t d p v0 g0 mx (eO M k true) ⟨0, (k : Int), aO (eO M k true) k, 0, 0, 0, 0, 0, 0⟩ false)
    rw [eD]
    refine aV (N := 999) bg (iM (Ch h.sw dw hnd hst fun W hW => xR hW dw rfl h.inv h.one (by omega) (by omega) (by omega) hz hnd hT fun W2 v1 g1 hW2 => uJ (bb := true) (by' := -1) hk2 hdr h.inv h.calm.runs h.one (by omega) hI2 hkk (by omega) (by omega) rfl hW2)) h.sw h.left rfl (by omega) (by omega) h.ws rfl rfl h.ok
   | some i =>
    obtain ⟨hi, _, _, _, hh⟩ := iP hz
    refine (eZ (N := 901) (k := 64) (k' := 141) bg (iM (Ch h.sw dw hnd hst fun W hW => xS hW h.inv h.one (by omega) (by omega) (by omega) hz)) h.sw h.left rfl fun w' v' g' hS' hw' => ?_).more (show 902 ≤ 1000 by decide)
    have := Gs (M := M) (R := { R with left := eY 141 }) (w0 := w0) (b := b) (c := c) (t := t) (d := d) (p := p) (v0 := v0) (g0 := g0) (mx := mx) (k := k) rfl hkk hk2 hdr h.one (by omega) hmx hI' 900 (L := M.L.set i ((M.L.getD i default).aC (-1))) (by rw [List.length_set]) (by omega) (h.inv.uW hi) (fun j hj => by
     rcases List.mem_or_eq_of_mem_set hj with h2 | rfl
     ·exact h.calm.runs j h2
     ·exact fun hs => h.calm.runs (M.L.getD i default) (aW hi) hs) (ug hz) hS' (by omega) (by omega) (h.ws.trans hw')
    rw [show ({ R with left := eY 141 } : Wk).ok = false from h.ok] at this
    exact this
end
end Go.Proofs.YtkhfejihijdipaaGreat

namespace Go.Proofs.YtkhfejihijdipaaGreat
open Go.RowKit Go.Lib Go.Sort
section
variable {M : Md}
theorem Early.set (h : Early M) {i : Nat} {y : Jb} (hy : y.st ≤ 2 → y.fin = -1) : Early { M with L := M.L.set i y } := fun j hj => by
 rcases List.mem_or_eq_of_mem_set hj with h1 | rfl
 ·exact h j h1
 ·exact hy
theorem Early.map (h : Early M) {f : Jb → Jb} (hf : ∀ j : Jb, (j.st ≤ 2 → j.fin = -1) → ((f j).st ≤ 2 → (f j).fin = -1)) : Early { M with L := M.L.map f } := fun j hj => by
 obtain ⟨x, hx, rfl⟩ := List.mem_map.1 hj
 exact hf x (h x hx)
theorem Early.drop (h : Early M) (j : Jb) : Early (dX M j) := h.map fun x hx => by
 unfold gm
 split
 ·exact hx
 ·exact hx
theorem Early.begin (h : Early M) (i : Nat) : Early (aU M i) := h.set fun hs => absurd hs (show ¬ (3 : Int) ≤ 2 by decide)
theorem Early.starts (n : Nat) (h : Early M) : Early (startGo n M) := by
 induction n generalizing M with
 | zero => exact h
 | succ n ih =>
  unfold startGo
  split
  ·exact ih (h.begin _)
  ·exact ih h
theorem Early.pW (h : Early M) : Early (dA M) := by
 refine Early.starts _ (h.map fun x hx => ?_)
 unfold aR
 split
 ·exact fun hs => absurd hs (show ¬ (6 : Int) ≤ 2 by decide)
 ·exact hx
theorem Early.cO (to : Int) (n : Nat) (h : Early M) : Early (cO to n M) := by
 induction n generalizing M with
 | zero => exact h
 | succ n ih =>
  unfold Proofs.YtkhfejihijdipaaGreat.cO
  split
  ·exact h
  ·refine ih (Early.pW ?_)
   exact h
theorem Early.C8 (h : Early M) (r : Rw) : Early (gH M r).2 := by
 have same : Early { M with cl := true } := h
 unfold gH
 repeat' split
 all_goals first | exact h | exact same | skip
 ·unfold ic
  have ha : Early { M with L := M.L ++ [bQ M r] } := fun j hj => by
   rcases List.mem_append.1 hj with h1 | h1
   ·exact h j h1
   ·rw [List.mem_singleton] at h1; subst h1; exact fun _ => rfl
  repeat' split
  ·exact h
  ·exact ha
  ·exact ha.drop _
 ·unfold kS
  simp only
  repeat' split
  ·exact h
  ·exact h
  ·refine h.set fun hs => ?_
   have e : (ib M r.kind (getM M r.id).1).st = if r.kind = 5 then 4 else 5 := rfl
   rw [e] at hs
   split at hs <;> omega
 ·unfold fq
  simp only
  have hx : ((getM M r.id).2 = false) ∨ (getM M r.id).1 ∈ M.L := by
   cases hg : (getM M r.id).2 with
   | false => exact .inl rfl
   | true => exact .inr (jZ hg).1
  by_cases h1 : (getM M r.id).2 = false
  ·rw [if_pos h1]; exact h
  ·rw [if_neg h1]
   have hm := hx.resolve_left h1
   have hx1 := h _ hm
   split
   ·exact h
   ·rename_i h2
    have hy : (dY r.kind (getM M r.id).1).st ≤ 2 → (dY r.kind (getM M r.id).1).fin = -1 := by
     unfold dY
     split
     ·rename_i h3
      exact fun _ => hx1 (by by_cases e : (getM M r.id).1.st = 1 <;> omega)
     ·split
      ·rename_i h3
       exact fun _ => hx1 (by by_cases e : (getM M r.id).1.st = 2 <;> omega)
      ·exact hx1
    split
    ·exact (h.set hy).drop _
    ·exact h.set hy
 ·unfold gK
  repeat' split
  ·exact h
  ·exact h
  ·unfold eO
   split
   ·exact h.drop kC
   ·exact h
 ·unfold kX
  split
  ·exact h
  ·exact h.cO _ _
theorem Early.je (h : Early M) (id t : Int) : Early (dG M id t).2 := by
 unfold dG
 split
 ·rename_i hf
  split
  ·exact h.begin _
  ·by_cases hi : (id - 1).toNat < M.L.length
   ·refine h.set fun hs => ?_
    exact h (M.L.getD (id - 1).toNat default) (aW hi) hs
   ·show Early { M with L := M.L.set (id - 1).toNat _ }
    rw [List.set_eq_of_length_le (by omega)]
    exact h
 ·exact h
theorem Jh (n : Nat) : Early (dH n) := fun _ hj => nomatch hj
theorem LX (f : Nat → Bool) (n j : Nat) (h : ∀ k, n ≤ k → f k = false) : aM f (n + j) = aM f n := by
 induction j with
 | zero => rfl
 | succ j ih =>
  show aM f (n + j) + (if f (n + j) = true then 1 else 0) = _
  rw [h (n + j) (by omega), ih]
  simp
theorem rQ (h : aB M) (f : Nat → Bool) (x y : Int) (hf : ∀ k, f k = (decide (aO M k = x) || decide (aO M k = y))) (hx : x ≠ 0) (hy : y ≠ 0) : ((aM f 64 : Nat) : Int) = kD M x y := by
 have hn := h.mb.nn
 have hc := LX f M.dr.length (64 - M.dr.length) fun k hk => by
  rw [hf, gQ (by omega), decide_eq_false (fun e => hx e.symm), decide_eq_false (fun e => hy e.symm)]
  rfl
 rw [show M.dr.length + (64 - M.dr.length) = 64 by omega] at hc
 rw [hc, qf]
 unfold kD
 rw [show f = fun k : Nat => decide (aO M k = x) || decide (aO M k = y) from funext hf]
end
section
variable {w0 w : World} {b c t d p g g0 a N : Nat} {v v0 : Value} {m mx : Int} {P : Pg} {M M' : Md} {R : Wk} {Q : World → Prop}
theorem Ji (h : Bg w0 w b c t d p v0 g0 v g a m mx R M) (hk : R.ag.kind = 6 ∨ R.ag.kind = 10 ∨ R.ag.kind = 11 ∨ R.ag.kind = 12) :
  Goes b c 1000 w (Fin w0 b c t d p v0 g0 mx (gH M (toW R.ag)).2 (oh (gH M (toW R.ag)).1) false) := by
 have hll := h.few
 have ha := h.ha
 have hm := h.hm
 have hmx := h.hmx
 have hcl : ¬ M.cl = true := by rw [h.cl]; decide
 have dw := eu h.inv h.one (by omega)
 have hrd : iW R.ag.kind = true := by rcases hk with e | e | e | e <;> (rw [e]; rfl)
 have iM : ∀ {L : Value} {a' : Nat} {m' : Int} {R' : Wk} {P' : Pg}, Calls Tryz.prog 92 #[.pointer (some ⟨b, 0, none⟩), .pointer (some ⟨c, 0, none⟩)] w (au w b c t d p v g a' m' L R' P') → Calls Tryz.prog 64 #[.pointer (some ⟨b, 0, none⟩), .pointer (some ⟨c, 0, none⟩)] w (au w b c t d p v g a' m' L R' P') := fun hn => Gn h.sw h.cl (by omega) hrd hn
 rcases hk with hk | hk | hk | hk
 ·by_cases hid : R.ag.id < 1 ∨ (M.L.length : Int) < R.ag.id
  ·have e : gH M (toW R.ag) = (fE 7, M) := by
    unfold gH
    rw [if_neg hcl, show (toW R.ag).kind = 6 from hk]
    exact uI (toW R.ag) hid
   have hg : fV M.L R.ag.id = 7 := by unfold fV; (repeat' split) <;> omega
   rw [e]
   exact aV (N := 999) bg (iM (yu h.sw hk 7 (by decide) hg)) h.sw h.left rfl (by omega) (by omega) h.ws rfl rfl rfl
  ·have hg : fV M.L R.ag.id = 0 := by unfold fV; (repeat' split) <;> omega
   have hi : (R.ag.id - 1).toNat < M.L.length := by omega
   have e : gH M (toW R.ag) = (ma (M.L.getD (R.ag.id - 1).toNat default), M) := by
    unfold gH
    rw [if_neg hcl, show (toW R.ag).kind = 6 from hk]
    show fq M (toW R.ag) = _
    unfold fq
    rw [show (toW R.ag).id = R.ag.id from rfl, vI hid, show (toW R.ag).kind = 6 from hk]
    show (ma (M.L.getD (R.ag.id - 1).toNat default), ({ M with L := M.L.set (R.ag.id - 1).toNat (M.L.getD (R.ag.id - 1).toNat default) } : Md)) = _
    have : M.L.set (R.ag.id - 1).toNat (M.L.getD (R.ag.id - 1).toNat default) = M.L := by
     simp only [List.getD, List.getElem?_eq_getElem hi, Option.getD_some, List.set_getElem_self]
    rw [this]
   have hr := Ad h.sw hk hg
   rw [show bE (aj M).J R.ag.id = M.L.getD (R.ag.id - 1).toNat default from rP hid] at hr
   rw [e]
   exact aV (N := 999) bg (iM hr) h.sw h.left rfl (by omega) (by omega) h.ws rfl rfl h.ok
 ·have e : gH M (toW R.ag) = (((0, 0, 0, 0, 0, 0, (kD M 1 1 : Int), (kD M 2 3 : Int), (kD M 4 4 : Int)) : Rl), M) := by
   unfold gH
   rw [if_neg hcl, show (toW R.ag).kind = 10 from hk]
   rfl
  have hr := I8 h.sw dw hk
  rw [show (aj M).T = bU M from rfl, rQ h.inv (gI (bU M)) 1 1 (fun k => by rw [sI, Bool.or_self]) (by decide) (by decide),
   rQ h.inv (bI (bU M)) 2 3 (fun k => by unfold bI; rw [bV]) (by decide) (by decide),
   rQ h.inv (fun i => bK (bU M) i && !bI (bU M) i) 4 4 (fun k => by
    unfold bK bI
    rw [bV]
    generalize aO M k = s
    by_cases h2 : s = 2
    ·subst h2; rfl
    ·by_cases h3 : s = 3
     ·subst h3; rfl
     ·rw [decide_eq_false h2, decide_eq_false h3]; simp) (by decide) (by decide)] at hr
  rw [e]
  exact aV (N := 999) bg (iM hr) h.sw h.left rfl (by omega) (by omega) h.ws rfl rfl h.ok
 ·have e : gH M (toW R.ag) = (((0, 0, 0, 0, 0, 0, (mr M 1 : Int), (mr M 2 : Int), (mr M 3 : Int)) : Rl), M) := by
   unfold gH
   rw [if_neg hcl, show (toW R.ag).kind = 11 from hk]
   rfl
  rw [e]
  exact aV (N := 999) bg (iM (I9 h.sw dw hk)) h.sw h.left rfl (by omega) (by omega) h.ws rfl rfl h.ok
 ·have e : gH M (toW R.ag) = ((0, 0, 0, M.now, 0, 0, ax M M.now 0, 0, 0), M) := by
   unfold gH
   rw [if_neg hcl, show (toW R.ag).kind = 12 from hk]
   rfl
  rw [e]
  exact aV (N := 999) bg (iM (Gl h.sw (by omega) hk)) h.sw h.left rfl (by omega) (by omega) h.ws rfl rfl h.ok
theorem Jj (h : Bg w0 w b c t d p v0 g0 v g a m mx R M) (hk : R.ag.kind = 13) (hrep : R.rep = qg) :
  Goes b c 1000 w (Fin w0 b c t d p v0 g0 mx { M with cl := true } (oh (fE 0)) false) := by
 have hll := h.few
 have ha := h.ha
 have hm := h.hm
 have hrd : iW R.ag.kind = false := by rw [hk]; rfl
 exact aV (N := 999) bg (fo h.sw h.cl (by rw [hk]; decide) hrd (Ja h.sw hk)) h.sw h.left rfl (by omega) (by omega) h.ws rfl hrep h.ok
theorem A9 (to : Int) (hto : to ≤ 1099511627776) (hl : R.left = eY 145) (qN : R.target = to) (hmx : mx ≤ 1000000) (n : Nat) :
  ∀ {M : Md} {w : World} {v : Value} {g a : Nat} {m : Int}, aB M → Calm M → Early M → 1 ≤ M.dr.length → M.L.length ≤ 900 → M.now ≤ to → kR M < n → SW w b c t d p v g a m R (aj M) → a ≤ 800 → m + n ≤ mx → WS w0 w b c t d p v0 g0 v g →
   Goes b c n w (Fin w0 b c t d p v0 g0 mx { cO to n M with now := to } ⟨0, 0, 0, to, 0, 0, ax (cO to n M) to 0, 0, 0⟩ R.ok) := by
 induction n with
 | zero =>
  intro M w v g a m hI hC hE h1 hll hnt hn
  have := (lh mf 2 M.L fun j _ => ng j).1
  unfold kR at hn
  omega
 | succ n ih =>
  intro M w v g a m hI hC hE h1 hll hnt hn hS ha hm hw
  by_cases hx : aQ M < 0 ∨ to < aQ M
  ·have e : cO to (n + 1) M = M := if_pos hx
   rw [e]
   have hf := tH hS hI hE h1 hll ha (by omega) (by rw [qN]; exact hx) (by rw [qN]; exact ⟨hnt, hto⟩)
   rw [qN] at hf
   exact aV (N := n) xW hf hS hl rfl (by omega) (by omega) hw rfl rfl rfl
  ·have e : cO to (n + 1) M = cO to n (dA { M with now := aQ M }) := if_neg hx
   rw [e]
   obtain ⟨a1, a2, a3⟩ := hI.step hC (by omega) (by omega)
   obtain ⟨b1, b2, b3, b4⟩ := a2.pW
   have hkp := mF a2.mb
   have hf := xQ hS hI hC hE h1 hll ha (by omega) (by rw [qN]; omega) (by rw [qN]; exact hto)
   refine eZ (k := 145) (k' := 145) xW hf hS hl rfl fun w' v' g' hS' hw' => ?_
   rw [← hl] at hS'
   refine ih b1 b2 (Early.pW hE) (by rw [hkp.2.2.2.1]; exact h1) (by rw [hkp.2.1]; exact hll) (by rw [hkp.2.2.1]; show aQ M ≤ to; omega) ?_ hS' ha (by omega) (hw.trans hw')
   have := b4 a3
   have e2 : kR { M with now := aQ M } = kR M := rfl
   omega
theorem Jk (h : Bg w0 w b c t d p v0 g0 v g a m mx R M) (hE : Early M) (hk : R.ag.kind = 9) :
  Goes b c 1000 w (Fin w0 b c t d p v0 g0 mx (kX M R.ag.till).2 (oh (kX M R.ag.till).1) false) := by
 have hll := h.few
 have ha := h.ha
 have hm := h.hm
 have hmx := h.hmx
 have jJ := h.inv.mb.now
 have dw := eu h.inv h.one (by omega)
 have hrd : iW R.ag.kind = false := by rw [hk]; rfl
 have iM : ∀ {L : Value} {a' : Nat} {m' : Int} {R' : Wk} {P' : Pg}, Calls Tryz.prog 123 #[.pointer (some ⟨b, 0, none⟩), .pointer (some ⟨c, 0, none⟩)] w (au w b c t d p v g a' m' L R' P') → Calls Tryz.prog 64 #[.pointer (some ⟨b, 0, none⟩), .pointer (some ⟨c, 0, none⟩)] w (au w b c t d p v g a' m' L R' P') := fun hn => fo h.sw h.cl (by rw [hk]; decide) hrd (LK h.sw hk hn)
 by_cases hlow : R.ag.till < 1
 ·have e : kX M R.ag.till = (fE 10, M) := if_pos (.inl hlow)
  rw [e]
  exact aV (N := 999) bg (iM (Lx h.sw dw hlow)) h.sw h.left rfl (by omega) (by omega) h.ws rfl rfl rfl
 ·by_cases hhi : 1099511627776 - M.now < R.ag.till
  ·have e : kX M R.ag.till = (fE 10, M) := if_pos (.inr hhi)
   rw [e]
   exact aV (N := 999) bg (iM (I7 h.sw dw hlow hhi)) h.sw h.left rfl (by omega) (by omega) h.ws rfl rfl rfl
  ·have hev := (lh mf 2 M.L fun j _ => ng j).2
   have TB : kR M < (2 * M.L.length + 1 : Nat) := by unfold kR; omega
   have e : kX M R.ag.till = ((0, 0, 0, M.now + R.ag.till, 0, 0, ax (nP M (M.now + R.ag.till)) (M.now + R.ag.till) 0, 0, 0), nP M (M.now + R.ag.till)) := if_neg (by omega)
   rw [e]
   obtain ⟨to, hto⟩ : ∃ to, to = M.now + R.ag.till := ⟨_, rfl⟩
   rw [← hto]
   unfold nP
   obtain ⟨n, hn⟩ : ∃ n, n = 2 * M.L.length := ⟨_, rfl⟩
   rw [← hn] at TB ⊢
   by_cases hx : aQ M < 0 ∨ to < aQ M
   ·have e : cO to (n + 1) M = M := if_pos hx
    rw [e]
    refine aV (N := 999) (a' := a) (m' := m + 1) (R' := { R with target := to, rep := ⟨0, 0, 0, to, 0, 0, ax M to 0, 0, 0⟩ }) bg (iM (Gi (P' := aj { M with now := to }) h.sw dw hlow hhi fun W hW => ?_)) h.sw h.left rfl (by omega) (by omega) h.ws rfl rfl h.ok
    rw [show (aj M).now + R.ag.till = to from hto.symm] at hW
    exact tH hW h.inv hE h.one (by omega) (by omega) (by omega) hx ⟨by show M.now ≤ to; omega, by show to ≤ _; omega⟩
   ·have e : cO to (n + 1) M = cO to n (dA { M with now := aQ M }) := if_neg hx
    rw [e]
    obtain ⟨a1, a2, a3⟩ := h.inv.step h.calm (by omega) (by omega)
    obtain ⟨b1, b2, b3, b4⟩ := a2.pW
    have hkp := mF a2.mb
    refine (eZ (N := n) (k := 64) (k' := 145) (a' := a) (m' := m + 1) (R' := { R with target := to }) (P' := aj (dA { M with now := aQ M })) bg (iM (Gi h.sw dw hlow hhi fun W hW => ?_)) h.sw h.left rfl fun w' v' g' hS' hw' => ?_).more (show n + 1 ≤ 1000 by omega)
    ·rw [show (aj M).now + R.ag.till = to from hto.symm] at hW
     exact xQ hW h.inv h.calm hE h.one (by omega) (by omega) (by omega) ⟨by omega, by show aQ M ≤ to; omega⟩ (by show to ≤ _; omega)
    ·have := A9 (R := { ({ R with target := to } : Wk) with left := eY 145 }) (w0 := w0) (b := b) (c := c) (t := t) (d := d) (p := p) (v0 := v0) (g0 := g0) (mx := mx) to (by omega) rfl rfl hmx n b1 b2 (Early.pW hE) (by rw [hkp.2.2.2.1]; exact h.one) (by rw [hkp.2.1]; show M.L.length ≤ 900; omega) (by rw [hkp.2.2.1]; show aQ M ≤ to; omega) (by
      have := b4 a3
      have e2 : kR { M with now := aQ M } = kR M := rfl
      omega) hS' (by omega) (by omega) (h.ws.trans hw')
     rw [show ({ ({ R with target := to } : Wk) with left := eY 145 } : Wk).ok = false from h.ok] at this
     exact this
end
end Go.Proofs.YtkhfejihijdipaaGreat

namespace Go.Proofs.YtkhfejihijdipaaGreat
open Go.RowKit Go.Lib Go.Sort
section
variable {M : Md}
theorem Gu (hI : aB M) {id t : Int} (hf : eU M id t = true) : ∃ i : Nat, id = (i : Int) + 1 ∧ i < M.L.length ∧ (M.L.getD i default).st = 1 ∧ M.now ≤ t ∧ t ≤ 1099511627776 ∧ M.cl = false ∧
  ∀ u, t ≤ u → u < t + (M.L.getD i default).lim → (M.L.getD i default).wid ≤ ax M u ((i : Int) + 1) := by
 have hn := hI.mb.now
 unfold eU at hf
 simp only at hf
 split at hf
 ·cases hf
 rename_i hq
 have hg : (getM M id).2 = true := by cases e : (getM M id).2 <;> simp_all
 obtain ⟨hm, hi, he, hid⟩ := jZ hg
 rw [he] at hm hq hf
 have hs : (M.L.getD (id - 1).toNat default).st = 1 := by
  by_cases e : (M.L.getD (id - 1).toNat default).st = 1
  ·exact e
  ·exact absurd (.inr (.inr (.inl e))) hq
 have ht : M.now ≤ t ∧ t ≤ 1099511627776 := by omega
 have hcl : M.cl = false := by
  cases e : M.cl with
  | false => rfl
  | true => exact absurd (.inl e) hq
 have Ey := hI.ids _ hi
 have hroom := fun u => vO hn.1 ht.1 hf u
 rw [Ey] at hroom
 exact ⟨(id - 1).toNat, hid, hi, hs, ht.1, ht.2, hcl, hroom⟩
theorem Ah (hI : aB M) {i : Nat} (hi : i < M.L.length) (hroom : ∀ u, M.now ≤ u → u < M.now + (M.L.getD i default).lim → (M.L.getD i default).wid ≤ ax M u ((i : Int) + 1)) : (M.L.getD i default).wid ≤ aH M M.now M.dr.length := by
 have bo := hI.one _ (aW hi)
 have h0 := hroom M.now (Int.le_refl _) (by omega)
 have ht0 := lL (L := M.L) (fun j hj => hI.mb.wid j hj) M.now ((i : Int) + 1)
 unfold ax at h0
 omega
theorem D9 (hI : aB M) (hC : Calm M) {i : Nat} (hi : i < M.L.length) (hs : (M.L.getD i default).st = 1) {t : Int} (ht : M.now ≤ t ∧ t ≤ 1099511627776)
  (hroom : ∀ u, t ≤ u → u < t + (M.L.getD i default).lim → (M.L.getD i default).wid ≤ ax M u ((i : Int) + 1)) (u : Int) (hu : M.now ≤ u) :
  ax (if t = M.now then aU M i else { M with L := M.L.set i ((M.L.getD i default).aC t) }) u 0 = ax M u ((i : Int) + 1) + had (max t M.now) (t + (M.L.getD i default).lim) (-(M.L.getD i default).wid) u := by
 have hm := aW hi
 have bo := hI.one _ hm
 have bl := hI.mb.lim _ hm
 have hn := hI.mb.now
 have hid := hI.ids i hi
 rw [kZ hi hI.ids]
 have hh : had (max t M.now) (t + (M.L.getD i default).lim) (-(M.L.getD i default).wid) u = if t ≤ u ∧ u < t + (M.L.getD i default).lim then -(M.L.getD i default).wid else 0 := by
  unfold had
  have e1 : max t M.now = t := by omega
  rw [e1]
  by_cases c : t ≤ u ∧ u < t + (M.L.getD i default).lim
  ·rw [if_pos c, if_pos ⟨c.1, .inl c.2⟩]
  ·rw [if_neg c, if_neg (by omega)]
 rw [hh]
 by_cases e : t = M.now
 ·subst e
  rw [if_pos rfl, pR hi (by omega)]
  have hlow := (hI.begin hC.runs hi hs (Ah hI hi hroom) fun v h1 h2 => by
   have := hroom v h1 h2
   rw [kZ hi hI.ids] at this
   exact this).2
  rw [hlow]
  split <;> split <;> omega
 ·rw [if_neg e, iD hi]
  have hpl : ak ((M.L.getD i default).aC t) = true := by
   unfold ak
   rw [Bool.and_eq_true]
   exact ⟨decide_eq_true hs, decide_eq_true (show 0 ≤ t by omega)⟩
  have hc2 := kY (t := u) (but := 0) hpl (show (M.L.getD i default).id ≠ 0 by rw [hid]; omega)
  rw [hc2]
  show ax M u 0 + dB u 0 (M.L.getD i default) - (if t ≤ u ∧ u < t + (M.L.getD i default).lim then (M.L.getD i default).wid else 0) = _
  split <;> omega
end
section
variable {w0 w : World} {b c t d p g g0 a N : Nat} {v v0 : Value} {m mx : Int} {P : Pg} {M M' : Md} {R : Wk} {Q : World → Prop}
def nN (M : Md) : Ry := if M.cl then jM 12 else qg
theorem Ea (h : SW w b c t d p v g a m R (aj M)) (hl : R.left = eY 65) (hI : aB M) (hC : Calm M) (h1 : 1 ≤ M.dr.length) (hll : M.L.length ≤ 190) (ha : a ≤ 1 + 2 * M.L.length) (hm : m + 1000 ≤ mx) (hmx : mx ≤ 1000000)
  (ho : R.ok = false) (hrep : R.rep = qg) (hxt : -9223372036854775808 ≤ R.dE ∧ R.dE ≤ 9223372036854775807) (hw : WS w0 w b c t d p v0 g0 v g) :
  Goes b c 1000 w (Fin w0 b c t d p v0 g0 mx (dG M R.ky R.dE).2 (nN M) (dG M R.ky R.dE).1) := by
 cases hf : eU M R.ky R.dE with
 | false =>
  have e : dG M R.ky R.dE = (false, M) := if_neg (by rw [hf]; decide)
  rw [e]
  cases hcl : M.cl with
  | true => exact aV (N := 999) wO (AZ h hcl) h hl rfl (by omega) (by omega) hw rfl (by unfold nN; rw [hcl]; rfl) rfl
  | false => exact aV (N := 999) wO (Lt h hI h1 (by omega) (by omega) hxt hcl hf) h hl rfl (by omega) (by omega) hw rfl (by unfold nN; rw [hcl]; exact hrep) ho
 | true =>
  obtain ⟨i, hid, hi, hs, ht1, ht2, hcl, hroom⟩ := Gu hI hf
  have JP : (R.ky - 1).toNat = i := by omega
  have hmem := aW hi
  have bo := hI.one _ hmem
  have bl := hI.mb.lim _ hmem
  have bw := hI.mb.wid _ hmem
  have bp := hI.mb.aJ _ hmem
  have Ey := hI.ids i hi
  have jJ := hI.mb.now
  have dw := eu hI h1 (by omega)
  have e : dG M R.ky R.dE = (true, if R.dE = M.now then aU M i else { M with L := M.L.set i ((M.L.getD i default).aC R.dE) }) := by
   unfold dG
   rw [if_pos hf, JP]
   split <;> rfl
  have hI' := (hI.je hC R.ky R.dE).1
  rw [e] at hI' ⊢
  have hfree := D9 hI hC hi hs ⟨ht1, ht2⟩ hroom
  have hdr : (if R.dE = M.now then aU M i else { M with L := M.L.set i ((M.L.getD i default).aC R.dE) }).dr.length = M.dr.length := by split <;> rfl
  have OC : (if R.dE = M.now then aU M i else { M with L := M.L.set i ((M.L.getD i default).aC R.dE) }).now = M.now := by split <;> rfl
  have Qi : qg = nN M := by unfold nN; rw [hcl]; rfl
  have Uv : bE M.L R.ky = M.L.getD i default := by rw [rP (by omega), JP]
  have hck := I5 h hI h1 (by omega) (by omega) hxt hcl hf
  rw [Uv] at hck
  have wY : ∀ u, ax M u ((i : Int) + 1) = ax M u 0 + dB u 0 (M.L.getD i default) := fun u => kZ hi hI.ids u
  have kQ : PK { aj M with f := fun u => ax M u ((i : Int) + 1) } := ⟨dw.now, dw.few, dw.st, dw.lim, dw.qd, fun u hu => ⟨Aw hI hi u hu, (Cz hI.mb u _).2⟩⟩
  obtain ⟨M1, hM1⟩ : ∃ M1, M1 = (if R.dE = M.now then aU M i else { M with L := M.L.set i ((M.L.getD i default).aC R.dE) }) := ⟨_, rfl⟩
  rw [← hM1] at hI' hfree hdr OC ⊢
  have hrange : ∀ u, M.now ≤ u → 0 ≤ ax M1 u 0 ∧ ax M1 u 0 ≤ 64 := fun u hu => uB hI' u (by rw [OC]; exact hu)
  have TC : PK { aj M with f := fun u => ax M1 u 0 } := ⟨dw.now, dw.few, dw.st, dw.lim, dw.qd, fun u hu => hrange u hu⟩
  refine (eZ (N := 3) (k := 65) (k' := 94) wO hck h hl rfl fun w1 v1 g1 hS1 hw1 => ?_).more (show 4 ≤ 1000 by decide)
  have cont : ∀ (w2 : World) (v2 : Value) (g2 a2 : Nat) (m2 : Int), SW w2 b c t d p v2 g2 a2 m2 { R with az := M.L.getD i default, ok := true, left := eY 125 } { aj M with f := fun u => ax M u ((i : Int) + 1) } → a2 ≤ 700 → m2 + 10 ≤ mx → WS w0 w2 b c t d p v0 g0 v2 g2 →
    Goes b c 2 w2 (Fin w0 b c t d p v0 g0 mx M1 (nN M) true) := by
   intro w2 v2 g2 a2 m2 hS2 ha2 hm2 hw2
   have hen := Ls hS2 kQ (by omega) (by omega) hs ⟨by show 0 ≤ R.dE; omega, by show R.dE ≤ 1099511627776; omega⟩ ⟨bo.2.2.1, bl.2⟩ bw (fun u => ax M1 u 0) (fun u hu => hfree u hu) (fun u hu => hrange u hu)
   refine eZ (N := 1) (k := 125) (k' := 148) LU hen hS2 rfl rfl fun w3 v3 g3 Gj hw3 => ?_
   by_cases hx : R.dE = M.now
   ·have hidle : (M.L.getD i default).wid ≤ ((List.range M.dr.length).countP fun n : Nat => decide (aO M n = 1) : Nat) := by
     rw [← F3 hC.runs]
     exact Ah hI hi (by rw [← hx]; exact hroom)
    have hT := F6 hI hi (by omega) hidle
    have hset := Gg Gj TC hx (by show -9223372036854775808 ≤ (M.L.getD i default).wid ∧ (M.L.getD i default).wid ≤ _; omega) hT
    rw [if_pos hx] at hM1
    have hbs : bR (aj M).J (fH (aj M).now) (M.L.getD i default).id (fun j : Jb => decide (j.state = 1)) (kI (aj M).now (gZ M (M.L.getD i default).wid : Int)) = (aU M i).L := xO hI hi hs
    have hP : ({ aj M with f := fun u => ax M1 u 0, T := bU (aU M i), J := (aU M i).L } : Pg) = aj M1 := by rw [hM1]; rfl
    refine aV (N := 0) (a' := a2 + 2) (m' := m2 + 1) Ae (hset.mono fun e w' hp => ?_) Gj rfl rfl (by omega) (by omega) (hw2.trans hw3) rfl (hrep.trans Qi) rfl
    rw [← hP, ← hbs]
    exact hp
   ·have hset := AY Gj hx
    rw [if_neg hx] at hM1
    have Kh : gz R.dE = 0 := by unfold gz; rw [if_neg (by omega), if_neg (by omega)]
    have hbs : bR (aj M).J (gz R.dE) R.ky (fun j : Jb => decide (j.state = 1)) (jX R.dE) = M.L.set i ((M.L.getD i default).aC R.dE) := by
     rw [Kh]
     have := sN (ok := fun j : Jb => decide (j.state = 1)) (L := M.L) (id := R.ky) (by omega) (by rw [JP]; exact decide_eq_true hs)
     have h2 := nM (ch := jX R.dE) this
     rw [JP] at h2
     exact h2
    have hT1 : bU M = bU M1 := by
     rw [hM1]
     refine nL (by rw [aZ, aZ]) fun n hn => ?_
     rw [bV, bV, nS (y := (M.L.getD i default).aC R.dE) hi Iff.rfl rfl]
    have hP : ({ aj M with f := fun u => ax M1 u 0, J := M.L.set i ((M.L.getD i default).aC R.dE) } : Pg) = aj M1 := by
     show Pg.mk M.now _ (bU M) _ M.cl = _
     rw [hT1, hM1]
     rfl
    refine aV (N := 0) (a' := a2 + 2) (m' := m2 + 1) Ae (hset.mono fun e w' hp => ?_) Gj rfl rfl (by omega) (by omega) (hw2.trans hw3) rfl (hrep.trans Qi) rfl
    rw [← hP, ← hbs]
    exact hp
  cases hpl : ak (M.L.getD i default) with
  | true =>
   have hlv := Gd hS1 dw (by omega) (by omega) hpl bp.2 bl bo.2.2.1 bw (fun u => ax M u ((i : Int) + 1)) (fun u hu => by
    have hun := qh hI hi hpl u
    rw [iD hi, dC (j := (M.L.getD i default).aC (-1)) (by unfold ak; simp [Jb.aC, Jb.aJ])] at hun
    show ax M u ((i : Int) + 1) = ax M u 0 + had (max (M.L.getD i default).aJ M.now) ((M.L.getD i default).aJ + (M.L.getD i default).lim) (M.L.getD i default).wid u
    rw [wY]
    omega) (fun u hu => kQ.f u hu)
   refine eZ (N := 2) (k := 94) (k' := 125) Ck hlv hS1 rfl rfl fun w2 v2 g2 hS2 hw2 => ?_
   exact cont w2 v2 g2 _ _ hS2 (by omega) (by omega) ((hw.trans hw1).trans hw2)
  | false =>
   have hlv := Gf hS1 hpl bp.2 bl
   refine eZ (N := 2) (k := 94) (k' := 125) Ck hlv hS1 rfl rfl fun w2 v2 g2 hS2 hw2 => ?_
   have hP : aj M = { aj M with f := fun u => ax M u ((i : Int) + 1) } := by
    have : (fun u => ax M u ((i : Int) + 1)) = fun u => ax M u 0 := by
     funext u
     rw [wY, dC hpl]
     omega
    rw [this]
    rfl
   rw [hP] at hS2
   exact cont w2 v2 g2 _ _ hS2 (by omega) (by omega) ((hw.trans hw1).trans hw2)
theorem OD (h : SW w b c t d p v g a m R (aj M)) (hl : R.left = eY 64) (hI : aB M) (hC : Calm M) (hE : Early M) (h1 : 1 ≤ M.dr.length) (hll : M.L.length ≤ 190) (ha : a ≤ 1 + 2 * M.L.length) (hm : m + 1000 ≤ mx) (hmx : mx ≤ 1000000)
  (ho : R.ok = false) (hrep : R.rep = qg) (hnd : -9223372036854775808 ≤ R.ag.node ∧ R.ag.node ≤ 9223372036854775807) (hw : WS w0 w b c t d p v0 g0 v g) :
  Goes b c 1000 w (Fin w0 b c t d p v0 g0 mx (gH M (toW R.ag)).2 (oh (gH M (toW R.ag)).1) false) := by
 cases hcl : M.cl with
 | true =>
  have e : gH M (toW R.ag) = (fE 12, M) := if_pos hcl
  rw [e]
  exact Je h hl hcl (by omega) (by omega) hw
 | false =>
  have hcn : ¬ M.cl = true := by rw [hcl]; decide
  have hB : Bg w0 w b c t d p v0 g0 v g a m mx R M := ⟨h, hl, hI, hC, hcl, h1, hll, ha, hm, hmx, ho, hw⟩
  have hkr : ∀ r : Rw, gH M r = if r.kind = 1 then ic M r
    else if r.kind = 2 ∨ r.kind = 5 then kS M r
    else if r.kind = 3 ∨ r.kind = 4 ∨ r.kind = 6 then fq M r
    else if r.kind = 7 ∨ r.kind = 8 then gK M r
    else if r.kind = 9 then kX M r.by'
    else if r.kind = 10 then ((0, 0, 0, 0, 0, 0, kD M 1 1, kD M 2 3, kD M 4 4), M)
    else if r.kind = 11 then ((0, 0, 0, 0, 0, 0, mr M 1, mr M 2, mr M 3), M)
    else if r.kind = 12 then ((0, 0, 0, M.now, 0, 0, ax M M.now 0, 0, 0), M)
    else if r.kind = 13 then (fE 0, { M with cl := true })
    else (fE 4, M) := fun r => if_neg hcn
  by_cases hrd : R.ag.kind = 6 ∨ R.ag.kind = 10 ∨ R.ag.kind = 11 ∨ R.ag.kind = 12
  ·exact Ji hB hrd
  rw [hkr]
  have ek : (toW R.ag).kind = R.ag.kind := rfl
  rw [ek]
  by_cases k1 : R.ag.kind = 1
  ·rw [if_pos k1]; exact D7 h hl hI hcl h1 hll ha hm hmx hw k1 ho
  rw [if_neg k1]
  by_cases k25 : R.ag.kind = 2 ∨ R.ag.kind = 5
  ·rw [if_pos k25]
   rcases k25 with k | k
   ·exact vJ hB 5 (.inl ⟨k, rfl⟩)
   ·exact vJ hB 4 (.inr ⟨k, rfl⟩)
  rw [if_neg k25]
  by_cases Ri : R.ag.kind = 3 ∨ R.ag.kind = 4 ∨ R.ag.kind = 6
  ·rw [if_pos Ri]
   rcases Ri with k | k | k
   ·exact Jg hB k
   ·exact A8 hB k
   ·exact absurd (.inl k) hrd
  rw [if_neg Ri]
  by_cases Gv : R.ag.kind = 7 ∨ R.ag.kind = 8
  ·rw [if_pos Gv]
   rcases Gv with k | k
   ·exact Gt hB k hnd
   ·exact D8 hB k hnd
  rw [if_neg Gv]
  by_cases k9 : R.ag.kind = 9
  ·rw [if_pos k9]; exact Jk hB hE k9
  rw [if_neg k9, if_neg (by omega), if_neg (by omega), if_neg (by omega)]
  by_cases k13 : R.ag.kind = 13
  ·rw [if_pos k13]; exact Jj hB k13 hrep
  rw [if_neg k13]
  exact Jf hB (by omega)
end
end Go.Proofs.YtkhfejihijdipaaGreat

namespace Go.Proofs.YtkhfejihijdipaaGreat
open Go.RowKit Go.Lib Go.Sort
section
variable {M : Md}
theorem JQ {r : Rw} (h : r.kind = 1) : gH M r = if M.cl = true then (fE 12, M) else ic M r := by
 unfold gH
 by_cases hc : M.cl = true
 ·rw [if_pos hc, if_pos hc]
 ·rw [if_neg hc, if_neg hc, if_pos h]
theorem OE {r : Rw} (h : (r.kind = 2 ∨ r.kind = 5)) : gH M r = if M.cl = true then (fE 12, M) else kS M r := by
 unfold gH
 by_cases hc : M.cl = true
 ·rw [if_pos hc, if_pos hc]
 ·rw [if_neg hc, if_neg hc, if_neg (show ¬ r.kind = 1 by omega), if_pos h]
theorem JR {r : Rw} (h : (r.kind = 3 ∨ r.kind = 4 ∨ r.kind = 6)) : gH M r = if M.cl = true then (fE 12, M) else fq M r := by
 unfold gH
 by_cases hc : M.cl = true
 ·rw [if_pos hc, if_pos hc]
 ·rw [if_neg hc, if_neg hc, if_neg (show ¬ r.kind = 1 by omega), if_neg (show ¬ (r.kind = 2 ∨ r.kind = 5) by omega), if_pos h]
theorem OG {r : Rw} (h : (r.kind = 7 ∨ r.kind = 8)) : gH M r = if M.cl = true then (fE 12, M) else gK M r := by
 unfold gH
 by_cases hc : M.cl = true
 ·rw [if_pos hc, if_pos hc]
 ·rw [if_neg hc, if_neg hc, if_neg (show ¬ r.kind = 1 by omega), if_neg (show ¬ (r.kind = 2 ∨ r.kind = 5) by omega), if_neg (show ¬ (r.kind = 3 ∨ r.kind = 4 ∨ r.kind = 6) by omega), if_pos h]
theorem JU {r : Rw} (h : r.kind = 9) : gH M r = if M.cl = true then (fE 12, M) else kX M r.by' := by
 unfold gH
 by_cases hc : M.cl = true
 ·rw [if_pos hc, if_pos hc]
 ·rw [if_neg hc, if_neg hc, if_neg (show ¬ r.kind = 1 by omega), if_neg (show ¬ (r.kind = 2 ∨ r.kind = 5) by omega), if_neg (show ¬ (r.kind = 3 ∨ r.kind = 4 ∨ r.kind = 6) by omega), if_neg (show ¬ (r.kind = 7 ∨ r.kind = 8) by omega), if_pos h]
theorem OH {r r' : Rw} (h : r.kind = r'.kind) (h2 : ¬ (1 ≤ r.kind ∧ r.kind ≤ 9)) : gH M r = gH M r' := by
 unfold gH
 rw [h] at h2 ⊢
 by_cases hc : M.cl = true
 ·rw [if_pos hc, if_pos hc]
 ·have n1 : ¬ r'.kind = 1 := by omega
  have n2 : ¬ (r'.kind = 2 ∨ r'.kind = 5) := by omega
  have n3 : ¬ (r'.kind = 3 ∨ r'.kind = 4 ∨ r'.kind = 6) := by omega
  have n4 : ¬ (r'.kind = 7 ∨ r'.kind = 8) := by omega
  have n5 : ¬ r'.kind = 9 := by omega
  simp only [if_neg hc, if_neg n1, if_neg n2, if_neg n3, if_neg n4, if_neg n5]
theorem LY (M : Md) (r : Rq) : gH M (toW (kP r)) = gH M (toW r) := by
 unfold kP
 by_cases k1 : r.kind = 1
 ·rw [if_pos k1, JQ (r := toW r) k1, JQ (r := toW ⟨r.kind, 0, r.user, r.width, r.limit, r.prio, r.held, 0, 0⟩) k1]
  rfl
 rw [if_neg k1]
 by_cases k2 : r.kind = 2 ∨ r.kind = 3 ∨ r.kind = 4 ∨ r.kind = 5 ∨ r.kind = 6
 ·rw [if_pos k2]
  by_cases k25 : r.kind = 2 ∨ r.kind = 5
  ·rw [OE (r := toW r) k25, OE (r := toW ⟨r.kind, r.id, 0, 0, 0, 0, false, 0, 0⟩) k25]
   rfl
  ·have Qj : r.kind = 3 ∨ r.kind = 4 ∨ r.kind = 6 := by omega
   rw [JR (r := toW r) Qj, JR (r := toW ⟨r.kind, r.id, 0, 0, 0, 0, false, 0, 0⟩) Qj]
   rfl
 rw [if_neg k2]
 by_cases Gv : r.kind = 7 ∨ r.kind = 8
 ·rw [if_pos Gv, OG (r := toW r) Gv, OG (r := toW ⟨r.kind, 0, 0, 0, 0, 0, false, r.node, 0⟩) Gv]
  rfl
 rw [if_neg Gv]
 by_cases k9 : r.kind = 9
 ·rw [if_pos k9, JU (r := toW r) k9, JU (r := toW ⟨r.kind, 0, 0, 0, 0, 0, false, 0, r.till⟩) k9]
  rfl
 rw [if_neg k9]
 exact OH rfl (by show ¬ (1 ≤ r.kind ∧ r.kind ≤ 9); omega)
theorem Gw (r : Rq) (h : -9223372036854775808 ≤ r.node ∧ r.node ≤ 9223372036854775807) : -9223372036854775808 ≤ (kP r).node ∧ (kP r).node ≤ 9223372036854775807 := by
 have z : -9223372036854775808 ≤ (0 : Int) ∧ (0 : Int) ≤ 9223372036854775807 := by decide
 unfold kP
 repeat' split
 all_goals first | exact z | exact h
structure Ok (M : Md) : Prop where
 inv : aB M
 calm : Calm M
 early : Early M
theorem Ok.new {n : Nat} (h : n ≤ 64) : Ok (dH n) := ⟨(EB h).1, (EB h).2, Jh n⟩
theorem Ok.C8 (h : Ok M) (r : Rw) : Ok (gH M r).2 := ⟨(h.inv.C8 h.calm r).1, (h.inv.C8 h.calm r).2, h.early.C8 r⟩
theorem Ok.je (h : Ok M) (id t : Int) : Ok (dG M id t).2 := ⟨(h.inv.je h.calm id t).1, (h.inv.je h.calm id t).2, h.early.je id t⟩
end
section
variable {w : World} {b c t d p g : Nat} {v : Value} {m : Int} {M : Md}
def Whole (w : World) (b c t d p : Nat) (v : Value) (g : Nat) (m : Int) (M' : Md) (y : Ry) (ok : Bool) (e : Ending) (w' : World) : Prop :=
 ∃ (n : Int) (v' : Value) (g' : Nat) (R : Wk), 0 < n ∧ n < 2000 ∧ e = .returned (.int .i64 n) ∧ CW w' c t d p v' g' (1 + 2 * M'.L.length) (m + 1000) (aj M') ∧ bP w' b R ∧ R.left = .nilFunc ∧ R.rep = y ∧ R.ok = ok ∧ WS w w' b c t d p v g v' g'
theorem Ai {M' : Md} {y : Ry} {ok : Bool} (h : Goes b c 1000 w (Fin w b c t d p v g (m + 1000) M' y ok)) (hI : aB M') :
  Calls Tryz.prog 29 #[.pointer (some ⟨c, 0, none⟩), .pointer (some ⟨b, 0, none⟩)] w (Whole w b c t d p v g m M' y ok) := by
 refine (LQ h (by decide)).mono ?_
 rintro e w' ⟨n, h1, h2, rfl, ⟨v', g', a, m', R, hS, ha, hm, hl, hr, ho, hw⟩⟩
 exact ⟨n, v', g', R, h1, h2, rfl, (hS.cw.OA hI).wider (Nat.le_refl _) hm, hS.wk, hl, hr, ho, hw⟩
theorem xY (h : CW w c t d p v g (1 + 2 * M.L.length) m (aj M)) (r : Rq) (hb : bP w b (xU r)) (hM : Ok M) (h1 : 1 ≤ M.dr.length) (hll : M.L.length ≤ 190) (hm : m + 1000 ≤ 1000000) (hnd : -9223372036854775808 ≤ r.node ∧ r.node ≤ 9223372036854775807) :
  Calls Tryz.prog 29 #[.pointer (some ⟨c, 0, none⟩), .pointer (some ⟨b, 0, none⟩)] w (Whole w b c t d p v g m (gH M (toW r)).2 (oh (gH M (toW r)).1) false) := by
 have hg := OD (mx := m + 1000) (R := xU r) ⟨hb, h⟩ rfl hM.inv hM.calm hM.early h1 hll (Nat.le_refl _) (Int.le_refl _) hm rfl rfl (Gw r hnd) (WS.refl w)
 rw [show (xU r).ag = kP r from rfl, LY] at hg
 exact Ai hg (hM.C8 _).inv
theorem tK (h : CW w c t d p v g (1 + 2 * M.L.length) m (aj M)) (i x : Int) (hb : bP w b (Cj i x)) (hM : Ok M) (h1 : 1 ≤ M.dr.length) (hll : M.L.length ≤ 190) (hm : m + 1000 ≤ 1000000) (hx : -9223372036854775808 ≤ x ∧ x ≤ 9223372036854775807) :
  Calls Tryz.prog 29 #[.pointer (some ⟨c, 0, none⟩), .pointer (some ⟨b, 0, none⟩)] w (Whole w b c t d p v g m (dG M i x).2 (nN M) (dG M i x).1) :=
 Ai (Ea (mx := m + 1000) (R := Cj i x) ⟨hb, h⟩ rfl hM.inv hM.calm h1 hll (Nat.le_refl _) (Int.le_refl _) hm rfl rfl hx (WS.refl w)) (hM.je i x).inv
end
end Go.Proofs.YtkhfejihijdipaaGreat

namespace Go.Proofs.YtkhfejihijdipaaGreat
open Go.RowKit Go.Lib Go.Sort
section
variable {w : World} {b c t d p g a : Nat} {v : Value} {m : Int} {M : Md} {R : Wk}
theorem Jl (h : CW w c t d p v g a m (aj M)) (hI : aB M) (hll : M.L.length ≤ 400) : Calls Tryz.prog 16 #[.pointer (some ⟨p, 0, none⟩)] w fun e w' => ∃ u, e = .returned u ∧ aN Rv 2 w' u (lK M) ∧ Below w.heap.size w w' := by
 obtain ⟨S, aG, hp, hC, hl, _⟩ := h.kV
 have e : S = lK M := hC.uniq (yV hI) fun _ _ => rfl
 have hs := xX M
 refine (AP hp hC.sm.pos (by rw [e]; omega)).mono ?_
 rintro en w' ⟨g', cap', rfl, h1, h2, h3⟩
 exact ⟨_, rfl, aN.jr h2 (fun _ => rfl) (by rw [← e]; rfl) (by rw [← e]), h3⟩
theorem LZ (h : bP w b R) : Calls Tryz.prog 32 #[.pointer (some ⟨b, 0, none⟩)] w fun e w' => e = .returned (.agg (fP R.rep).toArray) ∧ Below w.heap.size w w' := by
 obtain ⟨y1, y2, y3, y4, y5, y6, y7, y8, y9, hy⟩ : ∃ y1 y2 y3 y4 y5 y6 y7 y8 y9, R.rep = ⟨y1, y2, y3, y4, y5, y6, y7, y8, y9⟩ := ⟨_, _, _, _, _, _, _, _, _, rfl⟩
 have h' : ∀ o, bP (w.alloc o) b R := fun o => (((Below.refl w.heap.size w).alloc (Nat.le_refl _) o).block b h.lt).trans h
 have c24 : ∀ o, (w.alloc o).cell? ⟨b, 24, none⟩ = some (.int .i64 y1) := fun o => (h' o).at 24 (.int .i64 y1) (by show some (Value.int .i64 R.rep.1) = _; rw [hy])
 have Vp : ∀ o, (w.alloc o).cell? ⟨b, 25, none⟩ = some (.int .i64 y2) := fun o => (h' o).at 25 (.int .i64 y2) (by show some (Value.int .i64 R.rep.2) = _; rw [hy])
 have Vq : ∀ o, (w.alloc o).cell? ⟨b, 26, none⟩ = some (.int .i64 y3) := fun o => (h' o).at 26 (.int .i64 y3) (by show some (Value.int .i64 R.rep.3) = _; rw [hy])
 have Vr : ∀ o, (w.alloc o).cell? ⟨b, 27, none⟩ = some (.int .i64 y4) := fun o => (h' o).at 27 (.int .i64 y4) (by show some (Value.int .i64 R.rep.4) = _; rw [hy])
 have c28 : ∀ o, (w.alloc o).cell? ⟨b, 28, none⟩ = some (.int .i64 y5) := fun o => (h' o).at 28 (.int .i64 y5) (by show some (Value.int .i64 R.rep.5) = _; rw [hy])
 have Vs : ∀ o, (w.alloc o).cell? ⟨b, 29, none⟩ = some (.int .i64 y6) := fun o => (h' o).at 29 (.int .i64 y6) (by show some (Value.int .i64 R.rep.6) = _; rw [hy])
 have Vt : ∀ o, (w.alloc o).cell? ⟨b, 30, none⟩ = some (.int .i64 y7) := fun o => (h' o).at 30 (.int .i64 y7) (by show some (Value.int .i64 R.rep.7) = _; rw [hy])
 have c31 : ∀ o, (w.alloc o).cell? ⟨b, 31, none⟩ = some (.int .i64 y8) := fun o => (h' o).at 31 (.int .i64 y8) (by show some (Value.int .i64 R.rep.8) = _; rw [hy])
 have c32 : ∀ o, (w.alloc o).cell? ⟨b, 32, none⟩ = some (.int .i64 y9) := fun o => (h' o).at 32 (.int .i64 y9) (by show some (Value.int .i64 R.rep.9) = _; rw [hy])
 rw [hy]
 clear h h' hy
 go_enter Tryz.func32, Tryz.ntmps32
 go_wp2_with fail
 refine fu rfl rfl rfl (heap_alloc_new w _) Tryz.underlying74 rfl (by kernel_rfl) ⟨rfl, ?_⟩
 exact (Below.refl _ _).alloc (Nat.le_refl _) _
theorem Rj (h : bP w b R) : Calls Tryz.prog 33 #[.pointer (some ⟨b, 0, none⟩)] w fun e w' => e = .returned (.bool R.ok) ∧ w = w' := by
 have Ug := h.at 33 (.bool R.ok) rfl
 clear h
 generalize R.ok = o at *
 go_enter Tryz.func33, Tryz.ntmps33
 go_wp2_with fail
 go_ret
 exact ⟨rfl, rfl⟩
end
end Go.Proofs.YtkhfejihijdipaaGreat

namespace Go.Proofs.YtkhfejihijdipaaGreat
open Go.RowKit Go.Lib Go.Sort
def L6 : Rq := ⟨1, 0, 0, 2, 10, 0, false, 0, 0⟩
def Rk : Md := (gH (dH 4) (toW L6)).2
def Uw : Md := (dG Rk 1 0).2
theorem Ux : lK Uw = [(0, 2), (10, 4)] := by decide
theorem rR {c t d p g : Nat} {v : Value} {b B : Nat} (h : ∀ k, eX c t d p v g k → B ≤ k) (hb : B ≤ b) : ∀ k, rH b c t d p v g k → B ≤ k := fun k hk => hk.elim (fun e => e ▸ hb) (h k)
theorem WS.Rm {w w1 : World} {b c t d p g g1 B : Nat} {v v1 : Value} (h : WS w w1 b c t d p v g v1 g1) (hC : ∀ k, eX c t d p v g k → B ≤ k) (hb : B ≤ b) (hB : B ≤ w.heap.size) : ∀ k, eX c t d p v1 g1 k → B ≤ k := fun k hk => h.lo (rR hC hb) hB k (.inr hk)
theorem Cq (w : World) : Calls Tryz.prog 10 #[] w fun e w' => e = .returned (.bool true) ∧ Below w.heap.size w w' := by
 have hn := Gp 4 w (by decide) (by decide)
 go_enter Tryz.func10, Tryz.ntmps10
 go_wp2_with fail
 go_at_call 9
 refine hn.mono ?_
 clear hn
 rintro e w1 ⟨c, t, d, p, v, g, rfl, ⟨rC, hlo1⟩, hb1⟩
 have hq := xV L6 w1
 rw [show (encR L6).toArray = #[.int .i64 1, .int .i64 0, .int .i64 0, .int .i64 2, .int .i64 10, .int .i64 0, .bool false, .int .i64 0, .int .i64 0] from rfl] at hq
 go_wp2_with fail
 go_at_call 27
 refine hq.mono ?_
 clear hq
 rintro e w2 ⟨b, rfl, hW2, hlb, hb2⟩
 have hC2 := rC.kept hb2
 have wR := xY (M := dH 4) hC2 L6 hW2 (Ok.new (by decide)) (by decide) (by decide) (by decide) (by decide)
 go_wp2_with fail
 go_at_call 29
 refine wR.mono ?_
 clear wR rC
 rintro e w3 ⟨n1, v3, g3, R3, _, _, rfl, Jm, hW3, _, hr3, _, hs3⟩
 have hx := tJ 1 0 w3
 go_wp2_with fail
 go_at_call 28
 refine hx.mono ?_
 clear hx
 rintro e w4 ⟨x, rfl, Uy, hlx, hb4⟩
 have nO := Jm.kept hb4
 have KZ : bP w4 b R3 := (hb4.block b hW3.lt).trans hW3
 have hbx : b ≠ x := Nat.ne_of_lt (Nat.lt_of_lt_of_le hW3.lt hlx)
 have wR := tK (M := Rk) nO 1 0 Uy ((Ok.new (by decide)).C8 _) (by decide) (by decide) (by decide) (by decide)
 go_wp2_with fail
 go_at_call 29
 refine wR.mono ?_
 clear wR
 rintro e w5 ⟨n2, v5, g5, R5, _, _, rfl, fZ, TD, _, _, wF, hs5⟩
 have PE : bP w5 b R3 := (hs5.heap KZ.lt (fun hf => hf.elim hbx (nO.other KZ (by decide)))).trans KZ
 have Qk : Hid (Below w.heap.size w w5) := by
  have l1 := hb1.size
  have s2 := hb2.size
  have s3 := hs3.off.size
  have lo3 := hs3.Rm hlo1 (Nat.le_trans l1 hlb) (Nat.le_trans l1 s2)
  have f3 := hs3.below (rR hlo1 (Nat.le_trans l1 hlb)) (Nat.le_trans l1 s2)
  have l3 : w.heap.size ≤ w3.heap.size := Nat.le_trans (Nat.le_trans l1 s2) s3
  have f5 := hs5.below (rR lo3 (Nat.le_trans l3 hlx)) (Nat.le_trans l3 hb4.size)
  exact hb1.trans ((hb2.mono l1).trans (f3.trans ((hb4.mono l3).trans f5)))
 have hst := Jl fZ ((Ok.new (by decide)).C8 (toW L6) |>.je 1 0).inv (by decide)
 have q2 := fZ.c2
 go_wp2_with fail
 go_at_call 16
 refine hst.mono ?_
 clear hst q2
 rintro e w6 ⟨u, rfl, hu, hb6⟩
 rw [show lK (dG Rk 1 0).2 = [(0, 2), (10, 4)] from Ux] at hu
 have Q8 : bP w6 b R3 := (hb6.block b PE.lt).trans PE
 have TE : bP w6 x R5 := (hb6.block x TD.lt).trans TD
 have Ql : Hid (Below w.heap.size w w6) := Qk.out.trans (hb6.mono Qk.out.size)
 obtain ⟨ao, cap, rfl, q1, q2, q3⟩ := hu
 obtain ⟨B, off, rfl, hlt, hc⟩ := q3 (by decide)
 have Rn := LZ Q8
 rw [hr3, show (oh (gH (dH 4) (toW L6)).1) = ⟨0, 1, 1, -1, -1, -1, 2, 0, 0⟩ from rfl, show (fP ⟨0, 1, 1, -1, -1, -1, 2, 0, 0⟩).toArray = #[.int .i64 0, .int .i64 1, .int .i64 1, .int .i64 (-1), .int .i64 (-1), .int .i64 (-1), .int .i64 2, .int .i64 0, .int .i64 0] from rfl] at Rn
 have hok : ∀ W, Below w6.heap.size w6 W → Calls Tryz.prog 33 #[.pointer (some ⟨x, 0, none⟩)] W fun e w' => e = .returned (.bool true) ∧ W = w' := fun W hW => by
  have := Rj ((hW.block x TE.lt).trans TE)
  rw [wF] at this
  exact this
 have k1 : w6.cell? ⟨B, off + 1, none⟩ = some (.int .i64 2) := hc 0 (0, 2) 1 _ rfl rfl
 have k2 : w6.cell? ⟨B, off + 2, none⟩ = some (.int .i64 10) := hc 1 (10, 4) 0 _ rfl rfl
 have k3 : w6.cell? ⟨B, off + 3, none⟩ = some (.int .i64 4) := hc 1 (10, 4) 1 _ rfl rfl
 clear hc
 have Vu : ∀ W, Sem.run Tryz.prog (Instr.field 74 (.agg #[.int .i64 0, .int .i64 1, .int .i64 1, .int .i64 (-1), .int .i64 (-1), .int .i64 (-1), .int .i64 2, .int .i64 0, .int .i64 0]) 1) W = .ok (.int .i64 1) W := fun W => by kernel_rfl
 go_wp2_with fail
 go_at_call 32
 refine Rn.mono ?_
 clear Rn
 rintro e w7 ⟨rfl, jD⟩
 have k1 := (jD.cell (p := ⟨B, off + 1, none⟩) hlt).trans k1
 have k2 := (jD.cell (p := ⟨B, off + 2, none⟩) hlt).trans k2
 have k3 := (jD.cell (p := ⟨B, off + 3, none⟩) hlt).trans k3
 have Qm := hok w7 jD
 have TF : Hid (Below w.heap.size w w7) := Ql.out.trans (jD.mono Ql.out.size)
 clear hok
 go_wp2_with fail
 go_at_call 33
 refine Qm.mono ?_
 clear Qm
 rintro e w' ⟨rfl, rfl⟩
 go_wp2_with fail
 go_ret
 exact ⟨rfl, TF.out⟩
end Go.Proofs.YtkhfejihijdipaaGreat

namespace Go.Proofs.YtkhfejihijdipaaGreat
open Go.RowKit Go.Lib Go.Sort
structure De where
 JV : Bool
 r : Rq
 xi : Int
 xt : Int
def qw (x : De) : List Value := .bool x.JV :: (encR x.r ++ [.int .i64 x.xi, .int .i64 x.xt])
section
variable {w : World} {v : Value} {l : List De}
theorem JW (h : aN qw 12 w v l) : Calls Tryz.prog 8 #[v] w fun e w' => ∃ v', e = .returned v' ∧ aN qw 12 w v' (l.take 60) ∧ w = w' := by
 have hr := h
 obtain ⟨ao, cap, rfl, h1, h2, h3⟩ := h
 by_cases hn : 60 < l.length
 ·have d1 : decide ((60 : Int) < (l.length : Int)) = true := decide_eq_true (by omega)
  have hcut := hr.cut (n := 60) (by omega)
  go_enter Tryz.func8, Tryz.ntmps8
  go_wp2_with fail
  go_ret
  exact ⟨_, rfl, hcut, rfl⟩
 ·have d1 : decide ((60 : Int) < (l.length : Int)) = false := decide_eq_false (by omega)
  have e : l.take 60 = l := List.take_of_length_le (by omega)
  rw [e]
  go_enter Tryz.func8, Tryz.ntmps8
  go_wp2_with fail
  go_ret
  exact ⟨_, rfl, hr, rfl⟩
end
end Go.Proofs.YtkhfejihijdipaaGreat

namespace Go.Proofs.YtkhfejihijdipaaGreat
open Go.RowKit Go.Lib Go.Sort
section
variable {M : Md}
theorem wS (M : Md) (j : Jb) : (dX M j).L.length = M.L.length ∧ (dX M j).dr = M.dr := ⟨by show (M.L.map _).length = _; rw [List.length_map], rfl⟩
theorem PM (hI : aB M) (r : Rw) : (gH M r).2.L.length ≤ M.L.length + 1 ∧ (gH M r).2.dr.length = M.dr.length := by
 unfold gH
 by_cases hc : M.cl = true
 ·rw [if_pos hc]; exact ⟨Nat.le_succ _, rfl⟩
 rw [if_neg hc]
 by_cases k1 : r.kind = 1
 ·rw [if_pos k1]
  unfold ic
  split
  ·exact ⟨Nat.le_succ _, rfl⟩
  split
  ·exact ⟨by show (M.L ++ [_]).length ≤ _; simp, rfl⟩
  ·refine ⟨?_, rfl⟩
   rw [(wS _ _).1]
   show (M.L ++ [_]).length ≤ _
   simp
 rw [if_neg k1]
 by_cases k2 : r.kind = 2 ∨ r.kind = 5
 ·rw [if_pos k2]
  unfold kS
  simp only
  split
  ·exact ⟨Nat.le_succ _, rfl⟩
  split
  ·exact ⟨Nat.le_succ _, rfl⟩
  ·exact ⟨by show (M.L.set _ _).length ≤ _; rw [List.length_set]; omega, rfl⟩
 rw [if_neg k2]
 by_cases k3 : r.kind = 3 ∨ r.kind = 4 ∨ r.kind = 6
 ·rw [if_pos k3]
  unfold fq
  simp only
  split
  ·exact ⟨Nat.le_succ _, rfl⟩
  split
  ·exact ⟨Nat.le_succ _, rfl⟩
  split
  ·refine ⟨?_, rfl⟩
   rw [(wS _ _).1]
   show (M.L.set _ _).length ≤ _
   rw [List.length_set]; omega
  ·exact ⟨by show (M.L.set _ _).length ≤ _; rw [List.length_set]; omega, rfl⟩
 rw [if_neg k3]
 by_cases k7 : r.kind = 7 ∨ r.kind = 8
 ·rw [if_pos k7]
  unfold gK
  split
  ·exact ⟨Nat.le_succ _, rfl⟩
  split
  ·exact ⟨Nat.le_succ _, rfl⟩
  ·unfold eO
   split
   ·exact ⟨by show (dX M kC).L.length ≤ _; rw [(wS _ _).1]; omega, by show (M.dr.set _ _).length = _; rw [List.length_set]⟩
   ·exact ⟨Nat.le_succ _, by show (M.dr.set _ _).length = _; rw [List.length_set]⟩
 rw [if_neg k7]
 by_cases k9 : r.kind = 9
 ·rw [if_pos k9]
  unfold kX
  split
  ·exact ⟨Nat.le_succ _, rfl⟩
  ·have hn := hI.mb.now
   have hk := CP (M.now + r.by') (2 * M.L.length + 1) hI.mb (by omega)
   exact ⟨by show (cO _ _ M).L.length ≤ _; rw [hk.2.1]; omega, by show (cO _ _ M).dr.length = _; rw [hk.2.2.1]⟩
 rw [if_neg k9]
 repeat' split
 all_goals exact ⟨Nat.le_succ _, rfl⟩
theorem Gx (M : Md) (id t : Int) : (dG M id t).2.L.length = M.L.length ∧ (dG M id t).2.dr = M.dr := by
 unfold dG
 split
 ·split
  ·exact ⟨by show (M.L.set _ _).length = _; rw [List.length_set], rfl⟩
  ·exact ⟨by show (M.L.set _ _).length = _; rw [List.length_set], rfl⟩
 ·exact ⟨rfl, rfl⟩
def Eb (M : Md) (x : De) : Md := if x.JV then (dG M x.xi x.xt).2 else (gH M (toW x.r)).2
def jY (M : Md) (l : List De) : Md := l.foldl Eb M
theorem Ok.de (h : Ok M) (x : De) : Ok (Eb M x) := by
 unfold Eb
 split
 ·exact h.je _ _
 ·exact h.C8 _
theorem PN (h : Ok M) (x : De) : (Eb M x).L.length ≤ M.L.length + 1 ∧ (Eb M x).dr.length = M.dr.length := by
 unfold Eb
 split
 ·have := Gx M x.xi x.xt
  exact ⟨by rw [this.1]; omega, by rw [this.2]⟩
 ·exact PM h.inv _
theorem Cr (h : Ok M) (l : List De) : Ok (jY M l) ∧ (jY M l).L.length ≤ M.L.length + l.length ∧ (jY M l).dr.length = M.dr.length := by
 unfold jY
 induction l generalizing M with
 | nil => exact ⟨h, Nat.le_refl _, rfl⟩
 | cons x l ih =>
  obtain ⟨h1, h2, h3⟩ := ih (h.de x)
  have := PN h x
  exact ⟨h1, by show (l.foldl Eb (Eb M x)).L.length ≤ M.L.length + (l.length + 1); omega, h3.trans this.2⟩
theorem Jn (M : Md) {l : List De} {i : Nat} (hi : i < l.length) : jY M (l.take (i + 1)) = Eb (jY M (l.take i)) l[i] := by
 unfold jY
 rw [List.take_succ_eq_append_getElem hi, List.foldl_append]
 rfl
end
end Go.Proofs.YtkhfejihijdipaaGreat

namespace Go.Proofs.YtkhfejihijdipaaGreat
open Go.RowKit Go.Lib Go.Sort
def wT (x : De) : Prop := GN x.r ∧ (-9223372036854775808 ≤ x.xi ∧ x.xi ≤ 9223372036854775807) ∧ (-9223372036854775808 ≤ x.xt ∧ x.xt ≤ 9223372036854775807)
section
variable {w : World} {u : Value} {l : List De}
theorem L8 (h : aN qw 12 w u l) (n : Int) (hn : n < 1 ∨ 64 < n) : Calls Tryz.prog 14 #[.int .i64 n, u] w fun e w' => e = .returned (.pointer none) ∧ w = w' := by
 have hf := JW h
 have hb := LP n w hn
 go_enter Tryz.func14, Tryz.ntmps14
 go_wp2_with fail
 go_at_call 8
 refine hf.mono ?_
 rintro e w' ⟨v', rfl, _, rfl⟩
 go_wp2_with fail
 go_at_call 9
 refine hb.mono ?_
 rintro e w' ⟨rfl, rfl⟩
 go_wp2_with fail
 go_ret
 exact ⟨rfl, rfl⟩
theorem OI (h : aN qw 12 w u l) (hfit : ∀ x ∈ l, wT x) (n : Nat) (h1 : 1 ≤ n) (h2 : n ≤ 64) : Calls Tryz.prog 14 #[.int .i64 n, u] w fun e w' => ∃ c t d p v g, e = .returned (.pointer (some ⟨c, 0, none⟩)) ∧
  Qh w w' c t d p v g (1 + 2 * (jY (dH n) (l.take 60)).L.length) 60000 (aj (jY (dH n) (l.take 60))) ∧ Below w.heap.size w w' := by
 have hf := JW h
 have hb := Gp n w h1 h2
 have Ro : ∀ x ∈ l.take 60, wT x := fun x hx => hfit x (List.mem_of_mem_take hx)
 have hlen : (l.take 60).length ≤ 60 := by rw [List.length_take]; omega
 generalize l.take 60 = ds at *
 clear h hfit
 go_enter Tryz.func14, Tryz.ntmps14
 go_wp2_with fail
 go_at_call 8
 refine hf.mono ?_
 clear hf
 rintro e w' ⟨u', rfl, hr, rfl⟩
 go_wp2_with fail
 go_at_call 9
 refine hb.mono ?_
 clear hb
 rintro e w1 ⟨c, t, d, p, v1, g1, rfl, ⟨rC, hlo1⟩, hb1⟩
 replace hr := Lib.hid hr
 obtain ⟨N, hN⟩ : ∃ N, N = ds.length := ⟨_, rfl⟩
 obtain ⟨ao, cap, rfl, q1, q2, q3⟩ := hr.out
 clear q1 q3
 go_wp2_with fail
 go_loopw [7] (fun ii wr => ∃ (i : Nat) (v : Value) (g : Nat), i ≤ ds.length ∧ ii = .int .i64 i ∧ Hid (CW wr c t d p v g (1 + 2 * (jY (dH n) (ds.take i)).L.length) (1000 * i) (aj (jY (dH n) (ds.take i)))) ∧ Hid (∀ k, eX c t d p v g k → w.heap.size ≤ k) ∧ Hid (Below w.heap.size w wr)) (fun ii _ => ds.length - (intOf ii).toNat)
 case atStart =>
  exact ⟨0, v1, g1, Nat.zero_le _, rfl, Lib.hid rC, Lib.hid hlo1, Lib.hid hb1⟩
 case round =>
  clear rC hlo1 hb1
  obtain ⟨i, v, g, hin, rfl, hC, hlo, hbr⟩ := hrel
  obtain ⟨hok, hpl, Uz⟩ := Cr (Ok.new h2) (ds.take i)
  have hle : (ds.take i).length ≤ 60 := by rw [List.length_take]; omega
  have hnl : (dH n).L.length = 0 ∧ (dH n).dr.length = n := ⟨rfl, by simp [dH]⟩
  by_cases hlt : i < ds.length
  ·have b2 : (i : Int) < (ds.length : Int) := by omega
   have wi : IntKind.i64.wrap ((i : Int) + 1) = (i : Int) + 1 := by rw [IntKind.wrap_i64]; omega
   have hrr := hr.out.below hbr.out
   obtain ⟨JY, cap', e0, r1, r2, r3⟩ := hrr
   injection e0 with e1 _ e2
   subst e1 e2
   obtain ⟨B, off, rfl, hB, hcell⟩ := r3 (by omega)
   have hx := fun (j : Nat) (z : Value) (hz : (qw ds[i])[j]? = some z) => hcell i ds[i] j z (List.getElem?_eq_getElem hlt) hz
   have hsn := Jn (dH n) hlt
   generalize hxd : ds[i] = x at *
   have hfx := Ro x (by rw [← hxd]; exact List.getElem_mem hlt)
   obtain ⟨cm, ⟨y1, y2, y3, y4, y5, y6, y7, y8, y9⟩, xi, xt⟩ := x
   have k0 : wr.cell? ⟨B, off + i * 12, none⟩ = some (.bool cm) := hx 0 _ rfl
   have k1 : wr.cell? ⟨B, off + i * 12 + 1, none⟩ = some (.int .i64 y1) := hx 1 _ rfl
   have k2 : wr.cell? ⟨B, off + i * 12 + 1 + 1, none⟩ = some (.int .i64 y2) := (congrArg (fun z => wr.cell? ⟨B, z, none⟩) (show off + i * 12 + 1 + 1 = off + (i * 12 + 2) by omega)).trans (hx 2 _ rfl)
   have k3 : wr.cell? ⟨B, off + i * 12 + 1 + 2, none⟩ = some (.int .i64 y3) := (congrArg (fun z => wr.cell? ⟨B, z, none⟩) (show off + i * 12 + 1 + 2 = off + (i * 12 + 3) by omega)).trans (hx 3 _ rfl)
   have k4 : wr.cell? ⟨B, off + i * 12 + 1 + 3, none⟩ = some (.int .i64 y4) := (congrArg (fun z => wr.cell? ⟨B, z, none⟩) (show off + i * 12 + 1 + 3 = off + (i * 12 + 4) by omega)).trans (hx 4 _ rfl)
   have k5 : wr.cell? ⟨B, off + i * 12 + 1 + 4, none⟩ = some (.int .i64 y5) := (congrArg (fun z => wr.cell? ⟨B, z, none⟩) (show off + i * 12 + 1 + 4 = off + (i * 12 + 5) by omega)).trans (hx 5 _ rfl)
   have k6 : wr.cell? ⟨B, off + i * 12 + 1 + 5, none⟩ = some (.int .i64 y6) := (congrArg (fun z => wr.cell? ⟨B, z, none⟩) (show off + i * 12 + 1 + 5 = off + (i * 12 + 6) by omega)).trans (hx 6 _ rfl)
   have k7 : wr.cell? ⟨B, off + i * 12 + 1 + 6, none⟩ = some (.bool y7) := (congrArg (fun z => wr.cell? ⟨B, z, none⟩) (show off + i * 12 + 1 + 6 = off + (i * 12 + 7) by omega)).trans (hx 7 _ rfl)
   have k8 : wr.cell? ⟨B, off + i * 12 + 1 + 7, none⟩ = some (.int .i64 y8) := (congrArg (fun z => wr.cell? ⟨B, z, none⟩) (show off + i * 12 + 1 + 7 = off + (i * 12 + 8) by omega)).trans (hx 8 _ rfl)
   have k9 : wr.cell? ⟨B, off + i * 12 + 1 + 8, none⟩ = some (.int .i64 y9) := (congrArg (fun z => wr.cell? ⟨B, z, none⟩) (show off + i * 12 + 1 + 8 = off + (i * 12 + 9) by omega)).trans (hx 9 _ rfl)
   have k10 : wr.cell? ⟨B, off + i * 12 + 10, none⟩ = some (.int .i64 xi) := hx 10 _ rfl
   have k11 : wr.cell? ⟨B, off + i * 12 + 10 + 1, none⟩ = some (.int .i64 xt) := hx 11 _ rfl
   clear hx r3 hcell
   have hq := xV ⟨y1, y2, y3, y4, y5, y6, y7, y8, y9⟩ wr
   rw [show (encR ⟨y1, y2, y3, y4, y5, y6, y7, y8, y9⟩).toArray = #[.int .i64 y1, .int .i64 y2, .int .i64 y3, .int .i64 y4, .int .i64 y5, .int .i64 y6, .bool y7, .int .i64 y8, .int .i64 y9] from rfl] at hq
   obtain ⟨M, hM⟩ : ∃ M, M = jY (dH n) (ds.take i) := ⟨_, rfl⟩
   rw [← hM] at hC hok hpl Uz hsn
   go_wp2_with fail
   go_at_call 27
   refine hq.mono ?_
   clear hq k1 k2 k3 k4 k5 k6 k7 k8 k9
   rintro e w2 ⟨b, rfl, hW2, hlb, hb2⟩
   have k0 := (hb2.cell (p := ⟨B, off + i * 12, none⟩) hB).trans k0
   have k10 := (hb2.cell (p := ⟨B, off + i * 12 + 10, none⟩) hB).trans k10
   have k11 := (hb2.cell (p := ⟨B, off + i * 12 + 10 + 1, none⟩) hB).trans k11
   have hC2 := Lib.hid (hC.out.kept hb2)
   have Gy : Hid (Below w.heap.size w w2) := hbr.out.trans (hb2.mono hbr.out.size)
   cases cm with
   | false =>
    have wR := xY hC2.out ⟨y1, y2, y3, y4, y5, y6, y7, y8, y9⟩ hW2 hok (by omega) (by omega) (by omega) hfx.1.node
    rw [show (gH M (toW ⟨y1, y2, y3, y4, y5, y6, y7, y8, y9⟩)).2 = jY (dH n) (ds.take (i + 1)) from hsn.symm] at wR
    go_wp2_with fail
    go_at_call 29
    refine wR.mono ?_
    clear wR
    rintro e w3 ⟨n3, v3, g3, R3, _, _, rfl, Jm, _, _, _, _, hs3⟩
    have l0 := Gy.out.size
    have Gz : w.heap.size ≤ b := Nat.le_trans hbr.out.size hlb
    have hlo3 := Lib.hid (hs3.Rm hlo.out Gz l0)
    have OJ := Lib.hid (Gy.out.trans (hs3.below (rR hlo.out Gz) l0))
    have OL := Lib.hid (Jm.wider (Nat.le_refl _) (show 1000 * (i : Int) + 1000 ≤ 1000 * ((i + 1 : Nat) : Int) by omega))
    clear hs3 Jm
    go_wp2_with fail
    go_roundw
    case rel => exact ⟨i + 1, v3, g3, by omega, by go_num, OL, hlo3, OJ⟩
    case measure => simp [intOf]; omega
   | true =>
    have hX := tJ xi xt w2
    go_wp2_with fail
    go_at_call 28
    refine hX.mono ?_
    clear hX
    rintro e UA ⟨bx, rfl, hX2, hlx, Qn⟩
    have TG := Lib.hid (hC2.out.kept Qn)
    have OM : Hid (Below w.heap.size w UA) := Gy.out.trans (Qn.mono Gy.out.size)
    have wR := tK TG.out xi xt hX2 hok (by omega) (by omega) (by omega) hfx.2.2
    rw [show (dG M xi xt).2 = jY (dH n) (ds.take (i + 1)) from hsn.symm] at wR
    go_wp2_with fail
    go_at_call 29
    refine wR.mono ?_
    clear wR
    rintro e w3 ⟨n3, v3, g3, R3, _, _, rfl, Jm, _, _, _, _, hs3⟩
    have l0 := OM.out.size
    have Gz : w.heap.size ≤ bx := Nat.le_trans Gy.out.size hlx
    have hlo3 := Lib.hid (hs3.Rm hlo.out Gz l0)
    have OJ := Lib.hid (OM.out.trans (hs3.below (rR hlo.out Gz) l0))
    have OL := Lib.hid (Jm.wider (Nat.le_refl _) (show 1000 * (i : Int) + 1000 ≤ 1000 * ((i + 1 : Nat) : Int) by omega))
    clear hs3 Jm
    go_wp2_with fail
    go_roundw
    case rel => exact ⟨i + 1, v3, g3, by omega, by go_num, OL, hlo3, OJ⟩
    case measure => simp [intOf]; omega
  ·have b2 : ¬ (i : Int) < (ds.length : Int) := by omega
   have hi : i = ds.length := by omega
   subst hi
   rw [List.take_length] at hC
   have hC' := hC.out.wider (Nat.le_refl _) (show (1000 * (ds.length : Int)) ≤ 60000 by omega)
   go_wp2_with fail
   go_ret
   exact ⟨c, rfl, ⟨t, d, p, v, g, ⟨hC', hlo.out⟩⟩, hbr.out⟩
end
end Go.Proofs.YtkhfejihijdipaaGreat

namespace Go.Proofs.YtkhfejihijdipaaGreat
open Go.ChangeShapes Go.WideShapes Go.ChangeAt Go.RowKit Go.Lib Go.Sort Go.Deep
section
variable {H : Type} {enc : TypeId × Value → H} {w : World} {base : Nat} {v : Value} {d : DataW H} {ps : List MemPlace}
def PO : List TypeId := [4, 3, 3, 3, 3, 2, 3, 4, 3, 2, 3, 2]
theorem Aj {α : Type} {Ak : α → List Value} {p : α → Prop} : ∀ {l : List (List Value)}, (∀ s ∈ l, ∃ x : α, s = Ak x ∧ p x) → ∃ L : List α, l = L.map Ak ∧ ∀ x ∈ L, p x
 | [], _ => ⟨[], rfl, fun _ h => nomatch h⟩
 | s :: l, h => by
  obtain ⟨x, rfl, hx⟩ := h s List.mem_cons_self
  obtain ⟨L, rfl, hL⟩ := Aj (l := l) fun s hs => h s (List.mem_cons_of_mem _ hs)
  exact ⟨x :: L, rfl, fun y hy => by
   rcases List.mem_cons.1 hy with rfl | hy
   ·exact hx
   ·exact hL y hy⟩
theorem Jo {α : Type} {Ak : α → List Value} {n : Nat} {L : List α} (h : aN id n w v (L.map Ak)) : aN Ak n w v L := by
 obtain ⟨ao, cap, h1, h2, h3, h4⟩ := h
 rw [List.length_map] at h1 h2 h4
 refine ⟨ao, cap, h1, h2, h3, fun hn => ?_⟩
 obtain ⟨b, off, e, hlt, hc⟩ := h4 hn
 exact ⟨b, off, e, hlt, fun i s j u hi hj => hc i (Ak s) j u (by rw [List.getElem?_map, hi]; rfl) hj⟩
theorem L9 (hval : Value.okWide Tryz.prog w .any base 22 v) (hd : DataW.Trod enc Tryz.prog w 0 (fun _ => true) true 22 v d ps) : ∃ l : List De, aN qw 12 w v l ∧ ∀ x ∈ l, wT x := by
 obtain ⟨l, hr, hf⟩ := J8 (n := 3) (ts := PO) Tryz.underlying22 (by kernel_rfl) (by kernel_rfl) (by kernel_rfl) (by decide) hval hd
 obtain ⟨L, rfl, hL⟩ := Aj (Ak := qw) (p := wT) fun s hs => by
  obtain ⟨hl, hf⟩ := hf s hs
  match s, hl with
  | [a0, a1, a2, a3, a4, a5, a6, a7, a8, a9, Vv, Vw], _ =>
   obtain ⟨x0, rfl⟩ := uh hf 0 rfl Tryz.underlying4 rfl
   obtain ⟨x1, rfl, b1⟩ := dN hf 1 rfl Tryz.underlying3 rfl
   obtain ⟨x2, rfl, b2⟩ := dN hf 2 rfl Tryz.underlying3 rfl
   obtain ⟨x3, rfl, b3⟩ := dN hf 3 rfl Tryz.underlying3 rfl
   obtain ⟨x4, rfl, b4⟩ := dN hf 4 rfl Tryz.underlying3 rfl
   obtain ⟨x5, rfl, b5⟩ := dN hf 5 rfl Tryz.underlying2 rfl
   obtain ⟨x6, rfl, b6⟩ := dN hf 6 rfl Tryz.underlying3 rfl
   obtain ⟨x7, rfl⟩ := uh hf 7 rfl Tryz.underlying4 rfl
   obtain ⟨x8, rfl, b8⟩ := dN hf 8 rfl Tryz.underlying3 rfl
   obtain ⟨x9, rfl, b9⟩ := dN hf 9 rfl Tryz.underlying2 rfl
   obtain ⟨H9, rfl, b10⟩ := dN hf 10 rfl Tryz.underlying3 rfl
   obtain ⟨Sk, rfl, b11⟩ := dN hf 11 rfl Tryz.underlying2 rfl
   exact ⟨⟨x0, ⟨x1, x2, x3, x4, x5, x6, x7, x8, x9⟩, H9, Sk⟩, rfl, ⟨b1, b2, b3, b4, b5, b6, b8, b9⟩, b10, b11⟩
 exact ⟨L, Jo hr, hL⟩
end
end Go.Proofs.YtkhfejihijdipaaGreat

namespace Go.Proofs.YtkhfejihijdipaaGreat
open Go.RowKit Go.Lib Go.Sort
section
variable {w : World} {u : Value} {l : List De}
theorem OO {n : Int} {r : Rq} (h : ¬ (r.kind = 1 ∧ 0 ≤ r.user ∧ r.user ≤ 255 ∧ 0 ≤ r.prio ∧ r.prio ≤ 1000 ∧ n < r.width ∧ r.width ≤ 64)) : jI n r = 0 := by
 refine if_neg fun hc => h ?_
 obtain ⟨h1, h2, h3, h4⟩ := hc
 by_cases hb : r.user < 0 ∨ 255 < r.user ∨ r.prio < 0 ∨ 1000 < r.prio
 ·have hR : aK r = 1 := by unfold aK; (repeat' split) <;> omega
  exact absurd hR h4
 ·omega
theorem Ma {n : Int} {r : Rq} (h : r.kind = 1 ∧ 0 ≤ r.user ∧ r.user ≤ 255 ∧ 0 ≤ r.prio ∧ r.prio ≤ 1000 ∧ n < r.width ∧ r.width ≤ 64) : jI n r = 9 := by
 have hR : aK r ≠ 1 := by unfold aK; (repeat' split) <;> omega
 exact if_pos ⟨h.1, h.2.2.2.2.2.1, h.2.2.2.2.2.2, hR⟩
theorem GA (h : aN qw 12 w u l) (hfit : ∀ x ∈ l, wT x) (n : Int) (r : Rq) : Calls Tryz.prog 6 #[.int .i64 n, u, .agg (encR r).toArray] w fun e w' => e = .returned (.bool true) ∧ Below w.heap.size w w' := by
 have zR := jT
 obtain ⟨k9, bT⟩ : ∃ k, k = 9 := ⟨_, rfl⟩
 rw [← bT] at zR
 have hk0 : ¬ k9 = 0 := by omega
 have lR := gN r
 rw [← bT] at lR
 replace bT := Lib.hid bT
 obtain ⟨wA, aP⟩ : ∃ wA, wA = w.alloc (.cells (encR r).toArray 33) := ⟨_, rfl⟩
 have df : Below w.heap.size w wA := by rw [aP]; exact (Below.refl _ _).alloc (Nat.le_refl _) _
 have hsA : wA.heap.size = w.heap.size + 1 := by rw [aP]; simp
 have pI : wA.heap[w.heap.size]? = some (.cells (encR r).toArray 33 (0, 0)) := by rw [aP]; exact heap_alloc_new w _
 have PQ := h.below df
 by_cases hn : n < 1 ∨ 64 < n
 ·have hm := L8 PQ n hn
  have haw := Cq wA
  have hbw := fun (w' : World) (hb : Below wA.heap.size wA w') => df.trans (hb.mono df.size)
  rw [aP] at hm
  generalize encR r = cR at *
  clear pI PQ h
  go_enter Tryz.func6, Tryz.ntmps6
  go_wp2_with fail
  go_at_call 14
  refine hm.mono ?_
  clear hm
  rw [← aP]
  rintro e w1 ⟨rfl, rfl⟩
  by_cases h1 : n < 1
  ·have d1 : decide (n < 1) = true := decide_eq_true h1
   go_wp2_with fail
   go_at_call 10
   rw [← aP]
   refine haw.mono ?_
   clear haw
   rintro e w2 ⟨rfl, hb2⟩
   go_wp2_with fail
   go_ret
   exact ⟨rfl, hbw w2 hb2⟩
  ·have d1 : decide (n < 1) = false := decide_eq_false h1
   have d2 : decide (64 < n) = true := decide_eq_true (by omega)
   go_wp2_with fail
   go_at_call 10
   rw [← aP]
   refine haw.mono ?_
   clear haw
   rintro e w2 ⟨rfl, hb2⟩
   go_wp2_with fail
   go_ret
   exact ⟨rfl, hbw w2 hb2⟩
 ·obtain ⟨N, rfl⟩ := Int.eq_ofNat_of_zero_le (show 0 ≤ n by omega)
  have hm := OI PQ hfit N (by omega) (by omega)
  obtain ⟨M, hM⟩ : ∃ M, M = jY (dH N) (l.take 60) := ⟨_, rfl⟩
  have hpl := Cr (Ok.new (show N ≤ 64 by omega)) (l.take 60)
  rw [← hM] at hm hpl
  have hdr : M.dr.length = N := by rw [hpl.2.2]; simp [dH]
  have Oa := zT hpl.1.inv (by omega)
  have hbw := fun (w1 w2 w3 : World) (hb1 : Below wA.heap.size wA w1) (hb2 : Below w1.heap.size w1 w2) (hb3 : Below w2.heap.size w2 w3) => df.trans (((hb1.trans ((hb2.trans (hb3.mono hb2.size)).mono hb1.size))).mono df.size)
  obtain ⟨x1, x2, x3, x4, x5, x6, x7, x8, x9⟩ := r
  have Al := Ma (n := (N : Int)) (r := ⟨x1, x2, x3, x4, x5, x6, x7, x8, x9⟩)
  have rT := OO (n := (N : Int)) (r := ⟨x1, x2, x3, x4, x5, x6, x7, x8, x9⟩)
  simp only at Al rT
  obtain ⟨x, hx⟩ : ∃ x : Rq, x = ⟨x1, x2, x3, x4, x5, x6, x7, x8, x9⟩ := ⟨_, rfl⟩
  have hcell : Hid (∀ w1, Below wA.heap.size wA w1 → w1.cell? ⟨w.heap.size, 0, none⟩ = some (.int .i64 x1) ∧ w1.cell? ⟨w.heap.size, 2, none⟩ = some (.int .i64 x3) ∧ w1.cell? ⟨w.heap.size, 5, none⟩ = some (.int .i64 x6) ∧ w1.cell? ⟨w.heap.size, 3, none⟩ = some (.int .i64 x4) ∧ Sem.run Tryz.prog (loadCellsFrom ⟨w.heap.size, 0, none⟩ 0 k9 #[]) w1 = .ok (encR x).toArray w1) := fun w1 hb => by
   have hz1 := (hb.block w.heap.size (by omega)).trans pI
   have ld := eF hz1 lR
   rw [hx]
   refine ⟨?_, ?_, ?_, ?_, ld⟩ <;> (simp [World.cell?, hz1]; rfl)
  have TH : Hid (∀ (w1 : World) (c t d p : Nat) (v : Value) (g a : Nat) (m : Int), CW w1 c t d p v g a m (aj M) → Calls Tryz.prog 30 #[.pointer (some ⟨c, 0, none⟩), .agg (encR x).toArray] w1 fun e w' => e = .returned (.int .i64 (jI N x)) ∧ Below w1.heap.size w1 w') := fun w1 c t d p v g a m hC => by
   have := pE hC Oa x
   rw [show (aj M).T = bU M from rfl, aZ, hdr] at this
   exact this
  rw [← hx] at Al rT
  rw [aP] at hm
  rw [← hx] at aP pI lR hm ⊢
  replace hx := Lib.hid hx
  generalize hcR : encR x = cR at *
  replace hcR := Lib.hid hcR
  clear pI PQ h
  go_enter Tryz.func6, Tryz.ntmps6
  go_wp2_with fail
  go_at_call 14
  refine hm.mono ?_
  clear hm
  rw [← aP]
  rintro e w1 ⟨c, t, d, p, v, g, rfl, ⟨hC, _⟩, hb1⟩
  have hw := TH.out w1 c t d p v g _ _ hC
  have haw := fun w2 => Cq w2
  obtain ⟨q0, q2, q5, q3, ld⟩ := hcell.out w1 hb1
  clear TH hcell hC
  by_cases e1 : x1 = 1
  rotate_left
  ·have d1 : decide (x1 = 1) = false := decide_eq_false e1
   rw [rT (fun h => e1 h.1)] at hw
   clear Al rT
   go_wp2_with fail
   go_at_call 30
   refine hw.mono ?_
   clear hw ld q0 q2 q5 q3
   rintro e w2 ⟨rfl, hb2⟩
   have jq := haw w2
   clear haw
   go_wp2_with fail
   go_at_call 10
   refine jq.mono ?_
   clear jq
   rintro e w3 ⟨rfl, hb3⟩
   go_wp2_with fail
   go_ret
   exact ⟨rfl, hbw w1 w2 w3 hb1 hb2 hb3⟩
  have d1 : decide (x1 = 1) = true := decide_eq_true e1
  by_cases e2 : 0 ≤ x3
  rotate_left
  ·have d2 : decide (0 ≤ x3) = false := decide_eq_false e2
   rw [rT (fun h => e2 h.2.1)] at hw
   clear Al rT
   go_wp2_with fail
   go_at_call 30
   refine hw.mono ?_
   clear hw ld q0 q2 q5 q3
   rintro e w2 ⟨rfl, hb2⟩
   have jq := haw w2
   clear haw
   go_wp2_with fail
   go_at_call 10
   refine jq.mono ?_
   clear jq
   rintro e w3 ⟨rfl, hb3⟩
   go_wp2_with fail
   go_ret
   exact ⟨rfl, hbw w1 w2 w3 hb1 hb2 hb3⟩
  have d2 : decide (0 ≤ x3) = true := decide_eq_true e2
  by_cases e3 : x3 ≤ 255
  rotate_left
  ·have d3 : decide (x3 ≤ 255) = false := decide_eq_false e3
   rw [rT (fun h => e3 h.2.2.1)] at hw
   clear Al rT
   go_wp2_with fail
   go_at_call 30
   refine hw.mono ?_
   clear hw ld q0 q2 q5 q3
   rintro e w2 ⟨rfl, hb2⟩
   have jq := haw w2
   clear haw
   go_wp2_with fail
   go_at_call 10
   refine jq.mono ?_
   clear jq
   rintro e w3 ⟨rfl, hb3⟩
   go_wp2_with fail
   go_ret
   exact ⟨rfl, hbw w1 w2 w3 hb1 hb2 hb3⟩
  have d3 : decide (x3 ≤ 255) = true := decide_eq_true e3
  by_cases e4 : 0 ≤ x6
  rotate_left
  ·have d4 : decide (0 ≤ x6) = false := decide_eq_false e4
   rw [rT (fun h => e4 h.2.2.2.1)] at hw
   clear Al rT
   go_wp2_with fail
   go_at_call 30
   refine hw.mono ?_
   clear hw ld q0 q2 q5 q3
   rintro e w2 ⟨rfl, hb2⟩
   have jq := haw w2
   clear haw
   go_wp2_with fail
   go_at_call 10
   refine jq.mono ?_
   clear jq
   rintro e w3 ⟨rfl, hb3⟩
   go_wp2_with fail
   go_ret
   exact ⟨rfl, hbw w1 w2 w3 hb1 hb2 hb3⟩
  have d4 : decide (0 ≤ x6) = true := decide_eq_true e4
  by_cases e5 : x6 ≤ 1000
  rotate_left
  ·have d5 : decide (x6 ≤ 1000) = false := decide_eq_false e5
   rw [rT (fun h => e5 h.2.2.2.2.1)] at hw
   clear Al rT
   go_wp2_with fail
   go_at_call 30
   refine hw.mono ?_
   clear hw ld q0 q2 q5 q3
   rintro e w2 ⟨rfl, hb2⟩
   have jq := haw w2
   clear haw
   go_wp2_with fail
   go_at_call 10
   refine jq.mono ?_
   clear jq
   rintro e w3 ⟨rfl, hb3⟩
   go_wp2_with fail
   go_ret
   exact ⟨rfl, hbw w1 w2 w3 hb1 hb2 hb3⟩
  have d5 : decide (x6 ≤ 1000) = true := decide_eq_true e5
  by_cases e6 : (N : Int) < x4
  rotate_left
  ·have d6 : decide ((N : Int) < x4) = false := decide_eq_false e6
   rw [rT (fun h => e6 h.2.2.2.2.2.1)] at hw
   clear Al rT
   go_wp2_with fail
   go_at_call 30
   refine hw.mono ?_
   clear hw ld q0 q2 q5 q3
   rintro e w2 ⟨rfl, hb2⟩
   have jq := haw w2
   clear haw
   go_wp2_with fail
   go_at_call 10
   refine jq.mono ?_
   clear jq
   rintro e w3 ⟨rfl, hb3⟩
   go_wp2_with fail
   go_ret
   exact ⟨rfl, hbw w1 w2 w3 hb1 hb2 hb3⟩
  have d6 : decide ((N : Int) < x4) = true := decide_eq_true e6
  by_cases e7 : x4 ≤ 64
  rotate_left
  ·have d7 : decide (x4 ≤ 64) = false := decide_eq_false e7
   rw [rT (fun h => e7 h.2.2.2.2.2.2)] at hw
   clear Al rT
   go_wp2_with fail
   go_at_call 30
   refine hw.mono ?_
   clear hw ld q0 q2 q5 q3
   rintro e w2 ⟨rfl, hb2⟩
   have jq := haw w2
   clear haw
   go_wp2_with fail
   go_at_call 10
   refine jq.mono ?_
   clear jq
   rintro e w3 ⟨rfl, hb3⟩
   go_wp2_with fail
   go_ret
   exact ⟨rfl, hbw w1 w2 w3 hb1 hb2 hb3⟩
  have d7 : decide (x4 ≤ 64) = true := decide_eq_true e7
  rw [Al ⟨e1, e2, e3, e4, e5, e6, e7⟩] at hw
  clear Al rT
  go_wp2_with fail
  go_at_call 30
  refine hw.mono ?_
  clear hw ld q0 q2 q5 q3
  rintro e w2 ⟨rfl, hb2⟩
  have jq := haw w2
  clear haw
  go_wp2_with fail
  go_at_call 10
  refine jq.mono ?_
  clear jq
  rintro e w3 ⟨rfl, hb3⟩
  go_wp2_with fail
  go_ret
  exact ⟨rfl, hbw w1 w2 w3 hb1 hb2 hb3⟩
theorem Jp (n : Int) (u : Value) (l : List De) (r : Rq) (w : World) (_ : -9223372036854775808 ≤ n ∧ n ≤ 9223372036854775807) (h : aN qw 12 w u l) (hf : ∀ x ∈ l, wT x) (_ : GN r) : Calls Tryz.prog 6 #[.int .i64 n, u, .agg (encR r).toArray] w fun e w' => e = .returned (.bool true) ∧ Below w.heap.size w w' := GA h hf n r
end
end Go.Proofs.YtkhfejihijdipaaGreat


namespace Go.Proofs.YtkhfejihijdipaaGreat.coreWants
open Go.ChangeShapes Go.WideShapes Go.ChangeAt Go.RowKit
theorem own : ownKnob Tryz.prog.godebug = none := by kernel_rfl
theorem laid : laidOutB Tryz.prog = true := by kernel_rfl
theorem readable : (Tryz.f6.params.toList.all fun t => Tryz.prog.readableRec t && decide (t < Tryz.prog.types.size)) = true := by kernel_rfl
theorem lifted (os : Os) (started : os.Started) (H : Type) (enc : TypeId × Value → H) :
  ReturnsInHanded {} Tryz.checked os 6 .any (Rows.coreWantsSpec.pre6 enc Tryz.prog Tryz.f6 Rows.coreWantsRow.domain false) (Rows.coreWantsSpec.post enc Tryz.prog Tryz.f6 false true false false) := by
 refine returnsInHanded_of_change (C := Tryz.checked) own started (by kernel_rfl) Tryz.func6
  (ChangeSpec.witness6 (enc := enc) (C := Tryz.checked) false ⟨#[], #[.int .i64 0, .slice none 0 0, .agg #[.int .i64 0, .int .i64 0, .int .i64 0, .int .i64 0, .int .i64 0, .int .i64 0, .bool false, .int .i64 0, .int .i64 0]], []⟩ 8 (by kernel_rfl) (by kernel_rfl) (by kernel_rfl) (by kernel_rfl)) ?_
 intro W base args ds gs before hval0 hW hcnd _
 have hval : ∀ (j : Nat) t v, Tryz.f6.params[j]? = some t → args[j]? = some v → Value.okWide Tryz.prog W .any base t v := hval0
 have hW' := hW
 obtain ⟨p, q, O4, hV, hpq, hfz, hnd⟩ := hW
 have hA : DataW.TrodAll enc Tryz.prog W 0 (fun _ => true) true Tryz.f6.params.toList args.toList ds p := O4
 rw [Tryz.params6] at hA hval
 obtain ⟨v0, Vx, d0, ds0, p0, q0, hargs, rfl, rfl, h0, r0⟩ := trodAll_cons hA
 obtain ⟨v1, vs1, d1, ds1, p1, q1, rfl, rfl, rfl, h1, r1⟩ := trodAll_cons r0
 obtain ⟨v2, vs2, d2, Vy, p2, q2, rfl, rfl, rfl, h2, r2⟩ := trodAll_cons r1
 obtain ⟨rfl, rfl, rfl⟩ := trodAll_nil r2
 obtain rfl : args = #[v0, v1, v2] := by cases args; simp_all
 obtain ⟨rfl, rfl⟩ := trodVars_none hV
 obtain ⟨a0, rfl, rfl, rfl, w0⟩ := open_int Tryz.underlying3 (hval 0 3 v0 rfl rfl) h0
 obtain ⟨l1, hl1, hf1⟩ := L9 (hval 1 22 v1 rfl rfl) h1
 obtain ⟨l2, rfl, hf2⟩ := J9 (hval 2 33 v2 rfl rfl) h2
 clear O4 hval0
 refine (Jp a0 v1 l1 l2 W (bounds_i64 w0) hl1 hf1 hf2).mono fun e W' ⟨he, hg⟩ => ?_
 subst he
 exact ⟨_, rfl, JX hW' rfl rfl rfl Tryz.underlying4 laid (OP readable) hg⟩
theorem over : Rows.coreWantsRow.holds Tryz.pinned (OpenSpec.ofChange Rows.coreWantsSpec) :=
 OpenClaim.holds_of_wide 6 Tryz.f6 rfl rfl rfl rfl rfl rfl rfl ⟨rfl, rfl, rfl, rfl, rfl⟩ rfl rfl rfl rfl rfl (by kernel_rfl) Tryz.func6 (by kernel_rfl)
  (of_decide_eq_true (by kernel_rfl)) (by unfold Func.isWrapper; first | (rw [if_pos (by decide +kernel)]; kernel_rfl) | (rw [if_neg (by decide +kernel)]; exact ⟨rfl, rfl⟩))
  (fun os started H enc _ => lifted os started H enc)
theorem proved : Rows.CoreWantsSaid := over
#print axioms proved
end Go.Proofs.YtkhfejihijdipaaGreat.coreWants
