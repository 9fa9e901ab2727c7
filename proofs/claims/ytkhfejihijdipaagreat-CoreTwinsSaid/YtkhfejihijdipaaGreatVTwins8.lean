/-
 CoreTwins of the Go text returns true for every input, and each argument reads afterwards as it read before. No condition.
-/
import Derived.LaidEql
import Derived.Laws.StructEq
import Derived.Test.YtkhfejihijdipaaGreatRows
import Derived.ProofKit
import Derived.OpenShut
import Derived.Test.YtkhfejihijdipaaGreatVTwins7
set_option maxRecDepth 1000000
set_option maxHeartbeats 8000000
set_option linter.all false
namespace Go.Proofs.YtkhfejihijdipaaGreat
open Go.RowKit Go.Lib Go.Sort
structure Bg (w0 w : World) (b c t d p : Nat) (v0 : Value) (g0 : Nat) (v : Value) (g a : Nat) (m mx : Int) (R : Wk) (M : Md) : Prop where
 sw : SW w b c t d p v g a m R (aj M)
 left : R.left = eU 64
 inv : aB M
 calm : Calm M
 cl : M.cl = false
 one : 1 ≤ M.dr.length
 few : M.L.length ≤ 190
 ha : a ≤ 1 + 2 * M.L.length
 hm : m + 1000 ≤ mx
 hmx : mx ≤ 1000000
 ok : R.ok = false
 ws : WS w0 w b c t d p v0 g0 v g
section
variable {L : List Jb} {id : Int} {ok : Jb → Bool} {ch : Jb → Jb} {M : Md}
theorem wy (L : List Jb) (i : Nat) : L[i]! = L.getD i default := by rw [List.getElem!_eq_getElem?_getD, List.getD_eq_getElem?_getD]
theorem su (h : ¬ (id < 1 ∨ (L.length : Int) < id)) : bE L id = L.getD (id - 1).toNat default := by
 unfold bE
 rw [if_neg (by omega), if_neg (by omega), wy]
theorem xz (h : id < 1 ∨ (L.length : Int) < id) : bD L 0 id ok = 7 := by
 unfold bD
 rw [if_neg (by decide)]
 split
 ·rfl
 ·rw [if_pos (by omega)]
theorem AB (h : ¬ (id < 1 ∨ (L.length : Int) < id)) (ho : ok (L.getD (id - 1).toNat default) = false) : bD L 0 id ok = 8 := by
 unfold bD
 rw [if_neg (by decide), if_neg (by omega), if_neg (by omega), wy, ho]
 rfl
theorem tN (h : ¬ (id < 1 ∨ (L.length : Int) < id)) (ho : ok (L.getD (id - 1).toNat default) = true) : bD L 0 id ok = 0 := by
 unfold bD
 rw [if_neg (by decide), if_neg (by omega), if_neg (by omega), wy, ho]
 rfl
theorem nP {e0 : Int} (h : bD L e0 id ok = 0) : bS L e0 id ok ch = L.set (id - 1).toNat (ch (L.getD (id - 1).toNat default)) := by
 unfold bS
 rw [if_pos h, wy]
theorem CO (h : id < 1 ∨ (M.L.length : Int) < id) : getM M id = (default, false) := if_pos h
theorem wC (h : ¬ (id < 1 ∨ (M.L.length : Int) < id)) : getM M id = (M.L.getD (id - 1).toNat default, true) := if_neg h
theorem xG {x : Jb} (h : ¬ (id < 1 ∨ (L.length : Int) < id)) : bE (L.set (id - 1).toNat x) id = x := by
 rw [su (by rw [List.length_set]; exact h), fE, if_pos ⟨rfl, by omega⟩]
theorem ve (r : Rw) (h : r.id < 1 ∨ (M.L.length : Int) < r.id) : fo M r = (fD 7, M) := by
 unfold fo
 rw [CO h]
 exact if_pos rfl
theorem MC (r : Rw) (h : r.id < 1 ∨ (M.L.length : Int) < r.id) : kT M r = (fD 7, M) := by
 unfold kT
 rw [CO h]
 exact if_pos rfl
end
section
variable {w0 w : World} {b c t d p g g0 a N : Nat} {v v0 : Value} {m mx : Int} {P : Pg} {M M' : Md} {R : Wk} {Q : World → Prop}
theorem JB (h : SW w b c t d p v g a m R (aj M)) (hl : R.left = eU 64) (hc : M.cl = true) (ha : a ≤ 800) (hm : m ≤ mx) (hw : WS w0 w b c t d p v0 g0 v g) :
  Goes b c 1000 w (Fin w0 b c t d p v0 g0 mx M (oC (fD 12)) false) :=
 aV (N := 999) aZ (Bt h hc) h hl rfl ha hm hw rfl rfl rfl
theorem JC (h : Bg w0 w b c t d p v0 g0 v g a m mx R M) (hq : ¬ (1 ≤ R.ag.kind ∧ R.ag.kind ≤ 13)) :
  Goes b c 1000 w (Fin w0 b c t d p v0 g0 mx M (oC (fD 4)) false) :=
 aV (N := 999) aZ (GQ h.sw h.cl hq) h.sw h.left rfl (by have := h.ha; have := h.few; omega) (by have := h.hm; omega) h.ws rfl rfl rfl
theorem eY {k k' a' : Nat} {m' : Int} {R' : Wk} {P' : Pg} (hk : ∀ args w, Sem.run Tryz.prog (callFunc k args) w = .ok (.enter k args) w)
  (hp : Calls Tryz.prog k #[.pointer (some ⟨b, 0, none⟩), .pointer (some ⟨c, 0, none⟩)] w (au w b c t d p v g a' m' (eU k') R' P'))
  (h : SW w b c t d p v g a m R P) (hl : R.left = eU k) (hl' : R'.left = R.left)
  (hn : ∀ w' v' g', SW w' b c t d p v' g' a' m' { R' with left := eU k' } P' → WS w w' b c t d p v g v' g' → Goes b c N w' Q) : Goes b c (N + 1) w Q :=
 uZ h hl (hl'.trans hl) hk hp hn
theorem Bu (h : Bg w0 w b c t d p v0 g0 v g a m mx R M) (hk : R.ag.kind = 4) :
  Goes b c 1000 w (Fin w0 b c t d p v0 g0 mx (fo M (toW R.ag)).2 (oC (fo M (toW R.ag)).1) false) := by
 have hll := h.few
 have ha := h.ha
 have hm := h.hm
 have hrd : iZ R.ag.kind = false := by rw [hk]; rfl
 have iO : ∀ {L : Value} {a' : Nat} {m' : Int} {R' : Wk} {P' : Pg}, Calls Tryz.prog 120 #[.pointer (some ⟨b, 0, none⟩), .pointer (some ⟨c, 0, none⟩)] w (au w b c t d p v g a' m' L R' P') → Calls Tryz.prog 64 #[.pointer (some ⟨b, 0, none⟩), .pointer (some ⟨c, 0, none⟩)] w (au w b c t d p v g a' m' L R' P') := fun hn => fe h.sw h.cl (by rw [hk]; decide) hrd (Mo h.sw hk hn)
 by_cases hid : R.ag.id < 1 ∨ (M.L.length : Int) < R.ag.id
 ·rw [ve (toW R.ag) hid]
  exact aV (N := 999) aZ (iO (vY h.sw 7 (by decide) (xz hid))) h.sw h.left rfl (by omega) (by omega) h.ws rfl rfl rfl
 ·have hi : (R.ag.id - 1).toNat < M.L.length := by omega
  have hmem := aW hi
  have eM := wC (M := M) hid
  by_cases hs : (M.L.getD (R.ag.id - 1).toNat default).st = 2
  ·have hE : bD M.L 0 R.ag.id (fun j : Jb => decide (j.state = 2)) = 0 := tN hid (decide_eq_true hs)
   have hr := Gz h.sw hE
   have eL : bS (aj M).J 0 R.ag.id (fun j : Jb => decide (j.state = 2)) nH = M.L.set (R.ag.id - 1).toNat ((M.L.getD (R.ag.id - 1).toNat default).setSt 1) := nP hE
   rw [eL, xG hid] at hr
   generalize hx : M.L.getD (R.ag.id - 1).toNat default = x at *
   have bo := h.inv.one _ hmem
   have bw := h.inv.mb.wid _ hmem
   have bl := h.inv.mb.lim _ hmem
   have bf := h.inv.mb.fin _ hmem
   have bn := h.inv.mb.bF _ hmem
   have hp : x.aK = -1 := h.inv.rest _ hmem (by omega)
   have hpl : ak (x.setSt 1) = false := by unfold ak; simp [show (x.setSt 1).aK = -1 from hp]
   have hI1 : aB { M with L := M.L.set (R.ag.id - 1).toNat (x.setSt 1) } :=
    h.inv.set (i := (R.ag.id - 1).toNat) (y := x.setSt 1) (h.inv.mb.set _ _ bw bl (by show -1 ≤ x.aK ∧ x.aK ≤ _; omega) bf bn) (by rw [hx]; rfl) ⟨bo.1, bo.2.1, bo.2.2.1, (show (1 : Int) ≤ 1 by omega), (show (1 : Int) ≤ 6 by omega)⟩ (fun _ => hp) (fun e => absurd (show (1 : Int) = 3 from e) (by decide)) (.inl hp) (h.inv.kD.set hi fun n e => by unfold aD at e; simp [Jb.setSt, Jb.st] at e)
     fun t ht => lN h.inv hi (by rw [hx]; exact ⟨fun e => absurd (show (1 : Int) = 3 from e) (by decide), fun e => by omega⟩) (by rw [hx]; rfl) (by rw [hx]; rfl) hpl t ht
   have hP : ({ aj M with J := M.L.set (R.ag.id - 1).toNat (x.setSt 1) } : Pg) = aj { M with L := M.L.set (R.ag.id - 1).toNat (x.setSt 1) } := by
    have h3 : ((x.setSt 1).st = 3) ↔ ((M.L.getD (R.ag.id - 1).toNat default).st = 3) := by rw [hx]; exact ⟨fun e => absurd (show (1 : Int) = 3 from e) (by decide), fun e => by omega⟩
    have e1 : bW M = bW { M with L := M.L.set (R.ag.id - 1).toNat (x.setSt 1) } := by
     refine nO (by rw [bq, bq]) fun n hn => ?_
     rw [bU, bU, nZ hi h3 (by rw [hx]; rfl)]
    have e2 : (fun t => ay M t 0) = fun t => ay { M with L := M.L.set (R.ag.id - 1).toNat (x.setSt 1) } t 0 := by
     funext t
     rw [qf hi h3 (by rw [hx]; rfl) (by rw [hx]; rfl), dC hpl, hx, dC (by unfold ak; simp [hp])]
     omega
    show Pg.mk _ _ (bW M) (fun t => ay M t 0) _ = _
    rw [e1, e2]
    rfl
   rw [hP] at hr
   have e : fo M (toW R.ag) = (mf (x.setSt 1), dZ { M with L := M.L.set (R.ag.id - 1).toNat (x.setSt 1) } (x.setSt 1)) := by
    have hj : ed (toW R.ag).kind x = x.setSt 1 := by unfold ed; rw [show (toW R.ag).kind = 4 from hk]; rfl
    unfold fo
    rw [show (toW R.ag).id = R.ag.id from rfl, eM]
    refine (if_neg (fun e => nomatch e)).trans ((if_neg ?_).trans ((if_pos hk).trans ?_))
    ·show ¬ ((R.ag.kind = 3 ∧ x.st ≠ 1) ∨ (R.ag.kind = 4 ∧ x.st ≠ 2))
     omega
    ·show (mf (ed (toW R.ag).kind x), dZ { M with L := M.L.set (R.ag.id - 1).toNat (ed (toW R.ag).kind x) } (ed (toW R.ag).kind x)) = _
     rw [hj]
   rw [e]
   refine (eY (N := 901) (k := 64) (k' := 135) aZ (iO hr) h.sw h.left rfl fun w' v' g' hS' hw' => ?_).more (show 902 ≤ 1000 by decide)
   have hL : (M.L.set (R.ag.id - 1).toNat (x.setSt 1)).length = M.L.length := List.length_set
   have Ug := AA (x.setSt 1) (M.L.set (R.ag.id - 1).toNat (x.setSt 1))
   have hidx : x.id = (((R.ag.id - 1).toNat : Nat) : Int) + 1 := by rw [← hx]; exact h.inv.ids _ hi
   have := sj (M := { M with L := M.L.set (R.ag.id - 1).toNat (x.setSt 1) }) (M' := dZ { M with L := M.L.set (R.ag.id - 1).toNat (x.setSt 1) } (x.setSt 1)) (R := { ({ R with aA := x.setSt 1, rep := iB (x.setSt 1) } : Wk) with left := eU 135 }) (w0 := w0) (b := b) (c := c) (t := t) (d := d) (p := p) (v0 := v0) (g0 := g0) (mx := mx) rfl (by show x.id ≠ 0; omega) h.one (by show (M.L.set (R.ag.id - 1).toNat (x.setSt 1)).length ≤ 900; omega) h.hmx 900 (L := M.L.set (R.ag.id - 1).toNat (x.setSt 1)) rfl (by show hits (x.setSt 1) _ ≤ 900; omega) hI1 rfl hS' (by show a + 2 * hits (x.setSt 1) _ ≤ 800; omega) (by show m + (hits (x.setSt 1) _ : Nat) ≤ mx; omega) (h.ws.trans hw')
   rw [show ({ ({ R with aA := x.setSt 1, rep := iB (x.setSt 1) } : Wk) with left := eU 135 } : Wk).ok = false from h.ok] at this
   exact this
  ·have hE : bD M.L 0 R.ag.id (fun j : Jb => decide (j.state = 2)) = 8 := AB hid (decide_eq_false hs)
   have e : fo M (toW R.ag) = (fD 8, M) := by
    unfold fo
    rw [show (toW R.ag).id = R.ag.id from rfl, eM]
    exact (if_neg (fun e => nomatch e)).trans (if_pos (.inr ⟨hk, hs⟩))
   rw [e]
   exact aV (N := 999) aZ (iO (vY h.sw 8 (by decide) hE)) h.sw h.left rfl (by omega) (by omega) h.ws rfl rfl rfl
end
end Go.Proofs.YtkhfejihijdipaaGreat

namespace Go.Proofs.YtkhfejihijdipaaGreat
open Go.RowKit Go.Lib Go.Sort
section
variable {w0 w : World} {b c t d p g g0 a N : Nat} {v v0 : Value} {m mx : Int} {P : Pg} {M M' : Md} {R : Wk} {Q : World → Prop}
theorem CP {i : Nat} {y : Jb} (hi : i < M.L.length) (hs : (M.L.getD i default).st ≠ 3) (hy : y.st ≠ 3) (hy2 : y.bF = (M.L.getD i default).bF) (hy3 : y.fin = (M.L.getD i default).fin) (hyp : ak y = false)
  (hI : aB M) (hI1 : aB { M with L := M.L.set i y }) (h1 : 1 ≤ M.dr.length) (hll : M.L.length ≤ 900) (ha : a ≤ 700) (hm : m + 1 ≤ mx) (hmx : mx ≤ 1000000)
  (h : SW w b c t d p v g a m R { aj M with J := M.L.set i y }) (hl : R.left = eU 139) (hj : R.aA = M.L.getD i default) (hw : WS w0 w b c t d p v0 g0 v g) :
  Goes b c (N + 1) w (Fin w0 b c t d p v0 g0 mx { M with L := M.L.set i y } R.rep R.ok) := by
 have hmem := aW hi
 have bo := hI.one _ hmem
 have bw := hI.mb.wid _ hmem
 have bl := hI.mb.lim _ hmem
 have bp := hI.mb.aK _ hmem
 have hst : (y.st = 3) ↔ ((M.L.getD i default).st = 3) := ⟨fun e => absurd e hy, fun e => absurd e hs⟩
 have dm := dX hI h1 hll
 have kR := dX hI1 h1 (by rw [List.length_set]; exact hll)
 have oO : PK { aj M with J := M.L.set i y } := ⟨dm.now, kR.few, kR.st, kR.lim, dm.pW, dm.f⟩
 have eT : bW M = bW { M with L := M.L.set i y } := by
  refine nO (by rw [bq, bq]) fun n hn => ?_
  rw [bU, bU, nZ hi hst hy2]
 have ef : ∀ t, ay { M with L := M.L.set i y } t 0 = ay M t 0 + dB t 0 (M.L.getD i default) := fun t => by
  rw [qf hi hst hy2 hy3, dC hyp]
  omega
 have eP : ∀ F : Int → Int, F = (fun t => ay { M with L := M.L.set i y } t 0) → ({ aj M with J := M.L.set i y, f := F } : Pg) = aj { M with L := M.L.set i y } := fun F hF => by
  show Pg.mk _ _ (bW M) F _ = _
  rw [eT, hF]
  rfl
 cases hp : ak (M.L.getD i default) with
 | true =>
  have hv := El h oO (by omega) (by omega) (by rw [hj]; exact hp) (by rw [hj]; exact bp.2) (by rw [hj]; exact bl) (by rw [hj]; exact bo.2.2.1) (by rw [hj]; exact bw) (fun t => ay { M with L := M.L.set i y } t 0) (fun t ht => by
   rw [hj]
   have hu := qD hI hi hp t
   rw [iG hi, dC (j := (M.L.getD i default).aC (-1)) (by unfold ak; simp [Jb.aC, Jb.aK])] at hu
   show ay { M with L := M.L.set i y } t 0 = ay M t 0 + had (max (M.L.getD i default).aK M.now) ((M.L.getD i default).aK + (M.L.getD i default).lim) (M.L.getD i default).wid t
   rw [ef]
   omega) (fun t ht => kR.f t ht)
  have e := eP (fun t => ay { M with L := M.L.set i y } t 0) rfl
  rw [e] at hv
  exact aV (a' := a + 2) (m' := m + 1) u7 hv h hl rfl (by omega) (by omega) hw rfl rfl rfl
 | false =>
  have hv := En h oO (by omega) (by omega) (by rw [hj]; exact hp) (by rw [hj]; exact hs) (by rw [hj]; exact bp.2) (by rw [hj]; exact bl)
  have e : ({ aj M with J := M.L.set i y } : Pg) = aj { M with L := M.L.set i y } := eP _ (by
   funext t
   rw [ef, dC hp]
   show ay M t 0 = _
   omega)
  rw [e] at hv
  exact aV (a' := a) (m' := m) u7 hv h hl rfl (by omega) (by omega) hw rfl rfl rfl
theorem JD (h : Bg w0 w b c t d p v0 g0 v g a m mx R M) (hk : R.ag.kind = 3) :
  Goes b c 1000 w (Fin w0 b c t d p v0 g0 mx (fo M (toW R.ag)).2 (oC (fo M (toW R.ag)).1) false) := by
 have hll := h.few
 have ha := h.ha
 have hm := h.hm
 have hrd : iZ R.ag.kind = false := by rw [hk]; rfl
 have iO : ∀ {L : Value} {a' : Nat} {m' : Int} {R' : Wk} {P' : Pg}, Calls Tryz.prog 119 #[.pointer (some ⟨b, 0, none⟩), .pointer (some ⟨c, 0, none⟩)] w (au w b c t d p v g a' m' L R' P') → Calls Tryz.prog 64 #[.pointer (some ⟨b, 0, none⟩), .pointer (some ⟨c, 0, none⟩)] w (au w b c t d p v g a' m' L R' P') := fun hn => fe h.sw h.cl (by rw [hk]; decide) hrd (Mm h.sw hk hn)
 by_cases hid : R.ag.id < 1 ∨ (M.L.length : Int) < R.ag.id
 ·rw [ve (toW R.ag) hid]
  exact aV (N := 999) aZ (iO (Cx h.sw 7 (by decide) (xz hid))) h.sw h.left rfl (by omega) (by omega) h.ws rfl rfl rfl
 ·have hi : (R.ag.id - 1).toNat < M.L.length := by omega
  have eM := wC (M := M) hid
  by_cases hs : (M.L.getD (R.ag.id - 1).toNat default).st = 1
  ·have hE : bD M.L 0 R.ag.id (fun j : Jb => decide (j.state = 1)) = 0 := tN hid (decide_eq_true hs)
   have hr := OU h.sw hE
   have eL : bS (aj M).J 0 R.ag.id (fun j : Jb => decide (j.state = 1)) oH = M.L.set (R.ag.id - 1).toNat (((M.L.getD (R.ag.id - 1).toNat default).setSt 2).aC (-1)) := nP hE
   rw [eL, xG hid, show bE (aj M).J R.ag.id = M.L.getD (R.ag.id - 1).toNat default from su hid] at hr
   have e : fo M (toW R.ag) = (mf (((M.L.getD (R.ag.id - 1).toNat default).setSt 2).aC (-1)), { M with L := M.L.set (R.ag.id - 1).toNat (((M.L.getD (R.ag.id - 1).toNat default).setSt 2).aC (-1)) }) := by
    have hj : ed (toW R.ag).kind (M.L.getD (R.ag.id - 1).toNat default) = ((M.L.getD (R.ag.id - 1).toNat default).setSt 2).aC (-1) := by unfold ed; rw [show (toW R.ag).kind = 3 from hk]; rfl
    have hk4 : ¬ (toW R.ag).kind = 4 := by rw [show (toW R.ag).kind = 3 from hk]; decide
    unfold fo
    rw [show (toW R.ag).id = R.ag.id from rfl, eM]
    refine (if_neg (fun e => nomatch e)).trans ((if_neg ?_).trans ((if_neg hk4).trans ?_))
    ·show ¬ ((R.ag.kind = 3 ∧ (M.L.getD (R.ag.id - 1).toNat default).st ≠ 1) ∨ (R.ag.kind = 4 ∧ (M.L.getD (R.ag.id - 1).toNat default).st ≠ 2))
     omega
    ·show (mf (ed (toW R.ag).kind (M.L.getD (R.ag.id - 1).toNat default)), { M with L := M.L.set (R.ag.id - 1).toNat (ed (toW R.ag).kind (M.L.getD (R.ag.id - 1).toNat default)) }) = _
     rw [hj]
   have hI1 := (h.inv.Dn h.calm (toW R.ag)).1
   rw [e] at hI1 ⊢
   refine (eY (N := 1) (k := 64) (k' := 139) aZ (iO hr) h.sw h.left rfl fun w' v' g' hS' hw' => ?_).more (show 2 ≤ 1000 by decide)
   have := CP (N := 0) (mx := mx) (a := a) (m := m) (y := ((M.L.getD (R.ag.id - 1).toNat default).setSt 2).aC (-1)) hi (by rw [hs]; decide) (show (2 : Int) ≠ 3 by decide) rfl rfl (by unfold ak; rw [show (((M.L.getD (R.ag.id - 1).toNat default).setSt 2).aC (-1)).aK = -1 from rfl]; simp) h.inv hI1 h.one (by omega) (by omega) (by omega) h.hmx hS' rfl rfl (h.ws.trans hw')
   rw [show ({ ({ R with aA := M.L.getD (R.ag.id - 1).toNat default, rep := iB (((M.L.getD (R.ag.id - 1).toNat default).setSt 2).aC (-1)) } : Wk) with left := eU 139 } : Wk).ok = false from h.ok] at this
   exact this
  ·have hE : bD M.L 0 R.ag.id (fun j : Jb => decide (j.state = 1)) = 8 := AB hid (decide_eq_false hs)
   have e : fo M (toW R.ag) = (fD 8, M) := by
    unfold fo
    rw [show (toW R.ag).id = R.ag.id from rfl, eM]
    exact (if_neg (fun e => nomatch e)).trans (if_pos (.inl ⟨hk, hs⟩))
   rw [e]
   exact aV (N := 999) aZ (iO (Cx h.sw 8 (by decide) hE)) h.sw h.left rfl (by omega) (by omega) h.ws rfl rfl rfl
theorem wD (h : Bg w0 w b c t d p v0 g0 v g a m mx R M) (s : Int) (hk : (R.ag.kind = 2 ∧ s = 5) ∨ (R.ag.kind = 5 ∧ s = 4)) :
  Goes b c 1000 w (Fin w0 b c t d p v0 g0 mx (kT M (toW R.ag)).2 (oC (kT M (toW R.ag)).1) false) := by
 have hll := h.few
 have ha := h.ha
 have hm := h.hm
 have jI := h.inv.mb.now
 have dm := dX h.inv h.one (by omega)
 have hrd : iZ R.ag.kind = false := by rcases hk with ⟨hk, _⟩ | ⟨hk, _⟩ <;> (rw [hk]; rfl)
 have iO : ∀ {L : Value} {a' : Nat} {m' : Int} {R' : Wk} {P' : Pg}, Calls Tryz.prog 118 #[.pointer (some ⟨b, 0, none⟩), .pointer (some ⟨c, 0, none⟩), .int .i64 s] w (au w b c t d p v g a' m' L R' P') → Calls Tryz.prog 64 #[.pointer (some ⟨b, 0, none⟩), .pointer (some ⟨c, 0, none⟩)] w (au w b c t d p v g a' m' L R' P') := fun hn => by
  rcases hk with ⟨hk, rfl⟩ | ⟨hk, rfl⟩
  ·exact fe h.sw h.cl (by rw [hk]; decide) hrd (Mk h.sw hk hn)
  ·exact fe h.sw h.cl (by rw [hk]; decide) hrd (Ml h.sw hk hn)
 have RX : bg s M.now = 0 := by unfold bg; (repeat' split) <;> omega
 by_cases hid : R.ag.id < 1 ∨ (M.L.length : Int) < R.ag.id
 ·rw [MC (toW R.ag) hid]
  exact aV (N := 999) aZ (iO (yA h.sw dm s 7 (by decide) (by rw [show (aj M).now = M.now from rfl, RX]; exact xz hid))) h.sw h.left rfl (by omega) (by omega) h.ws rfl rfl rfl
 ·have hi : (R.ag.id - 1).toNat < M.L.length := by omega
  have hmem := aW hi
  have bo := h.inv.one _ hmem
  have eM := wC (M := M) hid
  by_cases hs : dS s (M.L.getD (R.ag.id - 1).toNat default) = true
  ·have hE : bD (aj M).J (bg s (aj M).now) R.ag.id (dS s) = 0 := by rw [show (aj M).now = M.now from rfl, RX]; exact tN hid hs
   have hr := Jf h.sw dm s hE
   obtain ⟨y, ME⟩ : ∃ y, y = ib M R.ag.kind (M.L.getD (R.ag.id - 1).toNat default) := ⟨_, rfl⟩
   have hyj : bG s M.now (M.L.getD (R.ag.id - 1).toNat default) = y := by
    rw [ME]
    unfold ib bG
    have es : (if R.ag.kind = 5 then (4 : Int) else 5) = s := by split <;> omega
    rw [es]
    by_cases e3 : (M.L.getD (R.ag.id - 1).toNat default).st = 3
    ·rw [if_pos e3, if_pos (show (M.L.getD (R.ag.id - 1).toNat default).2.2.2.2.2.1 = 3 from e3)]; rfl
    ·rw [if_neg e3, if_neg (show ¬ (M.L.getD (R.ag.id - 1).toNat default).2.2.2.2.2.1 = 3 from e3)]; rfl
   have eL : bS (aj M).J (bg s (aj M).now) R.ag.id (dS s) (bG s (aj M).now) = M.L.set (R.ag.id - 1).toNat y := (nP hE).trans (by rw [← hyj]; rfl)
   rw [eL, xG hid, show bE (aj M).J R.ag.id = M.L.getD (R.ag.id - 1).toNat default from su hid] at hr
   have hok : ¬ (3 < (M.L.getD (R.ag.id - 1).toNat default).st ∨ (R.ag.kind = 5 ∧ (M.L.getD (R.ag.id - 1).toNat default).st ≠ 3)) := by
    unfold dS at hs
    rw [Bool.or_eq_true, Bool.and_eq_true, decide_eq_true_iff, decide_eq_true_iff, decide_eq_true_iff] at hs
    have : (M.L.getD (R.ag.id - 1).toNat default).state = (M.L.getD (R.ag.id - 1).toNat default).st := rfl
    omega
   have e : kT M (toW R.ag) = (mf y, { M with L := M.L.set (R.ag.id - 1).toNat y }) := by
    unfold kT
    rw [show (toW R.ag).id = R.ag.id from rfl, eM]
    refine (if_neg (fun e => nomatch e)).trans ((if_neg hok).trans ?_)
    rw [ME]
    rfl
   have hI1 := (h.inv.JQ h.calm (toW R.ag)).1
   rw [e] at hI1 ⊢
   have hy3 : y.st ≠ 3 := by
    rw [ME]
    show (if R.ag.kind = 5 then (4 : Int) else 5) ≠ 3
    split <;> omega
   have hyp : ak y = false := by
    unfold ak
    rw [show y.aK = -1 by rw [ME]; rfl]
    simp
   have RY : y.bF = (M.L.getD (R.ag.id - 1).toNat default).bF := by rw [ME]; unfold ib; split <;> rfl
   refine (eY (N := 2) (k := 64) (k' := 137) aZ (iO hr) h.sw h.left rfl fun w' v' g' hS' hw' => ?_).more (show 3 ≤ 1000 by decide)
   clear ME hyj
   have kR := dX hI1 h.one (by rw [List.length_set]; omega)
   by_cases h3 : (M.L.getD (R.ag.id - 1).toNat default).st = 3
   ·have hrn := h.inv.runs _ hmem h3
    have JR := h.inv.mb.bF _ hmem
    have hfin := h.inv.mb.fin _ hmem
    have hlt := h.calm.runs _ hmem h3
    have hg := LH hS' ⟨dm.now, kR.few, kR.st, kR.lim, dm.pW, dm.f⟩ h3 JR
    obtain ⟨n, hn⟩ : ∃ n : Int, n = ((List.range M.dr.length).countP (fun k => bT (M.L.getD (R.ag.id - 1).toNat default).bF.toNat k && !(M.dr.getD k false)) : Nat) := ⟨_, rfl⟩
    have hn2 : 0 ≤ n ∧ n ≤ 64 := by
     have h4 := List.countP_le_length (p := fun k => bT (M.L.getD (R.ag.id - 1).toNat default).bF.toNat k && !(M.dr.getD k false)) (l := List.range M.dr.length)
     rw [List.length_range] at h4
     have := h.inv.mb.nn
     omega
    refine eY (N := 1) (k := 137) (k' := 139) (a' := a) (m' := m)
     (R' := { ({ ({ R with aA := M.L.getD (R.ag.id - 1).toNat default, rep := iB y } : Wk) with left := eU 137 } : Wk) with idle := n }) (P' := { aj M with J := M.L.set (R.ag.id - 1).toNat y, T := bW { M with L := M.L.set (R.ag.id - 1).toNat y } })
     GV (hg.mono fun e w' hp => ?_) hS' rfl rfl fun w2 v2 g2 hS2 hw2 => ?_
    ·obtain ⟨n', x', T', h5, h6⟩ := hp
     obtain ⟨h7, _, h8⟩ := Cn h.inv hi h3 hy3 h5
     rw [← hn] at h7
     subst h7 h8
     exact h6
    ·have hv := Gs hS2 ⟨dm.now, kR.few, kR.st, kR.lim, kR.pW, dm.f⟩ (by omega) (by have := h.hmx; omega) h3 (h.inv.mb.aK _ hmem).2 (h.inv.mb.lim _ hmem) ⟨hlt, hfin.2⟩ (by show -64 ≤ n ∧ n ≤ 64; omega) (fun t => ay { M with L := M.L.set (R.ag.id - 1).toNat y } t 0) (fun t ht => by
      have hf := qh h.inv.kD hi h3 hy3 hyp t 0
      show ay { M with L := M.L.set (R.ag.id - 1).toNat y } t 0 = ay M t 0 + had (max M.now M.now) (M.L.getD (R.ag.id - 1).toNat default).fin n t
      have ht' : M.now ≤ t := ht
      unfold had
      by_cases c1 : t < (M.L.getD (R.ag.id - 1).toNat default).fin
      ·rw [if_pos c1] at hf
       rw [if_pos ⟨by omega, .inl c1⟩, hf, hn]
      ·rw [if_neg c1] at hf
       rw [if_neg (by omega), hf]
       rfl) (fun t ht => kR.f t ht)
     exact aV (N := 0) u7 hv hS2 rfl rfl (by omega) (by omega) ((h.ws.trans hw').trans hw2) rfl rfl h.ok
   ·have hg := OB hS' h3
    refine eY (N := 1) (k := 137) (k' := 139) GV hg hS' rfl rfl fun w2 v2 g2 hS2 hw2 => ?_
    have U5 : y.fin = (M.L.getD (R.ag.id - 1).toNat default).fin := by
     have : y = bG s M.now (M.L.getD (R.ag.id - 1).toNat default) := by
      have := congrArg (fun l : List Jb => l.getD (R.ag.id - 1).toNat default) eL
      rw [show bS (aj M).J (bg s (aj M).now) R.ag.id (dS s) (bG s (aj M).now) = M.L.set (R.ag.id - 1).toNat (bG s M.now (M.L.getD (R.ag.id - 1).toNat default)) from nP hE] at this
      simp only [fE] at this
      rw [if_pos ⟨trivial, hi⟩, if_pos ⟨trivial, hi⟩] at this
      exact this.symm
     rw [this]
     show (if (M.L.getD (R.ag.id - 1).toNat default).2.2.2.2.2.1 = 3 then M.now else _) = _
     rw [if_neg (show ¬ (M.L.getD (R.ag.id - 1).toNat default).2.2.2.2.2.1 = 3 from h3)]
     rfl
    have := CP (N := 0) (mx := mx) (a := a) (m := m) (y := y) hi h3 hy3 RY U5 hyp h.inv hI1 h.one (by omega) (by omega) (by omega) h.hmx hS2 rfl rfl ((h.ws.trans hw').trans hw2)
    rw [show ({ ({ ({ R with aA := M.L.getD (R.ag.id - 1).toNat default, rep := iB y } : Wk) with left := eU 137 } : Wk) with left := eU 139 } : Wk).ok = false from h.ok] at this
    exact this
  ·rw [Bool.not_eq_true] at hs
   have hE : bD M.L (bg s M.now) R.ag.id (dS s) = 8 := by rw [RX]; exact AB hid hs
   have hno : 3 < (M.L.getD (R.ag.id - 1).toNat default).st ∨ (R.ag.kind = 5 ∧ (M.L.getD (R.ag.id - 1).toNat default).st ≠ 3) := by
    unfold dS at hs
    rw [Bool.or_eq_false_iff, Bool.and_eq_false_iff, decide_eq_false_iff_not, decide_eq_false_iff_not, decide_eq_false_iff_not] at hs
    have : (M.L.getD (R.ag.id - 1).toNat default).state = (M.L.getD (R.ag.id - 1).toNat default).st := rfl
    omega
   have e : kT M (toW R.ag) = (fD 8, M) := by
    unfold kT
    rw [show (toW R.ag).id = R.ag.id from rfl, eM]
    exact (if_neg (fun e => nomatch e)).trans (if_pos hno)
   rw [e]
   exact aV (N := 999) aZ (iO (yA h.sw dm s 8 (by decide) hE)) h.sw h.left rfl (by omega) (by omega) h.ws rfl rfl rfl
end
end Go.Proofs.YtkhfejihijdipaaGreat

namespace Go.Proofs.YtkhfejihijdipaaGreat
open Go.RowKit Go.Lib Go.Sort
section
variable {w0 w : World} {b c t d p g g0 a N : Nat} {v v0 : Value} {m mx : Int} {P : Pg} {M M' : Md} {R : Wk} {Q : World → Prop}
theorem O9 {k : Nat} (hk : k < 64) (L : List Jb) : (holderL L k < 0 ∧ jV L k = gN) ∨ ∃ i : Nat, holderL L k = i ∧ i < L.length ∧ jV L k = L.getD i default ∧ (L.getD i default).st = 3 := by
 have e : (fun j : Jb => decide (j.state ∈ [(3 : Int)]) && Cw (k : Int) j) = aD k := by
  funext j
  unfold aD Cw
  rw [mR hk, jY]
  have : (j.state ∈ [(3 : Int)]) ↔ (j.st = 3) := List.mem_singleton
  rw [decide_eq_decide.2 this]
 have e2 : jV L (k : Int) = match L.findIdx? (aD k) with | some i => L.getD i default | none => gN := by
  unfold jV
  rw [e]
  cases L.findIdx? (aD k) <;> rfl
 rcases eB L k with h | ⟨i, h, hi, h2⟩
 ·refine .inl ⟨h, ?_⟩
  rw [e2]
  unfold holderL at h
  cases hf : L.findIdx? (aD k) with
  | none => rfl
  | some i => rw [hf] at h; simp only at h; omega
 ·refine .inr ⟨i, h, hi, ?_, by unfold aD at h2; simp at h2; exact h2.1⟩
  rw [e2]
  unfold holderL at h
  cases hf : L.findIdx? (aD k) with
  | none => rw [hf] at h; simp only at h; omega
  | some q =>
   rw [hf] at h
   simp only at h
   have : q = i := by omega
   subst this
   rfl
theorem vg {k : Nat} {bb : Bool} (hk : k < M.dr.length) (hb : M.dr.getD k false = !bb) (hI : aB M) (hC : ∀ j ∈ M.L, j.st = 3 → M.now < j.fin) (h1 : 1 ≤ M.dr.length) (hll : M.L.length ≤ 900)
  (hI' : aB { M with dr := M.dr.set k bb }) (hn : R.ag.node = k) (ha : a ≤ 800) (hm : m ≤ 1000000) {by' : Int} (hby : by' = if bb then -1 else 1)
  (h : SW w b c t d p v g a m R { aj M with T := bW { M with dr := M.dr.set k bb } }) :
  Calls Tryz.prog 142 #[.pointer (some ⟨b, 0, none⟩), .pointer (some ⟨c, 0, none⟩), .int .i64 0, .int .i64 by'] w
   (au w b c t d p v g (a + 2) (m + 1) .nilFunc { R with rep := ⟨0, (k : Int), aO { M with dr := M.dr.set k bb } k, 0, 0, 0, 0, 0, 0⟩ } (aj { M with dr := M.dr.set k bb })) := by
 have hnn := hI.mb.nn
 have jI := hI.mb.now
 have dm := dX hI h1 hll
 have kR := dX hI' (by show 1 ≤ (M.dr.set k bb).length; rw [List.length_set]; exact h1) hll
 have hX : (max (gJ (aj M) (k : Int)) M.now < 1152921504606846976) ∧ ∀ u, M.now ≤ u → ((decide (holderL M.L k < 0) || decide ((M.L.getD (holderL M.L k).toNat default).fin ≤ u)) = decide (max (gJ (aj M) (k : Int)) M.now ≤ u)) := by
  rcases O9 (show k < 64 by omega) M.L with ⟨g1, g2⟩ | ⟨i, g1, hi, g2, g3⟩
  ·have e : gJ (aj M) (k : Int) = M.now := by
    unfold gJ
    rw [show (aj M).J = M.L from rfl, g2]
    rfl
   rw [e]
   refine ⟨by omega, fun u hu => ?_⟩
   rw [decide_eq_true g1, Bool.true_or]
   exact (decide_eq_true (by omega)).symm
  ·have hf := hC _ (aW hi) g3
   have hf2 := hI.mb.fin _ (aW hi)
   have e : gJ (aj M) (k : Int) = max (M.L.getD i default).fin (M.now + 1) := by
    unfold gJ
    rw [show (aj M).J = M.L from rfl, g2, if_pos g3]
    rfl
   rw [e, g1, Int.toNat_natCast]
   refine ⟨by omega, fun u hu => ?_⟩
   rw [decide_eq_false (show ¬ ((i : Int) < 0) by omega), Bool.false_or]
   exact decide_eq_decide.2 (by omega)
 have U6 : oL (bW { M with dr := M.dr.set k bb }) (k : Int) = aO { M with dr := M.dr.set k bb } k := by
  unfold oL
  rw [if_pos ⟨by omega, by rw [bq]; show (k : Int) < ((M.dr.set k bb).length : Nat); rw [List.length_set]; omega⟩, Int.toNat_natCast, bU]
 have hv := Jg (by' := by') h ⟨dm.now, dm.few, dm.st, dm.lim, kR.pW, dm.f⟩ ha hm hI.mb.bF (by omega) (by rw [hby]; split <;> omega) (fun u => ay { M with dr := M.dr.set k bb } u 0) (fun u hu => by
  have hu' : M.now ≤ u := hu
  have hd := vG hk bb u 0
  have hx := hX.2 u hu'
  rw [hn]
  show ay { M with dr := M.dr.set k bb } u 0 = ay M u 0 + had (max (gJ (aj M) (k : Int)) M.now) 1152921504606846976 by' u
  have hnf : bL M u k = (!(M.dr.getD k false) && decide (max (gJ (aj M) (k : Int)) M.now ≤ u)) := by rw [← hx]; rfl
  have hh : had (max (gJ (aj M) (k : Int)) M.now) 1152921504606846976 by' u = if max (gJ (aj M) (k : Int)) M.now ≤ u then by' else 0 := by unfold had; simp
  rw [hd, hnf, hx, hb, hh, hby]
  by_cases c1 : max (gJ (aj M) (k : Int)) M.now ≤ u
  ·rw [decide_eq_true c1, if_pos c1]
   cases bb <;> simp <;> omega
  ·rw [decide_eq_false c1, if_neg c1]
   cases bb <;> simp) (fun u hu => kR.f u hu) (by
  rw [hn]
  have : gJ { aj M with T := bW { M with dr := M.dr.set k bb } } (k : Int) = gJ (aj M) (k : Int) := rfl
  rw [this]
  omega)
 rw [hn, show ({ aj M with T := bW { M with dr := M.dr.set k bb } } : Pg).T = bW { M with dr := M.dr.set k bb } from rfl, U6] at hv
 exact hv
theorem drain_eq {n : Nat} (h : dI ky M.L = none) : eH M n true = { M with dr := M.dr.set n true } := by
 unfold eH
 rw [if_pos rfl, qo h]
theorem vk {k : Nat} (hk : k < M.dr.length) {bb : Bool} (hb : M.dr.getD k false = !bb) : lH (bW M) (k : Int) bb 0 (bW { M with dr := M.dr.set k bb }) := by
 have hd : bb = decide ((bW M).getD (k : Int).toNat 0 < 3) := by
  rw [Int.toNat_natCast, bU, dR hk, hb]
  cases bb <;> (by_cases h1 : 0 ≤ holderL M.L k <;> simp [h1])
 have hc : lH (bW M) (k : Int) bb 0 ((bW M).set (k : Int).toNat (jK ((bW M).getD (k : Int).toNat 0))) :=
  ⟨fun h => absurd h (by rw [bq]; omega), fun _ _ h => absurd hd h, fun _ _ _ => ⟨rfl, rfl⟩⟩
 have e := (F7 hk hb hc).2
 rw [e] at hc
 exact hc
theorem Ew (h : Bg w0 w b c t d p v0 g0 v g a m mx R M) (hk : R.ag.kind = 8) (hnd : -9223372036854775808 ≤ R.ag.node ∧ R.ag.node ≤ 9223372036854775807) :
  Goes b c 1000 w (Fin w0 b c t d p v0 g0 mx (gL M (toW R.ag)).2 (oC (gL M (toW R.ag)).1) false) := by
 have hll := h.few
 have ha := h.ha
 have hm := h.hm
 have hmx := h.hmx
 have dm := dX h.inv h.one (by omega)
 have hrd : iZ R.ag.kind = false := by rw [hk]; rfl
 have iO : ∀ {L : Value} {a' : Nat} {m' : Int} {R' : Wk} {P' : Pg}, Calls Tryz.prog 122 #[.pointer (some ⟨b, 0, none⟩), .pointer (some ⟨c, 0, none⟩)] w (au w b c t d p v g a' m' L R' P') → Calls Tryz.prog 64 #[.pointer (some ⟨b, 0, none⟩), .pointer (some ⟨c, 0, none⟩)] w (au w b c t d p v g a' m' L R' P') := fun hn => fe h.sw h.cl (by rw [hk]; decide) hrd (Mr h.sw hk hn)
 have hd7 : decide ((toW R.ag).kind = 7) = false := decide_eq_false (by rw [show (toW R.ag).kind = 8 from hk]; decide)
 by_cases ho : R.ag.node < 0 ∨ (M.dr.length : Int) ≤ R.ag.node
 ·have e : gL M (toW R.ag) = (fD 11, M) := if_pos ho
  have hT : lH (bW M) R.ag.node false 11 (bW M) := ⟨fun _ => ⟨rfl, rfl⟩, fun h1 h2 => by rw [bq] at h2; omega, fun h1 h2 => by rw [bq] at h2; omega⟩
  rw [e]
  refine aV (N := 999) (a' := a) (m' := m) (R' := { R with rep := jL 11, ok := false }) aZ (iO (resume_fn (P' := aj M) h.sw dm hnd hT fun W v1 g1 hW => ?_)) h.sw h.left rfl (by omega) (by omega) h.ws rfl rfl rfl
  exact Cy hW 11 1 (by decide)
 ·obtain ⟨k, hkk⟩ := Int.eq_ofNat_of_zero_le (show 0 ≤ R.ag.node by omega)
  have hk2 : k < M.dr.length := by omega
  cases hdr : M.dr.getD k false with
  | false =>
   have e : gL M (toW R.ag) = (fD 8, M) := by
    unfold gL
    refine (if_neg ho).trans (if_pos ?_)
    rw [hd7, show (toW R.ag).node = R.ag.node from rfl, hkk, Int.toNat_natCast, hdr]
   have hs : (bW M).getD R.ag.node.toNat 0 < 3 := by
    rw [hkk, Int.toNat_natCast, bU, dR hk2, hdr]
    split <;> simp
   have hT : lH (bW M) R.ag.node false 8 (bW M) := ⟨fun h1 => by rw [bq] at h1; omega, fun _ _ _ => ⟨rfl, rfl⟩, fun _ _ h3 => by rw [decide_eq_true hs] at h3; cases h3⟩
   rw [e]
   refine aV (N := 999) (a' := a) (m' := m) (R' := { R with rep := jL 8, ok := false }) aZ (iO (resume_fn (P' := aj M) h.sw dm hnd hT fun W v1 g1 hW => ?_)) h.sw h.left rfl (by omega) (by omega) h.ws rfl rfl rfl
   exact Cy hW 8 1 (by decide)
  | true =>
   have e : gL M (toW R.ag) = ((0, (k : Int), aO { M with dr := M.dr.set k false } (k : Int), 0, 0, 0, 0, 0, 0), { M with dr := M.dr.set k false }) := by
    unfold gL
    refine (if_neg ho).trans ((if_neg ?_).trans ?_)
    ·rw [hd7, show (toW R.ag).node = R.ag.node from rfl, hkk, Int.toNat_natCast, hdr]
     exact fun e => nomatch e
    ·rw [hd7, show (toW R.ag).node = R.ag.node from rfl, hkk, Int.toNat_natCast]
     rfl
   have hI' := (h.inv.Hq h.calm (toW R.ag)).1
   rw [e] at hI' ⊢
   have hT := vk hk2 (bb := false) hdr
   rw [← hkk] at hT
   refine aV (N := 999) aZ (iO (resume_fn h.sw dm hnd hT fun W v1 g1 hW => vg (bb := false) (by' := 1) hk2 hdr h.inv h.calm.runs h.one (by omega) hI' hkk (by omega) (by omega) rfl hW)) h.sw h.left rfl (by omega) (by omega) h.ws rfl rfl h.ok
theorem GX {k : Nat} (hl : R.left = eU 141) (hkk : R.ag.node = k) (hk : k < M.dr.length) (hdr : M.dr.getD k false = false) (h1 : 1 ≤ M.dr.length) (hll : M.L.length ≤ 900) (hmx : mx ≤ 1000000) (hI' : aB (eH M k true)) (q : Nat) :
  ∀ {L : List Jb} {w : World} {v : Value} {g a : Nat} {m : Int}, L.length = M.L.length → hits ky L ≤ q → aB { M with L := L } → (∀ j ∈ L, j.st = 3 → M.now < j.fin) → dZ { M with L := L } ky = dZ M ky → SW w b c t d p v g a m R (aj { M with L := L }) → a + 2 * hits ky L + 2 ≤ 800 → m + hits ky L + 1 ≤ mx → WS w0 w b c t d p v0 g0 v g →
   Goes b c (q + 1) w (Fin w0 b c t d p v0 g0 mx (eH M k true) ⟨0, (k : Int), aO (eH M k true) k, 0, 0, 0, 0, 0, 0⟩ R.ok) := by
 have last : ∀ {L : List Jb} {w : World} {v : Value} {g a : Nat} {m : Int} (q : Nat), L.length = M.L.length → dI ky L = none → aB { M with L := L } → (∀ j ∈ L, j.st = 3 → M.now < j.fin) → dZ { M with L := L } ky = dZ M ky → SW w b c t d p v g a m R (aj { M with L := L }) → a + 2 ≤ 800 → m + 1 ≤ mx → WS w0 w b c t d p v0 g0 v g →
   Goes b c (q + 1) w (Fin w0 b c t d p v0 g0 mx (eH M k true) ⟨0, (k : Int), aO (eH M k true) k, 0, 0, 0, 0, 0, 0⟩ R.ok) := by
  intro L w v g a m q hL ho hI hC hM hS ha hm hw
  have eD : eH M k true = { M with L := L, dr := M.dr.set k true } := by
   have h2 := qo (M := { M with L := L }) ho
   rw [h2] at hM
   unfold eH
   rw [if_pos rfl, ← hM]
  rw [eD] at hI' ⊢
  have hT := vk (M := { M with L := L }) (k := k) hk (bb := true) hdr
  rw [← hkk] at hT
  refine aV (N := q) CL (yC (M := { M with L := L }) hS (dX hI h1 (by show L.length ≤ 900; omega)) rfl hI h1 (by show L.length ≤ 900; omega) (by omega) (by omega) ho (by have := hI.mb.nn; have : M.dr.length ≤ 64 := this; omega) hT fun W v1 g1 hW => vg (M := { M with L := L }) (bb := true) (by' := -1) hk hdr hI hC h1 (by show L.length ≤ 900; omega) hI' hkk (by omega) (by omega) rfl hW) hS hl rfl (by omega) (by omega) hw rfl rfl rfl
 induction q with
 | zero =>
  intro L w v g a m hL hq hI hC hM hS ha hm hw
  cases ho : dI ky L with
  | none => exact last 0 hL ho hI hC hM hS (by omega) (by omega) hw
  | some i =>
   have := (iT (L := L) ho).2.2.2.2
   omega
 | succ q ih =>
  intro L w v g a m hL hq hI hC hM hS ha hm hw
  cases ho : dI ky L with
  | none => exact last (q + 1) hL ho hI hC hM hS (by omega) (by omega) hw
  | some i =>
   obtain ⟨hi, _, _, _, hh⟩ := iT ho
   refine eY (k := 141) (k' := 141) CL (yD (M := { M with L := L }) hS hI h1 (by show L.length ≤ 900; omega) (by omega) (by omega) ho) hS hl rfl fun w' v' g' hS' hw' => ?_
   rw [← hl] at hS'
   refine ih (L := L.set i ((L.getD i default).aC (-1))) (by rw [List.length_set]; exact hL) (by omega) (hI.vJ hi) (fun j hj => ?_) ((uE (M := { M with L := L }) ho).trans hM) hS' (by omega) (by omega) (hw.trans hw')
   rcases List.mem_or_eq_of_mem_set hj with h2 | rfl
   ·exact hC j h2
   ·exact fun hs => hC (L.getD i default) (aW hi) hs
theorem GY (h : Bg w0 w b c t d p v0 g0 v g a m mx R M) (hk : R.ag.kind = 7) (hnd : -9223372036854775808 ≤ R.ag.node ∧ R.ag.node ≤ 9223372036854775807) :
  Goes b c 1000 w (Fin w0 b c t d p v0 g0 mx (gL M (toW R.ag)).2 (oC (gL M (toW R.ag)).1) false) := by
 have hll := h.few
 have ha := h.ha
 have hm := h.hm
 have hmx := h.hmx
 have dm := dX h.inv h.one (by omega)
 have hrd : iZ R.ag.kind = false := by rw [hk]; rfl
 have iO : ∀ {L : Value} {a' : Nat} {m' : Int} {R' : Wk} {P' : Pg}, Calls Tryz.prog 121 #[.pointer (some ⟨b, 0, none⟩), .pointer (some ⟨c, 0, none⟩)] w (au w b c t d p v g a' m' L R' P') → Calls Tryz.prog 64 #[.pointer (some ⟨b, 0, none⟩), .pointer (some ⟨c, 0, none⟩)] w (au w b c t d p v g a' m' L R' P') := fun hn => fe h.sw h.cl (by rw [hk]; decide) hrd (Mq h.sw hk hn)
 have hd7 : decide ((toW R.ag).kind = 7) = true := decide_eq_true hk
 by_cases ho : R.ag.node < 0 ∨ (M.dr.length : Int) ≤ R.ag.node
 ·have e : gL M (toW R.ag) = (fD 11, M) := if_pos ho
  rw [e]
  exact aV (N := 999) aZ (iO (CG h.sw dm hnd 11 (.inl ⟨by
   unfold oL
   rw [if_neg (by rw [show (aj M).T = bW M from rfl, bq]; omega)], rfl⟩))) h.sw h.left rfl (by omega) (by omega) h.ws rfl rfl rfl
 ·obtain ⟨k, hkk⟩ := Int.eq_ofNat_of_zero_le (show 0 ≤ R.ag.node by omega)
  have hk2 : k < M.dr.length := by omega
  have est : oL (aj M).T R.ag.node = aO M (k : Int) := by
   unfold oL
   rw [if_pos ⟨by omega, by rw [show (aj M).T = bW M from rfl, bq]; omega⟩, hkk, Int.toNat_natCast]
   exact bU k
  cases hdr : M.dr.getD k false with
  | true =>
   have e : gL M (toW R.ag) = (fD 8, M) := by
    unfold gL
    refine (if_neg ho).trans (if_pos ?_)
    rw [hd7, show (toW R.ag).node = R.ag.node from rfl, hkk, Int.toNat_natCast, hdr]
   rw [e]
   exact aV (N := 999) aZ (iO (CG h.sw dm hnd 8 (.inr ⟨by
    rw [est, dR hk2, hdr]
    split <;> simp, rfl⟩))) h.sw h.left rfl (by omega) (by omega) h.ws rfl rfl rfl
  | false =>
   have e : gL M (toW R.ag) = ((0, (k : Int), aO (eH M k true) (k : Int), 0, 0, 0, 0, 0, 0), eH M k true) := by
    unfold gL
    refine (if_neg ho).trans ((if_neg ?_).trans ?_)
    ·rw [hd7, show (toW R.ag).node = R.ag.node from rfl, hkk, Int.toNat_natCast, hdr]
     exact fun e => nomatch e
    ·rw [hd7, show (toW R.ag).node = R.ag.node from rfl, hkk, Int.toNat_natCast]
   have hI' := (h.inv.Hq h.calm (toW R.ag)).1
   rw [e] at hI' ⊢
   have hst : oL (aj M).T R.ag.node = 1 ∨ oL (aj M).T R.ag.node = 2 := by
    rw [est, dR hk2, hdr]
    split <;> simp
   have Ug := AA ky M.L
   cases hz : dI ky M.L with
   | none =>
    have eD := drain_eq (n := k) hz
    have hI2 : aB { M with dr := M.dr.set k true } := by rw [← eD]; exact hI'
    have hT := vk hk2 (bb := true) hdr
    rw [← hkk] at hT
    show Goes b c 1000 w (Fin w0 b c t d p v0 g0 mx (eH M k true) ⟨0, (k : Int), aO (eH M k true) k, 0, 0, 0, 0, 0, 0⟩ false)
    rw [eD]
    refine aV (N := 999) aZ (iO (CF h.sw dm hnd hst fun W hW => yC hW dm rfl h.inv h.one (by omega) (by omega) (by omega) hz hnd hT fun W2 v1 g1 hW2 => vg (bb := true) (by' := -1) hk2 hdr h.inv h.calm.runs h.one (by omega) hI2 hkk (by omega) (by omega) rfl hW2)) h.sw h.left rfl (by omega) (by omega) h.ws rfl rfl h.ok
   | some i =>
    obtain ⟨hi, _, _, _, hh⟩ := iT hz
    refine (eY (N := 901) (k := 64) (k' := 141) aZ (iO (CF h.sw dm hnd hst fun W hW => yD hW h.inv h.one (by omega) (by omega) (by omega) hz)) h.sw h.left rfl fun w' v' g' hS' hw' => ?_).more (show 902 ≤ 1000 by decide)
    have := GX (M := M) (R := { R with left := eU 141 }) (w0 := w0) (b := b) (c := c) (t := t) (d := d) (p := p) (v0 := v0) (g0 := g0) (mx := mx) (k := k) rfl hkk hk2 hdr h.one (by omega) hmx hI' 900 (L := M.L.set i ((M.L.getD i default).aC (-1))) (by rw [List.length_set]) (by omega) (h.inv.vJ hi) (fun j hj => by
     rcases List.mem_or_eq_of_mem_set hj with h2 | rfl
     ·exact h.calm.runs j h2
     ·exact fun hs => h.calm.runs (M.L.getD i default) (aW hi) hs) (uE hz) hS' (by omega) (by omega) (h.ws.trans hw')
    rw [show ({ R with left := eU 141 } : Wk).ok = false from h.ok] at this
    exact this
end
end Go.Proofs.YtkhfejihijdipaaGreat

namespace Go.Proofs.YtkhfejihijdipaaGreat
open Go.RowKit Go.Lib Go.Sort
section
variable {M : Md}
theorem Early.set (h : Early M) {i : Nat} {y : Jb} (hy : y.st ≤ 2 → y.fin = -1) : Early { M with L := M.L.set i y } := fun j hj => by
 rcases List.mem_or_eq_of_mem_set hj with h1 | rfl
 ·exact h j h1
 ·exact hy
theorem Early.map (h : Early M) {f : Jb → Jb} (hf : ∀ j : Jb, (j.st ≤ 2 → j.fin = -1) → ((f j).st ≤ 2 → (f j).fin = -1)) : Early { M with L := M.L.map f } := fun j hj => by
 obtain ⟨x, hx, rfl⟩ := List.mem_map.1 hj
 exact hf x (h x hx)
theorem Early.drop (h : Early M) (j : Jb) : Early (dZ M j) := h.map fun x hx => by
 unfold gm
 split
 ·exact hx
 ·exact hx
theorem Early.begin (h : Early M) (i : Nat) : Early (aU M i) := h.set fun hs => absurd hs (show ¬ (3 : Int) ≤ 2 by decide)
theorem Early.starts (n : Nat) (h : Early M) : Early (startGo n M) := by
 induction n generalizing M with
 | zero => exact h
 | succ n ih =>
  unfold startGo
  split
  ·exact ih (h.begin _)
  ·exact ih h
theorem Early.qm (h : Early M) : Early (dA M) := by
 refine Early.starts _ (h.map fun x hx => ?_)
 unfold aR
 split
 ·exact fun hs => absurd hs (show ¬ (6 : Int) ≤ 2 by decide)
 ·exact hx
theorem Early.cO (to : Int) (n : Nat) (h : Early M) : Early (cO to n M) := by
 induction n generalizing M with
 | zero => exact h
 | succ n ih =>
  unfold Proofs.YtkhfejihijdipaaGreat.cO
  split
  ·exact h
  ·refine ih (Early.qm ?_)
   exact h
theorem Early.Dw (h : Early M) (r : Rw) : Early (gp M r).2 := by
 have same : Early { M with cl := true } := h
 unfold gp
 repeat' split
 all_goals first | exact h | exact same | skip
 ·unfold ic
  have ha : Early { M with L := M.L ++ [bR M r] } := fun j hj => by
   rcases List.mem_append.1 hj with h1 | h1
   ·exact h j h1
   ·rw [List.mem_singleton] at h1; subst h1; exact fun _ => rfl
  repeat' split
  ·exact h
  ·exact ha
  ·exact ha.drop _
 ·unfold kT
  simp only
  repeat' split
  ·exact h
  ·exact h
  ·refine h.set fun hs => ?_
   have e : (ib M r.kind (getM M r.id).1).st = if r.kind = 5 then 4 else 5 := rfl
   rw [e] at hs
   split at hs <;> omega
 ·unfold fo
  simp only
  have hx : ((getM M r.id).2 = false) ∨ (getM M r.id).1 ∈ M.L := by
   cases hg : (getM M r.id).2 with
   | false => exact .inl rfl
   | true => exact .inr (jX hg).1
  by_cases h1 : (getM M r.id).2 = false
  ·rw [if_pos h1]; exact h
  ·rw [if_neg h1]
   have hm := hx.resolve_left h1
   have hx1 := h _ hm
   split
   ·exact h
   ·rename_i h2
    have hy : (ed r.kind (getM M r.id).1).st ≤ 2 → (ed r.kind (getM M r.id).1).fin = -1 := by
     unfold ed
     split
     ·rename_i h3
      exact fun _ => hx1 (by by_cases e : (getM M r.id).1.st = 1 <;> omega)
     ·split
      ·rename_i h3
       exact fun _ => hx1 (by by_cases e : (getM M r.id).1.st = 2 <;> omega)
      ·exact hx1
    split
    ·exact (h.set hy).drop _
    ·exact h.set hy
 ·unfold gL
  repeat' split
  ·exact h
  ·exact h
  ·unfold eH
   split
   ·exact h.drop ky
   ·exact h
 ·unfold kX
  split
  ·exact h
  ·exact h.cO _ _
theorem Early.jk (h : Early M) (id t : Int) : Early (dw M id t).2 := by
 unfold dw
 split
 ·rename_i hf
  split
  ·exact h.begin _
  ·by_cases hi : (id - 1).toNat < M.L.length
   ·refine h.set fun hs => ?_
    exact h (M.L.getD (id - 1).toNat default) (aW hi) hs
   ·show Early { M with L := M.L.set (id - 1).toNat _ }
    rw [List.set_eq_of_length_le (by omega)]
    exact h
 ·exact h
theorem JE (n : Nat) : Early (dF n) := fun _ hj => nomatch hj
theorem MF (f : Nat → Bool) (n j : Nat) (h : ∀ k, n ≤ k → f k = false) : aM f (n + j) = aM f n := by
 induction j with
 | zero => rfl
 | succ j ih =>
  show aM f (n + j) + (if f (n + j) = true then 1 else 0) = _
  rw [h (n + j) (by omega), ih]
  simp
theorem sD (h : aB M) (f : Nat → Bool) (x y : Int) (hf : ∀ k, f k = (decide (aO M k = x) || decide (aO M k = y))) (hx : x ≠ 0) (hy : y ≠ 0) : ((aM f 64 : Nat) : Int) = kz M x y := by
 have hn := h.mb.nn
 have hc := MF f M.dr.length (64 - M.dr.length) fun k hk => by
  rw [hf, gQ (by omega), decide_eq_false (fun e => hx e.symm), decide_eq_false (fun e => hy e.symm)]
  rfl
 rw [show M.dr.length + (64 - M.dr.length) = 64 by omega] at hc
 rw [hc, qB]
 unfold kz
 rw [show f = fun k : Nat => decide (aO M k = x) || decide (aO M k = y) from funext hf]
end
section
variable {w0 w : World} {b c t d p g g0 a N : Nat} {v v0 : Value} {m mx : Int} {P : Pg} {M M' : Md} {R : Wk} {Q : World → Prop}
theorem JF (h : Bg w0 w b c t d p v0 g0 v g a m mx R M) (hk : R.ag.kind = 6 ∨ R.ag.kind = 10 ∨ R.ag.kind = 11 ∨ R.ag.kind = 12) :
  Goes b c 1000 w (Fin w0 b c t d p v0 g0 mx (gp M (toW R.ag)).2 (oC (gp M (toW R.ag)).1) false) := by
 have hll := h.few
 have ha := h.ha
 have hm := h.hm
 have hmx := h.hmx
 have hcl : ¬ M.cl = true := by rw [h.cl]; decide
 have dm := dX h.inv h.one (by omega)
 have hrd : iZ R.ag.kind = true := by rcases hk with e | e | e | e <;> (rw [e]; rfl)
 have iO : ∀ {L : Value} {a' : Nat} {m' : Int} {R' : Wk} {P' : Pg}, Calls Tryz.prog 92 #[.pointer (some ⟨b, 0, none⟩), .pointer (some ⟨c, 0, none⟩)] w (au w b c t d p v g a' m' L R' P') → Calls Tryz.prog 64 #[.pointer (some ⟨b, 0, none⟩), .pointer (some ⟨c, 0, none⟩)] w (au w b c t d p v g a' m' L R' P') := fun hn => GR h.sw h.cl (by omega) hrd hn
 rcases hk with hk | hk | hk | hk
 ·by_cases hid : R.ag.id < 1 ∨ (M.L.length : Int) < R.ag.id
  ·have e : gp M (toW R.ag) = (fD 7, M) := by
    unfold gp
    rw [if_neg hcl, show (toW R.ag).kind = 6 from hk]
    exact ve (toW R.ag) hid
   have hg : fV M.L R.ag.id = 7 := by unfold fV; (repeat' split) <;> omega
   rw [e]
   exact aV (N := 999) aZ (iO (yP h.sw hk 7 (by decide) hg)) h.sw h.left rfl (by omega) (by omega) h.ws rfl rfl rfl
  ·have hg : fV M.L R.ag.id = 0 := by unfold fV; (repeat' split) <;> omega
   have hi : (R.ag.id - 1).toNat < M.L.length := by omega
   have e : gp M (toW R.ag) = (mf (M.L.getD (R.ag.id - 1).toNat default), M) := by
    unfold gp
    rw [if_neg hcl, show (toW R.ag).kind = 6 from hk]
    show fo M (toW R.ag) = _
    unfold fo
    rw [show (toW R.ag).id = R.ag.id from rfl, wC hid, show (toW R.ag).kind = 6 from hk]
    show (mf (M.L.getD (R.ag.id - 1).toNat default), ({ M with L := M.L.set (R.ag.id - 1).toNat (M.L.getD (R.ag.id - 1).toNat default) } : Md)) = _
    have : M.L.set (R.ag.id - 1).toNat (M.L.getD (R.ag.id - 1).toNat default) = M.L := by
     simp only [List.getD, List.getElem?_eq_getElem hi, Option.getD_some, List.set_getElem_self]
    rw [this]
   have hr := Ay h.sw hk hg
   rw [show bE (aj M).J R.ag.id = M.L.getD (R.ag.id - 1).toNat default from su hid] at hr
   rw [e]
   exact aV (N := 999) aZ (iO hr) h.sw h.left rfl (by omega) (by omega) h.ws rfl rfl h.ok
 ·have e : gp M (toW R.ag) = (((0, 0, 0, 0, 0, 0, (kz M 1 1 : Int), (kz M 2 3 : Int), (kz M 4 4 : Int)) : Rl), M) := by
   unfold gp
   rw [if_neg hcl, show (toW R.ag).kind = 10 from hk]
   rfl
  have hr := Jv h.sw dm hk
  rw [show (aj M).T = bW M from rfl, sD h.inv (gK (bW M)) 1 1 (fun k => by rw [tF, Bool.or_self]) (by decide) (by decide),
   sD h.inv (bI (bW M)) 2 3 (fun k => by unfold bI; rw [bU]) (by decide) (by decide),
   sD h.inv (fun i => bK (bW M) i && !bI (bW M) i) 4 4 (fun k => by
    unfold bK bI
    rw [bU]
    generalize aO M k = s
    by_cases h2 : s = 2
    ·subst h2; rfl
    ·by_cases h3 : s = 3
     ·subst h3; rfl
     ·rw [decide_eq_false h2, decide_eq_false h3]; simp) (by decide) (by decide)] at hr
  rw [e]
  exact aV (N := 999) aZ (iO hr) h.sw h.left rfl (by omega) (by omega) h.ws rfl rfl h.ok
 ·have e : gp M (toW R.ag) = (((0, 0, 0, 0, 0, 0, (mG M 1 : Int), (mG M 2 : Int), (mG M 3 : Int)) : Rl), M) := by
   unfold gp
   rw [if_neg hcl, show (toW R.ag).kind = 11 from hk]
   rfl
  rw [e]
  exact aV (N := 999) aZ (iO (Jw h.sw dm hk)) h.sw h.left rfl (by omega) (by omega) h.ws rfl rfl h.ok
 ·have e : gp M (toW R.ag) = ((0, 0, 0, M.now, 0, 0, ay M M.now 0, 0, 0), M) := by
   unfold gp
   rw [if_neg hcl, show (toW R.ag).kind = 12 from hk]
   rfl
  rw [e]
  exact aV (N := 999) aZ (iO (GN h.sw (by omega) hk)) h.sw h.left rfl (by omega) (by omega) h.ws rfl rfl h.ok
theorem JG (h : Bg w0 w b c t d p v0 g0 v g a m mx R M) (hk : R.ag.kind = 13) (hrep : R.rep = qC) :
  Goes b c 1000 w (Fin w0 b c t d p v0 g0 mx { M with cl := true } (oC (fD 0)) false) := by
 have hll := h.few
 have ha := h.ha
 have hm := h.hm
 have hrd : iZ R.ag.kind = false := by rw [hk]; rfl
 exact aV (N := 999) aZ (fe h.sw h.cl (by rw [hk]; decide) hrd (Jy h.sw hk)) h.sw h.left rfl (by omega) (by omega) h.ws rfl hrep h.ok
theorem Bv (to : Int) (hto : to ≤ 1099511627776) (hl : R.left = eU 145) (rq : R.target = to) (hmx : mx ≤ 1000000) (n : Nat) :
  ∀ {M : Md} {w : World} {v : Value} {g a : Nat} {m : Int}, aB M → Calm M → Early M → 1 ≤ M.dr.length → M.L.length ≤ 900 → M.now ≤ to → kS M < n → SW w b c t d p v g a m R (aj M) → a ≤ 800 → m + n ≤ mx → WS w0 w b c t d p v0 g0 v g →
   Goes b c n w (Fin w0 b c t d p v0 g0 mx { cO to n M with now := to } ⟨0, 0, 0, to, 0, 0, ay (cO to n M) to 0, 0, 0⟩ R.ok) := by
 induction n with
 | zero =>
  intro M w v g a m hI hC hE h1 hll hnt hn
  have := (lh mg 2 M.L fun j _ => nA j).1
  unfold kS at hn
  omega
 | succ n ih =>
  intro M w v g a m hI hC hE h1 hll hnt hn hS ha hm hw
  by_cases hx : aP M < 0 ∨ to < aP M
  ·have e : cO to (n + 1) M = M := if_pos hx
   rw [e]
   have hf := uk hS hI hE h1 hll ha (by omega) (by rw [rq]; exact hx) (by rw [rq]; exact ⟨hnt, hto⟩)
   rw [rq] at hf
   exact aV (N := n) yF hf hS hl rfl (by omega) (by omega) hw rfl rfl rfl
  ·have e : cO to (n + 1) M = cO to n (dA { M with now := aP M }) := if_neg hx
   rw [e]
   obtain ⟨a1, a2, a3⟩ := hI.step hC (by omega) (by omega)
   obtain ⟨b1, b2, b3, b4⟩ := a2.qm
   have hkp := mJ a2.mb
   have hf := yB hS hI hC hE h1 hll ha (by omega) (by rw [rq]; omega) (by rw [rq]; exact hto)
   refine eY (k := 145) (k' := 145) yF hf hS hl rfl fun w' v' g' hS' hw' => ?_
   rw [← hl] at hS'
   refine ih b1 b2 (Early.qm hE) (by rw [hkp.2.2.2.1]; exact h1) (by rw [hkp.2.1]; exact hll) (by rw [hkp.2.2.1]; show aP M ≤ to; omega) ?_ hS' ha (by omega) (hw.trans hw')
   have := b4 a3
   have e2 : kS { M with now := aP M } = kS M := rfl
   omega
theorem JH (h : Bg w0 w b c t d p v0 g0 v g a m mx R M) (hE : Early M) (hk : R.ag.kind = 9) :
  Goes b c 1000 w (Fin w0 b c t d p v0 g0 mx (kX M R.ag.till).2 (oC (kX M R.ag.till).1) false) := by
 have hll := h.few
 have ha := h.ha
 have hm := h.hm
 have hmx := h.hmx
 have jI := h.inv.mb.now
 have dm := dX h.inv h.one (by omega)
 have hrd : iZ R.ag.kind = false := by rw [hk]; rfl
 have iO : ∀ {L : Value} {a' : Nat} {m' : Int} {R' : Wk} {P' : Pg}, Calls Tryz.prog 123 #[.pointer (some ⟨b, 0, none⟩), .pointer (some ⟨c, 0, none⟩)] w (au w b c t d p v g a' m' L R' P') → Calls Tryz.prog 64 #[.pointer (some ⟨b, 0, none⟩), .pointer (some ⟨c, 0, none⟩)] w (au w b c t d p v g a' m' L R' P') := fun hn => fe h.sw h.cl (by rw [hk]; decide) hrd (Ms h.sw hk hn)
 by_cases hlow : R.ag.till < 1
 ·have e : kX M R.ag.till = (fD 10, M) := if_pos (.inl hlow)
  rw [e]
  exact aV (N := 999) aZ (iO (Mh h.sw dm hlow)) h.sw h.left rfl (by omega) (by omega) h.ws rfl rfl rfl
 ·by_cases hhi : 1099511627776 - M.now < R.ag.till
  ·have e : kX M R.ag.till = (fD 10, M) := if_pos (.inr hhi)
   rw [e]
   exact aV (N := 999) aZ (iO (Ju h.sw dm hlow hhi)) h.sw h.left rfl (by omega) (by omega) h.ws rfl rfl rfl
  ·have hev := (lh mg 2 M.L fun j _ => nA j).2
   have Uh : kS M < (2 * M.L.length + 1 : Nat) := by unfold kS; omega
   have e : kX M R.ag.till = ((0, 0, 0, M.now + R.ag.till, 0, 0, ay (nW M (M.now + R.ag.till)) (M.now + R.ag.till) 0, 0, 0), nW M (M.now + R.ag.till)) := if_neg (by omega)
   rw [e]
   obtain ⟨to, hto⟩ : ∃ to, to = M.now + R.ag.till := ⟨_, rfl⟩
   rw [← hto]
   unfold nW
   obtain ⟨n, hn⟩ : ∃ n, n = 2 * M.L.length := ⟨_, rfl⟩
   rw [← hn] at Uh ⊢
   by_cases hx : aP M < 0 ∨ to < aP M
   ·have e : cO to (n + 1) M = M := if_pos hx
    rw [e]
    refine aV (N := 999) (a' := a) (m' := m + 1) (R' := { R with target := to, rep := ⟨0, 0, 0, to, 0, 0, ay M to 0, 0, 0⟩ }) aZ (iO (GM (P' := aj { M with now := to }) h.sw dm hlow hhi fun W hW => ?_)) h.sw h.left rfl (by omega) (by omega) h.ws rfl rfl h.ok
    rw [show (aj M).now + R.ag.till = to from hto.symm] at hW
    exact uk hW h.inv hE h.one (by omega) (by omega) (by omega) hx ⟨by show M.now ≤ to; omega, by show to ≤ _; omega⟩
   ·have e : cO to (n + 1) M = cO to n (dA { M with now := aP M }) := if_neg hx
    rw [e]
    obtain ⟨a1, a2, a3⟩ := h.inv.step h.calm (by omega) (by omega)
    obtain ⟨b1, b2, b3, b4⟩ := a2.qm
    have hkp := mJ a2.mb
    refine (eY (N := n) (k := 64) (k' := 145) (a' := a) (m' := m + 1) (R' := { R with target := to }) (P' := aj (dA { M with now := aP M })) aZ (iO (GM h.sw dm hlow hhi fun W hW => ?_)) h.sw h.left rfl fun w' v' g' hS' hw' => ?_).more (show n + 1 ≤ 1000 by omega)
    ·rw [show (aj M).now + R.ag.till = to from hto.symm] at hW
     exact yB hW h.inv h.calm hE h.one (by omega) (by omega) (by omega) ⟨by omega, by show aP M ≤ to; omega⟩ (by show to ≤ _; omega)
    ·have := Bv (R := { ({ R with target := to } : Wk) with left := eU 145 }) (w0 := w0) (b := b) (c := c) (t := t) (d := d) (p := p) (v0 := v0) (g0 := g0) (mx := mx) to (by omega) rfl rfl hmx n b1 b2 (Early.qm hE) (by rw [hkp.2.2.2.1]; exact h.one) (by rw [hkp.2.1]; show M.L.length ≤ 900; omega) (by rw [hkp.2.2.1]; show aP M ≤ to; omega) (by
      have := b4 a3
      have e2 : kS { M with now := aP M } = kS M := rfl
      omega) hS' (by omega) (by omega) (h.ws.trans hw')
     rw [show ({ ({ R with target := to } : Wk) with left := eU 145 } : Wk).ok = false from h.ok] at this
     exact this
end
end Go.Proofs.YtkhfejihijdipaaGreat

namespace Go.Proofs.YtkhfejihijdipaaGreat
open Go.RowKit Go.Lib Go.Sort
section
variable {M : Md}
theorem GZ (hI : aB M) {id t : Int} (hf : eQ M id t = true) : ∃ i : Nat, id = (i : Int) + 1 ∧ i < M.L.length ∧ (M.L.getD i default).st = 1 ∧ M.now ≤ t ∧ t ≤ 1099511627776 ∧ M.cl = false ∧
  ∀ u, t ≤ u → u < t + (M.L.getD i default).lim → (M.L.getD i default).wid ≤ ay M u ((i : Int) + 1) := by
 have hn := hI.mb.now
 unfold eQ at hf
 simp only at hf
 split at hf
 ·cases hf
 rename_i hq
 have hg : (getM M id).2 = true := by cases e : (getM M id).2 <;> simp_all
 obtain ⟨hm, hi, he, hid⟩ := jX hg
 rw [he] at hm hq hf
 have hs : (M.L.getD (id - 1).toNat default).st = 1 := by
  by_cases e : (M.L.getD (id - 1).toNat default).st = 1
  ·exact e
  ·exact absurd (.inr (.inr (.inl e))) hq
 have ht : M.now ≤ t ∧ t ≤ 1099511627776 := by omega
 have hcl : M.cl = false := by
  cases e : M.cl with
  | false => rfl
  | true => exact absurd (.inl e) hq
 have EX := hI.ids _ hi
 have hroom := fun u => wK hn.1 ht.1 hf u
 rw [EX] at hroom
 exact ⟨(id - 1).toNat, hid, hi, hs, ht.1, ht.2, hcl, hroom⟩
theorem AJ (hI : aB M) {i : Nat} (hi : i < M.L.length) (hroom : ∀ u, M.now ≤ u → u < M.now + (M.L.getD i default).lim → (M.L.getD i default).wid ≤ ay M u ((i : Int) + 1)) : (M.L.getD i default).wid ≤ aI M M.now M.dr.length := by
 have bo := hI.one _ (aW hi)
 have h0 := hroom M.now (Int.le_refl _) (by omega)
 have ht0 := lM (L := M.L) (fun j hj => hI.mb.wid j hj) M.now ((i : Int) + 1)
 unfold ay at h0
 omega
theorem Ex (hI : aB M) (hC : Calm M) {i : Nat} (hi : i < M.L.length) (hs : (M.L.getD i default).st = 1) {t : Int} (ht : M.now ≤ t ∧ t ≤ 1099511627776)
  (hroom : ∀ u, t ≤ u → u < t + (M.L.getD i default).lim → (M.L.getD i default).wid ≤ ay M u ((i : Int) + 1)) (u : Int) (hu : M.now ≤ u) :
  ay (if t = M.now then aU M i else { M with L := M.L.set i ((M.L.getD i default).aC t) }) u 0 = ay M u ((i : Int) + 1) + had (max t M.now) (t + (M.L.getD i default).lim) (-(M.L.getD i default).wid) u := by
 have hm := aW hi
 have bo := hI.one _ hm
 have bl := hI.mb.lim _ hm
 have hn := hI.mb.now
 have hid := hI.ids i hi
 rw [kZ hi hI.ids]
 have hh : had (max t M.now) (t + (M.L.getD i default).lim) (-(M.L.getD i default).wid) u = if t ≤ u ∧ u < t + (M.L.getD i default).lim then -(M.L.getD i default).wid else 0 := by
  unfold had
  have e1 : max t M.now = t := by omega
  rw [e1]
  by_cases c : t ≤ u ∧ u < t + (M.L.getD i default).lim
  ·rw [if_pos c, if_pos ⟨c.1, .inl c.2⟩]
  ·rw [if_neg c, if_neg (by omega)]
 rw [hh]
 by_cases e : t = M.now
 ·subst e
  rw [if_pos rfl, qg hi (by omega)]
  have hlow := (hI.begin hC.runs hi hs (AJ hI hi hroom) fun v h1 h2 => by
   have := hroom v h1 h2
   rw [kZ hi hI.ids] at this
   exact this).2
  rw [hlow]
  split <;> split <;> omega
 ·rw [if_neg e, iG hi]
  have hpl : ak ((M.L.getD i default).aC t) = true := by
   unfold ak
   rw [Bool.and_eq_true]
   exact ⟨decide_eq_true hs, decide_eq_true (show 0 ≤ t by omega)⟩
  have hc2 := kY (t := u) (but := 0) hpl (show (M.L.getD i default).id ≠ 0 by rw [hid]; omega)
  rw [hc2]
  show ay M u 0 + dB u 0 (M.L.getD i default) - (if t ≤ u ∧ u < t + (M.L.getD i default).lim then (M.L.getD i default).wid else 0) = _
  split <;> omega
end
section
variable {w0 w : World} {b c t d p g g0 a N : Nat} {v v0 : Value} {m mx : Int} {P : Pg} {M M' : Md} {R : Wk} {Q : World → Prop}
def nQ (M : Md) : Ry := if M.cl then jL 12 else qC
theorem Ey (h : SW w b c t d p v g a m R (aj M)) (hl : R.left = eU 65) (hI : aB M) (hC : Calm M) (h1 : 1 ≤ M.dr.length) (hll : M.L.length ≤ 190) (ha : a ≤ 1 + 2 * M.L.length) (hm : m + 1000 ≤ mx) (hmx : mx ≤ 1000000)
  (ho : R.ok = false) (hrep : R.rep = qC) (hxt : -9223372036854775808 ≤ R.dG ∧ R.dG ≤ 9223372036854775807) (hw : WS w0 w b c t d p v0 g0 v g) :
  Goes b c 1000 w (Fin w0 b c t d p v0 g0 mx (dw M R.ku R.dG).2 (nQ M) (dw M R.ku R.dG).1) := by
 cases hf : eQ M R.ku R.dG with
 | false =>
  have e : dw M R.ku R.dG = (false, M) := if_neg (by rw [hf]; decide)
  rw [e]
  cases hcl : M.cl with
  | true => exact aV (N := 999) xy (Br h hcl) h hl rfl (by omega) (by omega) hw rfl (by unfold nQ; rw [hcl]; rfl) rfl
  | false => exact aV (N := 999) xy (Me h hI h1 (by omega) (by omega) hxt hcl hf) h hl rfl (by omega) (by omega) hw rfl (by unfold nQ; rw [hcl]; exact hrep) ho
 | true =>
  obtain ⟨i, hid, hi, hs, ht1, ht2, hcl, hroom⟩ := GZ hI hf
  have Kj : (R.ku - 1).toNat = i := by omega
  have hmem := aW hi
  have bo := hI.one _ hmem
  have bl := hI.mb.lim _ hmem
  have bw := hI.mb.wid _ hmem
  have bp := hI.mb.aK _ hmem
  have EX := hI.ids i hi
  have jI := hI.mb.now
  have dm := dX hI h1 (by omega)
  have e : dw M R.ku R.dG = (true, if R.dG = M.now then aU M i else { M with L := M.L.set i ((M.L.getD i default).aC R.dG) }) := by
   unfold dw
   rw [if_pos hf, Kj]
   split <;> rfl
  have hI' := (hI.jk hC R.ku R.dG).1
  rw [e] at hI' ⊢
  have hfree := Ex hI hC hi hs ⟨ht1, ht2⟩ hroom
  have hdr : (if R.dG = M.now then aU M i else { M with L := M.L.set i ((M.L.getD i default).aC R.dG) }).dr.length = M.dr.length := by split <;> rfl
  have Pb : (if R.dG = M.now then aU M i else { M with L := M.L.set i ((M.L.getD i default).aC R.dG) }).now = M.now := by split <;> rfl
  have QL : qC = nQ M := by unfold nQ; rw [hcl]; rfl
  have U7 : bE M.L R.ku = M.L.getD i default := by rw [su (by omega), Kj]
  have hck := Js h hI h1 (by omega) (by omega) hxt hcl hf
  rw [U7] at hck
  have xO : ∀ u, ay M u ((i : Int) + 1) = ay M u 0 + dB u 0 (M.L.getD i default) := fun u => kZ hi hI.ids u
  have kR : PK { aj M with f := fun u => ay M u ((i : Int) + 1) } := ⟨dm.now, dm.few, dm.st, dm.lim, dm.pW, fun u hu => ⟨Ba hI hi u hu, (Da hI.mb u _).2⟩⟩
  obtain ⟨M1, hM1⟩ : ∃ M1, M1 = (if R.dG = M.now then aU M i else { M with L := M.L.set i ((M.L.getD i default).aC R.dG) }) := ⟨_, rfl⟩
  rw [← hM1] at hI' hfree hdr Pb ⊢
  have hrange : ∀ u, M.now ≤ u → 0 ≤ ay M1 u 0 ∧ ay M1 u 0 ≤ 64 := fun u hu => uT hI' u (by rw [Pb]; exact hu)
  have Ui : PK { aj M with f := fun u => ay M1 u 0 } := ⟨dm.now, dm.few, dm.st, dm.lim, dm.pW, fun u hu => hrange u hu⟩
  refine (eY (N := 3) (k := 65) (k' := 94) xy hck h hl rfl fun w1 v1 g1 hS1 hw1 => ?_).more (show 4 ≤ 1000 by decide)
  have cont : ∀ (w2 : World) (v2 : Value) (g2 a2 : Nat) (m2 : Int), SW w2 b c t d p v2 g2 a2 m2 { R with aA := M.L.getD i default, ok := true, left := eU 125 } { aj M with f := fun u => ay M u ((i : Int) + 1) } → a2 ≤ 700 → m2 + 10 ≤ mx → WS w0 w2 b c t d p v0 g0 v2 g2 →
    Goes b c 2 w2 (Fin w0 b c t d p v0 g0 mx M1 (nQ M) true) := by
   intro w2 v2 g2 a2 m2 hS2 ha2 hm2 hw2
   have hen := Mc hS2 kR (by omega) (by omega) hs ⟨by show 0 ≤ R.dG; omega, by show R.dG ≤ 1099511627776; omega⟩ ⟨bo.2.2.1, bl.2⟩ bw (fun u => ay M1 u 0) (fun u hu => hfree u hu) (fun u hu => hrange u hu)
   refine eY (N := 1) (k := 125) (k' := 148) Mx hen hS2 rfl rfl fun w3 v3 g3 wu hw3 => ?_
   by_cases hx : R.dG = M.now
   ·have hidle : (M.L.getD i default).wid ≤ ((List.range M.dr.length).countP fun n : Nat => decide (aO M n = 1) : Nat) := by
     rw [← Gw hC.runs]
     exact AJ hI hi (by rw [← hx]; exact hroom)
    have hT := Gx hI hi (by omega) hidle
    have hset := GK wu Ui hx (by show -9223372036854775808 ≤ (M.L.getD i default).wid ∧ (M.L.getD i default).wid ≤ _; omega) hT
    rw [if_pos hx] at hM1
    have hbs : bS (aj M).J (fG (aj M).now) (M.L.getD i default).id (fun j : Jb => decide (j.state = 1)) (kH (aj M).now (gZ M (M.L.getD i default).wid : Int)) = (aU M i).L := yz hI hi hs
    have hP : ({ aj M with f := fun u => ay M1 u 0, T := bW (aU M i), J := (aU M i).L } : Pg) = aj M1 := by rw [hM1]; rfl
    refine aV (N := 0) (a' := a2 + 2) (m' := m2 + 1) Az (hset.mono fun e w' hp => ?_) wu rfl rfl (by omega) (by omega) (hw2.trans hw3) rfl (hrep.trans QL) rfl
    rw [← hP, ← hbs]
    exact hp
   ·have hset := Bq wu hx
    rw [if_neg hx] at hM1
    have KM : gB R.dG = 0 := by unfold gB; rw [if_neg (by omega), if_neg (by omega)]
    have hbs : bS (aj M).J (gB R.dG) R.ku (fun j : Jb => decide (j.state = 1)) (jW R.dG) = M.L.set i ((M.L.getD i default).aC R.dG) := by
     rw [KM]
     have := tN (ok := fun j : Jb => decide (j.state = 1)) (L := M.L) (id := R.ku) (by omega) (by rw [Kj]; exact decide_eq_true hs)
     have h2 := nP (ch := jW R.dG) this
     rw [Kj] at h2
     exact h2
    have hT1 : bW M = bW M1 := by
     rw [hM1]
     refine nO (by rw [bq, bq]) fun n hn => ?_
     rw [bU, bU, nZ (y := (M.L.getD i default).aC R.dG) hi Iff.rfl rfl]
    have hP : ({ aj M with f := fun u => ay M1 u 0, J := M.L.set i ((M.L.getD i default).aC R.dG) } : Pg) = aj M1 := by
     show Pg.mk M.now _ (bW M) _ M.cl = _
     rw [hT1, hM1]
     rfl
    refine aV (N := 0) (a' := a2 + 2) (m' := m2 + 1) Az (hset.mono fun e w' hp => ?_) wu rfl rfl (by omega) (by omega) (hw2.trans hw3) rfl (hrep.trans QL) rfl
    rw [← hP, ← hbs]
    exact hp
  cases hpl : ak (M.L.getD i default) with
  | true =>
   have hlv := GI hS1 dm (by omega) (by omega) hpl bp.2 bl bo.2.2.1 bw (fun u => ay M u ((i : Int) + 1)) (fun u hu => by
    have hun := qD hI hi hpl u
    rw [iG hi, dC (j := (M.L.getD i default).aC (-1)) (by unfold ak; simp [Jb.aC, Jb.aK])] at hun
    show ay M u ((i : Int) + 1) = ay M u 0 + had (max (M.L.getD i default).aK M.now) ((M.L.getD i default).aK + (M.L.getD i default).lim) (M.L.getD i default).wid u
    rw [xO]
    omega) (fun u hu => kR.f u hu)
   refine eY (N := 2) (k := 94) (k' := 125) CK hlv hS1 rfl rfl fun w2 v2 g2 hS2 hw2 => ?_
   exact cont w2 v2 g2 _ _ hS2 (by omega) (by omega) ((hw.trans hw1).trans hw2)
  | false =>
   have hlv := GJ hS1 hpl bp.2 bl
   refine eY (N := 2) (k := 94) (k' := 125) CK hlv hS1 rfl rfl fun w2 v2 g2 hS2 hw2 => ?_
   have hP : aj M = { aj M with f := fun u => ay M u ((i : Int) + 1) } := by
    have : (fun u => ay M u ((i : Int) + 1)) = fun u => ay M u 0 := by
     funext u
     rw [xO, dC hpl]
     omega
    rw [this]
    rfl
   rw [hP] at hS2
   exact cont w2 v2 g2 _ _ hS2 (by omega) (by omega) ((hw.trans hw1).trans hw2)
theorem Pf (h : SW w b c t d p v g a m R (aj M)) (hl : R.left = eU 64) (hI : aB M) (hC : Calm M) (hE : Early M) (h1 : 1 ≤ M.dr.length) (hll : M.L.length ≤ 190) (ha : a ≤ 1 + 2 * M.L.length) (hm : m + 1000 ≤ mx) (hmx : mx ≤ 1000000)
  (ho : R.ok = false) (hrep : R.rep = qC) (hnd : -9223372036854775808 ≤ R.ag.node ∧ R.ag.node ≤ 9223372036854775807) (hw : WS w0 w b c t d p v0 g0 v g) :
  Goes b c 1000 w (Fin w0 b c t d p v0 g0 mx (gp M (toW R.ag)).2 (oC (gp M (toW R.ag)).1) false) := by
 cases hcl : M.cl with
 | true =>
  have e : gp M (toW R.ag) = (fD 12, M) := if_pos hcl
  rw [e]
  exact JB h hl hcl (by omega) (by omega) hw
 | false =>
  have hcn : ¬ M.cl = true := by rw [hcl]; decide
  have hB : Bg w0 w b c t d p v0 g0 v g a m mx R M := ⟨h, hl, hI, hC, hcl, h1, hll, ha, hm, hmx, ho, hw⟩
  have hkr : ∀ r : Rw, gp M r = if r.kind = 1 then ic M r
    else if r.kind = 2 ∨ r.kind = 5 then kT M r
    else if r.kind = 3 ∨ r.kind = 4 ∨ r.kind = 6 then fo M r
    else if r.kind = 7 ∨ r.kind = 8 then gL M r
    else if r.kind = 9 then kX M r.by'
    else if r.kind = 10 then ((0, 0, 0, 0, 0, 0, kz M 1 1, kz M 2 3, kz M 4 4), M)
    else if r.kind = 11 then ((0, 0, 0, 0, 0, 0, mG M 1, mG M 2, mG M 3), M)
    else if r.kind = 12 then ((0, 0, 0, M.now, 0, 0, ay M M.now 0, 0, 0), M)
    else if r.kind = 13 then (fD 0, { M with cl := true })
    else (fD 4, M) := fun r => if_neg hcn
  by_cases hrd : R.ag.kind = 6 ∨ R.ag.kind = 10 ∨ R.ag.kind = 11 ∨ R.ag.kind = 12
  ·exact JF hB hrd
  rw [hkr]
  have ek : (toW R.ag).kind = R.ag.kind := rfl
  rw [ek]
  by_cases k1 : R.ag.kind = 1
  ·rw [if_pos k1]; exact Ev h hl hI hcl h1 hll ha hm hmx hw k1 ho
  rw [if_neg k1]
  by_cases k25 : R.ag.kind = 2 ∨ R.ag.kind = 5
  ·rw [if_pos k25]
   rcases k25 with k | k
   ·exact wD hB 5 (.inl ⟨k, rfl⟩)
   ·exact wD hB 4 (.inr ⟨k, rfl⟩)
  rw [if_neg k25]
  by_cases RZ : R.ag.kind = 3 ∨ R.ag.kind = 4 ∨ R.ag.kind = 6
  ·rw [if_pos RZ]
   rcases RZ with k | k | k
   ·exact JD hB k
   ·exact Bu hB k
   ·exact absurd (.inl k) hrd
  rw [if_neg RZ]
  by_cases G5 : R.ag.kind = 7 ∨ R.ag.kind = 8
  ·rw [if_pos G5]
   rcases G5 with k | k
   ·exact GY hB k hnd
   ·exact Ew hB k hnd
  rw [if_neg G5]
  by_cases k9 : R.ag.kind = 9
  ·rw [if_pos k9]; exact JH hB hE k9
  rw [if_neg k9, if_neg (by omega), if_neg (by omega), if_neg (by omega)]
  by_cases k13 : R.ag.kind = 13
  ·rw [if_pos k13]; exact JG hB k13 hrep
  rw [if_neg k13]
  exact JC hB (by omega)
end
end Go.Proofs.YtkhfejihijdipaaGreat

namespace Go.Proofs.YtkhfejihijdipaaGreat
open Go.RowKit Go.Lib Go.Sort
section
variable {M : Md}
theorem Kk {r : Rw} (h : r.kind = 1) : gp M r = if M.cl = true then (fD 12, M) else ic M r := by
 unfold gp
 by_cases hc : M.cl = true
 ·rw [if_pos hc, if_pos hc]
 ·rw [if_neg hc, if_neg hc, if_pos h]
theorem Ph {r : Rw} (h : (r.kind = 2 ∨ r.kind = 5)) : gp M r = if M.cl = true then (fD 12, M) else kT M r := by
 unfold gp
 by_cases hc : M.cl = true
 ·rw [if_pos hc, if_pos hc]
 ·rw [if_neg hc, if_neg hc, if_neg (show ¬ r.kind = 1 by omega), if_pos h]
theorem Kl {r : Rw} (h : (r.kind = 3 ∨ r.kind = 4 ∨ r.kind = 6)) : gp M r = if M.cl = true then (fD 12, M) else fo M r := by
 unfold gp
 by_cases hc : M.cl = true
 ·rw [if_pos hc, if_pos hc]
 ·rw [if_neg hc, if_neg hc, if_neg (show ¬ r.kind = 1 by omega), if_neg (show ¬ (r.kind = 2 ∨ r.kind = 5) by omega), if_pos h]
theorem Pj {r : Rw} (h : (r.kind = 7 ∨ r.kind = 8)) : gp M r = if M.cl = true then (fD 12, M) else gL M r := by
 unfold gp
 by_cases hc : M.cl = true
 ·rw [if_pos hc, if_pos hc]
 ·rw [if_neg hc, if_neg hc, if_neg (show ¬ r.kind = 1 by omega), if_neg (show ¬ (r.kind = 2 ∨ r.kind = 5) by omega), if_neg (show ¬ (r.kind = 3 ∨ r.kind = 4 ∨ r.kind = 6) by omega), if_pos h]
theorem Km {r : Rw} (h : r.kind = 9) : gp M r = if M.cl = true then (fD 12, M) else kX M r.by' := by
 unfold gp
 by_cases hc : M.cl = true
 ·rw [if_pos hc, if_pos hc]
 ·rw [if_neg hc, if_neg hc, if_neg (show ¬ r.kind = 1 by omega), if_neg (show ¬ (r.kind = 2 ∨ r.kind = 5) by omega), if_neg (show ¬ (r.kind = 3 ∨ r.kind = 4 ∨ r.kind = 6) by omega), if_neg (show ¬ (r.kind = 7 ∨ r.kind = 8) by omega), if_pos h]
theorem Pk {r r' : Rw} (h : r.kind = r'.kind) (h2 : ¬ (1 ≤ r.kind ∧ r.kind ≤ 9)) : gp M r = gp M r' := by
 unfold gp
 rw [h] at h2 ⊢
 by_cases hc : M.cl = true
 ·rw [if_pos hc, if_pos hc]
 ·have n1 : ¬ r'.kind = 1 := by omega
  have n2 : ¬ (r'.kind = 2 ∨ r'.kind = 5) := by omega
  have n3 : ¬ (r'.kind = 3 ∨ r'.kind = 4 ∨ r'.kind = 6) := by omega
  have n4 : ¬ (r'.kind = 7 ∨ r'.kind = 8) := by omega
  have n5 : ¬ r'.kind = 9 := by omega
  simp only [if_neg hc, if_neg n1, if_neg n2, if_neg n3, if_neg n4, if_neg n5]
theorem MG (M : Md) (r : Rq) : gp M (toW (kQ r)) = gp M (toW r) := by
 unfold kQ
 by_cases k1 : r.kind = 1
 ·rw [if_pos k1, Kk (r := toW r) k1, Kk (r := toW ⟨r.kind, 0, r.user, r.width, r.limit, r.prio, r.held, 0, 0⟩) k1]
  rfl
 rw [if_neg k1]
 by_cases k2 : r.kind = 2 ∨ r.kind = 3 ∨ r.kind = 4 ∨ r.kind = 5 ∨ r.kind = 6
 ·rw [if_pos k2]
  by_cases k25 : r.kind = 2 ∨ r.kind = 5
  ·rw [Ph (r := toW r) k25, Ph (r := toW ⟨r.kind, r.id, 0, 0, 0, 0, false, 0, 0⟩) k25]
   rfl
  ·have QM : r.kind = 3 ∨ r.kind = 4 ∨ r.kind = 6 := by omega
   rw [Kl (r := toW r) QM, Kl (r := toW ⟨r.kind, r.id, 0, 0, 0, 0, false, 0, 0⟩) QM]
   rfl
 rw [if_neg k2]
 by_cases G5 : r.kind = 7 ∨ r.kind = 8
 ·rw [if_pos G5, Pj (r := toW r) G5, Pj (r := toW ⟨r.kind, 0, 0, 0, 0, 0, false, r.node, 0⟩) G5]
  rfl
 rw [if_neg G5]
 by_cases k9 : r.kind = 9
 ·rw [if_pos k9, Km (r := toW r) k9, Km (r := toW ⟨r.kind, 0, 0, 0, 0, 0, false, 0, r.till⟩) k9]
  rfl
 rw [if_neg k9]
 exact Pk rfl (by show ¬ (1 ≤ r.kind ∧ r.kind ≤ 9); omega)
theorem G6 (r : Rq) (h : -9223372036854775808 ≤ r.node ∧ r.node ≤ 9223372036854775807) : -9223372036854775808 ≤ (kQ r).node ∧ (kQ r).node ≤ 9223372036854775807 := by
 have z : -9223372036854775808 ≤ (0 : Int) ∧ (0 : Int) ≤ 9223372036854775807 := by decide
 unfold kQ
 repeat' split
 all_goals first | exact z | exact h
structure Ok (M : Md) : Prop where
 inv : aB M
 calm : Calm M
 early : Early M
theorem Ok.new {n : Nat} (h : n ≤ 64) : Ok (dF n) := ⟨(E5 h).1, (E5 h).2, JE n⟩
theorem Ok.Dw (h : Ok M) (r : Rw) : Ok (gp M r).2 := ⟨(h.inv.Dw h.calm r).1, (h.inv.Dw h.calm r).2, h.early.Dw r⟩
theorem Ok.jk (h : Ok M) (id t : Int) : Ok (dw M id t).2 := ⟨(h.inv.jk h.calm id t).1, (h.inv.jk h.calm id t).2, h.early.jk id t⟩
end
section
variable {w : World} {b c t d p g : Nat} {v : Value} {m : Int} {M : Md}
def Whole (w : World) (b c t d p : Nat) (v : Value) (g : Nat) (m : Int) (M' : Md) (y : Ry) (ok : Bool) (e : Ending) (w' : World) : Prop :=
 ∃ (n : Int) (v' : Value) (g' : Nat) (R : Wk), 0 < n ∧ n < 2000 ∧ e = .returned (.int .i64 n) ∧ CW w' c t d p v' g' (1 + 2 * M'.L.length) (m + 1000) (aj M') ∧ bQ w' b R ∧ R.left = .nilFunc ∧ R.rep = y ∧ R.ok = ok ∧ WS w w' b c t d p v g v' g'
theorem AL {M' : Md} {y : Ry} {ok : Bool} (h : Goes b c 1000 w (Fin w b c t d p v g (m + 1000) M' y ok)) (hI : aB M') :
  Calls Tryz.prog 29 #[.pointer (some ⟨c, 0, none⟩), .pointer (some ⟨b, 0, none⟩)] w (Whole w b c t d p v g m M' y ok) := by
 refine (Mw h (by decide)).mono ?_
 rintro e w' ⟨n, h1, h2, rfl, ⟨v', g', a, m', R, hS, ha, hm, hl, hr, ho, hw⟩⟩
 exact ⟨n, v', g', R, h1, h2, rfl, (hS.cw.O8 hI).wider (Nat.le_refl _) hm, hS.wk, hl, hr, ho, hw⟩
theorem sF (h : CW w c t d p v g (1 + 2 * M.L.length) m (aj M)) (r : Rq) (hb : bQ w b (yE r)) (hM : Ok M) (h1 : 1 ≤ M.dr.length) (hll : M.L.length ≤ 190) (hm : m + 1000 ≤ 1000000) (hnd : -9223372036854775808 ≤ r.node ∧ r.node ≤ 9223372036854775807) :
  Calls Tryz.prog 29 #[.pointer (some ⟨c, 0, none⟩), .pointer (some ⟨b, 0, none⟩)] w (Whole w b c t d p v g m (gp M (toW r)).2 (oC (gp M (toW r)).1) false) := by
 have hg := Pf (mx := m + 1000) (R := yE r) ⟨hb, h⟩ rfl hM.inv hM.calm hM.early h1 hll (Nat.le_refl _) (Int.le_refl _) hm rfl rfl (G6 r hnd) (WS.refl w)
 rw [show (yE r).ag = kQ r from rfl, MG] at hg
 exact AL hg (hM.Dw _).inv
theorem oU (h : CW w c t d p v g (1 + 2 * M.L.length) m (aj M)) (i x : Int) (hb : bQ w b (CJ i x)) (hM : Ok M) (h1 : 1 ≤ M.dr.length) (hll : M.L.length ≤ 190) (hm : m + 1000 ≤ 1000000) (hx : -9223372036854775808 ≤ x ∧ x ≤ 9223372036854775807) :
  Calls Tryz.prog 29 #[.pointer (some ⟨c, 0, none⟩), .pointer (some ⟨b, 0, none⟩)] w (Whole w b c t d p v g m (dw M i x).2 (nQ M) (dw M i x).1) :=
 AL (Ey (mx := m + 1000) (R := CJ i x) ⟨hb, h⟩ rfl hM.inv hM.calm h1 hll (Nat.le_refl _) (Int.le_refl _) hm rfl rfl hx (WS.refl w)) (hM.jk i x).inv
end
end Go.Proofs.YtkhfejihijdipaaGreat

namespace Go.Proofs.YtkhfejihijdipaaGreat
open Go.RowKit Go.Lib Go.Sort
section
variable {w : World} {b c t d p g a : Nat} {v : Value} {m : Int} {M : Md} {R : Wk}
theorem nR (h : CW w c t d p v g a m (aj M)) (hI : aB M) (hll : M.L.length ≤ 400) : Calls Tryz.prog 16 #[.pointer (some ⟨p, 0, none⟩)] w fun e w' => ∃ u, e = .returned u ∧ aF EH 2 w' u (lL M) ∧ Below w.heap.size w w' := by
 obtain ⟨S, aH, hp, hC, hl, _⟩ := h.kN
 have e : S = lL M := hC.uniq (zu hI) fun _ _ => rfl
 have hs := ma M
 refine (uh hp hC.sm.pos (by rw [e]; omega)).mono ?_
 rintro en w' ⟨g', cap', rfl, h1, h2, h3⟩
 exact ⟨_, rfl, aF.iJ h2 (fun _ => rfl) (by rw [← e]; rfl) (by rw [← e]), h3⟩
theorem wE (h : CW w c t d p v g a m (aj M)) (hll : M.L.length ≤ 900) : Calls Tryz.prog 23 #[.pointer (some ⟨t, 0, none⟩)] w fun e w' => ∃ u, e = .returned u ∧ aF ah 10 w' u M.L ∧ Below w.heap.size w w' := by
 refine (JZ h.dW (by show M.L.length ≤ 1000; omega)).mono ?_
 rintro e w' ⟨u, rfl, h1, h2⟩
 exact ⟨u, rfl, aF.iJ h1 ax rfl rfl, h2⟩
theorem MH (h : bQ w b R) : Calls Tryz.prog 32 #[.pointer (some ⟨b, 0, none⟩)] w fun e w' => e = .returned (.agg (fP R.rep).toArray) ∧ Below w.heap.size w w' := by
 obtain ⟨y1, y2, y3, y4, y5, y6, y7, y8, y9, hy⟩ : ∃ y1 y2 y3 y4 y5 y6 y7 y8 y9, R.rep = ⟨y1, y2, y3, y4, y5, y6, y7, y8, y9⟩ := ⟨_, _, _, _, _, _, _, _, _, rfl⟩
 have h' : ∀ o, bQ (w.alloc o) b R := fun o => (((Below.refl w.heap.size w).alloc (Nat.le_refl _) o).block b h.lt).trans h
 have c24 : ∀ o, (w.alloc o).cell? ⟨b, 24, none⟩ = some (.int .i64 y1) := fun o => (h' o).at 24 (.int .i64 y1) (by show some (Value.int .i64 R.rep.1) = _; rw [hy])
 have V9 : ∀ o, (w.alloc o).cell? ⟨b, 25, none⟩ = some (.int .i64 y2) := fun o => (h' o).at 25 (.int .i64 y2) (by show some (Value.int .i64 R.rep.2) = _; rw [hy])
 have Wd : ∀ o, (w.alloc o).cell? ⟨b, 26, none⟩ = some (.int .i64 y3) := fun o => (h' o).at 26 (.int .i64 y3) (by show some (Value.int .i64 R.rep.3) = _; rw [hy])
 have We : ∀ o, (w.alloc o).cell? ⟨b, 27, none⟩ = some (.int .i64 y4) := fun o => (h' o).at 27 (.int .i64 y4) (by show some (Value.int .i64 R.rep.4) = _; rw [hy])
 have c28 : ∀ o, (w.alloc o).cell? ⟨b, 28, none⟩ = some (.int .i64 y5) := fun o => (h' o).at 28 (.int .i64 y5) (by show some (Value.int .i64 R.rep.5) = _; rw [hy])
 have Wh : ∀ o, (w.alloc o).cell? ⟨b, 29, none⟩ = some (.int .i64 y6) := fun o => (h' o).at 29 (.int .i64 y6) (by show some (Value.int .i64 R.rep.6) = _; rw [hy])
 have Wi : ∀ o, (w.alloc o).cell? ⟨b, 30, none⟩ = some (.int .i64 y7) := fun o => (h' o).at 30 (.int .i64 y7) (by show some (Value.int .i64 R.rep.7) = _; rw [hy])
 have c31 : ∀ o, (w.alloc o).cell? ⟨b, 31, none⟩ = some (.int .i64 y8) := fun o => (h' o).at 31 (.int .i64 y8) (by show some (Value.int .i64 R.rep.8) = _; rw [hy])
 have c32 : ∀ o, (w.alloc o).cell? ⟨b, 32, none⟩ = some (.int .i64 y9) := fun o => (h' o).at 32 (.int .i64 y9) (by show some (Value.int .i64 R.rep.9) = _; rw [hy])
 rw [hy]
 clear h h' hy
 go_enter Tryz.func32, Tryz.ntmps32
 go_wp2_with fail
 refine fq rfl rfl rfl (heap_alloc_new w _) Tryz.underlying74 rfl (by kernel_rfl) ⟨rfl, ?_⟩
 exact (Below.refl _ _).alloc (Nat.le_refl _) _
theorem R4 (h : bQ w b R) : Calls Tryz.prog 33 #[.pointer (some ⟨b, 0, none⟩)] w fun e w' => e = .returned (.bool R.ok) ∧ w = w' := by
 have UR := h.at 33 (.bool R.ok) rfl
 clear h
 generalize R.ok = o at *
 go_enter Tryz.func33, Tryz.ntmps33
 go_wp2_with fail
 go_ret
 exact ⟨rfl, rfl⟩
end
end Go.Proofs.YtkhfejihijdipaaGreat

namespace Go.Proofs.YtkhfejihijdipaaGreat
open Go.RowKit Go.Lib
theorem JI {L K : List Jb} {i : Nat} (h1 : i < L.length) (h2 : i < K.length) (he : L.take i = K.take i) (hx : L.getD i default = K.getD i default) : L.take (i + 1) = K.take (i + 1) := by
 rw [List.take_succ_eq_append_getElem h1, List.take_succ_eq_append_getElem h2, he]
 rw [List.getD, List.getElem?_eq_getElem h1, List.getD, List.getElem?_eq_getElem h2] at hx
 simp only [Option.getD_some] at hx
 rw [hx]
section
variable {w w' : World} {u v : Value} {L K : List Jb}
theorem qI (hu : aF ah 10 w u L) (hv : aF ah 10 w v K) (hL : L.length ≤ 100000) : Calls Tryz.prog 25 #[u, v] w fun e w' => e = .returned (.bool (decide (L = K))) ∧ Below w.heap.size w w' := by
 have hU := Lib.hid hu
 have hV := Lib.hid hv
 obtain ⟨ao, cap, rfl, h1, h2⟩ := hu.shape
 obtain ⟨bo, U8, rfl, h3, h4⟩ := hv.shape
 obtain ⟨n, hn⟩ : ∃ n, n = L.length := ⟨_, rfl⟩
 obtain ⟨m, hm⟩ : ∃ m, m = K.length := ⟨_, rfl⟩
 rw [← hn] at h1 hL ⊢
 rw [← hm] at h3 ⊢
 clear hu hv
 by_cases hnm : n = m
 ·subst hnm
  replace hn := Lib.hid hn
  replace hm := Lib.hid hm
  go_enter Tryz.func25, Tryz.ntmps25
  go_wp2_with fail
  go_loopw [5] (fun ii wr => ∃ i : Nat, i ≤ n ∧ ii = .int .i64 i ∧ Hid (L.take i = K.take i) ∧ Hid (Below w.heap.size w wr)) (fun ii _ => n - (intOf ii).toNat)
  case atStart => exact ⟨0, Nat.zero_le _, rfl, by show _ = _; simp, Below.refl _ _⟩
  case round =>
   obtain ⟨i, hi, rfl, hsm, hbw⟩ := hrel
   by_cases hlt : i < n
   ·have b2 : (i : Int) < (n : Int) := by omega
    have b0 : (0 : Int) ≤ (i : Int) := by omega
    have wi : IntKind.i64.wrap ((i : Int) + 1) = (i : Int) + 1 := by rw [IntKind.wrap_i64]; omega
    have hi1 : i < L.length := by rw [← hn.out]; exact hlt
    have hi2 : i < K.length := by rw [← hm.out]; exact hlt
    obtain ⟨b, off, cp, hv5, _, _, hbl, hc⟩ := (hU.out.below hbw.out).MP i hi1
    obtain ⟨d, Uj, cp2, hv6, _, _, hdl, hd⟩ := (hV.out.below hbw.out).MP i hi2
    rw [← hn.out] at hv5
    rw [← hm.out] at hv6
    cases hv5
    cases hv6
    have hmore := JI hi1 hi2 hsm.out
    have hless : L.getD i default ≠ K.getD i default → ¬ L = K := fun h e => h (by rw [e])
    generalize L.getD i default = x at *
    generalize K.getD i default = y at *
    obtain ⟨x1, x2, x3, x4, x5, x6, x7, x8, x9, x0⟩ := x
    obtain ⟨y1, y2, y3, y4, y5, y6, y7, y8, y9, y0⟩ := y
    have a0 := hc 0 _ rfl
    have a1 := hc 1 _ rfl
    have a2 := hc 2 _ rfl
    have a3 := hc 3 _ rfl
    have a4 := hc 4 _ rfl
    have a5 := hc 5 _ rfl
    have a6 := hc 6 _ rfl
    have a7 := hc 7 _ rfl
    have a8 := hc 8 _ rfl
    have a9 := hc 9 _ rfl
    rw [Nat.add_zero] at a0
    have e0 := hd 0 _ rfl
    have e1 := hd 1 _ rfl
    have e2 := hd 2 _ rfl
    have e3 := hd 3 _ rfl
    have e4 := hd 4 _ rfl
    have e5 := hd 5 _ rfl
    have e6 := hd 6 _ rfl
    have e7 := hd 7 _ rfl
    have e8 := hd 8 _ rfl
    have e9 := hd 9 _ rfl
    rw [Nat.add_zero] at e0
    have hq := fun W => MM (x1, x2, x3, x4, x5, x6, x7, x8, x9, x0) (y1, y2, y3, y4, y5, y6, y7, y8, y9, y0) W
    rw [sK, sK] at hq
    clear hc hd
    by_cases hxy : (x1, x2, x3, x4, x5, x6, x7, x8, x9, x0) = (y1, y2, y3, y4, y5, y6, y7, y8, y9, y0)
    ·rw [decide_eq_true hxy, Bool.not_true] at hq
     have hm1 : Hid (L.take (i + 1) = K.take (i + 1)) := hmore hxy
     have hbd : Hid (Below w.heap.size w wr.drew) := hbw.out.drew
     clear hmore hless hxy
     go_wp2_with fail
     go_region
     all_goals (try go_wp2_with fail)
     exact ⟨⟨i + 1, by omega, by go_num, hm1, hbd⟩, by simp [intOf]; omega⟩
    ·rw [decide_eq_false hxy, Bool.not_false] at hq
     have hf : Hid (decide (L = K) = false) := decide_eq_false (hless hxy)
     have hbd : Hid (Below w.heap.size w wr.drew) := hbw.out.drew
     clear hmore hless hxy
     go_wp2_with fail
     go_region
     all_goals (try go_wp2_with fail)
     go_ret
     exact ⟨by rw [hf.out]; rfl, hbd.out⟩
   ·obtain rfl : i = n := by omega
    have b2 : ¬ (i : Int) < (i : Int) := by omega
    have hf : Hid (decide (L = K) = true) := by
     refine decide_eq_true ?_
     have h := hsm.out
     rw [hn.out, List.take_length] at h
     rw [h, ← hn.out, hm.out, List.take_length]
    go_wp2_with fail
    go_ret
    exact ⟨by rw [hf.out]; rfl, hbw.out⟩
 ·have dn : ((n : Int) != (m : Int)) = true := by simp; omega
  have hf : Hid (decide (L = K) = false) := decide_eq_false fun e => hnm (by rw [hn, hm, e])
  replace hn := Lib.hid hn
  replace hm := Lib.hid hm
  clear hnm
  go_enter Tryz.func25, Tryz.ntmps25
  go_wp2_with fail
  go_ret
  exact ⟨by rw [hf.out]; rfl, Below.refl _ _⟩
end
theorem G7 {L K : List (Int × Int)} {i : Nat} (h1 : i < L.length) (h2 : i < K.length) (he : L.take i = K.take i) (hx : L.getD i (0, 0) = K.getD i (0, 0)) : L.take (i + 1) = K.take (i + 1) := by
 rw [List.take_succ_eq_append_getElem h1, List.take_succ_eq_append_getElem h2, he]
 rw [List.getD, List.getElem?_eq_getElem h1, List.getD, List.getElem?_eq_getElem h2] at hx
 simp only [Option.getD_some] at hx
 rw [hx]
theorem aF.Pm {w : World} {v : Value} {L : List (Int × Int)} (h : aF EH 2 w v L) (i : Nat) (hi : i < L.length) : ∃ b off cap, v = .slice (some ⟨b, off, none⟩) L.length cap ∧ L.length ≤ cap ∧ cap ≤ maxLen ∧ b < w.heap.size ∧ ∀ j u, (EH (L.getD i (0, 0)))[j]? = some u → w.cell? ⟨b, off + i * 2 + j, none⟩ = some u := by
 obtain ⟨ao, cap, rfl, h1, h2, h3⟩ := h
 obtain ⟨b, off, rfl, hb, hc⟩ := h3 (by omega)
 exact ⟨b, off, cap, rfl, h1, h2, hb, fun j u hj => by rw [Nat.add_assoc]; exact hc i (L.getD i (0, 0)) j u (by simp [List.getD, hi]) hj⟩
section
theorem Bw (x y : Int × Int) (w : World) : (Op.equalIn 10000 58 (.agg #[.int .i64 x.1, .int .i64 x.2]) (.agg #[.int .i64 y.1, .int .i64 y.2])).run Tryz.prog w = .ok (decide (x = y)) w := by
 have u2 := Tryz.underlying2
 have a2 := Tryz.isAgg2
 have z2 := Tryz.sizeOf2
 have u3 := Tryz.underlying3
 have a3 := Tryz.isAgg3
 have z3 := Tryz.sizeOf3
 have hS : Tryz.prog.underlying 58 = some (.struct (Tryz.prog.fieldsOf 58)) := by kernel_rfl
 have hp : Tryz.prog.stoodInHeld 58 = false := by kernel_rfl
 rw [show (10000 : Nat) = 9999 + 1 from rfl, run_equalIn_agg w 9999 58 _ _ hS hp]
 simp only [Program.fieldsOf, Tryz.underlying58]
 go_simp
 obtain ⟨x1, x2⟩ := x
 obtain ⟨y1, y2⟩ := y
 by_cases h1 : x1 = y1 <;> by_cases h2 : x2 = y2 <;> simp [h1, h2]
theorem MI (x y : Int × Int) (w : World) : (binOp .neq 58 (.agg #[.int .i64 x.1, .int .i64 x.2]) (.agg #[.int .i64 y.1, .int .i64 y.2])).run Tryz.prog w = .ok (.bool (!decide (x = y))) w := by
 rw [run_neq_struct, Bw]; rfl
end
section
variable {w w' : World} {u v : Value} {L K : List (Int × Int)}
theorem oV (hu : aF EH 2 w u L) (hv : aF EH 2 w v K) (hL : L.length ≤ 100000) : Calls Tryz.prog 15 #[u, v] w fun e w' => e = .returned (.bool (decide (L = K))) ∧ Below w.heap.size w w' := by
 have hU := Lib.hid hu
 have hV := Lib.hid hv
 obtain ⟨ao, cap, rfl, h1, h2⟩ := hu.shape
 obtain ⟨bo, U8, rfl, h3, h4⟩ := hv.shape
 obtain ⟨n, hn⟩ : ∃ n, n = L.length := ⟨_, rfl⟩
 obtain ⟨m, hm⟩ : ∃ m, m = K.length := ⟨_, rfl⟩
 rw [← hn] at h1 hL ⊢
 rw [← hm] at h3 ⊢
 clear hu hv
 by_cases hnm : n = m
 ·subst hnm
  replace hn := Lib.hid hn
  replace hm := Lib.hid hm
  go_enter Tryz.func15, Tryz.ntmps15
  go_wp2_with fail
  go_loopw [5] (fun ii wr => ∃ i : Nat, i ≤ n ∧ ii = .int .i64 i ∧ Hid (L.take i = K.take i) ∧ Hid (Below w.heap.size w wr)) (fun ii _ => n - (intOf ii).toNat)
  case atStart => exact ⟨0, Nat.zero_le _, rfl, by show _ = _; simp, Below.refl _ _⟩
  case round =>
   obtain ⟨i, hi, rfl, hsm, hbw⟩ := hrel
   by_cases hlt : i < n
   ·have b2 : (i : Int) < (n : Int) := by omega
    have b0 : (0 : Int) ≤ (i : Int) := by omega
    have wi : IntKind.i64.wrap ((i : Int) + 1) = (i : Int) + 1 := by rw [IntKind.wrap_i64]; omega
    have hi1 : i < L.length := by rw [← hn.out]; exact hlt
    have hi2 : i < K.length := by rw [← hm.out]; exact hlt
    obtain ⟨b, off, cp, hv5, _, _, hbl, hc⟩ := (hU.out.below hbw.out).Pm i hi1
    obtain ⟨d, Uj, cp2, hv6, _, _, hdl, hd⟩ := (hV.out.below hbw.out).Pm i hi2
    rw [← hn.out] at hv5
    rw [← hm.out] at hv6
    cases hv5
    cases hv6
    have hmore := G7 hi1 hi2 hsm.out
    have hless : L.getD i (0, 0) ≠ K.getD i (0, 0) → ¬ L = K := fun h e => h (by rw [e])
    generalize L.getD i (0, 0) = x at *
    generalize K.getD i (0, 0) = y at *
    obtain ⟨x1, x2⟩ := x
    obtain ⟨y1, y2⟩ := y
    have a0 := hc 0 _ rfl
    have a1 := hc 1 _ rfl
    rw [Nat.add_zero] at a0
    have e0 := hd 0 _ rfl
    have e1 := hd 1 _ rfl
    rw [Nat.add_zero] at e0
    have hq := fun W => MI (x1, x2) (y1, y2) W
    simp only at hq
    clear hc hd
    by_cases hxy : (x1, x2) = (y1, y2)
    ·rw [decide_eq_true hxy, Bool.not_true] at hq
     have hm1 : Hid (L.take (i + 1) = K.take (i + 1)) := hmore hxy
     have hbd : Hid (Below w.heap.size w wr.drew) := hbw.out.drew
     clear hmore hless hxy
     go_wp2_with fail
     go_region
     all_goals (try go_wp2_with fail)
     exact ⟨⟨i + 1, by omega, by go_num, hm1, hbd⟩, by simp [intOf]; omega⟩
    ·rw [decide_eq_false hxy, Bool.not_false] at hq
     have hf : Hid (decide (L = K) = false) := decide_eq_false (hless hxy)
     have hbd : Hid (Below w.heap.size w wr.drew) := hbw.out.drew
     clear hmore hless hxy
     go_wp2_with fail
     go_region
     all_goals (try go_wp2_with fail)
     go_ret
     exact ⟨by rw [hf.out]; rfl, hbd.out⟩
   ·obtain rfl : i = n := by omega
    have b2 : ¬ (i : Int) < (i : Int) := by omega
    have hf : Hid (decide (L = K) = true) := by
     refine decide_eq_true ?_
     have h := hsm.out
     rw [hn.out, List.take_length] at h
     rw [h, ← hn.out, hm.out, List.take_length]
    go_wp2_with fail
    go_ret
    exact ⟨by rw [hf.out]; rfl, hbw.out⟩
 ·have dn : ((n : Int) != (m : Int)) = true := by simp; omega
  have hf : Hid (decide (L = K) = false) := decide_eq_false fun e => hnm (by rw [hn, hm, e])
  replace hn := Lib.hid hn
  replace hm := Lib.hid hm
  clear hnm
  go_enter Tryz.func15, Tryz.ntmps15
  go_wp2_with fail
  go_ret
  exact ⟨by rw [hf.out]; rfl, Below.refl _ _⟩
end
end Go.Proofs.YtkhfejihijdipaaGreat

namespace Go.Proofs.YtkhfejihijdipaaGreat
open Go.RowKit Go.Lib Go.Sort
section
variable {w : World} {c t d p g a : Nat} {v : Value} {m : Int} {P : Pg}
def U9 (w : World) (L : List Jb) (x : Nat × Value) (W : World) : Prop := TV W x.1 x.2 L ∧ w.heap.size ≤ x.1 ∧ ∀ k, x.2.ownBlock = some k → w.heap.size ≤ k
def Va (w : World) (l : List Int) (x : Nat) (W : World) : Prop := TW W x l ∧ w.heap.size ≤ x
def Vb (w : World) (S : List (Int × Int)) (aH : Int) (x : Nat × Nat) (W : World) : Prop := PW W x.1 x.2 S aH ∧ w.heap.size ≤ x.1 ∧ w.heap.size ≤ x.2
theorem Pn (h : CW w c t d p v g a m P) (hk : PK P) (ha : a ≤ 1000) : Calls Tryz.prog 24 #[.pointer (some ⟨c, 0, none⟩)] w fun e w' => ∃ c2 t2 d2 p2 v2 g2, e = .returned (.pointer (some ⟨c2, 0, none⟩)) ∧ Ki w w' c2 t2 d2 p2 v2 g2 a m P ∧ Below w.heap.size w w' := by
 obtain ⟨S, aH, hp, hC, hl, h0, h1⟩ := h.kN
 have hcJ := fun (W : World) (hW : Below w.heap.size w W) => NC (h.kept hW).dW (show P.J.length ≤ 1000 from Nat.le_trans hk.few (by decide))
 have Uk := fun (W : World) (hW : Below w.heap.size w W) => D5 (h.kept hW).nodes hk.pW
 have hcP := fun (W : World) (hW : Below w.heap.size w W) => D6 (hp.kept hW) hC.sm.pos (show S.length ≤ 1000 by omega)
 have hno := kP h
 have hS := Lib.hid h
 clear h
 go_enter Tryz.func24, Tryz.ntmps24
 go_wp2_with (go_at_call 34; go_must (refine hno.mono ?_); rintro e w' ⟨rfl, rfl⟩)
 clear hno
 refine Reg2.rd w 19 26 [[],[ae],[ae,ae],[ae,ae,ae],[ae,ae,ae,ae],[af,af,af,af,af],[af,af,af,af,af,ae],[af,af,af,af,af,ae,ae],[af,af,af,af,af,ae,ae,ae],[ae,ae,ae,ae,ae,ae,ae,ae,ae],[af,af,af,af,af,af,af,af,af,af],[af,af,af,af,af,af,af,af,af,af,ae],[af,af,af,af,af,af,af,af,af,af,ae,ae],[af,af,af,af,af,af,af,af,af,af,ae,ae,ae],[ae,ae,ae,ae,ae,ae,ae,ae,ae,ae,ae,ae,ae,ae],[af,af,af,af,af,af,af,af,af,af,af,af,af,af,af],[af,af,af,af,af,af,af,af,af,af,af,af,af,af,af,ae],[af,af,af,af,af,af,af,af,af,af,af,af,af,af,af,ae,ae],[af,af,af,af,af,af,af,af,af,af,af,af,af,af,af,ae,ae,ae]] [0, 0, 0, 1, 1, 0, 0, 0, 1, 1, 0, 0, 0, 1, 1, 0, 0, 0, 1] [.pure, .pure, .pure, .mU (.pointer (some ⟨t, 0, none⟩)), .minor (Nat × Value) (0, .bool false) (fun x => .pointer (some ⟨x.1, 0, none⟩)) (fun x W => U9 w P.J x W), .pure, .pure, .pure, .mU (.pointer (some ⟨d, 0, none⟩)), .minor Nat 0 (fun x => .pointer (some ⟨x, 0, none⟩)) (fun x W => Va w P.T x W), .pure, .pure, .pure, .mU (.pointer (some ⟨p, 0, none⟩)), .minor (Nat × Nat) (0, 0) (fun x => .pointer (some ⟨x.1, 0, none⟩)) (fun x W => Vb w S aH x W), .pure, .pure, .pure, .mU (.bool P.cl)] (by kernel_rfl) (by kernel_rfl) rfl rfl ⟨trivial, trivial, trivial, Reg2.tt, ⟨fun x a b he hx => ⟨hx.1.kept he, hx.2.1, hx.2.2⟩, fun x a b he hx => ⟨hx.1.kept he, hx.2.1, hx.2.2⟩⟩, trivial, trivial, trivial, Reg2.tt, ⟨fun x a b he hx => ⟨hx.1.kept he, hx.2⟩, fun x a b he hx => ⟨hx.1.kept he, hx.2⟩⟩, trivial, trivial, trivial, Reg2.tt, ⟨fun x a b he hx => ⟨hx.1.kept he, hx.2.1, hx.2.2⟩, fun x a b he hx => ⟨hx.1.kept he, hx.2.1, hx.2.2⟩⟩, trivial, trivial, trivial, Reg2.tt, trivial⟩ ⟨rfl, rfl, rfl, Nat.le_refl _, fun _ _ => rfl⟩ ?_
 dsimp only [Reg2.mk, List.zip, List.zipWith, List.take]
 repeat (refine' Reg2.ai _ (by rfl) (fun wz => ?_) ?_; rotate_left; (go_simp; first | rfl | rw [if_neg (by omega)]); simp only [Act.put, xA, xB, xC]; (try simp only [xD]); (try simp only [xE]); (try simp only [id]))
 refine Reg2.pm (fun wz hI hF => ?_) (fun r3 => ?_) (by rfl)
 ·have c0 := (hS.out.kept hI).c0
  go_wp2_with fail
  first | exact ⟨_, rfl, rfl, Reg2.Ext.refl _⟩ | exact ⟨_, rfl, ⟨(), rfl, trivial⟩, Reg2.Ext.refl _⟩
 simp only [Act.put, xA, xB, xC]; (try simp only [xD]); (try simp only [xE]); (try simp only [id])
 refine Reg2.pm (fun wz hI hF => ?_) (fun r4 => ?_) (by rfl)
 ·have hc1 := hcJ wz hI
  go_wp2_with (go_at_call 60; go_must (refine hc1.mono ?_); rintro e w1 ⟨q1, u1, rfl, k1, k2, k3, hb5⟩)
  exact ⟨_, rfl, ⟨(q1, u1), rfl, k1, Nat.le_trans hI.size k2, fun k hk => Nat.le_trans hI.size (k3 k hk)⟩, hb5⟩
 simp only [Act.put, xA, xB, xC]; (try simp only [xD]); (try simp only [xE]); (try simp only [id])
 repeat (refine' Reg2.ai _ (by rfl) (fun wz => ?_) ?_; rotate_left; (go_simp; first | rfl | rw [if_neg (by omega)]); simp only [Act.put, xA, xB, xC]; (try simp only [xD]); (try simp only [xE]); (try simp only [id]))
 refine Reg2.pm (fun wz hI hF => ?_) (fun r8 => ?_) (by rfl)
 ·have c0 := (hS.out.kept hI).c1
  go_wp2_with fail
  first | exact ⟨_, rfl, rfl, Reg2.Ext.refl _⟩ | exact ⟨_, rfl, ⟨(), rfl, trivial⟩, Reg2.Ext.refl _⟩
 simp only [Act.put, xA, xB, xC]; (try simp only [xD]); (try simp only [xE]); (try simp only [id])
 refine Reg2.pm (fun wz hI hF => ?_) (fun r9 => ?_) (by rfl)
 ·have hc1 := Uk wz hI
  go_wp2_with (go_at_call 61; go_must (refine hc1.mono ?_); rintro e w1 ⟨rfl, k1, hb5⟩)
  exact ⟨_, rfl, ⟨wz.heap.size, rfl, k1, hI.size⟩, hb5⟩
 simp only [Act.put, xA, xB, xC]; (try simp only [xD]); (try simp only [xE]); (try simp only [id])
 repeat (refine' Reg2.ai _ (by rfl) (fun wz => ?_) ?_; rotate_left; (go_simp; first | rfl | rw [if_neg (by omega)]); simp only [Act.put, xA, xB, xC]; (try simp only [xD]); (try simp only [xE]); (try simp only [id]))
 refine Reg2.pm (fun wz hI hF => ?_) (fun Em => ?_) (by rfl)
 ·have c0 := (hS.out.kept hI).c2
  go_wp2_with fail
  first | exact ⟨_, rfl, rfl, Reg2.Ext.refl _⟩ | exact ⟨_, rfl, ⟨(), rfl, trivial⟩, Reg2.Ext.refl _⟩
 simp only [Act.put, xA, xB, xC]; (try simp only [xD]); (try simp only [xE]); (try simp only [id])
 refine Reg2.pm (fun wz hI hF => ?_) (fun Ej => ?_) (by rfl)
 ·have hc1 := hcP wz hI
  go_wp2_with (go_at_call 62; go_must (refine hc1.mono ?_); rintro e w1 ⟨q1, q2, rfl, k1, k2, k3, hb5⟩)
  exact ⟨_, rfl, ⟨(q1, q2), rfl, k1, Nat.le_trans hI.size k2, Nat.le_trans hI.size k3⟩, hb5⟩
 simp only [Act.put, xA, xB, xC]; (try simp only [xD]); (try simp only [xE]); (try simp only [id])
 repeat (refine' Reg2.ai _ (by rfl) (fun wz => ?_) ?_; rotate_left; (go_simp; first | rfl | rw [if_neg (by omega)]); simp only [Act.put, xA, xB, xC]; (try simp only [xD]); (try simp only [xE]); (try simp only [id]))
 refine Reg2.pm (fun wz hI hF => ?_) (fun RG => ?_) (by rfl)
 ·have c0 := (hS.out.kept hI).c4
  go_wp2_with fail
  first | exact ⟨_, rfl, rfl, Reg2.Ext.refl _⟩ | exact ⟨_, rfl, ⟨(), rfl, trivial⟩, Reg2.Ext.refl _⟩
 simp only [Act.put, xA, xB, xC]; (try simp only [xD]); (try simp only [xE]); (try simp only [id])
 refine Reg2.az ?_
 intro w3 HI3 _ oI
 have hj := oI.2.2.2.2.1
 have hn := oI.2.2.2.2.2.2.2.2.2.1
 have hq := oI.2.2.2.2.2.2.2.2.2.2.2.2.2.2.1
 obtain ⟨t2, v2⟩ := r4
 obtain ⟨p2, g2⟩ := Ej
 obtain ⟨j1, j2, j3⟩ := hj
 obtain ⟨n1, n2⟩ := hn
 obtain ⟨q1, q2, q3⟩ := hq
 clear oI
 have hs3 := HI3.size
 obtain ⟨w5, uR⟩ : ∃ w5, w5 = w3.alloc (.cells #[.pointer (some ⟨t2, 0, none⟩), .pointer (some ⟨r9, 0, none⟩), .pointer (some ⟨p2, 0, none⟩), .bool true, .bool P.cl] 48) := ⟨_, rfl⟩
 have hb5 : Below w3.heap.size w3 w5 := by rw [uR]; exact (Below.refl _ _).alloc (Nat.le_refl _) _
 have O7 : w5.heap[w3.heap.size]? = some (.cells #[.pointer (some ⟨t2, 0, none⟩), .pointer (some ⟨r9, 0, none⟩), .pointer (some ⟨p2, 0, none⟩), .bool true, .bool P.cl] 48 (0, 0)) := by rw [uR]; exact heap_alloc_new w3 _
 have hfin : Hid (Ki w w5 w3.heap.size t2 r9 p2 v2 g2 a m P ∧ Below w.heap.size w w5) := by
  refine ⟨⟨⟨O7, (show TV w3 t2 v2 P.J from j1).kept hb5, (show TW w3 r9 P.T from n1).kept hb5, S, aH, (show PW w3 p2 g2 S aH from q1).kept hb5, hC, hl, h0, h1⟩, ?_⟩, HI3.trans (hb5.mono hs3)⟩
  rintro k (rfl | rfl | rfl | rfl | hv | rfl)
  ·exact hs3
  ·exact j2
  ·exact n2
  ·exact q2
  ·exact j3 k hv
  ·exact q3
 clear j1 n1 q1 O7 hcJ Uk hcP hp
 dsimp only [List.drop]
 go_wp2_with fail
 rw [← uR]
 go_ret
 exact ⟨w3.heap.size, rfl, ⟨t2, r9, p2, v2, g2, hfin.out.1⟩, hfin.out.2⟩
end
end Go.Proofs.YtkhfejihijdipaaGreat

namespace Go.Proofs.YtkhfejihijdipaaGreat
open Go.RowKit Go.Lib Go.Sort
def MJ : Rq := ⟨1, 0, 0, 2, 10, 0, false, 0, 0⟩
def R6 : Md := (gp (dF 4) (toW MJ)).2
def Vd : Md := (dw R6 1 0).2
theorem Ve : lL Vd = [(0, 2), (10, 4)] := by decide
theorem nS {c t d p g : Nat} {v : Value} {b B : Nat} (h : ∀ k, eF c t d p v g k → B ≤ k) (hb : B ≤ b) : ∀ k, rX b c t d p v g k → B ≤ k := fun k hk => hk.elim (fun e => e ▸ hb) (h k)
theorem WS.Po {w w1 : World} {b c t d p g g1 B : Nat} {v v1 : Value} (h : WS w w1 b c t d p v g v1 g1) (hC : ∀ k, eF c t d p v g k → B ≤ k) (hb : B ≤ b) (hB : B ≤ w.heap.size) : ∀ k, eF c t d p v1 g1 k → B ≤ k := fun k hk => h.lo (nS hC hb) hB k (.inr hk)
theorem xH (w : World) : Calls Tryz.prog 10 #[] w fun e w' => e = .returned (.bool true) ∧ Below w.heap.size w w' := by
 have hn := GU 4 w (by decide) (by decide)
 go_enter Tryz.func10, Tryz.ntmps10
 go_wp2_with fail
 go_at_call 9
 refine hn.mono ?_
 clear hn
 rintro e w1 ⟨c, t, d, p, v, g, rfl, ⟨nT, hlo1⟩, hb1⟩
 have hq := si MJ w1
 rw [show (encR MJ).toArray = #[.int .i64 1, .int .i64 0, .int .i64 0, .int .i64 2, .int .i64 10, .int .i64 0, .bool false, .int .i64 0, .int .i64 0] from rfl] at hq
 go_wp2_with fail
 go_at_call 27
 refine hq.mono ?_
 clear hq
 rintro e w2 ⟨b, rfl, hW2, hlb, hb2⟩
 have hC2 := nT.kept hb2
 have oW := sF (M := dF 4) hC2 MJ hW2 (Ok.new (by decide)) (by decide) (by decide) (by decide) (by decide)
 go_wp2_with fail
 go_at_call 29
 refine oW.mono ?_
 clear oW nT
 rintro e w3 ⟨n1, v3, g3, R3, _, _, rfl, tX, hW3, _, hr3, _, hs3⟩
 have hx := oQ 1 0 w3
 go_wp2_with fail
 go_at_call 28
 refine hx.mono ?_
 clear hx
 rintro e w4 ⟨x, rfl, Vf, hlx, hb4⟩
 have nU := tX.kept hb4
 have Lv : bQ w4 b R3 := (hb4.block b hW3.lt).trans hW3
 have hbx : b ≠ x := Nat.ne_of_lt (Nat.lt_of_lt_of_le hW3.lt hlx)
 have oW := oU (M := R6) nU 1 0 Vf ((Ok.new (by decide)).Dw _) (by decide) (by decide) (by decide) (by decide)
 go_wp2_with fail
 go_at_call 29
 refine oW.mono ?_
 clear oW
 rintro e w5 ⟨n2, v5, g5, R5, _, _, rfl, fZ, Ul, _, _, xe, hs5⟩
 have Qk : bQ w5 b R3 := (hs5.heap Lv.lt (fun hf => hf.elim hbx (nU.other Lv (by decide)))).trans Lv
 have QN : Hid (Below w.heap.size w w5) := by
  have l1 := hb1.size
  have s2 := hb2.size
  have s3 := hs3.off.size
  have lo3 := hs3.Po hlo1 (Nat.le_trans l1 hlb) (Nat.le_trans l1 s2)
  have f3 := hs3.below (nS hlo1 (Nat.le_trans l1 hlb)) (Nat.le_trans l1 s2)
  have l3 : w.heap.size ≤ w3.heap.size := Nat.le_trans (Nat.le_trans l1 s2) s3
  have f5 := hs5.below (nS lo3 (Nat.le_trans l3 hlx)) (Nat.le_trans l3 hb4.size)
  exact hb1.trans ((hb2.mono l1).trans (f3.trans ((hb4.mono l3).trans f5)))
 have hst := nR fZ ((Ok.new (by decide)).Dw (toW MJ) |>.jk 1 0).inv (by decide)
 have q2 := fZ.c2
 go_wp2_with fail
 go_at_call 16
 refine hst.mono ?_
 clear hst q2
 rintro e w6 ⟨u, rfl, hu, hb6⟩
 rw [show lL (dw R6 1 0).2 = [(0, 2), (10, 4)] from Ve] at hu
 have RN : bQ w6 b R3 := (hb6.block b Qk.lt).trans Qk
 have Um : bQ w6 x R5 := (hb6.block x Ul.lt).trans Ul
 have QO : Hid (Below w.heap.size w w6) := QN.out.trans (hb6.mono QN.out.size)
 obtain ⟨ao, cap, rfl, q1, q2, q3⟩ := hu
 obtain ⟨B, off, rfl, hlt, hc⟩ := q3 (by decide)
 have R7 := MH RN
 rw [hr3, show (oC (gp (dF 4) (toW MJ)).1) = ⟨0, 1, 1, -1, -1, -1, 2, 0, 0⟩ from rfl, show (fP ⟨0, 1, 1, -1, -1, -1, 2, 0, 0⟩).toArray = #[.int .i64 0, .int .i64 1, .int .i64 1, .int .i64 (-1), .int .i64 (-1), .int .i64 (-1), .int .i64 2, .int .i64 0, .int .i64 0] from rfl] at R7
 have hok : ∀ W, Below w6.heap.size w6 W → Calls Tryz.prog 33 #[.pointer (some ⟨x, 0, none⟩)] W fun e w' => e = .returned (.bool true) ∧ W = w' := fun W hW => by
  have := R4 ((hW.block x Um.lt).trans Um)
  rw [xe] at this
  exact this
 have k1 : w6.cell? ⟨B, off + 1, none⟩ = some (.int .i64 2) := hc 0 (0, 2) 1 _ rfl rfl
 have k2 : w6.cell? ⟨B, off + 2, none⟩ = some (.int .i64 10) := hc 1 (10, 4) 0 _ rfl rfl
 have k3 : w6.cell? ⟨B, off + 3, none⟩ = some (.int .i64 4) := hc 1 (10, 4) 1 _ rfl rfl
 clear hc
 have Wj : ∀ W, Sem.run Tryz.prog (Instr.field 74 (.agg #[.int .i64 0, .int .i64 1, .int .i64 1, .int .i64 (-1), .int .i64 (-1), .int .i64 (-1), .int .i64 2, .int .i64 0, .int .i64 0]) 1) W = .ok (.int .i64 1) W := fun W => by kernel_rfl
 go_wp2_with fail
 go_at_call 32
 refine R7.mono ?_
 clear R7
 rintro e w7 ⟨rfl, iP⟩
 have k1 := (iP.cell (p := ⟨B, off + 1, none⟩) hlt).trans k1
 have k2 := (iP.cell (p := ⟨B, off + 2, none⟩) hlt).trans k2
 have k3 := (iP.cell (p := ⟨B, off + 3, none⟩) hlt).trans k3
 have QP := hok w7 iP
 have Un : Hid (Below w.heap.size w w7) := QO.out.trans (iP.mono QO.out.size)
 clear hok
 go_wp2_with fail
 go_at_call 33
 refine QP.mono ?_
 clear QP
 rintro e w' ⟨rfl, rfl⟩
 go_wp2_with fail
 go_ret
 exact ⟨rfl, Un.out⟩
end Go.Proofs.YtkhfejihijdipaaGreat

namespace Go.Proofs.YtkhfejihijdipaaGreat
open Go.RowKit Go.Lib Go.Sort
structure De where
 Kn : Bool
 r : Rq
 xi : Int
 xt : Int
def mq (x : De) : List Value := .bool x.Kn :: (encR x.r ++ [.int .i64 x.xi, .int .i64 x.xt])
section
variable {w : World} {v : Value} {l : List De}
theorem Ko (h : aF mq 12 w v l) : Calls Tryz.prog 8 #[v] w fun e w' => ∃ v', e = .returned v' ∧ aF mq 12 w v' (l.take 60) ∧ w = w' := by
 have hr := h
 obtain ⟨ao, cap, rfl, h1, h2, h3⟩ := h
 by_cases hn : 60 < l.length
 ·have d1 : decide ((60 : Int) < (l.length : Int)) = true := decide_eq_true (by omega)
  have hcut := hr.cut (n := 60) (by omega)
  go_enter Tryz.func8, Tryz.ntmps8
  go_wp2_with fail
  go_ret
  exact ⟨_, rfl, hcut, rfl⟩
 ·have d1 : decide ((60 : Int) < (l.length : Int)) = false := decide_eq_false (by omega)
  have e : l.take 60 = l := List.take_of_length_le (by omega)
  rw [e]
  go_enter Tryz.func8, Tryz.ntmps8
  go_wp2_with fail
  go_ret
  exact ⟨_, rfl, hr, rfl⟩
end
end Go.Proofs.YtkhfejihijdipaaGreat

namespace Go.Proofs.YtkhfejihijdipaaGreat
open Go.RowKit Go.Lib Go.Sort
section
variable {M : Md}
theorem xI (M : Md) (j : Jb) : (dZ M j).L.length = M.L.length ∧ (dZ M j).dr = M.dr := ⟨by show (M.L.map _).length = _; rw [List.length_map], rfl⟩
theorem Qp (hI : aB M) (r : Rw) : (gp M r).2.L.length ≤ M.L.length + 1 ∧ (gp M r).2.dr.length = M.dr.length := by
 unfold gp
 by_cases hc : M.cl = true
 ·rw [if_pos hc]; exact ⟨Nat.le_succ _, rfl⟩
 rw [if_neg hc]
 by_cases k1 : r.kind = 1
 ·rw [if_pos k1]
  unfold ic
  split
  ·exact ⟨Nat.le_succ _, rfl⟩
  split
  ·exact ⟨by show (M.L ++ [_]).length ≤ _; simp, rfl⟩
  ·refine ⟨?_, rfl⟩
   rw [(xI _ _).1]
   show (M.L ++ [_]).length ≤ _
   simp
 rw [if_neg k1]
 by_cases k2 : r.kind = 2 ∨ r.kind = 5
 ·rw [if_pos k2]
  unfold kT
  simp only
  split
  ·exact ⟨Nat.le_succ _, rfl⟩
  split
  ·exact ⟨Nat.le_succ _, rfl⟩
  ·exact ⟨by show (M.L.set _ _).length ≤ _; rw [List.length_set]; omega, rfl⟩
 rw [if_neg k2]
 by_cases k3 : r.kind = 3 ∨ r.kind = 4 ∨ r.kind = 6
 ·rw [if_pos k3]
  unfold fo
  simp only
  split
  ·exact ⟨Nat.le_succ _, rfl⟩
  split
  ·exact ⟨Nat.le_succ _, rfl⟩
  split
  ·refine ⟨?_, rfl⟩
   rw [(xI _ _).1]
   show (M.L.set _ _).length ≤ _
   rw [List.length_set]; omega
  ·exact ⟨by show (M.L.set _ _).length ≤ _; rw [List.length_set]; omega, rfl⟩
 rw [if_neg k3]
 by_cases k7 : r.kind = 7 ∨ r.kind = 8
 ·rw [if_pos k7]
  unfold gL
  split
  ·exact ⟨Nat.le_succ _, rfl⟩
  split
  ·exact ⟨Nat.le_succ _, rfl⟩
  ·unfold eH
   split
   ·exact ⟨by show (dZ M ky).L.length ≤ _; rw [(xI _ _).1]; omega, by show (M.dr.set _ _).length = _; rw [List.length_set]⟩
   ·exact ⟨Nat.le_succ _, by show (M.dr.set _ _).length = _; rw [List.length_set]⟩
 rw [if_neg k7]
 by_cases k9 : r.kind = 9
 ·rw [if_pos k9]
  unfold kX
  split
  ·exact ⟨Nat.le_succ _, rfl⟩
  ·have hn := hI.mb.now
   have hk := Dm (M.now + r.by') (2 * M.L.length + 1) hI.mb (by omega)
   exact ⟨by show (cO _ _ M).L.length ≤ _; rw [hk.2.1]; omega, by show (cO _ _ M).dr.length = _; rw [hk.2.2.1]⟩
 rw [if_neg k9]
 repeat' split
 all_goals exact ⟨Nat.le_succ _, rfl⟩
theorem G8 (M : Md) (id t : Int) : (dw M id t).2.L.length = M.L.length ∧ (dw M id t).2.dr = M.dr := by
 unfold dw
 split
 ·split
  ·exact ⟨by show (M.L.set _ _).length = _; rw [List.length_set], rfl⟩
  ·exact ⟨by show (M.L.set _ _).length = _; rw [List.length_set], rfl⟩
 ·exact ⟨rfl, rfl⟩
def Ez (M : Md) (x : De) : Md := if x.Kn then (dw M x.xi x.xt).2 else (gp M (toW x.r)).2
def iD (M : Md) (l : List De) : Md := l.foldl Ez M
theorem Ok.de (h : Ok M) (x : De) : Ok (Ez M x) := by
 unfold Ez
 split
 ·exact h.jk _ _
 ·exact h.Dw _
theorem Qq (h : Ok M) (x : De) : (Ez M x).L.length ≤ M.L.length + 1 ∧ (Ez M x).dr.length = M.dr.length := by
 unfold Ez
 split
 ·have := G8 M x.xi x.xt
  exact ⟨by rw [this.1]; omega, by rw [this.2]⟩
 ·exact Qp h.inv _
theorem xJ (h : Ok M) (l : List De) : Ok (iD M l) ∧ (iD M l).L.length ≤ M.L.length + l.length ∧ (iD M l).dr.length = M.dr.length := by
 unfold iD
 induction l generalizing M with
 | nil => exact ⟨h, Nat.le_refl _, rfl⟩
 | cons x l ih =>
  obtain ⟨h1, h2, h3⟩ := ih (h.de x)
  have := Qq h x
  exact ⟨h1, by show (l.foldl Ez (Ez M x)).L.length ≤ M.L.length + (l.length + 1); omega, h3.trans this.2⟩
theorem AO (M : Md) {l : List De} {i : Nat} (hi : i < l.length) : iD M (l.take (i + 1)) = Ez (iD M (l.take i)) l[i] := by
 unfold iD
 rw [List.take_succ_eq_append_getElem hi, List.foldl_append]
 rfl
end
end Go.Proofs.YtkhfejihijdipaaGreat

namespace Go.Proofs.YtkhfejihijdipaaGreat
open Go.RowKit Go.Lib Go.Sort
def sG (x : De) : Prop := Q4 x.r ∧ (-9223372036854775808 ≤ x.xi ∧ x.xi ≤ 9223372036854775807) ∧ (-9223372036854775808 ≤ x.xt ∧ x.xt ≤ 9223372036854775807)
section
variable {w : World} {u : Value} {l : List De}
theorem MK (h : aF mq 12 w u l) (n : Int) (hn : n < 1 ∨ 64 < n) : Calls Tryz.prog 14 #[.int .i64 n, u] w fun e w' => e = .returned (.pointer none) ∧ w = w' := by
 have hf := Ko h
 have hb := Mv n w hn
 go_enter Tryz.func14, Tryz.ntmps14
 go_wp2_with fail
 go_at_call 8
 refine hf.mono ?_
 rintro e w' ⟨v', rfl, _, rfl⟩
 go_wp2_with fail
 go_at_call 9
 refine hb.mono ?_
 rintro e w' ⟨rfl, rfl⟩
 go_wp2_with fail
 go_ret
 exact ⟨rfl, rfl⟩
theorem Pp (h : aF mq 12 w u l) (hfit : ∀ x ∈ l, sG x) (n : Nat) (h1 : 1 ≤ n) (h2 : n ≤ 64) : Calls Tryz.prog 14 #[.int .i64 n, u] w fun e w' => ∃ c t d p v g, e = .returned (.pointer (some ⟨c, 0, none⟩)) ∧
  Ki w w' c t d p v g (1 + 2 * (iD (dF n) (l.take 60)).L.length) 60000 (aj (iD (dF n) (l.take 60))) ∧ Below w.heap.size w w' := by
 have hf := Ko h
 have hb := GU n w h1 h2
 have JJ : ∀ x ∈ l.take 60, sG x := fun x hx => hfit x (List.mem_of_mem_take hx)
 have hlen : (l.take 60).length ≤ 60 := by rw [List.length_take]; omega
 generalize l.take 60 = ds at *
 clear h hfit
 go_enter Tryz.func14, Tryz.ntmps14
 go_wp2_with fail
 go_at_call 8
 refine hf.mono ?_
 clear hf
 rintro e w' ⟨u', rfl, hr, rfl⟩
 go_wp2_with fail
 go_at_call 9
 refine hb.mono ?_
 clear hb
 rintro e w1 ⟨c, t, d, p, v1, g1, rfl, ⟨nT, hlo1⟩, hb1⟩
 replace hr := Lib.hid hr
 obtain ⟨N, hN⟩ : ∃ N, N = ds.length := ⟨_, rfl⟩
 obtain ⟨ao, cap, rfl, q1, q2, q3⟩ := hr.out
 clear q1 q3
 go_wp2_with fail
 go_loopw [7] (fun ii wr => ∃ (i : Nat) (v : Value) (g : Nat), i ≤ ds.length ∧ ii = .int .i64 i ∧ Hid (CW wr c t d p v g (1 + 2 * (iD (dF n) (ds.take i)).L.length) (1000 * i) (aj (iD (dF n) (ds.take i)))) ∧ Hid (∀ k, eF c t d p v g k → w.heap.size ≤ k) ∧ Hid (Below w.heap.size w wr)) (fun ii _ => ds.length - (intOf ii).toNat)
 case atStart =>
  exact ⟨0, v1, g1, Nat.zero_le _, rfl, Lib.hid nT, Lib.hid hlo1, Lib.hid hb1⟩
 case round =>
  clear nT hlo1 hb1
  obtain ⟨i, v, g, hin, rfl, hC, hlo, hbr⟩ := hrel
  obtain ⟨hok, hpl, Vg⟩ := xJ (Ok.new h2) (ds.take i)
  have hle : (ds.take i).length ≤ 60 := by rw [List.length_take]; omega
  have hnl : (dF n).L.length = 0 ∧ (dF n).dr.length = n := ⟨rfl, by simp [dF]⟩
  by_cases hlt : i < ds.length
  ·have b2 : (i : Int) < (ds.length : Int) := by omega
   have wi : IntKind.i64.wrap ((i : Int) + 1) = (i : Int) + 1 := by rw [IntKind.wrap_i64]; omega
   have hrr := hr.out.below hbr.out
   obtain ⟨Hd, cap', e0, r1, r2, r3⟩ := hrr
   injection e0 with e1 _ e2
   subst e1 e2
   obtain ⟨B, off, rfl, hB, hcell⟩ := r3 (by omega)
   have hx := fun (j : Nat) (z : Value) (hz : (mq ds[i])[j]? = some z) => hcell i ds[i] j z (List.getElem?_eq_getElem hlt) hz
   have hsn := AO (dF n) hlt
   generalize hxd : ds[i] = x at *
   have hfx := JJ x (by rw [← hxd]; exact List.getElem_mem hlt)
   obtain ⟨cm, ⟨y1, y2, y3, y4, y5, y6, y7, y8, y9⟩, xi, xt⟩ := x
   have k0 : wr.cell? ⟨B, off + i * 12, none⟩ = some (.bool cm) := hx 0 _ rfl
   have k1 : wr.cell? ⟨B, off + i * 12 + 1, none⟩ = some (.int .i64 y1) := hx 1 _ rfl
   have k2 : wr.cell? ⟨B, off + i * 12 + 1 + 1, none⟩ = some (.int .i64 y2) := (congrArg (fun z => wr.cell? ⟨B, z, none⟩) (show off + i * 12 + 1 + 1 = off + (i * 12 + 2) by omega)).trans (hx 2 _ rfl)
   have k3 : wr.cell? ⟨B, off + i * 12 + 1 + 2, none⟩ = some (.int .i64 y3) := (congrArg (fun z => wr.cell? ⟨B, z, none⟩) (show off + i * 12 + 1 + 2 = off + (i * 12 + 3) by omega)).trans (hx 3 _ rfl)
   have k4 : wr.cell? ⟨B, off + i * 12 + 1 + 3, none⟩ = some (.int .i64 y4) := (congrArg (fun z => wr.cell? ⟨B, z, none⟩) (show off + i * 12 + 1 + 3 = off + (i * 12 + 4) by omega)).trans (hx 4 _ rfl)
   have k5 : wr.cell? ⟨B, off + i * 12 + 1 + 4, none⟩ = some (.int .i64 y5) := (congrArg (fun z => wr.cell? ⟨B, z, none⟩) (show off + i * 12 + 1 + 4 = off + (i * 12 + 5) by omega)).trans (hx 5 _ rfl)
   have k6 : wr.cell? ⟨B, off + i * 12 + 1 + 5, none⟩ = some (.int .i64 y6) := (congrArg (fun z => wr.cell? ⟨B, z, none⟩) (show off + i * 12 + 1 + 5 = off + (i * 12 + 6) by omega)).trans (hx 6 _ rfl)
   have k7 : wr.cell? ⟨B, off + i * 12 + 1 + 6, none⟩ = some (.bool y7) := (congrArg (fun z => wr.cell? ⟨B, z, none⟩) (show off + i * 12 + 1 + 6 = off + (i * 12 + 7) by omega)).trans (hx 7 _ rfl)
   have k8 : wr.cell? ⟨B, off + i * 12 + 1 + 7, none⟩ = some (.int .i64 y8) := (congrArg (fun z => wr.cell? ⟨B, z, none⟩) (show off + i * 12 + 1 + 7 = off + (i * 12 + 8) by omega)).trans (hx 8 _ rfl)
   have k9 : wr.cell? ⟨B, off + i * 12 + 1 + 8, none⟩ = some (.int .i64 y9) := (congrArg (fun z => wr.cell? ⟨B, z, none⟩) (show off + i * 12 + 1 + 8 = off + (i * 12 + 9) by omega)).trans (hx 9 _ rfl)
   have k10 : wr.cell? ⟨B, off + i * 12 + 10, none⟩ = some (.int .i64 xi) := hx 10 _ rfl
   have k11 : wr.cell? ⟨B, off + i * 12 + 10 + 1, none⟩ = some (.int .i64 xt) := hx 11 _ rfl
   clear hx r3 hcell
   have hq := si ⟨y1, y2, y3, y4, y5, y6, y7, y8, y9⟩ wr
   rw [show (encR ⟨y1, y2, y3, y4, y5, y6, y7, y8, y9⟩).toArray = #[.int .i64 y1, .int .i64 y2, .int .i64 y3, .int .i64 y4, .int .i64 y5, .int .i64 y6, .bool y7, .int .i64 y8, .int .i64 y9] from rfl] at hq
   obtain ⟨M, hM⟩ : ∃ M, M = iD (dF n) (ds.take i) := ⟨_, rfl⟩
   rw [← hM] at hC hok hpl Vg hsn
   go_wp2_with fail
   go_at_call 27
   refine hq.mono ?_
   clear hq k1 k2 k3 k4 k5 k6 k7 k8 k9
   rintro e w2 ⟨b, rfl, hW2, hlb, hb2⟩
   have k0 := (hb2.cell (p := ⟨B, off + i * 12, none⟩) hB).trans k0
   have k10 := (hb2.cell (p := ⟨B, off + i * 12 + 10, none⟩) hB).trans k10
   have k11 := (hb2.cell (p := ⟨B, off + i * 12 + 10 + 1, none⟩) hB).trans k11
   have hC2 := Lib.hid (hC.out.kept hb2)
   have sH : Hid (Below w.heap.size w w2) := hbr.out.trans (hb2.mono hbr.out.size)
   cases cm with
   | false =>
    have oW := sF hC2.out ⟨y1, y2, y3, y4, y5, y6, y7, y8, y9⟩ hW2 hok (by omega) (by omega) (by omega) hfx.1.node
    rw [show (gp M (toW ⟨y1, y2, y3, y4, y5, y6, y7, y8, y9⟩)).2 = iD (dF n) (ds.take (i + 1)) from hsn.symm] at oW
    go_wp2_with fail
    go_at_call 29
    refine oW.mono ?_
    clear oW
    rintro e w3 ⟨n3, v3, g3, R3, _, _, rfl, tX, _, _, _, _, hs3⟩
    have l0 := sH.out.size
    have sI : w.heap.size ≤ b := Nat.le_trans hbr.out.size hlb
    have hlo3 := Lib.hid (hs3.Po hlo.out sI l0)
    have AP := Lib.hid (sH.out.trans (hs3.below (nS hlo.out sI) l0))
    have wF := Lib.hid (tX.wider (Nat.le_refl _) (show 1000 * (i : Int) + 1000 ≤ 1000 * ((i + 1 : Nat) : Int) by omega))
    clear hs3 tX
    go_wp2_with fail
    go_roundw
    case rel => exact ⟨i + 1, v3, g3, by omega, by go_num, wF, hlo3, AP⟩
    case measure => simp [intOf]; omega
   | true =>
    have hX := oQ xi xt w2
    go_wp2_with fail
    go_at_call 28
    refine hX.mono ?_
    clear hX
    rintro e R8 ⟨bx, rfl, hX2, hlx, G9⟩
    have Pq := Lib.hid (hC2.out.kept G9)
    have AQ : Hid (Below w.heap.size w R8) := sH.out.trans (G9.mono sH.out.size)
    have oW := oU Pq.out xi xt hX2 hok (by omega) (by omega) (by omega) hfx.2.2
    rw [show (dw M xi xt).2 = iD (dF n) (ds.take (i + 1)) from hsn.symm] at oW
    go_wp2_with fail
    go_at_call 29
    refine oW.mono ?_
    clear oW
    rintro e w3 ⟨n3, v3, g3, R3, _, _, rfl, tX, _, _, _, _, hs3⟩
    have l0 := AQ.out.size
    have sI : w.heap.size ≤ bx := Nat.le_trans sH.out.size hlx
    have hlo3 := Lib.hid (hs3.Po hlo.out sI l0)
    have AP := Lib.hid (AQ.out.trans (hs3.below (nS hlo.out sI) l0))
    have wF := Lib.hid (tX.wider (Nat.le_refl _) (show 1000 * (i : Int) + 1000 ≤ 1000 * ((i + 1 : Nat) : Int) by omega))
    clear hs3 tX
    go_wp2_with fail
    go_roundw
    case rel => exact ⟨i + 1, v3, g3, by omega, by go_num, wF, hlo3, AP⟩
    case measure => simp [intOf]; omega
  ·have b2 : ¬ (i : Int) < (ds.length : Int) := by omega
   have hi : i = ds.length := by omega
   subst hi
   rw [List.take_length] at hC
   have hC' := hC.out.wider (Nat.le_refl _) (show (1000 * (ds.length : Int)) ≤ 60000 by omega)
   go_wp2_with fail
   go_ret
   exact ⟨c, rfl, ⟨t, d, p, v, g, ⟨hC', hlo.out⟩⟩, hbr.out⟩
end
end Go.Proofs.YtkhfejihijdipaaGreat

namespace Go.Proofs.YtkhfejihijdipaaGreat
open Go.ChangeShapes Go.WideShapes Go.ChangeAt Go.RowKit Go.Lib Go.Sort Go.Deep
section
variable {H : Type} {enc : TypeId × Value → H} {w : World} {base : Nat} {v : Value} {d : DataW H} {ps : List MemPlace}
def Qr : List TypeId := [4, 3, 3, 3, 3, 2, 3, 4, 3, 2, 3, 2]
theorem AR {α : Type} {AU : α → List Value} {p : α → Prop} : ∀ {l : List (List Value)}, (∀ s ∈ l, ∃ x : α, s = AU x ∧ p x) → ∃ L : List α, l = L.map AU ∧ ∀ x ∈ L, p x
 | [], _ => ⟨[], rfl, fun _ h => nomatch h⟩
 | s :: l, h => by
  obtain ⟨x, rfl, hx⟩ := h s List.mem_cons_self
  obtain ⟨L, rfl, hL⟩ := AR (l := l) fun s hs => h s (List.mem_cons_of_mem _ hs)
  exact ⟨x :: L, rfl, fun y hy => by
   rcases List.mem_cons.1 hy with rfl | hy
   ·exact hx
   ·exact hL y hy⟩
theorem JK {α : Type} {AU : α → List Value} {n : Nat} {L : List α} (h : aF id n w v (L.map AU)) : aF AU n w v L := by
 obtain ⟨ao, cap, h1, h2, h3, h4⟩ := h
 rw [List.length_map] at h1 h2 h4
 refine ⟨ao, cap, h1, h2, h3, fun hn => ?_⟩
 obtain ⟨b, off, e, hlt, hc⟩ := h4 hn
 exact ⟨b, off, e, hlt, fun i s j u hi hj => hc i (AU s) j u (by rw [List.getElem?_map, hi]; rfl) hj⟩
theorem CQ (hval : Value.okWide Tryz.prog w .any base 22 v) (hd : DataW.Trod enc Tryz.prog w 0 (fun _ => true) true 22 v d ps) : ∃ l : List De, aF mq 12 w v l ∧ ∀ x ∈ l, sG x := by
 obtain ⟨l, hr, hf⟩ := KF (n := 3) (ts := Qr) Tryz.underlying22 (by kernel_rfl) (by kernel_rfl) (by kernel_rfl) (by decide) hval hd
 obtain ⟨L, rfl, hL⟩ := AR (AU := mq) (p := sG) fun s hs => by
  obtain ⟨hl, hf⟩ := hf s hs
  match s, hl with
  | [a0, a1, a2, a3, a4, a5, a6, a7, a8, a9, Wl, Wm], _ =>
   obtain ⟨x0, rfl⟩ := zy hf 0 rfl Tryz.underlying4 rfl
   obtain ⟨x1, rfl, b1⟩ := iU hf 1 rfl Tryz.underlying3 rfl
   obtain ⟨x2, rfl, b2⟩ := iU hf 2 rfl Tryz.underlying3 rfl
   obtain ⟨x3, rfl, b3⟩ := iU hf 3 rfl Tryz.underlying3 rfl
   obtain ⟨x4, rfl, b4⟩ := iU hf 4 rfl Tryz.underlying3 rfl
   obtain ⟨x5, rfl, b5⟩ := iU hf 5 rfl Tryz.underlying2 rfl
   obtain ⟨x6, rfl, b6⟩ := iU hf 6 rfl Tryz.underlying3 rfl
   obtain ⟨x7, rfl⟩ := zy hf 7 rfl Tryz.underlying4 rfl
   obtain ⟨x8, rfl, b8⟩ := iU hf 8 rfl Tryz.underlying3 rfl
   obtain ⟨x9, rfl, b9⟩ := iU hf 9 rfl Tryz.underlying2 rfl
   obtain ⟨IE, rfl, b10⟩ := iU hf 10 rfl Tryz.underlying3 rfl
   obtain ⟨Tj, rfl, b11⟩ := iU hf 11 rfl Tryz.underlying2 rfl
   exact ⟨⟨x0, ⟨x1, x2, x3, x4, x5, x6, x7, x8, x9⟩, IE, Tj⟩, rfl, ⟨b1, b2, b3, b4, b5, b6, b8, b9⟩, b10, b11⟩
 exact ⟨L, JK hr, hL⟩
end
end Go.Proofs.YtkhfejihijdipaaGreat

namespace Go.Proofs.YtkhfejihijdipaaGreat
open Go.RowKit Go.Lib Go.Sort
section
variable {w : World} {u u2 : Value} {l ds : List De}
theorem Ha (h : aF mq 12 w u l) (hfit : ∀ x ∈ l, sG x) (h2 : aF mq 12 w u2 ds) (JJ : ∀ x ∈ ds, sG x) (n : Int) : Calls Tryz.prog 5 #[.int .i64 n, u, u2] w fun e w' => e = .returned (.bool true) ∧ Below w.heap.size w w' := by
 by_cases hn : n < 1 ∨ 64 < n
 ·have hm := MK h n hn
  have haw := xH w
  go_enter Tryz.func5, Tryz.ntmps5
  go_wp2_with fail
  go_at_call 14
  refine hm.mono ?_
  clear hm
  rintro e w1 ⟨rfl, rfl⟩
  go_wp2_with fail
  go_at_call 10
  refine haw.mono ?_
  clear haw
  rintro e w2 ⟨rfl, hb2⟩
  go_wp2_with fail
  go_ret
  exact ⟨rfl, hb2⟩
 obtain ⟨N, rfl⟩ := Int.eq_ofNat_of_zero_le (show 0 ≤ n by omega)
 have hm := Pp h hfit N (by omega) (by omega)
 obtain ⟨M, hM⟩ : ∃ M, M = iD (dF N) (l.take 60) := ⟨_, rfl⟩
 have hpl := xJ (Ok.new (show N ≤ 64 by omega)) (l.take 60)
 rw [← hM] at hm hpl
 have hdr : M.dr.length = N := by rw [hpl.2.2]; simp [dF]
 have hd1 : 1 ≤ M.dr.length := by omega
 have Wn : M.L.length ≤ 60 := by
  have h1 := hpl.2.1
  have h2 : (dF N).L.length = 0 := rfl
  have h3 : (l.take 60).length ≤ 60 := by rw [List.length_take]; omega
  omega
 have hok := hpl.1
 clear hpl hdr hfit h
 replace hM := Lib.hid hM
 replace h2 := Lib.hid h2
 replace hn := Lib.hid hn
 obtain ⟨ao, cap, rfl, q1, q2, q3⟩ := h2.out
 clear q1 q3
 go_enter Tryz.func5, Tryz.ntmps5
 go_wp2_with fail
 go_at_call 14
 refine hm.mono ?_
 clear hm
 rintro e w1 ⟨c, t, d, p, v, g, rfl, ⟨nT, _⟩, hb1⟩
 have q0 := nT.c0
 have h1 := wE nT (by omega)
 go_wp2_with fail
 go_at_call 23
 refine h1.mono ?_
 clear h1 q0
 rintro e w2 ⟨uJ, rfl, hJ2, hb2⟩
 have hC2 := nT.kept hb2
 have q0 := hC2.c2
 have h1 := nR hC2 hok.inv (by omega)
 go_wp2_with fail
 go_at_call 16
 refine h1.mono ?_
 clear h1 q0
 rintro e w3 ⟨uS, rfl, wu, hb3⟩
 have tX := hC2.kept hb3
 have hJ3 := hJ2.below hb3
 have oO := dX hok.inv hd1 (show M.L.length ≤ 900 by omega)
 have h1 := Pn tX oO (by omega)
 go_wp2_with fail
 go_at_call 24
 refine h1.mono ?_
 clear h1 oO
 rintro e w4 ⟨c2, t2, d2, p2, v2, g2, rfl, ⟨mh, Kq⟩, hb4⟩
 have Ps : Hid (Below w.heap.size w w3) := hb1.trans ((hb2.trans (hb3.mono hb2.size)).mono hb1.size)
 have q0 := mh.c0
 have h1 := wE mh (by omega)
 go_wp2_with fail
 go_at_call 23
 refine h1.mono ?_
 clear h1 q0
 rintro e w5 ⟨uK, rfl, Uo, hb5⟩
 have Kr := hb4.trans (hb5.mono hb4.size)
 have Ii := mh.kept hb5
 have h1 := qI Uo (hJ3.below Kr) (by omega)
 rw [decide_eq_true rfl] at h1
 go_wp2_with fail
 go_at_call 25
 refine h1.mono ?_
 clear h1 Uo
 rintro e w6 ⟨rfl, hb6⟩
 have Pt := Kr.trans (hb6.mono Kr.size)
 have rD := Ii.kept hb6
 have q0 := rD.c2
 have h1 := nR rD hok.inv (by omega)
 go_wp2_with fail
 go_at_call 16
 refine h1.mono ?_
 clear h1 q0
 rintro e w7 ⟨uU, rfl, Uq, iP⟩
 have Kt := Pt.trans (iP.mono Pt.size)
 have Ur := rD.kept iP
 have h1 := oV Uq (wu.below Kt) (by have := ma M; omega)
 rw [decide_eq_true rfl] at h1
 go_wp2_with fail
 go_at_call 15
 refine h1.mono ?_
 clear h1 Uq
 rintro e w8 ⟨rfl, pY⟩
 have hb48 := Kt.trans (pY.mono Kt.size)
 have Pv := Ur.kept pY
 have h1 := gH Pv
 have h1' := gH (tX.kept hb48)
 rw [show (aj M).cl = M.cl from rfl] at h1 h1'
 go_wp2_with fail
 go_at_call 26
 refine h1.mono ?_
 clear h1
 rintro e w' ⟨rfl, rfl⟩
 go_wp2_with fail
 go_at_call 26
 refine h1'.mono ?_
 clear h1'
 rintro e w' ⟨rfl, rfl⟩
 obtain ⟨K, hK⟩ : ∃ K, K = ds.length := ⟨_, rfl⟩
 replace tX := Lib.hid tX
 replace hJ3 := Lib.hid hJ3
 replace wu := Lib.hid wu
 replace Pv := Lib.hid Pv
 replace Kq := Lib.hid Kq
 replace hb48 := Lib.hid hb48
 have Vw : w3.heap.size ≤ w8.heap.size := hb48.out.size
 clear hb1 hb2 hb3 hb4 hb5 hb6 iP pY Kr Pt Kt mh Ii rD Ur nT hC2 hJ2
 have hend : Hid (∀ wr, Below w3.heap.size w3 wr → ∀ ii : Nat, Below w.heap.size w wr) := fun wr hb _ => Ps.out.trans (hb.mono Ps.out.size)
 go_wp2_with fail
 go_loopw [11, 12] (fun ii _ wr => ∃ (i : Nat) (v : Value) (g : Nat), i ≤ ds.length ∧ i ≤ 20 ∧ ii = .int .i64 i ∧ Hid (CW wr c2 t2 d2 p2 v g (1 + 2 * (iD M (ds.take i)).L.length) (60000 + 1000 * i) (aj (iD M (ds.take i)))) ∧ Hid (∀ k, eF c2 t2 d2 p2 v g k → w3.heap.size ≤ k) ∧ Hid (Below w3.heap.size w3 wr)) (fun ii _ _ => ds.length - (intOf ii).toNat)
 case atStart =>
  exact ⟨0, v2, g2, Nat.zero_le _, by omega, rfl, Pv, Kq, hb48⟩
 case round =>
  clear Pv Kq hb48
  obtain ⟨i, v, g, hin, Vx, rfl, hC, hlo, hbr⟩ := hrel
  obtain ⟨hokr, Us, Ut⟩ := xJ hok (ds.take i)
  have hle : (ds.take i).length ≤ 20 := by rw [List.length_take]; omega
  by_cases hlt : i < ds.length ∧ i < 20
  ·obtain ⟨hlt, Vh⟩ := hlt
   have b2 : (i : Int) < (ds.length : Int) := by omega
   have b3 : decide ((i : Int) < (ds.length : Int)) = true := decide_eq_true b2
   have b4 : decide ((i : Int) < 20) = true := decide_eq_true (by omega)
   have wi : IntKind.i64.wrap ((i : Int) + 1) = (i : Int) + 1 := by rw [IntKind.wrap_i64]; omega
   have hrr := (h2.out.below Ps.out).below hbr.out
   obtain ⟨Hd, cap', e0, r1, r2, r3⟩ := hrr
   injection e0 with e1 _ e2
   subst e1 e2
   obtain ⟨B, off, rfl, hB, hcell⟩ := r3 (by omega)
   have hx := fun (j : Nat) (z : Value) (hz : (mq ds[i])[j]? = some z) => hcell i ds[i] j z (List.getElem?_eq_getElem hlt) hz
   have hsn := AO M hlt
   generalize hxd : ds[i] = x at *
   have hfx := JJ x (by rw [← hxd]; exact List.getElem_mem hlt)
   obtain ⟨cm, ⟨y1, y2, y3, y4, y5, y6, y7, y8, y9⟩, xi, xt⟩ := x
   have k0 : wr.cell? ⟨B, off + i * 12, none⟩ = some (.bool cm) := hx 0 _ rfl
   have k1 : wr.cell? ⟨B, off + i * 12 + 1, none⟩ = some (.int .i64 y1) := hx 1 _ rfl
   have k2 : wr.cell? ⟨B, off + i * 12 + 1 + 1, none⟩ = some (.int .i64 y2) := (congrArg (fun z => wr.cell? ⟨B, z, none⟩) (show off + i * 12 + 1 + 1 = off + (i * 12 + 2) by omega)).trans (hx 2 _ rfl)
   have k3 : wr.cell? ⟨B, off + i * 12 + 1 + 2, none⟩ = some (.int .i64 y3) := (congrArg (fun z => wr.cell? ⟨B, z, none⟩) (show off + i * 12 + 1 + 2 = off + (i * 12 + 3) by omega)).trans (hx 3 _ rfl)
   have k4 : wr.cell? ⟨B, off + i * 12 + 1 + 3, none⟩ = some (.int .i64 y4) := (congrArg (fun z => wr.cell? ⟨B, z, none⟩) (show off + i * 12 + 1 + 3 = off + (i * 12 + 4) by omega)).trans (hx 4 _ rfl)
   have k5 : wr.cell? ⟨B, off + i * 12 + 1 + 4, none⟩ = some (.int .i64 y5) := (congrArg (fun z => wr.cell? ⟨B, z, none⟩) (show off + i * 12 + 1 + 4 = off + (i * 12 + 5) by omega)).trans (hx 5 _ rfl)
   have k6 : wr.cell? ⟨B, off + i * 12 + 1 + 5, none⟩ = some (.int .i64 y6) := (congrArg (fun z => wr.cell? ⟨B, z, none⟩) (show off + i * 12 + 1 + 5 = off + (i * 12 + 6) by omega)).trans (hx 6 _ rfl)
   have k7 : wr.cell? ⟨B, off + i * 12 + 1 + 6, none⟩ = some (.bool y7) := (congrArg (fun z => wr.cell? ⟨B, z, none⟩) (show off + i * 12 + 1 + 6 = off + (i * 12 + 7) by omega)).trans (hx 7 _ rfl)
   have k8 : wr.cell? ⟨B, off + i * 12 + 1 + 7, none⟩ = some (.int .i64 y8) := (congrArg (fun z => wr.cell? ⟨B, z, none⟩) (show off + i * 12 + 1 + 7 = off + (i * 12 + 8) by omega)).trans (hx 8 _ rfl)
   have k9 : wr.cell? ⟨B, off + i * 12 + 1 + 8, none⟩ = some (.int .i64 y9) := (congrArg (fun z => wr.cell? ⟨B, z, none⟩) (show off + i * 12 + 1 + 8 = off + (i * 12 + 9) by omega)).trans (hx 9 _ rfl)
   have k10 : wr.cell? ⟨B, off + i * 12 + 10, none⟩ = some (.int .i64 xi) := hx 10 _ rfl
   have k11 : wr.cell? ⟨B, off + i * 12 + 10 + 1, none⟩ = some (.int .i64 xt) := hx 11 _ rfl
   clear hx r3 hcell
   have hq := si ⟨y1, y2, y3, y4, y5, y6, y7, y8, y9⟩ wr
   rw [show (encR ⟨y1, y2, y3, y4, y5, y6, y7, y8, y9⟩).toArray = #[.int .i64 y1, .int .i64 y2, .int .i64 y3, .int .i64 y4, .int .i64 y5, .int .i64 y6, .bool y7, .int .i64 y8, .int .i64 y9] from rfl] at hq
   obtain ⟨Mi, Vi⟩ : ∃ Mi, Mi = iD M (ds.take i) := ⟨_, rfl⟩
   rw [← Vi] at hC hokr Us Ut hsn
   go_wp2_with fail
   go_at_call 27
   refine hq.mono ?_
   clear hq k1 k2 k3 k4 k5 k6 k7 k8 k9
   rintro e Uu ⟨b, rfl, hW2, hlb, hb2⟩
   have k0 := (hb2.cell (p := ⟨B, off + i * 12, none⟩) hB).trans k0
   have k10 := (hb2.cell (p := ⟨B, off + i * 12 + 10, none⟩) hB).trans k10
   have k11 := (hb2.cell (p := ⟨B, off + i * 12 + 10 + 1, none⟩) hB).trans k11
   have hC2 := Lib.hid (hC.out.kept hb2)
   have sH : Hid (Below w3.heap.size w3 Uu) := hbr.out.trans (hb2.mono hbr.out.size)
   cases cm with
   | false =>
    have oW := sF hC2.out ⟨y1, y2, y3, y4, y5, y6, y7, y8, y9⟩ hW2 hokr (by omega) (by omega) (by omega) hfx.1.node
    rw [show (gp Mi (toW ⟨y1, y2, y3, y4, y5, y6, y7, y8, y9⟩)).2 = iD M (ds.take (i + 1)) from hsn.symm] at oW
    go_wp2_with fail
    go_at_call 29
    refine oW.mono ?_
    clear oW
    rintro e Vj ⟨n3, v3, g3, R3, _, _, rfl, wF, _, _, _, _, hs3⟩
    have l0 := sH.out.size
    have sI : w3.heap.size ≤ b := Nat.le_trans hbr.out.size hlb
    have hlo3 := Lib.hid (hs3.Po hlo.out sI l0)
    have AP := Lib.hid (sH.out.trans (hs3.below (nS hlo.out sI) l0))
    have JL := Lib.hid (wF.wider (Nat.le_refl _) (show 60000 + 1000 * (i : Int) + 1000 ≤ 60000 + 1000 * ((i + 1 : Nat) : Int) by omega))
    clear hs3 wF
    go_wp2_with fail
    go_roundw
    case rel => exact ⟨i + 1, v3, g3, by omega, by omega, by go_num, JL, hlo3, AP⟩
    case measure => simp [intOf]; omega
   | true =>
    have hX := oQ xi xt Uu
    go_wp2_with fail
    go_at_call 28
    refine hX.mono ?_
    clear hX
    rintro e R8 ⟨bx, rfl, hX2, hlx, G9⟩
    have Pq := Lib.hid (hC2.out.kept G9)
    have AQ : Hid (Below w3.heap.size w3 R8) := sH.out.trans (G9.mono sH.out.size)
    have oW := oU Pq.out xi xt hX2 hokr (by omega) (by omega) (by omega) hfx.2.2
    rw [show (dw Mi xi xt).2 = iD M (ds.take (i + 1)) from hsn.symm] at oW
    go_wp2_with fail
    go_at_call 29
    refine oW.mono ?_
    clear oW
    rintro e Vj ⟨n3, v3, g3, R3, _, _, rfl, wF, _, _, _, _, hs3⟩
    have l0 := AQ.out.size
    have sI : w3.heap.size ≤ bx := Nat.le_trans sH.out.size hlx
    have hlo3 := Lib.hid (hs3.Po hlo.out sI l0)
    have AP := Lib.hid (AQ.out.trans (hs3.below (nS hlo.out sI) l0))
    have JL := Lib.hid (wF.wider (Nat.le_refl _) (show 60000 + 1000 * (i : Int) + 1000 ≤ 60000 + 1000 * ((i + 1 : Nat) : Int) by omega))
    clear hs3 wF
    go_wp2_with fail
    go_roundw
    case rel => exact ⟨i + 1, v3, g3, by omega, by omega, by go_num, JL, hlo3, AP⟩
    case measure => simp [intOf]; omega
  ·by_cases hl2 : i < ds.length
   ·have b3 : decide ((i : Int) < (ds.length : Int)) = true := decide_eq_true (by omega)
    have b4 : decide ((i : Int) < 20) = false := decide_eq_false (by omega)
    have oP := tX.out.kept hbr.out
    have q0 := oP.c0
    have h1 := wE oP (by omega)
    go_wp2_with fail
    go_at_call 23
    refine h1.mono ?_
    clear h1 q0
    rintro e x1 ⟨uA, rfl, hA1, ha1⟩
    have e1 := hbr.out.trans (ha1.mono hbr.out.size)
    have h1 := qI hA1 (hJ3.out.below e1) (by omega)
    rw [decide_eq_true rfl] at h1
    go_wp2_with fail
    go_at_call 25
    refine h1.mono ?_
    clear h1 hA1
    rintro e x2 ⟨rfl, ha2⟩
    have e2 := e1.trans (ha2.mono e1.size)
    have oP := tX.out.kept e2
    have q0 := oP.c2
    have h1 := nR oP hok.inv (by omega)
    go_wp2_with fail
    go_at_call 16
    refine h1.mono ?_
    clear h1 q0
    rintro e x3 ⟨uB, rfl, hB3, R9⟩
    have e3 := e2.trans (R9.mono e2.size)
    have h1 := oV hB3 (wu.out.below e3) (by have := ma M; omega)
    rw [decide_eq_true rfl] at h1
    go_wp2_with fail
    go_at_call 15
    refine h1.mono ?_
    clear h1 hB3
    rintro e x4 ⟨rfl, L8⟩
    have e4 := e3.trans (L8.mono e3.size)
    have h1 := xH x4
    go_wp2_with fail
    go_at_call 10
    refine h1.mono ?_
    clear h1
    rintro e x5 ⟨rfl, Sa⟩
    have e5 := e4.trans (Sa.mono e4.size)
    go_wp2_with fail
    go_ret
    exact ⟨rfl, hend.out _ e5 0⟩
   ·have b3 : decide ((i : Int) < (ds.length : Int)) = false := decide_eq_false (by omega)
    have oP := tX.out.kept hbr.out
    have q0 := oP.c0
    have h1 := wE oP (by omega)
    go_wp2_with fail
    go_at_call 23
    refine h1.mono ?_
    clear h1 q0
    rintro e x1 ⟨uA, rfl, hA1, ha1⟩
    have e1 := hbr.out.trans (ha1.mono hbr.out.size)
    have h1 := qI hA1 (hJ3.out.below e1) (by omega)
    rw [decide_eq_true rfl] at h1
    go_wp2_with fail
    go_at_call 25
    refine h1.mono ?_
    clear h1 hA1
    rintro e x2 ⟨rfl, ha2⟩
    have e2 := e1.trans (ha2.mono e1.size)
    have oP := tX.out.kept e2
    have q0 := oP.c2
    have h1 := nR oP hok.inv (by omega)
    go_wp2_with fail
    go_at_call 16
    refine h1.mono ?_
    clear h1 q0
    rintro e x3 ⟨uB, rfl, hB3, R9⟩
    have e3 := e2.trans (R9.mono e2.size)
    have h1 := oV hB3 (wu.out.below e3) (by have := ma M; omega)
    rw [decide_eq_true rfl] at h1
    go_wp2_with fail
    go_at_call 15
    refine h1.mono ?_
    clear h1 hB3
    rintro e x4 ⟨rfl, L8⟩
    have e4 := e3.trans (L8.mono e3.size)
    have h1 := xH x4
    go_wp2_with fail
    go_at_call 10
    refine h1.mono ?_
    clear h1
    rintro e x5 ⟨rfl, Sa⟩
    have e5 := e4.trans (Sa.mono e4.size)
    go_wp2_with fail
    go_ret
    exact ⟨rfl, hend.out _ e5 0⟩
theorem JM (n : Int) (u : Value) (l : List De) (u2 : Value) (ds : List De) (w : World) (_ : -9223372036854775808 ≤ n ∧ n ≤ 9223372036854775807) (h : aF mq 12 w u l) (hf : ∀ x ∈ l, sG x) (h2 : aF mq 12 w u2 ds) (hf2 : ∀ x ∈ ds, sG x) : Calls Tryz.prog 5 #[.int .i64 n, u, u2] w fun e w' => e = .returned (.bool true) ∧ Below w.heap.size w w' := Ha h hf h2 hf2 n
end
end Go.Proofs.YtkhfejihijdipaaGreat


namespace Go.Proofs.YtkhfejihijdipaaGreat.coreTwins
open Go.ChangeShapes Go.WideShapes Go.ChangeAt Go.RowKit
theorem own : ownKnob Tryz.prog.godebug = none := by kernel_rfl
theorem laid : laidOutB Tryz.prog = true := by kernel_rfl
theorem readable : (Tryz.f5.params.toList.all fun t => Tryz.prog.readableRec t && decide (t < Tryz.prog.types.size)) = true := by kernel_rfl
theorem lifted (os : Os) (started : os.Started) (H : Type) (enc : TypeId × Value → H) :
  ReturnsInHanded {} Tryz.checked os 5 .any (Rows.coreTwinsSpec.pre6 enc Tryz.prog Tryz.f5 Rows.coreTwinsRow.domain false) (Rows.coreTwinsSpec.post enc Tryz.prog Tryz.f5 false true false false) := by
 refine returnsInHanded_of_change (C := Tryz.checked) own started (by kernel_rfl) Tryz.func5
  (ChangeSpec.witness6 (enc := enc) (C := Tryz.checked) false ⟨#[], #[.int .i64 0, .slice none 0 0, .slice none 0 0], []⟩ 8 (by kernel_rfl) (by kernel_rfl) (by kernel_rfl) (by kernel_rfl)) ?_
 intro W base args ds gs before hval0 hW hcnd _
 have hval : ∀ (j : Nat) t v, Tryz.f5.params[j]? = some t → args[j]? = some v → Value.okWide Tryz.prog W .any base t v := hval0
 have hW' := hW
 obtain ⟨p, q, PO, hV, hpq, hfz, hnd⟩ := hW
 have hA : DataW.TrodAll enc Tryz.prog W 0 (fun _ => true) true Tryz.f5.params.toList args.toList ds p := PO
 rw [Tryz.params5] at hA hval
 obtain ⟨v0, Wo, d0, ds0, p0, q0, hargs, rfl, rfl, h0, r0⟩ := trodAll_cons hA
 obtain ⟨v1, vs1, d1, ds1, p1, q1, rfl, rfl, rfl, h1, r1⟩ := trodAll_cons r0
 obtain ⟨v2, vs2, d2, Wp, p2, q2, rfl, rfl, rfl, h2, r2⟩ := trodAll_cons r1
 obtain ⟨rfl, rfl, rfl⟩ := trodAll_nil r2
 obtain rfl : args = #[v0, v1, v2] := by cases args; simp_all
 obtain ⟨rfl, rfl⟩ := trodVars_none hV
 obtain ⟨a0, rfl, rfl, rfl, w0⟩ := open_int Tryz.underlying3 (hval 0 3 v0 rfl rfl) h0
 obtain ⟨l1, hl1, hf1⟩ := CQ (hval 1 22 v1 rfl rfl) h1
 obtain ⟨l2, hl2, hf2⟩ := CQ (hval 2 22 v2 rfl rfl) h2
 clear PO hval0
 refine (JM a0 v1 l1 v2 l2 W (bounds_i64 w0) hl1 hf1 hl2 hf2).mono fun e W' ⟨he, hg⟩ => ?_
 subst he
 exact ⟨_, rfl, Ku hW' rfl rfl rfl Tryz.underlying4 laid (Pw readable) hg⟩
theorem over : Rows.coreTwinsRow.holds Tryz.pinned (OpenSpec.ofChange Rows.coreTwinsSpec) :=
 OpenClaim.holds_of_wide 5 Tryz.f5 rfl rfl rfl rfl rfl rfl rfl ⟨rfl, rfl, rfl, rfl, rfl⟩ rfl rfl rfl rfl rfl (by kernel_rfl) Tryz.func5 (by kernel_rfl)
  (of_decide_eq_true (by kernel_rfl)) (by unfold Func.isWrapper; first | (rw [if_pos (by decide +kernel)]; kernel_rfl) | (rw [if_neg (by decide +kernel)]; exact ⟨rfl, rfl⟩))
  (fun os started H enc _ => lifted os started H enc)
theorem proved : Rows.CoreTwinsSaid := over
#print axioms proved
end Go.Proofs.YtkhfejihijdipaaGreat.coreTwins
