/-
 SeqRefuses of the Go text returns true for every input, and each argument reads afterwards as it read before. No condition.
-/
import Derived.Deep.LoopGhost
import Derived.LaidEql
import Derived.Laws.StructEq
import Derived.Test.YtnihdgcfamoplaaGreatRows
import Derived.ProofKit
import Derived.OpenShut
import Derived.Test.YtnihdgcfamoplaaGreatRa7
set_option maxRecDepth 1000000
set_option maxHeartbeats 8000000
set_option linter.all false
namespace Go.Proofs.YtnihdgcfamoplaaGreat
open Go.RowKit Go.Lib Go.Sort
structure Bg (w0 w : World) (b c t d p : Nat) (v0 : Value) (g0 : Nat) (v : Value) (g a : Nat) (m mx : Int) (R : Wk) (M : Md) : Prop where
 sw : SW w b c t d p v g a m R (aj M)
 left : R.left = fu 83
 inv : aB M
 calm : Calm M
 cl : M.cl = false
 one : 1 ≤ M.dr.length
 few : M.L.length ≤ 190
 ha : a ≤ 1 + 2 * M.L.length
 hm : m + 1000 ≤ mx
 hmx : mx ≤ 1000000
 ok : R.ok = false
 ws : WS w0 w b c t d p v0 g0 v g
section
variable {L : List Jb} {id : Int} {ok : Jb → Bool} {ch : Jb → Jb} {M : Md}
theorem vV (L : List Jb) (i : Nat) : L[i]! = L.getD i default := by rw [List.getElem!_eq_getElem?_getD, List.getD_eq_getElem?_getD]
theorem rY (h : ¬ (id < 1 ∨ (L.length : Int) < id)) : bC L id = L.getD (id - 1).toNat default := by
 unfold bC
 rw [if_neg (by omega), if_neg (by omega), vV]
theorem xG (h : id < 1 ∨ (L.length : Int) < id) : bF L 0 id ok = 7 := by
 unfold bF
 rw [if_neg (by decide)]
 split
 ·rfl
 ·rw [if_pos (by omega)]
theorem A7 (h : ¬ (id < 1 ∨ (L.length : Int) < id)) (ho : ok (L.getD (id - 1).toNat default) = false) : bF L 0 id ok = 8 := by
 unfold bF
 rw [if_neg (by decide), if_neg (by omega), if_neg (by omega), vV, ho]
 rfl
theorem tC (h : ¬ (id < 1 ∨ (L.length : Int) < id)) (ho : ok (L.getD (id - 1).toNat default) = true) : bF L 0 id ok = 0 := by
 unfold bF
 rw [if_neg (by decide), if_neg (by omega), if_neg (by omega), vV, ho]
 rfl
theorem nS {e0 : Int} (h : bF L e0 id ok = 0) : bW L e0 id ok ch = L.set (id - 1).toNat (ch (L.getD (id - 1).toNat default)) := by
 unfold bW
 rw [if_pos h, vV]
theorem Di (h : id < 1 ∨ (M.L.length : Int) < id) : getM M id = (default, false) := if_pos h
theorem vW (h : ¬ (id < 1 ∨ (M.L.length : Int) < id)) : getM M id = (M.L.getD (id - 1).toNat default, true) := if_neg h
theorem xH {x : Jb} (h : ¬ (id < 1 ∨ (L.length : Int) < id)) : bC (L.set (id - 1).toNat x) id = x := by
 rw [rY (by rw [List.length_set]; exact h), fI, if_pos ⟨rfl, by omega⟩]
theorem uV (r : Rw) (h : r.id < 1 ∨ (M.L.length : Int) < r.id) : fq M r = (eF 7, M) := by
 unfold fq
 rw [Di h]
 exact if_pos rfl
theorem MX (r : Rw) (h : r.id < 1 ∨ (M.L.length : Int) < r.id) : kv M r = (eF 7, M) := by
 unfold kv
 rw [Di h]
 exact if_pos rfl
end
section
variable {w0 w : World} {b c t d p g g0 a N : Nat} {v v0 : Value} {m mx : Int} {P : Pg} {M M' : Md} {R : Wk} {Q : World → Prop}
theorem J2 (h : SW w b c t d p v g a m R (aj M)) (hl : R.left = fu 83) (hc : M.cl = true) (ha : a ≤ 800) (hm : m ≤ mx) (hw : WS w0 w b c t d p v0 g0 v g) :
  Goes b c 1000 w (Fin w0 b c t d p v0 g0 mx M (kY (eF 12)) false) :=
 aV (N := 999) aZ (BK h hc) h hl rfl ha hm hw rfl rfl rfl
theorem J3 (h : Bg w0 w b c t d p v0 g0 v g a m mx R M) (hq : ¬ (1 ≤ R.ag.kind ∧ R.ag.kind ≤ 13)) :
  Goes b c 1000 w (Fin w0 b c t d p v0 g0 mx M (kY (eF 4)) false) :=
 aV (N := 999) aZ (Hr h.sw h.cl hq) h.sw h.left rfl (by have := h.ha; have := h.few; omega) (by have := h.hm; omega) h.ws rfl rfl rfl
theorem fA {k k' a' : Nat} {m' : Int} {R' : Wk} {P' : Pg} (hk : ∀ args w, Sem.run Tryz.prog (callFunc k args) w = .ok (.enter k args) w)
  (hp : Calls Tryz.prog k #[.pointer (some ⟨b, 0, none⟩), .pointer (some ⟨c, 0, none⟩)] w (au w b c t d p v g a' m' (fu k') R' P'))
  (h : SW w b c t d p v g a m R P) (hl : R.left = fu k) (hl' : R'.left = R.left)
  (hn : ∀ w' v' g', SW w' b c t d p v' g' a' m' { R' with left := fu k' } P' → WS w w' b c t d p v g v' g' → Goes b c N w' Q) : Goes b c (N + 1) w Q :=
 uQ h hl (hl'.trans hl) hk hp hn
theorem BN (h : Bg w0 w b c t d p v0 g0 v g a m mx R M) (hk : R.ag.kind = 4) :
  Goes b c 1000 w (Fin w0 b c t d p v0 g0 mx (fq M (toW R.ag)).2 (kY (fq M (toW R.ag)).1) false) := by
 have hll := h.few
 have ha := h.ha
 have hm := h.hm
 have hrd : iZ R.ag.kind = false := by rw [hk]; rfl
 have iK : ∀ {L : Value} {a' : Nat} {m' : Int} {R' : Wk} {P' : Pg}, Calls Tryz.prog 122 #[.pointer (some ⟨b, 0, none⟩), .pointer (some ⟨c, 0, none⟩)] w (au w b c t d p v g a' m' L R' P') → Calls Tryz.prog 83 #[.pointer (some ⟨b, 0, none⟩), .pointer (some ⟨c, 0, none⟩)] w (au w b c t d p v g a' m' L R' P') := fun hn => fC h.sw h.cl (by rw [hk]; decide) hrd (MP h.sw hk hn)
 by_cases hid : R.ag.id < 1 ∨ (M.L.length : Int) < R.ag.id
 ·rw [uV (toW R.ag) hid]
  exact aV (N := 999) aZ (iK (vR h.sw 7 (by decide) (xG hid))) h.sw h.left rfl (by omega) (by omega) h.ws rfl rfl rfl
 ·have hi : (R.ag.id - 1).toNat < M.L.length := by omega
  have hmem := aW hi
  have eM := vW (M := M) hid
  by_cases hs : (M.L.getD (R.ag.id - 1).toNat default).st = 2
  ·have hE : bF M.L 0 R.ag.id (fun j : Jb => decide (j.state = 2)) = 0 := tC hid (decide_eq_true hs)
   have hr := G7 h.sw hE
   have eL : bW (aj M).J 0 R.ag.id (fun j : Jb => decide (j.state = 2)) nJ = M.L.set (R.ag.id - 1).toNat ((M.L.getD (R.ag.id - 1).toNat default).setSt 1) := nS hE
   rw [eL, xH hid] at hr
   generalize hx : M.L.getD (R.ag.id - 1).toNat default = x at *
   have bo := h.inv.one _ hmem
   have bw := h.inv.mb.wid _ hmem
   have bl := h.inv.mb.lim _ hmem
   have bf := h.inv.mb.fin _ hmem
   have bn := h.inv.mb.bG _ hmem
   have hp : x.aM = -1 := h.inv.rest _ hmem (by omega)
   have hpl : ak (x.setSt 1) = false := by unfold ak; simp [show (x.setSt 1).aM = -1 from hp]
   have hI1 : aB { M with L := M.L.set (R.ag.id - 1).toNat (x.setSt 1) } :=
    h.inv.set (i := (R.ag.id - 1).toNat) (y := x.setSt 1) (h.inv.mb.set _ _ bw bl (by show -1 ≤ x.aM ∧ x.aM ≤ _; omega) bf bn) (by rw [hx]; rfl) ⟨bo.1, bo.2.1, bo.2.2.1, (show (1 : Int) ≤ 1 by omega), (show (1 : Int) ≤ 6 by omega)⟩ (fun _ => hp) (fun e => absurd (show (1 : Int) = 3 from e) (by decide)) (.inl hp) (h.inv.kE.set hi fun n e => by unfold aF at e; simp [Jb.setSt, Jb.st] at e)
     fun t ht => lQ h.inv hi (by rw [hx]; exact ⟨fun e => absurd (show (1 : Int) = 3 from e) (by decide), fun e => by omega⟩) (by rw [hx]; rfl) (by rw [hx]; rfl) hpl t ht
   have hP : ({ aj M with J := M.L.set (R.ag.id - 1).toNat (x.setSt 1) } : Pg) = aj { M with L := M.L.set (R.ag.id - 1).toNat (x.setSt 1) } := by
    have h3 : ((x.setSt 1).st = 3) ↔ ((M.L.getD (R.ag.id - 1).toNat default).st = 3) := by rw [hx]; exact ⟨fun e => absurd (show (1 : Int) = 3 from e) (by decide), fun e => by omega⟩
    have e1 : bR M = bR { M with L := M.L.set (R.ag.id - 1).toNat (x.setSt 1) } := by
     refine nR (by rw [bq, bq]) fun n hn => ?_
     rw [bZ, bZ, om hi h3 (by rw [hx]; rfl)]
    have e2 : (fun t => ay M t 0) = fun t => ay { M with L := M.L.set (R.ag.id - 1).toNat (x.setSt 1) } t 0 := by
     funext t
     rw [qb hi h3 (by rw [hx]; rfl) (by rw [hx]; rfl), dF hpl, hx, dF (by unfold ak; simp [hp])]
     omega
    show Pg.mk _ _ (bR M) (fun t => ay M t 0) _ = _
    rw [e1, e2]
    rfl
   rw [hP] at hr
   have e : fq M (toW R.ag) = (mq (x.setSt 1), eB { M with L := M.L.set (R.ag.id - 1).toNat (x.setSt 1) } (x.setSt 1)) := by
    have hj : eH (toW R.ag).kind x = x.setSt 1 := by unfold eH; rw [show (toW R.ag).kind = 4 from hk]; rfl
    unfold fq
    rw [show (toW R.ag).id = R.ag.id from rfl, eM]
    refine (if_neg (fun e => nomatch e)).trans ((if_neg ?_).trans ((if_pos hk).trans ?_))
    ·show ¬ ((R.ag.kind = 3 ∧ x.st ≠ 1) ∨ (R.ag.kind = 4 ∧ x.st ≠ 2))
     omega
    ·show (mq (eH (toW R.ag).kind x), eB { M with L := M.L.set (R.ag.id - 1).toNat (eH (toW R.ag).kind x) } (eH (toW R.ag).kind x)) = _
     rw [hj]
   rw [e]
   refine (fA (N := 901) (k := 83) (k' := 138) aZ (iK hr) h.sw h.left rfl fun w' v' g' hS' hw' => ?_).more (show 902 ≤ 1000 by decide)
   have hL : (M.L.set (R.ag.id - 1).toNat (x.setSt 1)).length = M.L.length := List.length_set
   have Uz := AZ (x.setSt 1) (M.L.set (R.ag.id - 1).toNat (x.setSt 1))
   have hidx : x.id = (((R.ag.id - 1).toNat : Nat) : Int) + 1 := by rw [← hx]; exact h.inv.ids _ hi
   have := rX (M := { M with L := M.L.set (R.ag.id - 1).toNat (x.setSt 1) }) (M' := eB { M with L := M.L.set (R.ag.id - 1).toNat (x.setSt 1) } (x.setSt 1)) (R := { ({ R with az := x.setSt 1, rep := iC (x.setSt 1) } : Wk) with left := fu 138 }) (w0 := w0) (b := b) (c := c) (t := t) (d := d) (p := p) (v0 := v0) (g0 := g0) (mx := mx) rfl (by show x.id ≠ 0; omega) h.one (by show (M.L.set (R.ag.id - 1).toNat (x.setSt 1)).length ≤ 900; omega) h.hmx 900 (L := M.L.set (R.ag.id - 1).toNat (x.setSt 1)) rfl (by show hits (x.setSt 1) _ ≤ 900; omega) hI1 rfl hS' (by show a + 2 * hits (x.setSt 1) _ ≤ 800; omega) (by show m + (hits (x.setSt 1) _ : Nat) ≤ mx; omega) (h.ws.trans hw')
   rw [show ({ ({ R with az := x.setSt 1, rep := iC (x.setSt 1) } : Wk) with left := fu 138 } : Wk).ok = false from h.ok] at this
   exact this
  ·have hE : bF M.L 0 R.ag.id (fun j : Jb => decide (j.state = 2)) = 8 := A7 hid (decide_eq_false hs)
   have e : fq M (toW R.ag) = (eF 8, M) := by
    unfold fq
    rw [show (toW R.ag).id = R.ag.id from rfl, eM]
    exact (if_neg (fun e => nomatch e)).trans (if_pos (.inr ⟨hk, hs⟩))
   rw [e]
   exact aV (N := 999) aZ (iK (vR h.sw 8 (by decide) hE)) h.sw h.left rfl (by omega) (by omega) h.ws rfl rfl rfl
end
end Go.Proofs.YtnihdgcfamoplaaGreat

namespace Go.Proofs.YtnihdgcfamoplaaGreat
open Go.RowKit Go.Lib Go.Sort
section
variable {w0 w : World} {b c t d p g g0 a N : Nat} {v v0 : Value} {m mx : Int} {P : Pg} {M M' : Md} {R : Wk} {Q : World → Prop}
theorem Dj {i : Nat} {y : Jb} (hi : i < M.L.length) (hs : (M.L.getD i default).st ≠ 3) (hy : y.st ≠ 3) (hy2 : y.bG = (M.L.getD i default).bG) (hy3 : y.fin = (M.L.getD i default).fin) (hyp : ak y = false)
  (hI : aB M) (hI1 : aB { M with L := M.L.set i y }) (h1 : 1 ≤ M.dr.length) (hll : M.L.length ≤ 900) (ha : a ≤ 700) (hm : m + 1 ≤ mx) (hmx : mx ≤ 1000000)
  (h : SW w b c t d p v g a m R { aj M with J := M.L.set i y }) (hl : R.left = fu 142) (hj : R.az = M.L.getD i default) (hw : WS w0 w b c t d p v0 g0 v g) :
  Goes b c (N + 1) w (Fin w0 b c t d p v0 g0 mx { M with L := M.L.set i y } R.rep R.ok) := by
 have hmem := aW hi
 have bo := hI.one _ hmem
 have bw := hI.mb.wid _ hmem
 have bl := hI.mb.lim _ hmem
 have bp := hI.mb.aM _ hmem
 have hst : (y.st = 3) ↔ ((M.L.getD i default).st = 3) := ⟨fun e => absurd e hy, fun e => absurd e hs⟩
 have dC := eX hI h1 hll
 have kS := eX hI1 h1 (by rw [List.length_set]; exact hll)
 have qP : PK { aj M with J := M.L.set i y } := ⟨dC.now, kS.few, kS.st, kS.lim, dC.qA, dC.f⟩
 have eT : bR M = bR { M with L := M.L.set i y } := by
  refine nR (by rw [bq, bq]) fun n hn => ?_
  rw [bZ, bZ, om hi hst hy2]
 have ef : ∀ t, ay { M with L := M.L.set i y } t 0 = ay M t 0 + dE t 0 (M.L.getD i default) := fun t => by
  rw [qb hi hst hy2 hy3, dF hyp]
  omega
 have eP : ∀ F : Int → Int, F = (fun t => ay { M with L := M.L.set i y } t 0) → ({ aj M with J := M.L.set i y, f := F } : Pg) = aj { M with L := M.L.set i y } := fun F hF => by
  show Pg.mk _ _ (bR M) F _ = _
  rw [eT, hF]
  rfl
 cases hp : ak (M.L.getD i default) with
 | true =>
  have hv := EB h qP (by omega) (by omega) (by rw [hj]; exact hp) (by rw [hj]; exact bp.2) (by rw [hj]; exact bl) (by rw [hj]; exact bo.2.2.1) (by rw [hj]; exact bw) (fun t => ay { M with L := M.L.set i y } t 0) (fun t ht => by
   rw [hj]
   have hu := qC hI hi hp t
   rw [iG hi, dF (j := (M.L.getD i default).aD (-1)) (by unfold ak; simp [Jb.aD, Jb.aM])] at hu
   show ay { M with L := M.L.set i y } t 0 = ay M t 0 + had (max (M.L.getD i default).aM M.now) ((M.L.getD i default).aM + (M.L.getD i default).lim) (M.L.getD i default).wid t
   rw [ef]
   omega) (fun t ht => kS.f t ht)
  have e := eP (fun t => ay { M with L := M.L.set i y } t 0) rfl
  rw [e] at hv
  exact aV (a' := a + 2) (m' := m + 1) uT hv h hl rfl (by omega) (by omega) hw rfl rfl rfl
 | false =>
  have hv := EC h qP (by omega) (by omega) (by rw [hj]; exact hp) (by rw [hj]; exact hs) (by rw [hj]; exact bp.2) (by rw [hj]; exact bl)
  have e : ({ aj M with J := M.L.set i y } : Pg) = aj { M with L := M.L.set i y } := eP _ (by
   funext t
   rw [ef, dF hp]
   show ay M t 0 = _
   omega)
  rw [e] at hv
  exact aV (a' := a) (m' := m) uT hv h hl rfl (by omega) (by omega) hw rfl rfl rfl
theorem J4 (h : Bg w0 w b c t d p v0 g0 v g a m mx R M) (hk : R.ag.kind = 3) :
  Goes b c 1000 w (Fin w0 b c t d p v0 g0 mx (fq M (toW R.ag)).2 (kY (fq M (toW R.ag)).1) false) := by
 have hll := h.few
 have ha := h.ha
 have hm := h.hm
 have hrd : iZ R.ag.kind = false := by rw [hk]; rfl
 have iK : ∀ {L : Value} {a' : Nat} {m' : Int} {R' : Wk} {P' : Pg}, Calls Tryz.prog 121 #[.pointer (some ⟨b, 0, none⟩), .pointer (some ⟨c, 0, none⟩)] w (au w b c t d p v g a' m' L R' P') → Calls Tryz.prog 83 #[.pointer (some ⟨b, 0, none⟩), .pointer (some ⟨c, 0, none⟩)] w (au w b c t d p v g a' m' L R' P') := fun hn => fC h.sw h.cl (by rw [hk]; decide) hrd (MO h.sw hk hn)
 by_cases hid : R.ag.id < 1 ∨ (M.L.length : Int) < R.ag.id
 ·rw [uV (toW R.ag) hid]
  exact aV (N := 999) aZ (iK (CY h.sw 7 (by decide) (xG hid))) h.sw h.left rfl (by omega) (by omega) h.ws rfl rfl rfl
 ·have hi : (R.ag.id - 1).toNat < M.L.length := by omega
  have eM := vW (M := M) hid
  by_cases hs : (M.L.getD (R.ag.id - 1).toNat default).st = 1
  ·have hE : bF M.L 0 R.ag.id (fun j : Jb => decide (j.state = 1)) = 0 := tC hid (decide_eq_true hs)
   have hr := Pj h.sw hE
   have eL : bW (aj M).J 0 R.ag.id (fun j : Jb => decide (j.state = 1)) oJ = M.L.set (R.ag.id - 1).toNat (((M.L.getD (R.ag.id - 1).toNat default).setSt 2).aD (-1)) := nS hE
   rw [eL, xH hid, show bC (aj M).J R.ag.id = M.L.getD (R.ag.id - 1).toNat default from rY hid] at hr
   have e : fq M (toW R.ag) = (mq (((M.L.getD (R.ag.id - 1).toNat default).setSt 2).aD (-1)), { M with L := M.L.set (R.ag.id - 1).toNat (((M.L.getD (R.ag.id - 1).toNat default).setSt 2).aD (-1)) }) := by
    have hj : eH (toW R.ag).kind (M.L.getD (R.ag.id - 1).toNat default) = ((M.L.getD (R.ag.id - 1).toNat default).setSt 2).aD (-1) := by unfold eH; rw [show (toW R.ag).kind = 3 from hk]; rfl
    have hk4 : ¬ (toW R.ag).kind = 4 := by rw [show (toW R.ag).kind = 3 from hk]; decide
    unfold fq
    rw [show (toW R.ag).id = R.ag.id from rfl, eM]
    refine (if_neg (fun e => nomatch e)).trans ((if_neg ?_).trans ((if_neg hk4).trans ?_))
    ·show ¬ ((R.ag.kind = 3 ∧ (M.L.getD (R.ag.id - 1).toNat default).st ≠ 1) ∨ (R.ag.kind = 4 ∧ (M.L.getD (R.ag.id - 1).toNat default).st ≠ 2))
     omega
    ·show (mq (eH (toW R.ag).kind (M.L.getD (R.ag.id - 1).toNat default)), { M with L := M.L.set (R.ag.id - 1).toNat (eH (toW R.ag).kind (M.L.getD (R.ag.id - 1).toNat default)) }) = _
     rw [hj]
   have hI1 := (h.inv.DL h.calm (toW R.ag)).1
   rw [e] at hI1 ⊢
   refine (fA (N := 1) (k := 83) (k' := 142) aZ (iK hr) h.sw h.left rfl fun w' v' g' hS' hw' => ?_).more (show 2 ≤ 1000 by decide)
   have := Dj (N := 0) (mx := mx) (a := a) (m := m) (y := ((M.L.getD (R.ag.id - 1).toNat default).setSt 2).aD (-1)) hi (by rw [hs]; decide) (show (2 : Int) ≠ 3 by decide) rfl rfl (by unfold ak; rw [show (((M.L.getD (R.ag.id - 1).toNat default).setSt 2).aD (-1)).aM = -1 from rfl]; simp) h.inv hI1 h.one (by omega) (by omega) (by omega) h.hmx hS' rfl rfl (h.ws.trans hw')
   rw [show ({ ({ R with az := M.L.getD (R.ag.id - 1).toNat default, rep := iC (((M.L.getD (R.ag.id - 1).toNat default).setSt 2).aD (-1)) } : Wk) with left := fu 142 } : Wk).ok = false from h.ok] at this
   exact this
  ·have hE : bF M.L 0 R.ag.id (fun j : Jb => decide (j.state = 1)) = 8 := A7 hid (decide_eq_false hs)
   have e : fq M (toW R.ag) = (eF 8, M) := by
    unfold fq
    rw [show (toW R.ag).id = R.ag.id from rfl, eM]
    exact (if_neg (fun e => nomatch e)).trans (if_pos (.inl ⟨hk, hs⟩))
   rw [e]
   exact aV (N := 999) aZ (iK (CY h.sw 8 (by decide) hE)) h.sw h.left rfl (by omega) (by omega) h.ws rfl rfl rfl
theorem vX (h : Bg w0 w b c t d p v0 g0 v g a m mx R M) (s : Int) (hk : (R.ag.kind = 2 ∧ s = 5) ∨ (R.ag.kind = 5 ∧ s = 4)) :
  Goes b c 1000 w (Fin w0 b c t d p v0 g0 mx (kv M (toW R.ag)).2 (kY (kv M (toW R.ag)).1) false) := by
 have hll := h.few
 have ha := h.ha
 have hm := h.hm
 have jI := h.inv.mb.now
 have dC := eX h.inv h.one (by omega)
 have hrd : iZ R.ag.kind = false := by rcases hk with ⟨hk, _⟩ | ⟨hk, _⟩ <;> (rw [hk]; rfl)
 have iK : ∀ {L : Value} {a' : Nat} {m' : Int} {R' : Wk} {P' : Pg}, Calls Tryz.prog 120 #[.pointer (some ⟨b, 0, none⟩), .pointer (some ⟨c, 0, none⟩), .int .i64 s] w (au w b c t d p v g a' m' L R' P') → Calls Tryz.prog 83 #[.pointer (some ⟨b, 0, none⟩), .pointer (some ⟨c, 0, none⟩)] w (au w b c t d p v g a' m' L R' P') := fun hn => by
  rcases hk with ⟨hk, rfl⟩ | ⟨hk, rfl⟩
  ·exact fC h.sw h.cl (by rw [hk]; decide) hrd (MM h.sw hk hn)
  ·exact fC h.sw h.cl (by rw [hk]; decide) hrd (MN h.sw hk hn)
 have Sq : bg s M.now = 0 := by unfold bg; (repeat' split) <;> omega
 by_cases hid : R.ag.id < 1 ∨ (M.L.length : Int) < R.ag.id
 ·rw [MX (toW R.ag) hid]
  exact aV (N := 999) aZ (iK (yC h.sw dC s 7 (by decide) (by rw [show (aj M).now = M.now from rfl, Sq]; exact xG hid))) h.sw h.left rfl (by omega) (by omega) h.ws rfl rfl rfl
 ·have hi : (R.ag.id - 1).toNat < M.L.length := by omega
  have hmem := aW hi
  have bo := h.inv.one _ hmem
  have eM := vW (M := M) hid
  by_cases hs : dV s (M.L.getD (R.ag.id - 1).toNat default) = true
  ·have hE : bF (aj M).J (bg s (aj M).now) R.ag.id (dV s) = 0 := by rw [show (aj M).now = M.now from rfl, Sq]; exact tC hid hs
   have hr := JD h.sw dC s hE
   obtain ⟨y, MZ⟩ : ∃ y, y = iq M R.ag.kind (M.L.getD (R.ag.id - 1).toNat default) := ⟨_, rfl⟩
   have hyj : bI s M.now (M.L.getD (R.ag.id - 1).toNat default) = y := by
    rw [MZ]
    unfold iq bI
    have es : (if R.ag.kind = 5 then (4 : Int) else 5) = s := by split <;> omega
    rw [es]
    by_cases e3 : (M.L.getD (R.ag.id - 1).toNat default).st = 3
    ·rw [if_pos e3, if_pos (show (M.L.getD (R.ag.id - 1).toNat default).2.2.2.2.2.1 = 3 from e3)]; rfl
    ·rw [if_neg e3, if_neg (show ¬ (M.L.getD (R.ag.id - 1).toNat default).2.2.2.2.2.1 = 3 from e3)]; rfl
   have eL : bW (aj M).J (bg s (aj M).now) R.ag.id (dV s) (bI s (aj M).now) = M.L.set (R.ag.id - 1).toNat y := (nS hE).trans (by rw [← hyj]; rfl)
   rw [eL, xH hid, show bC (aj M).J R.ag.id = M.L.getD (R.ag.id - 1).toNat default from rY hid] at hr
   have hok : ¬ (3 < (M.L.getD (R.ag.id - 1).toNat default).st ∨ (R.ag.kind = 5 ∧ (M.L.getD (R.ag.id - 1).toNat default).st ≠ 3)) := by
    unfold dV at hs
    rw [Bool.or_eq_true, Bool.and_eq_true, decide_eq_true_iff, decide_eq_true_iff, decide_eq_true_iff] at hs
    have : (M.L.getD (R.ag.id - 1).toNat default).state = (M.L.getD (R.ag.id - 1).toNat default).st := rfl
    omega
   have e : kv M (toW R.ag) = (mq y, { M with L := M.L.set (R.ag.id - 1).toNat y }) := by
    unfold kv
    rw [show (toW R.ag).id = R.ag.id from rfl, eM]
    refine (if_neg (fun e => nomatch e)).trans ((if_neg hok).trans ?_)
    rw [MZ]
    rfl
   have hI1 := (h.inv.Ki h.calm (toW R.ag)).1
   rw [e] at hI1 ⊢
   have hy3 : y.st ≠ 3 := by
    rw [MZ]
    show (if R.ag.kind = 5 then (4 : Int) else 5) ≠ 3
    split <;> omega
   have hyp : ak y = false := by
    unfold ak
    rw [show y.aM = -1 by rw [MZ]; rfl]
    simp
   have Su : y.bG = (M.L.getD (R.ag.id - 1).toNat default).bG := by rw [MZ]; unfold iq; split <;> rfl
   refine (fA (N := 2) (k := 83) (k' := 140) aZ (iK hr) h.sw h.left rfl fun w' v' g' hS' hw' => ?_).more (show 3 ≤ 1000 by decide)
   clear MZ hyj
   have kS := eX hI1 h.one (by rw [List.length_set]; omega)
   by_cases h3 : (M.L.getD (R.ag.id - 1).toNat default).st = 3
   ·have hrn := h.inv.runs _ hmem h3
    have Kj := h.inv.mb.bG _ hmem
    have hfin := h.inv.mb.fin _ hmem
    have hlt := h.calm.runs _ hmem h3
    have hg := Mj hS' ⟨dC.now, kS.few, kS.st, kS.lim, dC.qA, dC.f⟩ h3 Kj
    obtain ⟨n, hn⟩ : ∃ n : Int, n = ((List.range M.dr.length).countP (fun k => bY (M.L.getD (R.ag.id - 1).toNat default).bG.toNat k && !(M.dr.getD k false)) : Nat) := ⟨_, rfl⟩
    have hn2 : 0 ≤ n ∧ n ≤ 64 := by
     have h4 := List.countP_le_length (p := fun k => bY (M.L.getD (R.ag.id - 1).toNat default).bG.toNat k && !(M.dr.getD k false)) (l := List.range M.dr.length)
     rw [List.length_range] at h4
     have := h.inv.mb.nn
     omega
    refine fA (N := 1) (k := 140) (k' := 142) (a' := a) (m' := m)
     (R' := { ({ ({ R with az := M.L.getD (R.ag.id - 1).toNat default, rep := iC y } : Wk) with left := fu 140 } : Wk) with idle := n }) (P' := { aj M with J := M.L.set (R.ag.id - 1).toNat y, T := bR { M with L := M.L.set (R.ag.id - 1).toNat y } })
     Hw (hg.mono fun e w' hp => ?_) hS' rfl rfl fun w2 v2 g2 hS2 hw2 => ?_
    ·obtain ⟨n', x', T', h5, h6⟩ := hp
     obtain ⟨h7, _, h8⟩ := CL h.inv hi h3 hy3 h5
     rw [← hn] at h7
     subst h7 h8
     exact h6
    ·have hv := GR hS2 ⟨dC.now, kS.few, kS.st, kS.lim, kS.qA, dC.f⟩ (by omega) (by have := h.hmx; omega) h3 (h.inv.mb.aM _ hmem).2 (h.inv.mb.lim _ hmem) ⟨hlt, hfin.2⟩ (by show -64 ≤ n ∧ n ≤ 64; omega) (fun t => ay { M with L := M.L.set (R.ag.id - 1).toNat y } t 0) (fun t ht => by
      have hf := qd h.inv.kE hi h3 hy3 hyp t 0
      show ay { M with L := M.L.set (R.ag.id - 1).toNat y } t 0 = ay M t 0 + had (max M.now M.now) (M.L.getD (R.ag.id - 1).toNat default).fin n t
      have ht' : M.now ≤ t := ht
      unfold had
      by_cases c1 : t < (M.L.getD (R.ag.id - 1).toNat default).fin
      ·rw [if_pos c1] at hf
       rw [if_pos ⟨by omega, .inl c1⟩, hf, hn]
      ·rw [if_neg c1] at hf
       rw [if_neg (by omega), hf]
       rfl) (fun t ht => kS.f t ht)
     exact aV (N := 0) uT hv hS2 rfl rfl (by omega) (by omega) ((h.ws.trans hw').trans hw2) rfl rfl h.ok
   ·have hg := OY hS' h3
    refine fA (N := 1) (k := 140) (k' := 142) Hw hg hS' rfl rfl fun w2 v2 g2 hS2 hw2 => ?_
    have Vk : y.fin = (M.L.getD (R.ag.id - 1).toNat default).fin := by
     have : y = bI s M.now (M.L.getD (R.ag.id - 1).toNat default) := by
      have := congrArg (fun l : List Jb => l.getD (R.ag.id - 1).toNat default) eL
      rw [show bW (aj M).J (bg s (aj M).now) R.ag.id (dV s) (bI s (aj M).now) = M.L.set (R.ag.id - 1).toNat (bI s M.now (M.L.getD (R.ag.id - 1).toNat default)) from nS hE] at this
      simp only [fI] at this
      rw [if_pos ⟨trivial, hi⟩, if_pos ⟨trivial, hi⟩] at this
      exact this.symm
     rw [this]
     show (if (M.L.getD (R.ag.id - 1).toNat default).2.2.2.2.2.1 = 3 then M.now else _) = _
     rw [if_neg (show ¬ (M.L.getD (R.ag.id - 1).toNat default).2.2.2.2.2.1 = 3 from h3)]
     rfl
    have := Dj (N := 0) (mx := mx) (a := a) (m := m) (y := y) hi h3 hy3 Su Vk hyp h.inv hI1 h.one (by omega) (by omega) (by omega) h.hmx hS2 rfl rfl ((h.ws.trans hw').trans hw2)
    rw [show ({ ({ ({ R with az := M.L.getD (R.ag.id - 1).toNat default, rep := iC y } : Wk) with left := fu 140 } : Wk) with left := fu 142 } : Wk).ok = false from h.ok] at this
    exact this
  ·rw [Bool.not_eq_true] at hs
   have hE : bF M.L (bg s M.now) R.ag.id (dV s) = 8 := by rw [Sq]; exact A7 hid hs
   have hno : 3 < (M.L.getD (R.ag.id - 1).toNat default).st ∨ (R.ag.kind = 5 ∧ (M.L.getD (R.ag.id - 1).toNat default).st ≠ 3) := by
    unfold dV at hs
    rw [Bool.or_eq_false_iff, Bool.and_eq_false_iff, decide_eq_false_iff_not, decide_eq_false_iff_not, decide_eq_false_iff_not] at hs
    have : (M.L.getD (R.ag.id - 1).toNat default).state = (M.L.getD (R.ag.id - 1).toNat default).st := rfl
    omega
   have e : kv M (toW R.ag) = (eF 8, M) := by
    unfold kv
    rw [show (toW R.ag).id = R.ag.id from rfl, eM]
    exact (if_neg (fun e => nomatch e)).trans (if_pos hno)
   rw [e]
   exact aV (N := 999) aZ (iK (yC h.sw dC s 8 (by decide) hE)) h.sw h.left rfl (by omega) (by omega) h.ws rfl rfl rfl
end
end Go.Proofs.YtnihdgcfamoplaaGreat

namespace Go.Proofs.YtnihdgcfamoplaaGreat
open Go.RowKit Go.Lib Go.Sort
section
variable {w0 w : World} {b c t d p g g0 a N : Nat} {v v0 : Value} {m mx : Int} {P : Pg} {M M' : Md} {R : Wk} {Q : World → Prop}
theorem PD {k : Nat} (hk : k < 64) (L : List Jb) : (holderL L k < 0 ∧ jU L k = gP) ∨ ∃ i : Nat, holderL L k = i ∧ i < L.length ∧ jU L k = L.getD i default ∧ (L.getD i default).st = 3 := by
 have e : (fun j : Jb => decide (j.state ∈ [(3 : Int)]) && CX (k : Int) j) = aF k := by
  funext j
  unfold aF CX
  rw [mV hk, jX]
  have : (j.state ∈ [(3 : Int)]) ↔ (j.st = 3) := List.mem_singleton
  rw [decide_eq_decide.2 this]
 have e2 : jU L (k : Int) = match L.findIdx? (aF k) with | some i => L.getD i default | none => gP := by
  unfold jU
  rw [e]
  cases L.findIdx? (aF k) <;> rfl
 rcases eY L k with h | ⟨i, h, hi, h2⟩
 ·refine .inl ⟨h, ?_⟩
  rw [e2]
  unfold holderL at h
  cases hf : L.findIdx? (aF k) with
  | none => rfl
  | some i => rw [hf] at h; simp only at h; omega
 ·refine .inr ⟨i, h, hi, ?_, by unfold aF at h2; simp at h2; exact h2.1⟩
  rw [e2]
  unfold holderL at h
  cases hf : L.findIdx? (aF k) with
  | none => rw [hf] at h; simp only at h; omega
  | some q =>
   rw [hf] at h
   simp only at h
   have : q = i := by omega
   subst this
   rfl
theorem uW {k : Nat} {bb : Bool} (hk : k < M.dr.length) (hb : M.dr.getD k false = !bb) (hI : aB M) (hC : ∀ j ∈ M.L, j.st = 3 → M.now < j.fin) (h1 : 1 ≤ M.dr.length) (hll : M.L.length ≤ 900)
  (hI' : aB { M with dr := M.dr.set k bb }) (hn : R.ag.node = k) (ha : a ≤ 800) (hm : m ≤ 1000000) {by' : Int} (hby : by' = if bb then -1 else 1)
  (h : SW w b c t d p v g a m R { aj M with T := bR { M with dr := M.dr.set k bb } }) :
  Calls Tryz.prog 145 #[.pointer (some ⟨b, 0, none⟩), .pointer (some ⟨c, 0, none⟩), .int .i64 0, .int .i64 by'] w
   (au w b c t d p v g (a + 2) (m + 1) .nilFunc { R with rep := ⟨0, (k : Int), aP { M with dr := M.dr.set k bb } k, 0, 0, 0, 0, 0, 0⟩ } (aj { M with dr := M.dr.set k bb })) := by
 have hnn := hI.mb.nn
 have jI := hI.mb.now
 have dC := eX hI h1 hll
 have kS := eX hI' (by show 1 ≤ (M.dr.set k bb).length; rw [List.length_set]; exact h1) hll
 have hX : (max (gM (aj M) (k : Int)) M.now < 1152921504606846976) ∧ ∀ u, M.now ≤ u → ((decide (holderL M.L k < 0) || decide ((M.L.getD (holderL M.L k).toNat default).fin ≤ u)) = decide (max (gM (aj M) (k : Int)) M.now ≤ u)) := by
  rcases PD (show k < 64 by omega) M.L with ⟨g1, g2⟩ | ⟨i, g1, hi, g2, g3⟩
  ·have e : gM (aj M) (k : Int) = M.now := by
    unfold gM
    rw [show (aj M).J = M.L from rfl, g2]
    rfl
   rw [e]
   refine ⟨by omega, fun u hu => ?_⟩
   rw [decide_eq_true g1, Bool.true_or]
   exact (decide_eq_true (by omega)).symm
  ·have hf := hC _ (aW hi) g3
   have hf2 := hI.mb.fin _ (aW hi)
   have e : gM (aj M) (k : Int) = max (M.L.getD i default).fin (M.now + 1) := by
    unfold gM
    rw [show (aj M).J = M.L from rfl, g2, if_pos g3]
    rfl
   rw [e, g1, Int.toNat_natCast]
   refine ⟨by omega, fun u hu => ?_⟩
   rw [decide_eq_false (show ¬ ((i : Int) < 0) by omega), Bool.false_or]
   exact decide_eq_decide.2 (by omega)
 have Vl : oM (bR { M with dr := M.dr.set k bb }) (k : Int) = aP { M with dr := M.dr.set k bb } k := by
  unfold oM
  rw [if_pos ⟨by omega, by rw [bq]; show (k : Int) < ((M.dr.set k bb).length : Nat); rw [List.length_set]; omega⟩, Int.toNat_natCast, bZ]
 have hv := JE (by' := by') h ⟨dC.now, dC.few, dC.st, dC.lim, kS.qA, dC.f⟩ ha hm hI.mb.bG (by omega) (by rw [hby]; split <;> omega) (fun u => ay { M with dr := M.dr.set k bb } u 0) (fun u hu => by
  have hu' : M.now ≤ u := hu
  have hd := vz hk bb u 0
  have hx := hX.2 u hu'
  rw [hn]
  show ay { M with dr := M.dr.set k bb } u 0 = ay M u 0 + had (max (gM (aj M) (k : Int)) M.now) 1152921504606846976 by' u
  have hnf : bO M u k = (!(M.dr.getD k false) && decide (max (gM (aj M) (k : Int)) M.now ≤ u)) := by rw [← hx]; rfl
  have hh : had (max (gM (aj M) (k : Int)) M.now) 1152921504606846976 by' u = if max (gM (aj M) (k : Int)) M.now ≤ u then by' else 0 := by unfold had; simp
  rw [hd, hnf, hx, hb, hh, hby]
  by_cases c1 : max (gM (aj M) (k : Int)) M.now ≤ u
  ·rw [decide_eq_true c1, if_pos c1]
   cases bb <;> simp <;> omega
  ·rw [decide_eq_false c1, if_neg c1]
   cases bb <;> simp) (fun u hu => kS.f u hu) (by
  rw [hn]
  have : gM { aj M with T := bR { M with dr := M.dr.set k bb } } (k : Int) = gM (aj M) (k : Int) := rfl
  rw [this]
  omega)
 rw [hn, show ({ aj M with T := bR { M with dr := M.dr.set k bb } } : Pg).T = bR { M with dr := M.dr.set k bb } from rfl, Vl] at hv
 exact hv
theorem drain_eq {n : Nat} (h : dJ ky M.L = none) : eZ M n true = { M with dr := M.dr.set n true } := by
 unfold eZ
 rw [if_pos rfl, qh h]
theorem uX {k : Nat} (hk : k < M.dr.length) {bb : Bool} (hb : M.dr.getD k false = !bb) : lH (bR M) (k : Int) bb 0 (bR { M with dr := M.dr.set k bb }) := by
 have hd : bb = decide ((bR M).getD (k : Int).toNat 0 < 3) := by
  rw [Int.toNat_natCast, bZ, dU hk, hb]
  cases bb <;> (by_cases h1 : 0 ≤ holderL M.L k <;> simp [h1])
 have hc : lH (bR M) (k : Int) bb 0 ((bR M).set (k : Int).toNat (jK ((bR M).getD (k : Int).toNat 0))) :=
  ⟨fun h => absurd h (by rw [bq]; omega), fun _ _ h => absurd hd h, fun _ _ _ => ⟨rfl, rfl⟩⟩
 have e := (Gq hk hb hc).2
 rw [e] at hc
 exact hc
theorem EK (h : Bg w0 w b c t d p v0 g0 v g a m mx R M) (hk : R.ag.kind = 8) (hnd : -9223372036854775808 ≤ R.ag.node ∧ R.ag.node ≤ 9223372036854775807) :
  Goes b c 1000 w (Fin w0 b c t d p v0 g0 mx (gz M (toW R.ag)).2 (kY (gz M (toW R.ag)).1) false) := by
 have hll := h.few
 have ha := h.ha
 have hm := h.hm
 have hmx := h.hmx
 have dC := eX h.inv h.one (by omega)
 have hrd : iZ R.ag.kind = false := by rw [hk]; rfl
 have iK : ∀ {L : Value} {a' : Nat} {m' : Int} {R' : Wk} {P' : Pg}, Calls Tryz.prog 124 #[.pointer (some ⟨b, 0, none⟩), .pointer (some ⟨c, 0, none⟩)] w (au w b c t d p v g a' m' L R' P') → Calls Tryz.prog 83 #[.pointer (some ⟨b, 0, none⟩), .pointer (some ⟨c, 0, none⟩)] w (au w b c t d p v g a' m' L R' P') := fun hn => fC h.sw h.cl (by rw [hk]; decide) hrd (MR h.sw hk hn)
 have hd7 : decide ((toW R.ag).kind = 7) = false := decide_eq_false (by rw [show (toW R.ag).kind = 8 from hk]; decide)
 by_cases ho : R.ag.node < 0 ∨ (M.dr.length : Int) ≤ R.ag.node
 ·have e : gz M (toW R.ag) = (eF 11, M) := if_pos ho
  have hT : lH (bR M) R.ag.node false 11 (bR M) := ⟨fun _ => ⟨rfl, rfl⟩, fun h1 h2 => by rw [bq] at h2; omega, fun h1 h2 => by rw [bq] at h2; omega⟩
  rw [e]
  refine aV (N := 999) (a' := a) (m' := m) (R' := { R with rep := jL 11, ok := false }) aZ (iK (resume_fn (P' := aj M) h.sw dC hnd hT fun W v1 g1 hW => ?_)) h.sw h.left rfl (by omega) (by omega) h.ws rfl rfl rfl
  exact CZ hW 11 1 (by decide)
 ·obtain ⟨k, hkk⟩ := Int.eq_ofNat_of_zero_le (show 0 ≤ R.ag.node by omega)
  have hk2 : k < M.dr.length := by omega
  cases hdr : M.dr.getD k false with
  | false =>
   have e : gz M (toW R.ag) = (eF 8, M) := by
    unfold gz
    refine (if_neg ho).trans (if_pos ?_)
    rw [hd7, show (toW R.ag).node = R.ag.node from rfl, hkk, Int.toNat_natCast, hdr]
   have hs : (bR M).getD R.ag.node.toNat 0 < 3 := by
    rw [hkk, Int.toNat_natCast, bZ, dU hk2, hdr]
    split <;> simp
   have hT : lH (bR M) R.ag.node false 8 (bR M) := ⟨fun h1 => by rw [bq] at h1; omega, fun _ _ _ => ⟨rfl, rfl⟩, fun _ _ h3 => by rw [decide_eq_true hs] at h3; cases h3⟩
   rw [e]
   refine aV (N := 999) (a' := a) (m' := m) (R' := { R with rep := jL 8, ok := false }) aZ (iK (resume_fn (P' := aj M) h.sw dC hnd hT fun W v1 g1 hW => ?_)) h.sw h.left rfl (by omega) (by omega) h.ws rfl rfl rfl
   exact CZ hW 8 1 (by decide)
  | true =>
   have e : gz M (toW R.ag) = ((0, (k : Int), aP { M with dr := M.dr.set k false } (k : Int), 0, 0, 0, 0, 0, 0), { M with dr := M.dr.set k false }) := by
    unfold gz
    refine (if_neg ho).trans ((if_neg ?_).trans ?_)
    ·rw [hd7, show (toW R.ag).node = R.ag.node from rfl, hkk, Int.toNat_natCast, hdr]
     exact fun e => nomatch e
    ·rw [hd7, show (toW R.ag).node = R.ag.node from rfl, hkk, Int.toNat_natCast]
     rfl
   have hI' := (h.inv.Il h.calm (toW R.ag)).1
   rw [e] at hI' ⊢
   have hT := uX hk2 (bb := false) hdr
   rw [← hkk] at hT
   refine aV (N := 999) aZ (iK (resume_fn h.sw dC hnd hT fun W v1 g1 hW => uW (bb := false) (by' := 1) hk2 hdr h.inv h.calm.runs h.one (by omega) hI' hkk (by omega) (by omega) rfl hW)) h.sw h.left rfl (by omega) (by omega) h.ws rfl rfl h.ok
theorem Hy {k : Nat} (hl : R.left = fu 144) (hkk : R.ag.node = k) (hk : k < M.dr.length) (hdr : M.dr.getD k false = false) (h1 : 1 ≤ M.dr.length) (hll : M.L.length ≤ 900) (hmx : mx ≤ 1000000) (hI' : aB (eZ M k true)) (q : Nat) :
  ∀ {L : List Jb} {w : World} {v : Value} {g a : Nat} {m : Int}, L.length = M.L.length → hits ky L ≤ q → aB { M with L := L } → (∀ j ∈ L, j.st = 3 → M.now < j.fin) → eB { M with L := L } ky = eB M ky → SW w b c t d p v g a m R (aj { M with L := L }) → a + 2 * hits ky L + 2 ≤ 800 → m + hits ky L + 1 ≤ mx → WS w0 w b c t d p v0 g0 v g →
   Goes b c (q + 1) w (Fin w0 b c t d p v0 g0 mx (eZ M k true) ⟨0, (k : Int), aP (eZ M k true) k, 0, 0, 0, 0, 0, 0⟩ R.ok) := by
 have last : ∀ {L : List Jb} {w : World} {v : Value} {g a : Nat} {m : Int} (q : Nat), L.length = M.L.length → dJ ky L = none → aB { M with L := L } → (∀ j ∈ L, j.st = 3 → M.now < j.fin) → eB { M with L := L } ky = eB M ky → SW w b c t d p v g a m R (aj { M with L := L }) → a + 2 ≤ 800 → m + 1 ≤ mx → WS w0 w b c t d p v0 g0 v g →
   Goes b c (q + 1) w (Fin w0 b c t d p v0 g0 mx (eZ M k true) ⟨0, (k : Int), aP (eZ M k true) k, 0, 0, 0, 0, 0, 0⟩ R.ok) := by
  intro L w v g a m q hL ho hI hC hM hS ha hm hw
  have eD : eZ M k true = { M with L := L, dr := M.dr.set k true } := by
   have h2 := qh (M := { M with L := L }) ho
   rw [h2] at hM
   unfold eZ
   rw [if_pos rfl, ← hM]
  rw [eD] at hI' ⊢
  have hT := uX (M := { M with L := L }) (k := k) hk (bb := true) hdr
  rw [← hkk] at hT
  refine aV (N := q) Dh (yE (M := { M with L := L }) hS (eX hI h1 (by show L.length ≤ 900; omega)) rfl hI h1 (by show L.length ≤ 900; omega) (by omega) (by omega) ho (by have := hI.mb.nn; have : M.dr.length ≤ 64 := this; omega) hT fun W v1 g1 hW => uW (M := { M with L := L }) (bb := true) (by' := -1) hk hdr hI hC h1 (by show L.length ≤ 900; omega) hI' hkk (by omega) (by omega) rfl hW) hS hl rfl (by omega) (by omega) hw rfl rfl rfl
 induction q with
 | zero =>
  intro L w v g a m hL hq hI hC hM hS ha hm hw
  cases ho : dJ ky L with
  | none => exact last 0 hL ho hI hC hM hS (by omega) (by omega) hw
  | some i =>
   have := (iR (L := L) ho).2.2.2.2
   omega
 | succ q ih =>
  intro L w v g a m hL hq hI hC hM hS ha hm hw
  cases ho : dJ ky L with
  | none => exact last (q + 1) hL ho hI hC hM hS (by omega) (by omega) hw
  | some i =>
   obtain ⟨hi, _, _, _, hh⟩ := iR ho
   refine fA (k := 144) (k' := 144) Dh (yF (M := { M with L := L }) hS hI h1 (by show L.length ≤ 900; omega) (by omega) (by omega) ho) hS hl rfl fun w' v' g' hS' hw' => ?_
   rw [← hl] at hS'
   refine ih (L := L.set i ((L.getD i default).aD (-1))) (by rw [List.length_set]; exact hL) (by omega) (hI.vD hi) (fun j hj => ?_) ((uw (M := { M with L := L }) ho).trans hM) hS' (by omega) (by omega) (hw.trans hw')
   rcases List.mem_or_eq_of_mem_set hj with h2 | rfl
   ·exact hC j h2
   ·exact fun hs => hC (L.getD i default) (aW hi) hs
theorem Hz (h : Bg w0 w b c t d p v0 g0 v g a m mx R M) (hk : R.ag.kind = 7) (hnd : -9223372036854775808 ≤ R.ag.node ∧ R.ag.node ≤ 9223372036854775807) :
  Goes b c 1000 w (Fin w0 b c t d p v0 g0 mx (gz M (toW R.ag)).2 (kY (gz M (toW R.ag)).1) false) := by
 have hll := h.few
 have ha := h.ha
 have hm := h.hm
 have hmx := h.hmx
 have dC := eX h.inv h.one (by omega)
 have hrd : iZ R.ag.kind = false := by rw [hk]; rfl
 have iK : ∀ {L : Value} {a' : Nat} {m' : Int} {R' : Wk} {P' : Pg}, Calls Tryz.prog 123 #[.pointer (some ⟨b, 0, none⟩), .pointer (some ⟨c, 0, none⟩)] w (au w b c t d p v g a' m' L R' P') → Calls Tryz.prog 83 #[.pointer (some ⟨b, 0, none⟩), .pointer (some ⟨c, 0, none⟩)] w (au w b c t d p v g a' m' L R' P') := fun hn => fC h.sw h.cl (by rw [hk]; decide) hrd (MQ h.sw hk hn)
 have hd7 : decide ((toW R.ag).kind = 7) = true := decide_eq_true hk
 by_cases ho : R.ag.node < 0 ∨ (M.dr.length : Int) ≤ R.ag.node
 ·have e : gz M (toW R.ag) = (eF 11, M) := if_pos ho
  rw [e]
  exact aV (N := 999) aZ (iK (Dc h.sw dC hnd 11 (.inl ⟨by
   unfold oM
   rw [if_neg (by rw [show (aj M).T = bR M from rfl, bq]; omega)], rfl⟩))) h.sw h.left rfl (by omega) (by omega) h.ws rfl rfl rfl
 ·obtain ⟨k, hkk⟩ := Int.eq_ofNat_of_zero_le (show 0 ≤ R.ag.node by omega)
  have hk2 : k < M.dr.length := by omega
  have est : oM (aj M).T R.ag.node = aP M (k : Int) := by
   unfold oM
   rw [if_pos ⟨by omega, by rw [show (aj M).T = bR M from rfl, bq]; omega⟩, hkk, Int.toNat_natCast]
   exact bZ k
  cases hdr : M.dr.getD k false with
  | true =>
   have e : gz M (toW R.ag) = (eF 8, M) := by
    unfold gz
    refine (if_neg ho).trans (if_pos ?_)
    rw [hd7, show (toW R.ag).node = R.ag.node from rfl, hkk, Int.toNat_natCast, hdr]
   rw [e]
   exact aV (N := 999) aZ (iK (Dc h.sw dC hnd 8 (.inr ⟨by
    rw [est, dU hk2, hdr]
    split <;> simp, rfl⟩))) h.sw h.left rfl (by omega) (by omega) h.ws rfl rfl rfl
  | false =>
   have e : gz M (toW R.ag) = ((0, (k : Int), aP (eZ M k true) (k : Int), 0, 0, 0, 0, 0, 0), eZ M k true) := by
    unfold gz
    refine (if_neg ho).trans ((if_neg ?_).trans ?_)
    ·rw [hd7, show (toW R.ag).node = R.ag.node from rfl, hkk, Int.toNat_natCast, hdr]
     exact fun e => nomatch e
    ·rw [hd7, show (toW R.ag).node = R.ag.node from rfl, hkk, Int.toNat_natCast]
   have hI' := (h.inv.Il h.calm (toW R.ag)).1
   rw [e] at hI' ⊢
   have hst : oM (aj M).T R.ag.node = 1 ∨ oM (aj M).T R.ag.node = 2 := by
    rw [est, dU hk2, hdr]
    split <;> simp
   have Uz := AZ ky M.L
   cases hz : dJ ky M.L with
   | none =>
    have eD := drain_eq (n := k) hz
    have hI2 : aB { M with dr := M.dr.set k true } := by rw [← eD]; exact hI'
    have hT := uX hk2 (bb := true) hdr
    rw [← hkk] at hT
    show Goes b c 1000 w (Fin w0 b c t d p v0 g0 mx (eZ M k true) ⟨0, (k : Int), aP (eZ M k true) k, 0, 0, 0, 0, 0, 0⟩ false)
    rw [eD]
    refine aV (N := 999) aZ (iK (Db h.sw dC hnd hst fun W hW => yE hW dC rfl h.inv h.one (by omega) (by omega) (by omega) hz hnd hT fun W2 v1 g1 hW2 => uW (bb := true) (by' := -1) hk2 hdr h.inv h.calm.runs h.one (by omega) hI2 hkk (by omega) (by omega) rfl hW2)) h.sw h.left rfl (by omega) (by omega) h.ws rfl rfl h.ok
   | some i =>
    obtain ⟨hi, _, _, _, hh⟩ := iR hz
    refine (fA (N := 901) (k := 83) (k' := 144) aZ (iK (Db h.sw dC hnd hst fun W hW => yF hW h.inv h.one (by omega) (by omega) (by omega) hz)) h.sw h.left rfl fun w' v' g' hS' hw' => ?_).more (show 902 ≤ 1000 by decide)
    have := Hy (M := M) (R := { R with left := fu 144 }) (w0 := w0) (b := b) (c := c) (t := t) (d := d) (p := p) (v0 := v0) (g0 := g0) (mx := mx) (k := k) rfl hkk hk2 hdr h.one (by omega) hmx hI' 900 (L := M.L.set i ((M.L.getD i default).aD (-1))) (by rw [List.length_set]) (by omega) (h.inv.vD hi) (fun j hj => by
     rcases List.mem_or_eq_of_mem_set hj with h2 | rfl
     ·exact h.calm.runs j h2
     ·exact fun hs => h.calm.runs (M.L.getD i default) (aW hi) hs) (uw hz) hS' (by omega) (by omega) (h.ws.trans hw')
    rw [show ({ R with left := fu 144 } : Wk).ok = false from h.ok] at this
    exact this
end
end Go.Proofs.YtnihdgcfamoplaaGreat

namespace Go.Proofs.YtnihdgcfamoplaaGreat
open Go.RowKit Go.Lib Go.Sort
section
variable {M : Md}
theorem Early.set (h : Early M) {i : Nat} {y : Jb} (hy : y.st ≤ 2 → y.fin = -1) : Early { M with L := M.L.set i y } := fun j hj => by
 rcases List.mem_or_eq_of_mem_set hj with h1 | rfl
 ·exact h j h1
 ·exact hy
theorem Early.map (h : Early M) {f : Jb → Jb} (hf : ∀ j : Jb, (j.st ≤ 2 → j.fin = -1) → ((f j).st ≤ 2 → (f j).fin = -1)) : Early { M with L := M.L.map f } := fun j hj => by
 obtain ⟨x, hx, rfl⟩ := List.mem_map.1 hj
 exact hf x (h x hx)
theorem Early.drop (h : Early M) (j : Jb) : Early (eB M j) := h.map fun x hx => by
 unfold gy
 split
 ·exact hx
 ·exact hx
theorem Early.begin (h : Early M) (i : Nat) : Early (aU M i) := h.set fun hs => absurd hs (show ¬ (3 : Int) ≤ 2 by decide)
theorem Early.starts (n : Nat) (h : Early M) : Early (startGo n M) := by
 induction n generalizing M with
 | zero => exact h
 | succ n ih =>
  unfold startGo
  split
  ·exact ih (h.begin _)
  ·exact ih h
theorem Early.qg (h : Early M) : Early (dD M) := by
 refine Early.starts _ (h.map fun x hx => ?_)
 unfold aR
 split
 ·exact fun hs => absurd hs (show ¬ (6 : Int) ≤ 2 by decide)
 ·exact hx
theorem Early.dh (to : Int) (n : Nat) (h : Early M) : Early (dh to n M) := by
 induction n generalizing M with
 | zero => exact h
 | succ n ih =>
  unfold Proofs.YtnihdgcfamoplaaGreat.dh
  split
  ·exact h
  ·refine ih (Early.qg ?_)
   exact h
theorem Early.Fv (h : Early M) (r : Rw) : Early (dY M r).2 := by
 have same : Early { M with cl := true } := h
 unfold dY
 repeat' split
 all_goals first | exact h | exact same | skip
 ·unfold gQ
  have ha : Early { M with L := M.L ++ [bV M r] } := fun j hj => by
   rcases List.mem_append.1 hj with h1 | h1
   ·exact h j h1
   ·rw [List.mem_singleton] at h1; subst h1; exact fun _ => rfl
  repeat' split
  ·exact h
  ·exact ha
  ·exact ha.drop _
 ·unfold kv
  simp only
  repeat' split
  ·exact h
  ·exact h
  ·refine h.set fun hs => ?_
   have e : (iq M r.kind (getM M r.id).1).st = if r.kind = 5 then 4 else 5 := rfl
   rw [e] at hs
   split at hs <;> omega
 ·unfold fq
  simp only
  have hx : ((getM M r.id).2 = false) ∨ (getM M r.id).1 ∈ M.L := by
   cases hg : (getM M r.id).2 with
   | false => exact .inl rfl
   | true => exact .inr (jW hg).1
  by_cases h1 : (getM M r.id).2 = false
  ·rw [if_pos h1]; exact h
  ·rw [if_neg h1]
   have hm := hx.resolve_left h1
   have hx1 := h _ hm
   split
   ·exact h
   ·rename_i h2
    have hy : (eH r.kind (getM M r.id).1).st ≤ 2 → (eH r.kind (getM M r.id).1).fin = -1 := by
     unfold eH
     split
     ·rename_i h3
      exact fun _ => hx1 (by by_cases e : (getM M r.id).1.st = 1 <;> omega)
     ·split
      ·rename_i h3
       exact fun _ => hx1 (by by_cases e : (getM M r.id).1.st = 2 <;> omega)
      ·exact hx1
    split
    ·exact (h.set hy).drop _
    ·exact h.set hy
 ·unfold gz
  repeat' split
  ·exact h
  ·exact h
  ·unfold eZ
   split
   ·exact h.drop ky
   ·exact h
 ·unfold kz
  split
  ·exact h
  ·exact h.dh _ _
theorem Early.jh (h : Early M) (id t : Int) : Early (bH M id t).2 := by
 unfold bH
 split
 ·rename_i hf
  split
  ·exact h.begin _
  ·by_cases hi : (id - 1).toNat < M.L.length
   ·refine h.set fun hs => ?_
    exact h (M.L.getD (id - 1).toNat default) (aW hi) hs
   ·show Early { M with L := M.L.set (id - 1).toNat _ }
    rw [List.set_eq_of_length_le (by omega)]
    exact h
 ·exact h
theorem J5 (n : Nat) : Early (dR n) := fun _ hj => nomatch hj
theorem M0 (f : Nat → Bool) (n j : Nat) (h : ∀ k, n ≤ k → f k = false) : aN f (n + j) = aN f n := by
 induction j with
 | zero => rfl
 | succ j ih =>
  show aN f (n + j) + (if f (n + j) = true then 1 else 0) = _
  rw [h (n + j) (by omega), ih]
  simp
theorem rZ (h : aB M) (f : Nat → Bool) (x y : Int) (hf : ∀ k, f k = (decide (aP M k = x) || decide (aP M k = y))) (hx : x ≠ 0) (hy : y ≠ 0) : ((aN f 64 : Nat) : Int) = kC M x y := by
 have hn := h.mb.nn
 have hc := M0 f M.dr.length (64 - M.dr.length) fun k hk => by
  rw [hf, gU (by omega), decide_eq_false (fun e => hx e.symm), decide_eq_false (fun e => hy e.symm)]
  rfl
 rw [show M.dr.length + (64 - M.dr.length) = 64 by omega] at hc
 rw [hc, qB]
 unfold kC
 rw [show f = fun k : Nat => decide (aP M k = x) || decide (aP M k = y) from funext hf]
end
section
variable {w0 w : World} {b c t d p g g0 a N : Nat} {v v0 : Value} {m mx : Int} {P : Pg} {M M' : Md} {R : Wk} {Q : World → Prop}
theorem J6 (h : Bg w0 w b c t d p v0 g0 v g a m mx R M) (hk : R.ag.kind = 6 ∨ R.ag.kind = 10 ∨ R.ag.kind = 11 ∨ R.ag.kind = 12) :
  Goes b c 1000 w (Fin w0 b c t d p v0 g0 mx (dY M (toW R.ag)).2 (kY (dY M (toW R.ag)).1) false) := by
 have hll := h.few
 have ha := h.ha
 have hm := h.hm
 have hmx := h.hmx
 have hcl : ¬ M.cl = true := by rw [h.cl]; decide
 have dC := eX h.inv h.one (by omega)
 have hrd : iZ R.ag.kind = true := by rcases hk with e | e | e | e <;> (rw [e]; rfl)
 have iK : ∀ {L : Value} {a' : Nat} {m' : Int} {R' : Wk} {P' : Pg}, Calls Tryz.prog 101 #[.pointer (some ⟨b, 0, none⟩), .pointer (some ⟨c, 0, none⟩)] w (au w b c t d p v g a' m' L R' P') → Calls Tryz.prog 83 #[.pointer (some ⟨b, 0, none⟩), .pointer (some ⟨c, 0, none⟩)] w (au w b c t d p v g a' m' L R' P') := fun hn => Ht h.sw h.cl (by omega) hrd hn
 rcases hk with hk | hk | hk | hk
 ·by_cases hid : R.ag.id < 1 ∨ (M.L.length : Int) < R.ag.id
  ·have e : dY M (toW R.ag) = (eF 7, M) := by
    unfold dY
    rw [if_neg hcl, show (toW R.ag).kind = 6 from hk]
    exact uV (toW R.ag) hid
   have hg : fV M.L R.ag.id = 7 := by unfold fV; (repeat' split) <;> omega
   rw [e]
   exact aV (N := 999) aZ (iK (yR h.sw hk 7 (by decide) hg)) h.sw h.left rfl (by omega) (by omega) h.ws rfl rfl rfl
  ·have hg : fV M.L R.ag.id = 0 := by unfold fV; (repeat' split) <;> omega
   have hi : (R.ag.id - 1).toNat < M.L.length := by omega
   have e : dY M (toW R.ag) = (mq (M.L.getD (R.ag.id - 1).toNat default), M) := by
    unfold dY
    rw [if_neg hcl, show (toW R.ag).kind = 6 from hk]
    show fq M (toW R.ag) = _
    unfold fq
    rw [show (toW R.ag).id = R.ag.id from rfl, vW hid, show (toW R.ag).kind = 6 from hk]
    show (mq (M.L.getD (R.ag.id - 1).toNat default), ({ M with L := M.L.set (R.ag.id - 1).toNat (M.L.getD (R.ag.id - 1).toNat default) } : Md)) = _
    have : M.L.set (R.ag.id - 1).toNat (M.L.getD (R.ag.id - 1).toNat default) = M.L := by
     simp only [List.getD, List.getElem?_eq_getElem hi, Option.getD_some, List.set_getElem_self]
    rw [this]
   have hr := AV h.sw hk hg
   rw [show bC (aj M).J R.ag.id = M.L.getD (R.ag.id - 1).toNat default from rY hid] at hr
   rw [e]
   exact aV (N := 999) aZ (iK hr) h.sw h.left rfl (by omega) (by omega) h.ws rfl rfl h.ok
 ·have e : dY M (toW R.ag) = (((0, 0, 0, 0, 0, 0, (kC M 1 1 : Int), (kC M 2 3 : Int), (kC M 4 4 : Int)) : Rl), M) := by
   unfold dY
   rw [if_neg hcl, show (toW R.ag).kind = 10 from hk]
   rfl
  have hr := JV h.sw dC hk
  rw [show (aj M).T = bR M from rfl, rZ h.inv (gu (bR M)) 1 1 (fun k => by rw [sV, Bool.or_self]) (by decide) (by decide),
   rZ h.inv (bJ (bR M)) 2 3 (fun k => by unfold bJ; rw [bZ]) (by decide) (by decide),
   rZ h.inv (fun i => bN (bR M) i && !bJ (bR M) i) 4 4 (fun k => by
    unfold bN bJ
    rw [bZ]
    generalize aP M k = s
    by_cases h2 : s = 2
    ·subst h2; rfl
    ·by_cases h3 : s = 3
     ·subst h3; rfl
     ·rw [decide_eq_false h2, decide_eq_false h3]; simp) (by decide) (by decide)] at hr
  rw [e]
  exact aV (N := 999) aZ (iK hr) h.sw h.left rfl (by omega) (by omega) h.ws rfl rfl h.ok
 ·have e : dY M (toW R.ag) = (((0, 0, 0, 0, 0, 0, (mH M 1 : Int), (mH M 2 : Int), (mH M 3 : Int)) : Rl), M) := by
   unfold dY
   rw [if_neg hcl, show (toW R.ag).kind = 11 from hk]
   rfl
  rw [e]
  exact aV (N := 999) aZ (iK (JW h.sw dC hk)) h.sw h.left rfl (by omega) (by omega) h.ws rfl rfl h.ok
 ·have e : dY M (toW R.ag) = ((0, 0, 0, M.now, 0, 0, ay M M.now 0, 0, 0), M) := by
   unfold dY
   rw [if_neg hcl, show (toW R.ag).kind = 12 from hk]
   rfl
  rw [e]
  exact aV (N := 999) aZ (iK (Hq h.sw (by omega) hk)) h.sw h.left rfl (by omega) (by omega) h.ws rfl rfl h.ok
theorem J7 (h : Bg w0 w b c t d p v0 g0 v g a m mx R M) (hk : R.ag.kind = 13) (hrep : R.rep = mO) :
  Goes b c 1000 w (Fin w0 b c t d p v0 g0 mx { M with cl := true } (kY (eF 0)) false) := by
 have hll := h.few
 have ha := h.ha
 have hm := h.hm
 have hrd : iZ R.ag.kind = false := by rw [hk]; rfl
 exact aV (N := 999) aZ (fC h.sw h.cl (by rw [hk]; decide) hrd (JX h.sw hk)) h.sw h.left rfl (by omega) (by omega) h.ws rfl hrep h.ok
theorem BO (to : Int) (hto : to ≤ 1099511627776) (hl : R.left = fu 148) (qZ : R.target = to) (hmx : mx ≤ 1000000) (n : Nat) :
  ∀ {M : Md} {w : World} {v : Value} {g a : Nat} {m : Int}, aB M → Calm M → Early M → 1 ≤ M.dr.length → M.L.length ≤ 900 → M.now ≤ to → kT M < n → SW w b c t d p v g a m R (aj M) → a ≤ 800 → m + n ≤ mx → WS w0 w b c t d p v0 g0 v g →
   Goes b c n w (Fin w0 b c t d p v0 g0 mx { dh to n M with now := to } ⟨0, 0, 0, to, 0, 0, ay (dh to n M) to 0, 0, 0⟩ R.ok) := by
 induction n with
 | zero =>
  intro M w v g a m hI hC hE h1 hll hnt hn
  have := (lq mr 2 M.L fun j _ => nA j).1
  unfold kT at hn
  omega
 | succ n ih =>
  intro M w v g a m hI hC hE h1 hll hnt hn hS ha hm hw
  by_cases hx : aQ M < 0 ∨ to < aQ M
  ·have e : dh to (n + 1) M = M := if_pos hx
   rw [e]
   have hf := tZ hS hI hE h1 hll ha (by omega) (by rw [qZ]; exact hx) (by rw [qZ]; exact ⟨hnt, hto⟩)
   rw [qZ] at hf
   exact aV (N := n) yG hf hS hl rfl (by omega) (by omega) hw rfl rfl rfl
  ·have e : dh to (n + 1) M = dh to n (dD { M with now := aQ M }) := if_neg hx
   rw [e]
   obtain ⟨a1, a2, a3⟩ := hI.step hC (by omega) (by omega)
   obtain ⟨b1, b2, b3, b4⟩ := a2.qg
   have hkp := mK a2.mb
   have hf := yD hS hI hC hE h1 hll ha (by omega) (by rw [qZ]; omega) (by rw [qZ]; exact hto)
   refine fA (k := 148) (k' := 148) yG hf hS hl rfl fun w' v' g' hS' hw' => ?_
   rw [← hl] at hS'
   refine ih b1 b2 (Early.qg hE) (by rw [hkp.2.2.2.1]; exact h1) (by rw [hkp.2.1]; exact hll) (by rw [hkp.2.2.1]; show aQ M ≤ to; omega) ?_ hS' ha (by omega) (hw.trans hw')
   have := b4 a3
   have e2 : kT { M with now := aQ M } = kT M := rfl
   omega
theorem J8 (h : Bg w0 w b c t d p v0 g0 v g a m mx R M) (hE : Early M) (hk : R.ag.kind = 9) :
  Goes b c 1000 w (Fin w0 b c t d p v0 g0 mx (kz M R.ag.till).2 (kY (kz M R.ag.till).1) false) := by
 have hll := h.few
 have ha := h.ha
 have hm := h.hm
 have hmx := h.hmx
 have jI := h.inv.mb.now
 have dC := eX h.inv h.one (by omega)
 have hrd : iZ R.ag.kind = false := by rw [hk]; rfl
 have iK : ∀ {L : Value} {a' : Nat} {m' : Int} {R' : Wk} {P' : Pg}, Calls Tryz.prog 125 #[.pointer (some ⟨b, 0, none⟩), .pointer (some ⟨c, 0, none⟩)] w (au w b c t d p v g a' m' L R' P') → Calls Tryz.prog 83 #[.pointer (some ⟨b, 0, none⟩), .pointer (some ⟨c, 0, none⟩)] w (au w b c t d p v g a' m' L R' P') := fun hn => fC h.sw h.cl (by rw [hk]; decide) hrd (MS h.sw hk hn)
 by_cases hlow : R.ag.till < 1
 ·have e : kz M R.ag.till = (eF 10, M) := if_pos (.inl hlow)
  rw [e]
  exact aV (N := 999) aZ (iK (MK h.sw dC hlow)) h.sw h.left rfl (by omega) (by omega) h.ws rfl rfl rfl
 ·by_cases hhi : 1099511627776 - M.now < R.ag.till
  ·have e : kz M R.ag.till = (eF 10, M) := if_pos (.inr hhi)
   rw [e]
   exact aV (N := 999) aZ (iK (JU h.sw dC hlow hhi)) h.sw h.left rfl (by omega) (by omega) h.ws rfl rfl rfl
  ·have hev := (lq mr 2 M.L fun j _ => nA j).2
   have UA : kT M < (2 * M.L.length + 1 : Nat) := by unfold kT; omega
   have e : kz M R.ag.till = ((0, 0, 0, M.now + R.ag.till, 0, 0, ay (nZ M (M.now + R.ag.till)) (M.now + R.ag.till) 0, 0, 0), nZ M (M.now + R.ag.till)) := if_neg (by omega)
   rw [e]
   obtain ⟨to, hto⟩ : ∃ to, to = M.now + R.ag.till := ⟨_, rfl⟩
   rw [← hto]
   unfold nZ
   obtain ⟨n, hn⟩ : ∃ n, n = 2 * M.L.length := ⟨_, rfl⟩
   rw [← hn] at UA ⊢
   by_cases hx : aQ M < 0 ∨ to < aQ M
   ·have e : dh to (n + 1) M = M := if_pos hx
    rw [e]
    refine aV (N := 999) (a' := a) (m' := m + 1) (R' := { R with target := to, rep := ⟨0, 0, 0, to, 0, 0, ay M to 0, 0, 0⟩ }) aZ (iK (Hm (P' := aj { M with now := to }) h.sw dC hlow hhi fun W hW => ?_)) h.sw h.left rfl (by omega) (by omega) h.ws rfl rfl h.ok
    rw [show (aj M).now + R.ag.till = to from hto.symm] at hW
    exact tZ hW h.inv hE h.one (by omega) (by omega) (by omega) hx ⟨by show M.now ≤ to; omega, by show to ≤ _; omega⟩
   ·have e : dh to (n + 1) M = dh to n (dD { M with now := aQ M }) := if_neg hx
    rw [e]
    obtain ⟨a1, a2, a3⟩ := h.inv.step h.calm (by omega) (by omega)
    obtain ⟨b1, b2, b3, b4⟩ := a2.qg
    have hkp := mK a2.mb
    refine (fA (N := n) (k := 83) (k' := 148) (a' := a) (m' := m + 1) (R' := { R with target := to }) (P' := aj (dD { M with now := aQ M })) aZ (iK (Hm h.sw dC hlow hhi fun W hW => ?_)) h.sw h.left rfl fun w' v' g' hS' hw' => ?_).more (show n + 1 ≤ 1000 by omega)
    ·rw [show (aj M).now + R.ag.till = to from hto.symm] at hW
     exact yD hW h.inv h.calm hE h.one (by omega) (by omega) (by omega) ⟨by omega, by show aQ M ≤ to; omega⟩ (by show to ≤ _; omega)
    ·have := BO (R := { ({ R with target := to } : Wk) with left := fu 148 }) (w0 := w0) (b := b) (c := c) (t := t) (d := d) (p := p) (v0 := v0) (g0 := g0) (mx := mx) to (by omega) rfl rfl hmx n b1 b2 (Early.qg hE) (by rw [hkp.2.2.2.1]; exact h.one) (by rw [hkp.2.1]; show M.L.length ≤ 900; omega) (by rw [hkp.2.2.1]; show aQ M ≤ to; omega) (by
      have := b4 a3
      have e2 : kT { M with now := aQ M } = kT M := rfl
      omega) hS' (by omega) (by omega) (h.ws.trans hw')
     rw [show ({ ({ R with target := to } : Wk) with left := fu 148 } : Wk).ok = false from h.ok] at this
     exact this
end
end Go.Proofs.YtnihdgcfamoplaaGreat

namespace Go.Proofs.YtnihdgcfamoplaaGreat
open Go.RowKit Go.Lib Go.Sort
section
variable {M : Md}
theorem HV (hI : aB M) {id t : Int} (hf : fo M id t = true) : ∃ i : Nat, id = (i : Int) + 1 ∧ i < M.L.length ∧ (M.L.getD i default).st = 1 ∧ M.now ≤ t ∧ t ≤ 1099511627776 ∧ M.cl = false ∧
  ∀ u, t ≤ u → u < t + (M.L.getD i default).lim → (M.L.getD i default).wid ≤ ay M u ((i : Int) + 1) := by
 have hn := hI.mb.now
 unfold fo at hf
 simp only at hf
 split at hf
 ·cases hf
 rename_i hq
 have hg : (getM M id).2 = true := by cases e : (getM M id).2 <;> simp_all
 obtain ⟨hm, hi, he, hid⟩ := jW hg
 rw [he] at hm hq hf
 have hs : (M.L.getD (id - 1).toNat default).st = 1 := by
  by_cases e : (M.L.getD (id - 1).toNat default).st = 1
  ·exact e
  ·exact absurd (.inr (.inr (.inl e))) hq
 have ht : M.now ≤ t ∧ t ≤ 1099511627776 := by omega
 have hcl : M.cl = false := by
  cases e : M.cl with
  | false => rfl
  | true => exact absurd (.inl e) hq
 have Fs := hI.ids _ hi
 have hroom := fun u => wH hn.1 ht.1 hf u
 rw [Fs] at hroom
 exact ⟨(id - 1).toNat, hid, hi, hs, ht.1, ht.2, hcl, hroom⟩
theorem A8 (hI : aB M) {i : Nat} (hi : i < M.L.length) (hroom : ∀ u, M.now ≤ u → u < M.now + (M.L.getD i default).lim → (M.L.getD i default).wid ≤ ay M u ((i : Int) + 1)) : (M.L.getD i default).wid ≤ aK M M.now M.dr.length := by
 have bo := hI.one _ (aW hi)
 have h0 := hroom M.now (Int.le_refl _) (by omega)
 have ht0 := lN (L := M.L) (fun j hj => hI.mb.wid j hj) M.now ((i : Int) + 1)
 unfold ay at h0
 omega
theorem EL (hI : aB M) (hC : Calm M) {i : Nat} (hi : i < M.L.length) (hs : (M.L.getD i default).st = 1) {t : Int} (ht : M.now ≤ t ∧ t ≤ 1099511627776)
  (hroom : ∀ u, t ≤ u → u < t + (M.L.getD i default).lim → (M.L.getD i default).wid ≤ ay M u ((i : Int) + 1)) (u : Int) (hu : M.now ≤ u) :
  ay (if t = M.now then aU M i else { M with L := M.L.set i ((M.L.getD i default).aD t) }) u 0 = ay M u ((i : Int) + 1) + had (max t M.now) (t + (M.L.getD i default).lim) (-(M.L.getD i default).wid) u := by
 have hm := aW hi
 have bo := hI.one _ hm
 have bl := hI.mb.lim _ hm
 have hn := hI.mb.now
 have hid := hI.ids i hi
 rw [lh hi hI.ids]
 have hh : had (max t M.now) (t + (M.L.getD i default).lim) (-(M.L.getD i default).wid) u = if t ≤ u ∧ u < t + (M.L.getD i default).lim then -(M.L.getD i default).wid else 0 := by
  unfold had
  have e1 : max t M.now = t := by omega
  rw [e1]
  by_cases c : t ≤ u ∧ u < t + (M.L.getD i default).lim
  ·rw [if_pos c, if_pos ⟨c.1, .inl c.2⟩]
  ·rw [if_neg c, if_neg (by omega)]
 rw [hh]
 by_cases e : t = M.now
 ·subst e
  rw [if_pos rfl, qc hi (by omega)]
  have hlow := (hI.begin hC.runs hi hs (A8 hI hi hroom) fun v h1 h2 => by
   have := hroom v h1 h2
   rw [lh hi hI.ids] at this
   exact this).2
  rw [hlow]
  split <;> split <;> omega
 ·rw [if_neg e, iG hi]
  have hpl : ak ((M.L.getD i default).aD t) = true := by
   unfold ak
   rw [Bool.and_eq_true]
   exact ⟨decide_eq_true hs, decide_eq_true (show 0 ≤ t by omega)⟩
  have hc2 := kZ (t := u) (but := 0) hpl (show (M.L.getD i default).id ≠ 0 by rw [hid]; omega)
  rw [hc2]
  show ay M u 0 + dE u 0 (M.L.getD i default) - (if t ≤ u ∧ u < t + (M.L.getD i default).lim then (M.L.getD i default).wid else 0) = _
  split <;> omega
end
section
variable {w0 w : World} {b c t d p g g0 a N : Nat} {v v0 : Value} {m mx : Int} {P : Pg} {M M' : Md} {R : Wk} {Q : World → Prop}
def mg (M : Md) : Ry := if M.cl then jL 12 else mO
theorem EM (h : SW w b c t d p v g a m R (aj M)) (hl : R.left = fu 72) (hI : aB M) (hC : Calm M) (h1 : 1 ≤ M.dr.length) (hll : M.L.length ≤ 190) (ha : a ≤ 1 + 2 * M.L.length) (hm : m + 1000 ≤ mx) (hmx : mx ≤ 1000000)
  (ho : R.ok = false) (hrep : R.rep = mO) (hxt : -9223372036854775808 ≤ R.dH ∧ R.dH ≤ 9223372036854775807) (hw : WS w0 w b c t d p v0 g0 v g) :
  Goes b c 1000 w (Fin w0 b c t d p v0 g0 mx (bH M R.kr R.dH).2 (mg M) (bH M R.kr R.dH).1) := by
 cases hf : fo M R.kr R.dH with
 | false =>
  have e : bH M R.kr R.dH = (false, M) := if_neg (by rw [hf]; decide)
  rw [e]
  cases hcl : M.cl with
  | true => exact aV (N := 999) xz (BJ h hcl) h hl rfl (by omega) (by omega) hw rfl (by unfold mg; rw [hcl]; rfl) rfl
  | false => exact aV (N := 999) xz (MH h hI h1 (by omega) (by omega) hxt hcl hf) h hl rfl (by omega) (by omega) hw rfl (by unfold mg; rw [hcl]; exact hrep) ho
 | true =>
  obtain ⟨i, hid, hi, hs, ht1, ht2, hcl, hroom⟩ := HV hI hf
  have KH : (R.kr - 1).toNat = i := by omega
  have hmem := aW hi
  have bo := hI.one _ hmem
  have bl := hI.mb.lim _ hmem
  have bw := hI.mb.wid _ hmem
  have bp := hI.mb.aM _ hmem
  have Fs := hI.ids i hi
  have jI := hI.mb.now
  have dC := eX hI h1 (by omega)
  have e : bH M R.kr R.dH = (true, if R.dH = M.now then aU M i else { M with L := M.L.set i ((M.L.getD i default).aD R.dH) }) := by
   unfold bH
   rw [if_pos hf, KH]
   split <;> rfl
  have hI' := (hI.jh hC R.kr R.dH).1
  rw [e] at hI' ⊢
  have hfree := EL hI hC hi hs ⟨ht1, ht2⟩ hroom
  have hdr : (if R.dH = M.now then aU M i else { M with L := M.L.set i ((M.L.getD i default).aD R.dH) }).dr.length = M.dr.length := by split <;> rfl
  have PE : (if R.dH = M.now then aU M i else { M with L := M.L.set i ((M.L.getD i default).aD R.dH) }).now = M.now := by split <;> rfl
  have Rb : mO = mg M := by unfold mg; rw [hcl]; rfl
  have Vm : bC M.L R.kr = M.L.getD i default := by rw [rY (by omega), KH]
  have hck := JQ h hI h1 (by omega) (by omega) hxt hcl hf
  rw [Vm] at hck
  have xP : ∀ u, ay M u ((i : Int) + 1) = ay M u 0 + dE u 0 (M.L.getD i default) := fun u => lh hi hI.ids u
  have kS : PK { aj M with f := fun u => ay M u ((i : Int) + 1) } := ⟨dC.now, dC.few, dC.st, dC.lim, dC.qA, fun u hu => ⟨Bq hI hi u hu, (Dw hI.mb u _).2⟩⟩
  obtain ⟨M1, hM1⟩ : ∃ M1, M1 = (if R.dH = M.now then aU M i else { M with L := M.L.set i ((M.L.getD i default).aD R.dH) }) := ⟨_, rfl⟩
  rw [← hM1] at hI' hfree hdr PE ⊢
  have hrange : ∀ u, M.now ≤ u → 0 ≤ ay M1 u 0 ∧ ay M1 u 0 ≤ 64 := fun u hu => uI hI' u (by rw [PE]; exact hu)
  have UB : PK { aj M with f := fun u => ay M1 u 0 } := ⟨dC.now, dC.few, dC.st, dC.lim, dC.qA, fun u hu => hrange u hu⟩
  refine (fA (N := 3) (k := 72) (k' := 97) xz hck h hl rfl fun w1 v1 g1 hS1 hw1 => ?_).more (show 4 ≤ 1000 by decide)
  have cont : ∀ (w2 : World) (v2 : Value) (g2 a2 : Nat) (m2 : Int), SW w2 b c t d p v2 g2 a2 m2 { R with az := M.L.getD i default, ok := true, left := fu 113 } { aj M with f := fun u => ay M u ((i : Int) + 1) } → a2 ≤ 700 → m2 + 10 ≤ mx → WS w0 w2 b c t d p v0 g0 v2 g2 →
    Goes b c 2 w2 (Fin w0 b c t d p v0 g0 mx M1 (mg M) true) := by
   intro w2 v2 g2 a2 m2 hS2 ha2 hm2 hw2
   have hen := MG hS2 kS (by omega) (by omega) hs ⟨by show 0 ≤ R.dH; omega, by show R.dH ≤ 1099511627776; omega⟩ ⟨bo.2.2.1, bl.2⟩ bw (fun u => ay M1 u 0) (fun u hu => hfree u hu) (fun u hu => hrange u hu)
   refine fA (N := 1) (k := 113) (k' := 133) MW hen hS2 rfl rfl fun w3 v3 g3 Ho hw3 => ?_
   by_cases hx : R.dH = M.now
   ·have hidle : (M.L.getD i default).wid ≤ ((List.range M.dr.length).countP fun n : Nat => decide (aP M n = 1) : Nat) := by
     rw [← GZ hC.runs]
     exact A8 hI hi (by rw [← hx]; exact hroom)
    have hT := G5 hI hi (by omega) hidle
    have hset := Hg Ho UB hx (by show -9223372036854775808 ≤ (M.L.getD i default).wid ∧ (M.L.getD i default).wid ≤ _; omega) hT
    rw [if_pos hx] at hM1
    have hbs : bW (aj M).J (fK (aj M).now) (M.L.getD i default).id (fun j : Jb => decide (j.state = 1)) (kI (aj M).now (il M (M.L.getD i default).wid : Int)) = (aU M i).L := yB hI hi hs
    have hP : ({ aj M with f := fun u => ay M1 u 0, T := bR (aU M i), J := (aU M i).L } : Pg) = aj M1 := by rw [hM1]; rfl
    refine aV (N := 0) (a' := a2 + 2) (m' := m2 + 1) AY (hset.mono fun e w' hp => ?_) Ho rfl rfl (by omega) (by omega) (hw2.trans hw3) rfl (hrep.trans Rb) rfl
    rw [← hP, ← hbs]
    exact hp
   ·have hset := BI Ho hx
    rw [if_neg hx] at hM1
    have La : gI R.dH = 0 := by unfold gI; rw [if_neg (by omega), if_neg (by omega)]
    have hbs : bW (aj M).J (gI R.dH) R.kr (fun j : Jb => decide (j.state = 1)) (jV R.dH) = M.L.set i ((M.L.getD i default).aD R.dH) := by
     rw [La]
     have := tC (ok := fun j : Jb => decide (j.state = 1)) (L := M.L) (id := R.kr) (by omega) (by rw [KH]; exact decide_eq_true hs)
     have h2 := nS (ch := jV R.dH) this
     rw [KH] at h2
     exact h2
    have hT1 : bR M = bR M1 := by
     rw [hM1]
     refine nR (by rw [bq, bq]) fun n hn => ?_
     rw [bZ, bZ, om (y := (M.L.getD i default).aD R.dH) hi Iff.rfl rfl]
    have hP : ({ aj M with f := fun u => ay M1 u 0, J := M.L.set i ((M.L.getD i default).aD R.dH) } : Pg) = aj M1 := by
     show Pg.mk M.now _ (bR M) _ M.cl = _
     rw [hT1, hM1]
     rfl
    refine aV (N := 0) (a' := a2 + 2) (m' := m2 + 1) AY (hset.mono fun e w' hp => ?_) Ho rfl rfl (by omega) (by omega) (hw2.trans hw3) rfl (hrep.trans Rb) rfl
    rw [← hP, ← hbs]
    exact hp
  cases hpl : ak (M.L.getD i default) with
  | true =>
   have hlv := He hS1 dC (by omega) (by omega) hpl bp.2 bl bo.2.2.1 bw (fun u => ay M u ((i : Int) + 1)) (fun u hu => by
    have hun := qC hI hi hpl u
    rw [iG hi, dF (j := (M.L.getD i default).aD (-1)) (by unfold ak; simp [Jb.aD, Jb.aM])] at hun
    show ay M u ((i : Int) + 1) = ay M u 0 + had (max (M.L.getD i default).aM M.now) ((M.L.getD i default).aM + (M.L.getD i default).lim) (M.L.getD i default).wid u
    rw [xP]
    omega) (fun u hu => kS.f u hu)
   refine fA (N := 2) (k := 97) (k' := 113) Df hlv hS1 rfl rfl fun w2 v2 g2 hS2 hw2 => ?_
   exact cont w2 v2 g2 _ _ hS2 (by omega) (by omega) ((hw.trans hw1).trans hw2)
  | false =>
   have hlv := Hf hS1 hpl bp.2 bl
   refine fA (N := 2) (k := 97) (k' := 113) Df hlv hS1 rfl rfl fun w2 v2 g2 hS2 hw2 => ?_
   have hP : aj M = { aj M with f := fun u => ay M u ((i : Int) + 1) } := by
    have : (fun u => ay M u ((i : Int) + 1)) = fun u => ay M u 0 := by
     funext u
     rw [xP, dF hpl]
     omega
    rw [this]
    rfl
   rw [hP] at hS2
   exact cont w2 v2 g2 _ _ hS2 (by omega) (by omega) ((hw.trans hw1).trans hw2)
theorem PG (h : SW w b c t d p v g a m R (aj M)) (hl : R.left = fu 83) (hI : aB M) (hC : Calm M) (hE : Early M) (h1 : 1 ≤ M.dr.length) (hll : M.L.length ≤ 190) (ha : a ≤ 1 + 2 * M.L.length) (hm : m + 1000 ≤ mx) (hmx : mx ≤ 1000000)
  (ho : R.ok = false) (hrep : R.rep = mO) (hnd : -9223372036854775808 ≤ R.ag.node ∧ R.ag.node ≤ 9223372036854775807) (hw : WS w0 w b c t d p v0 g0 v g) :
  Goes b c 1000 w (Fin w0 b c t d p v0 g0 mx (dY M (toW R.ag)).2 (kY (dY M (toW R.ag)).1) false) := by
 cases hcl : M.cl with
 | true =>
  have e : dY M (toW R.ag) = (eF 12, M) := if_pos hcl
  rw [e]
  exact J2 h hl hcl (by omega) (by omega) hw
 | false =>
  have hcn : ¬ M.cl = true := by rw [hcl]; decide
  have hB : Bg w0 w b c t d p v0 g0 v g a m mx R M := ⟨h, hl, hI, hC, hcl, h1, hll, ha, hm, hmx, ho, hw⟩
  have hkr : ∀ r : Rw, dY M r = if r.kind = 1 then gQ M r
    else if r.kind = 2 ∨ r.kind = 5 then kv M r
    else if r.kind = 3 ∨ r.kind = 4 ∨ r.kind = 6 then fq M r
    else if r.kind = 7 ∨ r.kind = 8 then gz M r
    else if r.kind = 9 then kz M r.by'
    else if r.kind = 10 then ((0, 0, 0, 0, 0, 0, kC M 1 1, kC M 2 3, kC M 4 4), M)
    else if r.kind = 11 then ((0, 0, 0, 0, 0, 0, mH M 1, mH M 2, mH M 3), M)
    else if r.kind = 12 then ((0, 0, 0, M.now, 0, 0, ay M M.now 0, 0, 0), M)
    else if r.kind = 13 then (eF 0, { M with cl := true })
    else (eF 4, M) := fun r => if_neg hcn
  by_cases hrd : R.ag.kind = 6 ∨ R.ag.kind = 10 ∨ R.ag.kind = 11 ∨ R.ag.kind = 12
  ·exact J6 hB hrd
  rw [hkr]
  have ek : (toW R.ag).kind = R.ag.kind := rfl
  rw [ek]
  by_cases k1 : R.ag.kind = 1
  ·rw [if_pos k1]; exact EJ h hl hI hcl h1 hll ha hm hmx hw k1 ho
  rw [if_neg k1]
  by_cases k25 : R.ag.kind = 2 ∨ R.ag.kind = 5
  ·rw [if_pos k25]
   rcases k25 with k | k
   ·exact vX hB 5 (.inl ⟨k, rfl⟩)
   ·exact vX hB 4 (.inr ⟨k, rfl⟩)
  rw [if_neg k25]
  by_cases Sv : R.ag.kind = 3 ∨ R.ag.kind = 4 ∨ R.ag.kind = 6
  ·rw [if_pos Sv]
   rcases Sv with k | k | k
   ·exact J4 hB k
   ·exact BN hB k
   ·exact absurd (.inl k) hrd
  rw [if_neg Sv]
  by_cases HY : R.ag.kind = 7 ∨ R.ag.kind = 8
  ·rw [if_pos HY]
   rcases HY with k | k
   ·exact Hz hB k hnd
   ·exact EK hB k hnd
  rw [if_neg HY]
  by_cases k9 : R.ag.kind = 9
  ·rw [if_pos k9]; exact J8 hB hE k9
  rw [if_neg k9, if_neg (by omega), if_neg (by omega), if_neg (by omega)]
  by_cases k13 : R.ag.kind = 13
  ·rw [if_pos k13]; exact J7 hB k13 hrep
  rw [if_neg k13]
  exact J3 hB (by omega)
end
end Go.Proofs.YtnihdgcfamoplaaGreat

namespace Go.Proofs.YtnihdgcfamoplaaGreat
open Go.RowKit Go.Lib Go.Sort
section
variable {M : Md}
theorem KI {r : Rw} (h : r.kind = 1) : dY M r = if M.cl = true then (eF 12, M) else gQ M r := by
 unfold dY
 by_cases hc : M.cl = true
 ·rw [if_pos hc, if_pos hc]
 ·rw [if_neg hc, if_neg hc, if_pos h]
theorem PH {r : Rw} (h : (r.kind = 2 ∨ r.kind = 5)) : dY M r = if M.cl = true then (eF 12, M) else kv M r := by
 unfold dY
 by_cases hc : M.cl = true
 ·rw [if_pos hc, if_pos hc]
 ·rw [if_neg hc, if_neg hc, if_neg (show ¬ r.kind = 1 by omega), if_pos h]
theorem KJ {r : Rw} (h : (r.kind = 3 ∨ r.kind = 4 ∨ r.kind = 6)) : dY M r = if M.cl = true then (eF 12, M) else fq M r := by
 unfold dY
 by_cases hc : M.cl = true
 ·rw [if_pos hc, if_pos hc]
 ·rw [if_neg hc, if_neg hc, if_neg (show ¬ r.kind = 1 by omega), if_neg (show ¬ (r.kind = 2 ∨ r.kind = 5) by omega), if_pos h]
theorem PI {r : Rw} (h : (r.kind = 7 ∨ r.kind = 8)) : dY M r = if M.cl = true then (eF 12, M) else gz M r := by
 unfold dY
 by_cases hc : M.cl = true
 ·rw [if_pos hc, if_pos hc]
 ·rw [if_neg hc, if_neg hc, if_neg (show ¬ r.kind = 1 by omega), if_neg (show ¬ (r.kind = 2 ∨ r.kind = 5) by omega), if_neg (show ¬ (r.kind = 3 ∨ r.kind = 4 ∨ r.kind = 6) by omega), if_pos h]
theorem KL {r : Rw} (h : r.kind = 9) : dY M r = if M.cl = true then (eF 12, M) else kz M r.by' := by
 unfold dY
 by_cases hc : M.cl = true
 ·rw [if_pos hc, if_pos hc]
 ·rw [if_neg hc, if_neg hc, if_neg (show ¬ r.kind = 1 by omega), if_neg (show ¬ (r.kind = 2 ∨ r.kind = 5) by omega), if_neg (show ¬ (r.kind = 3 ∨ r.kind = 4 ∨ r.kind = 6) by omega), if_neg (show ¬ (r.kind = 7 ∨ r.kind = 8) by omega), if_pos h]
theorem PL {r r' : Rw} (h : r.kind = r'.kind) (h2 : ¬ (1 ≤ r.kind ∧ r.kind ≤ 9)) : dY M r = dY M r' := by
 unfold dY
 rw [h] at h2 ⊢
 by_cases hc : M.cl = true
 ·rw [if_pos hc, if_pos hc]
 ·have n1 : ¬ r'.kind = 1 := by omega
  have n2 : ¬ (r'.kind = 2 ∨ r'.kind = 5) := by omega
  have n3 : ¬ (r'.kind = 3 ∨ r'.kind = 4 ∨ r'.kind = 6) := by omega
  have n4 : ¬ (r'.kind = 7 ∨ r'.kind = 8) := by omega
  have n5 : ¬ r'.kind = 9 := by omega
  simp only [if_neg hc, if_neg n1, if_neg n2, if_neg n3, if_neg n4, if_neg n5]
theorem M4 (M : Md) (r : Rq) : dY M (toW (kR r)) = dY M (toW r) := by
 unfold kR
 by_cases k1 : r.kind = 1
 ·rw [if_pos k1, KI (r := toW r) k1, KI (r := toW ⟨r.kind, 0, r.user, r.width, r.limit, r.prio, r.held, 0, 0⟩) k1]
  rfl
 rw [if_neg k1]
 by_cases k2 : r.kind = 2 ∨ r.kind = 3 ∨ r.kind = 4 ∨ r.kind = 5 ∨ r.kind = 6
 ·rw [if_pos k2]
  by_cases k25 : r.kind = 2 ∨ r.kind = 5
  ·rw [PH (r := toW r) k25, PH (r := toW ⟨r.kind, r.id, 0, 0, 0, 0, false, 0, 0⟩) k25]
   rfl
  ·have Rc : r.kind = 3 ∨ r.kind = 4 ∨ r.kind = 6 := by omega
   rw [KJ (r := toW r) Rc, KJ (r := toW ⟨r.kind, r.id, 0, 0, 0, 0, false, 0, 0⟩) Rc]
   rfl
 rw [if_neg k2]
 by_cases HY : r.kind = 7 ∨ r.kind = 8
 ·rw [if_pos HY, PI (r := toW r) HY, PI (r := toW ⟨r.kind, 0, 0, 0, 0, 0, false, r.node, 0⟩) HY]
  rfl
 rw [if_neg HY]
 by_cases k9 : r.kind = 9
 ·rw [if_pos k9, KL (r := toW r) k9, KL (r := toW ⟨r.kind, 0, 0, 0, 0, 0, false, 0, r.till⟩) k9]
  rfl
 rw [if_neg k9]
 exact PL rfl (by show ¬ (1 ≤ r.kind ∧ r.kind ≤ 9); omega)
theorem HZ (r : Rq) (h : -9223372036854775808 ≤ r.node ∧ r.node ≤ 9223372036854775807) : -9223372036854775808 ≤ (kR r).node ∧ (kR r).node ≤ 9223372036854775807 := by
 have z : -9223372036854775808 ≤ (0 : Int) ∧ (0 : Int) ≤ 9223372036854775807 := by decide
 unfold kR
 repeat' split
 all_goals first | exact z | exact h
structure Ok (M : Md) : Prop where
 inv : aB M
 calm : Calm M
 early : Early M
theorem Ok.new {n : Nat} (h : n ≤ 64) : Ok (dR n) := ⟨(Fx h).1, (Fx h).2, J5 n⟩
theorem Ok.Fv (h : Ok M) (r : Rw) : Ok (dY M r).2 := ⟨(h.inv.Fv h.calm r).1, (h.inv.Fv h.calm r).2, h.early.Fv r⟩
theorem Ok.jh (h : Ok M) (id t : Int) : Ok (bH M id t).2 := ⟨(h.inv.jh h.calm id t).1, (h.inv.jh h.calm id t).2, h.early.jh id t⟩
end
section
end
end Go.Proofs.YtnihdgcfamoplaaGreat

namespace Go.Proofs.YtnihdgcfamoplaaGreat
open Go.RowKit Go.Lib Go.Sort
section
variable {w : World} {b c t d p g a : Nat} {v : Value} {m : Int} {M : Md} {R : Wk}
theorem M5 (h : bU w b R) : Calls Tryz.prog 50 #[.pointer (some ⟨b, 0, none⟩)] w fun e w' => e = .returned (.agg (bK R.rep).toArray) ∧ Below w.heap.size w w' := by
 obtain ⟨y1, y2, y3, y4, y5, y6, y7, y8, y9, hy⟩ : ∃ y1 y2 y3 y4 y5 y6 y7 y8 y9, R.rep = ⟨y1, y2, y3, y4, y5, y6, y7, y8, y9⟩ := ⟨_, _, _, _, _, _, _, _, _, rfl⟩
 have h' : ∀ o, bU (w.alloc o) b R := fun o => (((Below.refl w.heap.size w).alloc (Nat.le_refl _) o).block b h.lt).trans h
 have c24 : ∀ o, (w.alloc o).cell? ⟨b, 24, none⟩ = some (.int .i64 y1) := fun o => (h' o).at 24 (.int .i64 y1) (by show some (Value.int .i64 R.rep.1) = _; rw [hy])
 have Wi : ∀ o, (w.alloc o).cell? ⟨b, 25, none⟩ = some (.int .i64 y2) := fun o => (h' o).at 25 (.int .i64 y2) (by show some (Value.int .i64 R.rep.2) = _; rw [hy])
 have Wj : ∀ o, (w.alloc o).cell? ⟨b, 26, none⟩ = some (.int .i64 y3) := fun o => (h' o).at 26 (.int .i64 y3) (by show some (Value.int .i64 R.rep.3) = _; rw [hy])
 have Wl : ∀ o, (w.alloc o).cell? ⟨b, 27, none⟩ = some (.int .i64 y4) := fun o => (h' o).at 27 (.int .i64 y4) (by show some (Value.int .i64 R.rep.4) = _; rw [hy])
 have c28 : ∀ o, (w.alloc o).cell? ⟨b, 28, none⟩ = some (.int .i64 y5) := fun o => (h' o).at 28 (.int .i64 y5) (by show some (Value.int .i64 R.rep.5) = _; rw [hy])
 have Wm : ∀ o, (w.alloc o).cell? ⟨b, 29, none⟩ = some (.int .i64 y6) := fun o => (h' o).at 29 (.int .i64 y6) (by show some (Value.int .i64 R.rep.6) = _; rw [hy])
 have Wn : ∀ o, (w.alloc o).cell? ⟨b, 30, none⟩ = some (.int .i64 y7) := fun o => (h' o).at 30 (.int .i64 y7) (by show some (Value.int .i64 R.rep.7) = _; rw [hy])
 have c31 : ∀ o, (w.alloc o).cell? ⟨b, 31, none⟩ = some (.int .i64 y8) := fun o => (h' o).at 31 (.int .i64 y8) (by show some (Value.int .i64 R.rep.8) = _; rw [hy])
 have c32 : ∀ o, (w.alloc o).cell? ⟨b, 32, none⟩ = some (.int .i64 y9) := fun o => (h' o).at 32 (.int .i64 y9) (by show some (Value.int .i64 R.rep.9) = _; rw [hy])
 rw [hy]
 clear h h' hy
 go_enter Tryz.func50, Tryz.ntmps50
 go_wp2_with fail
 refine eQ rfl rfl rfl (heap_alloc_new w _) Tryz.underlying39 rfl (by kernel_rfl) ⟨rfl, ?_⟩
 exact (Below.refl _ _).alloc (Nat.le_refl _) _
theorem Sw (h : bU w b R) : Calls Tryz.prog 37 #[.pointer (some ⟨b, 0, none⟩)] w fun e w' => e = .returned (.bool R.ok) ∧ w = w' := by
 have U5 := h.at 33 (.bool R.ok) rfl
 clear h
 generalize R.ok = o at *
 go_enter Tryz.func37, Tryz.ntmps37
 go_wp2_with fail
 go_ret
 exact ⟨rfl, rfl⟩
end
end Go.Proofs.YtnihdgcfamoplaaGreat

namespace Go.Proofs.YtnihdgcfamoplaaGreat
open Go.RowKit Go.Lib Go.Sort
structure De where
 KM : Bool
 r : Rq
 xi : Int
 xt : Int
def lK (x : De) : List Value := .bool x.KM :: (encR x.r ++ [.int .i64 x.xi, .int .i64 x.xt])
section
variable {w : World} {v : Value} {l : List De}
theorem KN (h : aG lK 12 w v l) : Calls Tryz.prog 7 #[v] w fun e w' => ∃ v', e = .returned v' ∧ aG lK 12 w v' (l.take 60) ∧ w = w' := by
 have hr := h
 obtain ⟨ao, cap, rfl, h1, h2, h3⟩ := h
 by_cases hn : 60 < l.length
 ·have d1 : decide ((60 : Int) < (l.length : Int)) = true := decide_eq_true (by omega)
  have hcut := hr.cut (n := 60) (by omega)
  go_enter Tryz.func7, Tryz.ntmps7
  go_wp2_with fail
  go_ret
  exact ⟨_, rfl, hcut, rfl⟩
 ·have d1 : decide ((60 : Int) < (l.length : Int)) = false := decide_eq_false (by omega)
  have e : l.take 60 = l := List.take_of_length_le (by omega)
  rw [e]
  go_enter Tryz.func7, Tryz.ntmps7
  go_wp2_with fail
  go_ret
  exact ⟨_, rfl, hr, rfl⟩
end
end Go.Proofs.YtnihdgcfamoplaaGreat

namespace Go.Proofs.YtnihdgcfamoplaaGreat
open Go.RowKit Go.Lib Go.Sort
section
variable {M : Md}
theorem xI (M : Md) (j : Jb) : (eB M j).L.length = M.L.length ∧ (eB M j).dr = M.dr := ⟨by show (M.L.map _).length = _; rw [List.length_map], rfl⟩
theorem QK (hI : aB M) (r : Rw) : (dY M r).2.L.length ≤ M.L.length + 1 ∧ (dY M r).2.dr.length = M.dr.length := by
 unfold dY
 by_cases hc : M.cl = true
 ·rw [if_pos hc]; exact ⟨Nat.le_succ _, rfl⟩
 rw [if_neg hc]
 by_cases k1 : r.kind = 1
 ·rw [if_pos k1]
  unfold gQ
  split
  ·exact ⟨Nat.le_succ _, rfl⟩
  split
  ·exact ⟨by show (M.L ++ [_]).length ≤ _; simp, rfl⟩
  ·refine ⟨?_, rfl⟩
   rw [(xI _ _).1]
   show (M.L ++ [_]).length ≤ _
   simp
 rw [if_neg k1]
 by_cases k2 : r.kind = 2 ∨ r.kind = 5
 ·rw [if_pos k2]
  unfold kv
  simp only
  split
  ·exact ⟨Nat.le_succ _, rfl⟩
  split
  ·exact ⟨Nat.le_succ _, rfl⟩
  ·exact ⟨by show (M.L.set _ _).length ≤ _; rw [List.length_set]; omega, rfl⟩
 rw [if_neg k2]
 by_cases k3 : r.kind = 3 ∨ r.kind = 4 ∨ r.kind = 6
 ·rw [if_pos k3]
  unfold fq
  simp only
  split
  ·exact ⟨Nat.le_succ _, rfl⟩
  split
  ·exact ⟨Nat.le_succ _, rfl⟩
  split
  ·refine ⟨?_, rfl⟩
   rw [(xI _ _).1]
   show (M.L.set _ _).length ≤ _
   rw [List.length_set]; omega
  ·exact ⟨by show (M.L.set _ _).length ≤ _; rw [List.length_set]; omega, rfl⟩
 rw [if_neg k3]
 by_cases k7 : r.kind = 7 ∨ r.kind = 8
 ·rw [if_pos k7]
  unfold gz
  split
  ·exact ⟨Nat.le_succ _, rfl⟩
  split
  ·exact ⟨Nat.le_succ _, rfl⟩
  ·unfold eZ
   split
   ·exact ⟨by show (eB M ky).L.length ≤ _; rw [(xI _ _).1]; omega, by show (M.dr.set _ _).length = _; rw [List.length_set]⟩
   ·exact ⟨Nat.le_succ _, by show (M.dr.set _ _).length = _; rw [List.length_set]⟩
 rw [if_neg k7]
 by_cases k9 : r.kind = 9
 ·rw [if_pos k9]
  unfold kz
  split
  ·exact ⟨Nat.le_succ _, rfl⟩
  ·have hn := hI.mb.now
   have hk := DK (M.now + r.by') (2 * M.L.length + 1) hI.mb (by omega)
   exact ⟨by show (dh _ _ M).L.length ≤ _; rw [hk.2.1]; omega, by show (dh _ _ M).dr.length = _; rw [hk.2.2.1]⟩
 rw [if_neg k9]
 repeat' split
 all_goals exact ⟨Nat.le_succ _, rfl⟩
theorem H5 (M : Md) (id t : Int) : (bH M id t).2.L.length = M.L.length ∧ (bH M id t).2.dr = M.dr := by
 unfold bH
 split
 ·split
  ·exact ⟨by show (M.L.set _ _).length = _; rw [List.length_set], rfl⟩
  ·exact ⟨by show (M.L.set _ _).length = _; rw [List.length_set], rfl⟩
 ·exact ⟨rfl, rfl⟩
def EN (M : Md) (x : De) : Md := if x.KM then (bH M x.xi x.xt).2 else (dY M (toW x.r)).2
def lL (M : Md) (l : List De) : Md := l.foldl EN M
theorem Ok.de (h : Ok M) (x : De) : Ok (EN M x) := by
 unfold EN
 split
 ·exact h.jh _ _
 ·exact h.Fv _
theorem QL (h : Ok M) (x : De) : (EN M x).L.length ≤ M.L.length + 1 ∧ (EN M x).dr.length = M.dr.length := by
 unfold EN
 split
 ·have := H5 M x.xi x.xt
  exact ⟨by rw [this.1]; omega, by rw [this.2]⟩
 ·exact QK h.inv _
theorem Dk (h : Ok M) (l : List De) : Ok (lL M l) ∧ (lL M l).L.length ≤ M.L.length + l.length ∧ (lL M l).dr.length = M.dr.length := by
 unfold lL
 induction l generalizing M with
 | nil => exact ⟨h, Nat.le_refl _, rfl⟩
 | cons x l ih =>
  obtain ⟨h1, h2, h3⟩ := ih (h.de x)
  have := QL h x
  exact ⟨h1, by show (l.foldl EN (EN M x)).L.length ≤ M.L.length + (l.length + 1); omega, h3.trans this.2⟩
theorem J9 (M : Md) {l : List De} {i : Nat} (hi : i < l.length) : lL M (l.take (i + 1)) = EN (lL M (l.take i)) l[i] := by
 unfold lL
 rw [List.take_succ_eq_append_getElem hi, List.foldl_append]
 rfl
end
end Go.Proofs.YtnihdgcfamoplaaGreat

namespace Go.Proofs.YtnihdgcfamoplaaGreat
open Go.RowKit Go.Lib Go.Sort
section
variable {M : Md}
def si (M : Md) (r : Rw) : Rl × Md := if 1 ≤ r.kind ∧ r.kind ≤ 13 then dY M r else (eF 4, M)
theorem A9 {r : Rw} (h : 1 ≤ r.kind ∧ r.kind ≤ 13) : si M r = dY M r := by unfold si; rw [if_pos h]
theorem tF {r : Rw} (h : ¬ (1 ≤ r.kind ∧ r.kind ≤ 13)) : si M r = (eF 4, M) := by unfold si; rw [if_neg h]
theorem Dl (M : Md) (r : Rw) : (si M r).2 = (dY M r).2 := by
 by_cases h : 1 ≤ r.kind ∧ r.kind ≤ 13
 ·rw [A9 h]
 ·rw [tF h]
  unfold dY
  rw [if_neg (show ¬ r.kind = 1 by omega), if_neg (show ¬ (r.kind = 2 ∨ r.kind = 5) by omega), if_neg (show ¬ (r.kind = 3 ∨ r.kind = 4 ∨ r.kind = 6) by omega), if_neg (show ¬ (r.kind = 7 ∨ r.kind = 8) by omega), if_neg (show ¬ r.kind = 9 by omega), if_neg (show ¬ r.kind = 10 by omega), if_neg (show ¬ r.kind = 11 by omega), if_neg (show ¬ r.kind = 12 by omega), if_neg (show ¬ r.kind = 13 by omega)]
  split <;> rfl
end
def mh (w : World) (s c : Nat) : Prop := w.heap[s]? = some (.cells #[.pointer (some ⟨c, 0, none⟩)] 44 (0, 0))
theorem mh.lt {w : World} {s c : Nat} (h : mh w s c) : s < w.heap.size := aC h
theorem mh.c0 {w : World} {s c : Nat} (h : mh w s c) : w.cell? ⟨s, 0, none⟩ = some (.pointer (some ⟨c, 0, none⟩)) := by simp [World.cell?, show w.heap[s]? = _ from h]
theorem mh.kept {w w' : World} {s c : Nat} (h : mh w s c) (hb : Below w.heap.size w w') : mh w' s c := (hb.block s h.lt).trans h
theorem mh.far {w w' : World} {s c : Nat} (h : mh w s c) (hf : QJ w w') : mh w' s c := hf s _ _ _ (by decide) (by decide) h
structure SO (B : Nat) (w : World) (s c t d p : Nat) (v : Value) (g : Nat) (m : Int) (M : Md) : Prop where
 at' : mh w s c
 Sy : B ≤ s
 cw : CW w c t d p v g (1 + 2 * M.L.length) m (aj M)
 lo : ∀ k, dM c t d p v g k → B ≤ k
section
variable {w w' w1 : World} {B s c t d p g g' : Nat} {v v' : Value} {m m' : Int} {M M' : Md}
theorem SO.apart (h : SO B w s c t d p v g m M) : ¬ dM c t d p v g s := h.cw.other h.at' (by decide)
theorem SO.kept (h : SO B w s c t d p v g m M) (hb : Below w.heap.size w w') : SO B w' s c t d p v g m M := ⟨h.at'.kept hb, h.Sy, h.cw.kept hb, h.lo⟩
theorem SO.wider (h : SO B w s c t d p v g m M) (hm : m ≤ m') : SO B w s c t d p v g m' M := ⟨h.at', h.Sy, h.cw.wider (Nat.le_refl _) hm, h.lo⟩
theorem SO.turn (h : SO B w s c t d p v g m M) (hs : CS w w' c t d p v g v' g') (hC : CW w' c t d p v' g' (1 + 2 * M'.L.length) m' (aj M')) (hB : B ≤ w.heap.size) : SO B w' s c t d p v' g' m' M' :=
 ⟨(hs.heap h.at'.lt h.apart).trans h.at', h.Sy, hC, hs.lo h.lo hB⟩
theorem SO.below (h : SO B w s c t d p v g m M) (hs : CS w w' c t d p v g v' g') (hB : B ≤ w.heap.size) : Below B w w' := hs.below h.lo hB
theorem CS.PM {b : Nat} (hb : Below w.heap.size w w1) (hlo : w.heap.size ≤ b) (hs : WS w1 w' b c t d p v g v' g') : CS w w' c t d p v g v' g' := by
 refine ⟨⟨hs.off.os.trans hb.os, hs.off.tape.trans hb.tape, hs.off.output.trans hb.output, Nat.le_trans hb.size hs.off.size, fun k hk hf => ?_⟩, fun k hk => ?_⟩
 ·refine (hs.heap (Nat.lt_of_lt_of_le hk hb.size) ?_).trans (hb.block k hk)
  rintro (rfl | h2)
  ·omega
  ·exact hf h2
 ·rcases hs.grew k (.inr hk) with (rfl | h2) | h2
  ·exact .inr hlo
  ·exact .inl h2
  ·exact .inr (Nat.le_trans hb.size h2)
end
section
variable {w : World} {B s c t d p g : Nat} {v : Value} {m : Int} {M : Md}
theorem xJ (h : SO B w s c t d p v g m M) : Calls Tryz.prog 34 #[.pointer (some ⟨s, 0, none⟩)] w fun e w' => e = .returned (.bool false) ∧ w = w' := by
 have c0 := h.at'.c0
 have hn := kQ h.cw
 go_enter Tryz.func34, Tryz.ntmps34
 go_wp2_with fail
 go_at_call 51
 refine hn.mono ?_
 clear hn
 rintro e w' ⟨rfl, rfl⟩
 go_wp2_with fail
 go_ret
 exact ⟨rfl, rfl⟩
theorem PN (c : Nat) (w : World) : Calls Tryz.prog 32 #[.pointer (some ⟨c, 0, none⟩)] w fun e w' => e = .returned (.pointer (some ⟨w.heap.size, 0, none⟩)) ∧ mh w' w.heap.size c ∧ Below w.heap.size w w' := by
 go_enter Tryz.func32, Tryz.ntmps32
 go_wp2_with fail
 go_ret
 exact ⟨rfl, heap_alloc_new w _, (Below.refl _ _).alloc (Nat.le_refl _) _⟩
theorem M6 (n : Int) (w : World) (h : n < 1 ∨ 64 < n) : Calls Tryz.prog 8 #[.int .i64 n] w fun e w' => e = .returned (.tuple #[.pointer none, .int .i64 1]) ∧ w = w' := by
 have hn := MV n w h
 go_enter Tryz.func8, Tryz.ntmps8
 go_wp2_with (go_at_call 31; go_must (refine hn.mono ?_); rintro e w' ⟨rfl, rfl⟩)
 go_ret2
 exact ⟨rfl, rfl⟩
theorem H6 (n : Nat) (w : World) (h1 : 1 ≤ n) (h2 : n ≤ 64) : Calls Tryz.prog 8 #[.int .i64 n] w fun e w' => ∃ s c t d p v g, e = .returned (.tuple #[.pointer (some ⟨s, 0, none⟩), .int .i64 0]) ∧ SO w.heap.size w' s c t d p v g 0 (dR n) ∧ Below w.heap.size w w' := by
 have hn := Py n w h1 h2
 go_enter Tryz.func8, Tryz.ntmps8
 go_wp2_with fail
 go_at_call 31
 refine hn.mono ?_
 clear hn
 rintro e w1 ⟨c, t, d, p, v, g, rfl, ⟨xg, hlo1⟩, hb1⟩
 have ho := PN c w1
 go_wp2_with fail
 go_at_call 32
 refine ho.mono ?_
 clear ho
 rintro e w2 ⟨rfl, hS2, hb2⟩
 go_wp2_with fail
 go_ret2
 exact ⟨w1.heap.size, c, t, d, p, v, g, rfl, ⟨hS2, hb1.size, xg.kept hb2, hlo1⟩, hb1.trans (hb2.mono hb1.size)⟩
end
section
variable {w w0 : World} {B s b c t d p g N : Nat} {v : Value} {m : Int} {M : Md} {Q : World → Prop}
theorem H7 (hs : mh w s c) (h : Goes b c N w Q) : Calls Tryz.prog 35 #[.pointer (some ⟨s, 0, none⟩), .pointer (some ⟨b, 0, none⟩)] w fun e w' => e = .returned (.pointer (some ⟨b, 0, none⟩)) ∧ Q w' := by
 go_enter Tryz.func35, Tryz.ntmps35
 go_wp2_with fail
 go_loopg [] N (fun k wr => Hid (mh wr s c) ∧ Hid (Goes b c k wr Q))
 case atStart => exact ⟨Lib.hid hs, Lib.hid h⟩
 case round =>
  obtain ⟨h1, h2⟩ := hrel
  cases gk with
  | zero => exact h2.out.elim
  | succ K =>
   have c0 := h1.out.c0
   have hg : Calls Tryz.prog 71 #[.pointer (some ⟨b, 0, none⟩), .pointer (some ⟨c, 0, none⟩)] wr fun e w' => QJ wr w' ∧ ((e = .returned (.bool true) ∧ Q w') ∨ (e = .returned (.bool false) ∧ Goes b c K w' Q)) := h2.out
   go_wp2_with fail
   go_at_call 71
   refine hg.mono ?_
   clear hg
   rintro e w' ⟨hf, ⟨rfl, hq⟩ | ⟨rfl, hq⟩⟩
   ·go_wp2_with fail
    go_ret
    exact ⟨rfl, hq⟩
   ·have h3 := Lib.hid (h1.out.far hf)
    have h4 := Lib.hid hq
    go_wp2_with fail
    go_roundg K
    case measure => omega
    case rel => exact ⟨h3, h4⟩
def Ba (w : World) (b c t d p : Nat) (v : Value) (g : Nat) (m : Int) (M' : Md) (y : Ry) (ok : Bool) (e : Ending) (w' : World) : Prop :=
 ∃ (v' : Value) (g' : Nat) (R : Wk), e = .returned (.pointer (some ⟨b, 0, none⟩)) ∧ CW w' c t d p v' g' (1 + 2 * M'.L.length) (m + 1000) (aj M') ∧ bU w' b R ∧ R.rep = y ∧ R.ok = ok ∧ WS w w' b c t d p v g v' g'
theorem vY {M' : Md} {y : Ry} {ok : Bool} (hs : mh w s c) (h : Goes b c 1000 w (Fin w b c t d p v g (m + 1000) M' y ok)) (hI : aB M') :
  Calls Tryz.prog 35 #[.pointer (some ⟨s, 0, none⟩), .pointer (some ⟨b, 0, none⟩)] w (Ba w b c t d p v g m M' y ok) := by
 refine (H7 hs h).mono ?_
 rintro e w' ⟨rfl, ⟨v', g', a, m', R, hS, ha, hm, hl, hr, ho, hw⟩⟩
 exact ⟨v', g', R, rfl, (hS.cw.Pz hI).wider (Nat.le_refl _) hm, hS.wk, hr, ho, hw⟩
theorem BP (hs : mh w s c) (h : CW w c t d p v g (1 + 2 * M.L.length) m (aj M)) (r : Rq) (hb : bU w b (vU r)) (hM : Ok M) (h1 : 1 ≤ M.dr.length) (hll : M.L.length ≤ 190) (hm : m + 1000 ≤ 1000000) (hnd : -9223372036854775808 ≤ r.node ∧ r.node ≤ 9223372036854775807) :
  Calls Tryz.prog 35 #[.pointer (some ⟨s, 0, none⟩), .pointer (some ⟨b, 0, none⟩)] w (Ba w b c t d p v g m (dY M (toW r)).2 (kY (dY M (toW r)).1) false) := by
 have hg := PG (mx := m + 1000) (R := vU r) ⟨hb, h⟩ rfl hM.inv hM.calm hM.early h1 hll (Nat.le_refl _) (Int.le_refl _) hm rfl rfl (HZ r hnd) (WS.refl w)
 rw [show (vU r).ag = kR r from rfl, M4] at hg
 exact vY hs hg (hM.Fv _).inv
theorem yS (hs : mh w s c) (h : CW w c t d p v g (1 + 2 * M.L.length) m (aj M)) (i x : Int) (hb : bU w b (AX i x)) (hM : Ok M) (h1 : 1 ≤ M.dr.length) (hll : M.L.length ≤ 190) (hm : m + 1000 ≤ 1000000) (hx : -9223372036854775808 ≤ x ∧ x ≤ 9223372036854775807) :
  Calls Tryz.prog 35 #[.pointer (some ⟨s, 0, none⟩), .pointer (some ⟨b, 0, none⟩)] w (Ba w b c t d p v g m (bH M i x).2 (mg M) (bH M i x).1) :=
 vY hs (EM (mx := m + 1000) (R := AX i x) ⟨hb, h⟩ rfl hM.inv hM.calm h1 hll (Nat.le_refl _) (Int.le_refl _) hm rfl rfl hx (WS.refl w)) (hM.jh i x).inv
theorem KO {w : World} {G : Nat} {z : Ry} (hb : w.heap[G]? = some (.cells (bK z).toArray 39 (0, 0))) (y : Ry) :
  Sem.run Tryz.prog (storeCells ⟨G, 0, none⟩ (bK y) 0) w = .ok () (w.setRow G (bK y).toArray) ∧ (w.setRow G (bK y).toArray).heap[G]? = some (.cells (bK y).toArray 39 (0, 0)) := by
 have hst := run_storeCells_at Tryz.prog G 0 39 (bK y) 0 (bK z).toArray w hb (by simp [iW]) (xk y)
 simp only [Nat.add_zero] at hst
 have e : (((bK z).toArray.toList.take 0 ++ bK y ++ (bK z).toArray.toList.drop (0 + (bK y).length)).toArray) = (bK y).toArray := by simp [iW]
 rw [e] at hst
 exact ⟨hst, setRow_heap w G _ _ _ _ hb⟩
theorem CS.row {w w' : World} {c t d p g g' G : Nat} {v v' : Value} (h : CS w w' c t d p v g v' g') (hG : w.heap.size ≤ G) (cs : Array Value) : CS w (w'.setRow G cs) c t d p v g v' g' :=
 ⟨⟨h.off.os, h.off.tape, h.off.output, by simp; exact h.off.size, fun k hk hf => (setRow_other w' G k cs (by omega)).trans (h.off.block k hk hf)⟩, h.grew⟩
theorem CS.later {w w1 w' : World} {c t d p g g' : Nat} {v v' : Value} (h : CS w w1 c t d p v g v' g') (hb : Below w1.heap.size w1 w') : CS w w' c t d p v g v' g' := h.trans (CS.of_below hb)
def KP (B : Nat) (w : World) (s c t d p : Nat) (v : Value) (g : Nat) (m : Int) (M' : Md) (r : Value) (e : Ending) (w' : World) : Prop :=
 ∃ (v' : Value) (g' : Nat), e = .returned r ∧ SO B w' s c t d p v' g' (m + 1000) M' ∧ CS w w' c t d p v g v' g' ∧ Below B w w'
theorem yZ (h : SO B w s c t d p v g m M) (hB : B ≤ w.heap.size) (r : Rq) (hM : Ok M) (h1 : 1 ≤ M.dr.length) (hll : M.L.length ≤ 190) (hm : m + 1000 ≤ 1000000) (hnd : -9223372036854775808 ≤ r.node ∧ r.node ≤ 9223372036854775807) :
  Calls Tryz.prog 14 #[.pointer (some ⟨s, 0, none⟩), .agg (encR r).toArray] w (KP B w s c t d p v g m (dY M (toW r)).2 (.agg (bK (kY (si M (toW r)).1)).toArray)) := by
 by_cases hk : 1 ≤ r.kind ∧ r.kind ≤ 13
 ·rw [A9 (show 1 ≤ (toW r).kind ∧ (toW r).kind ≤ 13 from hk)]
  have key : ∀ w2 b, bU w2 b (vU r) → Below w.heap.size w w2 → Calls Tryz.prog 35 #[.pointer (some ⟨s, 0, none⟩), .pointer (some ⟨b, 0, none⟩)] w2 (Ba w2 b c t d p v g m (dY M (toW r)).2 (kY (dY M (toW r)).1) false) :=
   fun w2 b hW hb2 => BP (h.at'.kept hb2) (h.cw.kept hb2) r hW hM h1 hll hm hnd
  have hf0 : ∀ k, dM c t d p v g k → k < w.heap.size := fun k => h.cw.lt
  generalize kY (dY M (toW r)).1 = y at *
  generalize (dY M (toW r)).2 = M2 at *
  obtain ⟨y1, y2, y3, y4, y5, y6, y7, y8, y9⟩ := r
  obtain ⟨wA, aH⟩ : ∃ wA, wA = (w.alloc (.cells #[.int .i64 y1, .int .i64 y2, .int .i64 y3, .int .i64 y4, .int .i64 y5, .int .i64 y6, .bool y7, .int .i64 y8, .int .i64 y9] 32)).alloc (.cells #[.int .i64 0, .int .i64 0, .int .i64 0, .int .i64 0, .int .i64 0, .int .i64 0, .int .i64 0, .int .i64 0, .int .i64 0] 39) := ⟨_, rfl⟩
  have bL : Below w.heap.size w wA := by rw [aH]; exact ((Below.refl _ _).alloc (Nat.le_refl _) _).alloc (by simp) _
  have hsA : wA.heap.size = w.heap.size + 2 := by rw [aH]; simp
  have gY : wA.heap[w.heap.size + 1]? = some (.cells (bK mO).toArray 39 (0, 0)) := by rw [aH]; exact heap_alloc2_new w _ _
  have nT : wA.heap[w.heap.size]? = some (.cells #[.int .i64 y1, .int .i64 y2, .int .i64 y3, .int .i64 y4, .int .i64 y5, .int .i64 y6, .bool y7, .int .i64 y8, .int .i64 y9] 32 (0, 0)) := by rw [aH]; exact eO (heap_alloc_new w _)
  have hl := xJ (h.kept bL)
  have hi := AO y1 wA
  dsimp only at hk
  rw [decide_eq_true hk.1, decide_eq_true hk.2] at hi
  have hq := Hu ⟨y1, y2, y3, y4, y5, y6, y7, y8, y9⟩ wA
  rw [show (encR ⟨y1, y2, y3, y4, y5, y6, y7, y8, y9⟩).toArray = #[.int .i64 y1, .int .i64 y2, .int .i64 y3, .int .i64 y4, .int .i64 y5, .int .i64 y6, .bool y7, .int .i64 y8, .int .i64 y9] from rfl] at hq ⊢
  have r0 : wA.cell? ⟨w.heap.size, 0, none⟩ = some (.int .i64 y1) := by simp [World.cell?, nT]
  have r1 : wA.cell? ⟨w.heap.size, 1, none⟩ = some (.int .i64 y2) := by simp [World.cell?, nT]
  have r2 : wA.cell? ⟨w.heap.size, 2, none⟩ = some (.int .i64 y3) := by simp [World.cell?, nT]
  have r3 : wA.cell? ⟨w.heap.size, 3, none⟩ = some (.int .i64 y4) := by simp [World.cell?, nT]
  have r4 : wA.cell? ⟨w.heap.size, 4, none⟩ = some (.int .i64 y5) := by simp [World.cell?, nT]
  have r5 : wA.cell? ⟨w.heap.size, 5, none⟩ = some (.int .i64 y6) := by simp [World.cell?, nT]
  have r6 : wA.cell? ⟨w.heap.size, 6, none⟩ = some (.bool y7) := by simp [World.cell?, nT]
  have r7 : wA.cell? ⟨w.heap.size, 7, none⟩ = some (.int .i64 y8) := by simp [World.cell?, nT]
  have r8 : wA.cell? ⟨w.heap.size, 8, none⟩ = some (.int .i64 y9) := by simp [World.cell?, nT]
  clear nT
  have zY := uH
  obtain ⟨k9, bQ⟩ : ∃ k, k = 9 := ⟨_, rfl⟩
  rw [← bQ] at zY
  have lY := iW y
  rw [← bQ] at lY
  have hk0 : ¬ k9 = 0 := by omega
  replace bQ := Lib.hid bQ
  replace key := Lib.hid key
  replace hf0 := Lib.hid hf0
  replace gY := Lib.hid gY
  go_enter Tryz.func14, Tryz.ntmps14
  go_wp2_with fail
  rw [← aH]
  replace aH := Lib.hid aH
  go_at_call 34
  refine hl.mono ?_
  clear hl
  rintro e w' ⟨rfl, rfl⟩
  go_wp2_with fail
  go_at_call 48
  refine hi.mono ?_
  clear hi
  rintro e w' ⟨rfl, rfl⟩
  go_wp2_with fail
  go_at_call 49
  refine hq.mono ?_
  clear hq
  rintro e w2 ⟨b, rfl, hW2, hlb, hb2⟩
  have vZ : Below w.heap.size w w2 := bL.trans (hb2.mono bL.size)
  have hp := key.out w2 b hW2 vZ
  go_wp2_with fail
  go_at_call 35
  refine hp.mono ?_
  clear hp
  rintro e w3 ⟨v', g', R, rfl, Bb, hW3, hr, _, hs3⟩
  have Ka := M5 hW3
  rw [hr] at Ka
  go_wp2_with fail
  go_at_call 50
  refine Ka.mono ?_
  clear Ka
  rintro e w4 ⟨rfl, hb4⟩
  have hcs : CS w w4 c t d p v g v' g' := (CS.PM vZ (by omega) hs3).later hb4
  have hG : ¬ AB b c t d p v g (w.heap.size + 1) := by
   rintro (e | hf)
   ·omega
   ·have := hf0.out _ hf
    omega
  have hlt2 : w.heap.size + 1 < w2.heap.size := by have := hb2.size; omega
  have hR2 := (hb2.block (w.heap.size + 1) (by omega)).trans gY.out
  have L8 := (hs3.heap hlt2 hG).trans hR2
  have pI := (hb4.block (w.heap.size + 1) (Nat.lt_of_lt_of_le hlt2 hs3.off.size)).trans L8
  obtain ⟨st, IQ⟩ := KO pI y
  have nX := Bb.kept hb4
  have hnf : ¬ dM c t d p v' g' (w.heap.size + 1) := fun hf => (hs3.grew _ (.inr hf)).elim hG (fun h2 => by omega)
  have fQ := nX.OC (bX w4 (bK y).toArray) hnf
  have mo := hcs.row (G := w.heap.size + 1) (Nat.le_succ _) (bK y).toArray
  have hfin : Hid (SO B (w4.setRow (w.heap.size + 1) (bK y).toArray) s c t d p v' g' (m + 1000) M2 ∧ CS w (w4.setRow (w.heap.size + 1) (bK y).toArray) c t d p v g v' g' ∧ Below B w (w4.setRow (w.heap.size + 1) (bK y).toArray)) :=
   ⟨h.turn mo fQ hB, mo, h.below mo hB⟩
  have hsz : (bK y).toArray.size = 9 := rfl
  clear hs3 hb4 hb2 Bb nX fQ hcs mo hW3 hW2 hR2 L8 pI h
  go_wp2_with fail
  exact eQ rfl rfl rfl IQ Tryz.underlying39 rfl (by rw [hsz]; kernel_rfl) ⟨v', g', rfl, hfin.out⟩
 ·rw [tF (show ¬ (1 ≤ (toW r).kind ∧ (toW r).kind ≤ 13) from hk), ← Dl, tF (show ¬ (1 ≤ (toW r).kind ∧ (toW r).kind ≤ 13) from hk)]
  obtain ⟨y1, y2, y3, y4, y5, y6, y7, y8, y9⟩ := r
  dsimp only at hk
  obtain ⟨wA, aH⟩ : ∃ wA, wA = (w.alloc (.cells #[.int .i64 y1, .int .i64 y2, .int .i64 y3, .int .i64 y4, .int .i64 y5, .int .i64 y6, .bool y7, .int .i64 y8, .int .i64 y9] 32)).alloc (.cells #[.int .i64 0, .int .i64 0, .int .i64 0, .int .i64 0, .int .i64 0, .int .i64 0, .int .i64 0, .int .i64 0, .int .i64 0] 39) := ⟨_, rfl⟩
  have bL : Below w.heap.size w wA := by rw [aH]; exact ((Below.refl _ _).alloc (Nat.le_refl _) _).alloc (by simp) _
  have hsA : wA.heap.size = w.heap.size + 2 := by rw [aH]; simp
  have gY : wA.heap[w.heap.size + 1]? = some (.cells (bK mO).toArray 39 (0, 0)) := by rw [aH]; exact heap_alloc2_new w _ _
  have nT : wA.heap[w.heap.size]? = some (.cells #[.int .i64 y1, .int .i64 y2, .int .i64 y3, .int .i64 y4, .int .i64 y5, .int .i64 y6, .bool y7, .int .i64 y8, .int .i64 y9] 32 (0, 0)) := by rw [aH]; exact eO (heap_alloc_new w _)
  have r0 : wA.cell? ⟨w.heap.size, 0, none⟩ = some (.int .i64 y1) := by simp [World.cell?, nT]
  have hl := xJ (h.kept bL)
  have hi := AO y1 wA
  have hii : (decide (1 ≤ y1) && decide (y1 ≤ 13)) = false := by
   by_cases c1 : 1 ≤ y1
   ·rw [decide_eq_false (show ¬ y1 ≤ 13 by omega), Bool.and_false]
   ·rw [decide_eq_false c1, Bool.false_and]
  rw [hii] at hi
  have hq := Gt 4 wA
  generalize hy : (⟨4, 0, 0, 0, 0, 0, 0, 0, 0⟩ : Ry) = y at *
  rw [show kY (eF 4, M).1 = y from hy]
  rw [show (encR ⟨y1, y2, y3, y4, y5, y6, y7, y8, y9⟩).toArray = #[.int .i64 y1, .int .i64 y2, .int .i64 y3, .int .i64 y4, .int .i64 y5, .int .i64 y6, .bool y7, .int .i64 y8, .int .i64 y9] from rfl]
  clear hy hii nT
  have zY := uH
  obtain ⟨k9, bQ⟩ : ∃ k, k = 9 := ⟨_, rfl⟩
  rw [← bQ] at zY
  have lY := iW y
  rw [← bQ] at lY
  have hk0 : ¬ k9 = 0 := by omega
  replace bQ := Lib.hid bQ
  replace gY := Lib.hid gY
  go_enter Tryz.func14, Tryz.ntmps14
  go_wp2_with fail
  rw [← aH]
  replace aH := Lib.hid aH
  go_at_call 34
  refine hl.mono ?_
  clear hl
  rintro e w' ⟨rfl, rfl⟩
  go_wp2_with fail
  go_at_call 48
  refine hi.mono ?_
  clear hi
  rintro e w' ⟨rfl, rfl⟩
  go_wp2_with fail
  go_at_call 47
  refine hq.mono ?_
  clear hq
  rintro e w4 ⟨rfl, hb4⟩
  have H8 : Below w.heap.size w w4 := bL.trans (hb4.mono bL.size)
  have pI := (hb4.block (w.heap.size + 1) (by omega)).trans gY.out
  obtain ⟨st, IQ⟩ := KO pI y
  have mo := (CS.of_below (c := c) (t := t) (d := d) (p := p) (v := v) (g := g) H8).row (G := w.heap.size + 1) (Nat.le_succ _) (bK y).toArray
  have hnf : ¬ dM c t d p v g (w.heap.size + 1) := fun hf => by have := h.cw.lt hf; omega
  have fQ := (h.cw.kept H8).OC (bX w4 (bK y).toArray) hnf
  have hfin : Hid (SO B (w4.setRow (w.heap.size + 1) (bK y).toArray) s c t d p v g (m + 1000) M ∧ CS w (w4.setRow (w.heap.size + 1) (bK y).toArray) c t d p v g v g ∧ Below B w (w4.setRow (w.heap.size + 1) (bK y).toArray)) :=
   ⟨(h.turn mo fQ hB).wider (by omega), mo, h.below mo hB⟩
  have hsz : (bK y).toArray.size = 9 := rfl
  clear hb4 fQ mo pI h
  go_wp2_with fail
  exact eQ rfl rfl rfl IQ Tryz.underlying39 rfl (by rw [hsz]; kernel_rfl) ⟨v, g, rfl, hfin.out⟩
theorem sj (h : SO B w s c t d p v g m M) (hB : B ≤ w.heap.size) (i x : Int) (hM : Ok M) (h1 : 1 ≤ M.dr.length) (hll : M.L.length ≤ 190) (hm : m + 1000 ≤ 1000000) (hx : -9223372036854775808 ≤ x ∧ x ≤ 9223372036854775807) :
  Calls Tryz.prog 11 #[.pointer (some ⟨s, 0, none⟩), .agg #[.int .i64 i, .int .i64 x]] w (KP B w s c t d p v g m (bH M i x).2 (.bool (bH M i x).1)) := by
 obtain ⟨wA, aH⟩ : ∃ wA, wA = w.alloc (.cells #[.int .i64 i, .int .i64 x] 34) := ⟨_, rfl⟩
 have bL : Below w.heap.size w wA := by rw [aH]; exact (Below.refl _ _).alloc (Nat.le_refl _) _
 have nT : wA.heap[w.heap.size]? = some (.cells #[.int .i64 i, .int .i64 x] 34 (0, 0)) := by rw [aH]; exact heap_alloc_new w _
 have r0 : wA.cell? ⟨w.heap.size, 0, none⟩ = some (.int .i64 i) := by simp [World.cell?, nT]
 have r1 : wA.cell? ⟨w.heap.size, 1, none⟩ = some (.int .i64 x) := by simp [World.cell?, nT]
 clear nT
 have hl := xJ (h.kept bL)
 have hq := BM i x wA
 have key : ∀ w2 b, bU w2 b (AX i x) → Below w.heap.size w w2 → Calls Tryz.prog 35 #[.pointer (some ⟨s, 0, none⟩), .pointer (some ⟨b, 0, none⟩)] w2 (Ba w2 b c t d p v g m (bH M i x).2 (mg M) (bH M i x).1) :=
  fun w2 b hW hb2 => yS (h.at'.kept hb2) (h.cw.kept hb2) i x hW hM h1 hll hm hx
 replace key := Lib.hid key
 go_enter Tryz.func11, Tryz.ntmps11
 go_wp2_with fail
 rw [← aH]
 replace aH := Lib.hid aH
 go_at_call 34
 refine hl.mono ?_
 clear hl
 rintro e w' ⟨rfl, rfl⟩
 go_wp2_with fail
 go_at_call 36
 refine hq.mono ?_
 clear hq
 rintro e w2 ⟨b, rfl, hW2, hlb, hb2⟩
 have vZ : Below w.heap.size w w2 := bL.trans (hb2.mono bL.size)
 have hp := key.out w2 b hW2 vZ
 go_wp2_with fail
 go_at_call 35
 refine hp.mono ?_
 clear hp
 rintro e w3 ⟨v', g', R, rfl, Bb, hW3, _, hr, hs3⟩
 have Ka := Sw hW3
 rw [hr] at Ka
 go_wp2_with fail
 go_at_call 37
 refine Ka.mono ?_
 clear Ka
 rintro e w' ⟨rfl, rfl⟩
 have hcs : CS w w3 c t d p v g v' g' := CS.PM vZ (by have := bL.size; omega) hs3
 have hfin := Lib.hid (And.intro (h.turn hcs Bb hB) (And.intro hcs (h.below hcs hB)))
 clear hs3 hb2 Bb hcs hW3 hW2 h key
 generalize (bH M i x).1 = ok at *
 go_wp2_with fail
 go_ret
 exact ⟨v', g', rfl, hfin.out⟩
end
end Go.Proofs.YtnihdgcfamoplaaGreat

namespace Go.Proofs.YtnihdgcfamoplaaGreat
open Go.RowKit Go.Lib Go.Sort
def qH (x : De) : Prop := Rz x.r ∧ (-9223372036854775808 ≤ x.xi ∧ x.xi ≤ 9223372036854775807) ∧ (-9223372036854775808 ≤ x.xt ∧ x.xt ≤ 9223372036854775807)
section
end
end Go.Proofs.YtnihdgcfamoplaaGreat

namespace Go.Proofs.YtnihdgcfamoplaaGreat
open Go.RowKit Go.Lib Go.Sort
def Sz : Rq := ⟨1, 0, 0, 2, 10, 0, false, 0, 0⟩
def QM : Rq := ⟨9, 0, 0, 0, 0, 0, false, 0, 5⟩
def QN : Md := (dY (dR 2) (toW Sz)).2
def QO : Md := (bH QN 1 5).2
def PO : Md := (dY QO (toW QM)).2
theorem Vn : (bH QN 1 5).1 = true := by decide
theorem UC : fV PO.L 1 = 0 ∧ (bC PO.L 1).st = 3 ∧ (bC PO.L 1).iK = 5 := by decide
theorem Re : Ok QN := (Ok.new (by decide)).Fv _
theorem UD : Ok QO := Re.jh _ _
theorem nU (w : World) : Calls Tryz.prog 9 #[] w fun e w' => e = .returned (.bool true) ∧ Below w.heap.size w w' := by
 have hn := H6 2 w (by decide) (by decide)
 go_enter Tryz.func9, Tryz.ntmps9
 go_wp2_with fail
 go_at_call 8
 refine hn.mono ?_
 clear hn
 rintro e w1 ⟨s, c, t, d, p, v, g, rfl, h1, hb1⟩
 have hq := yZ h1 hb1.size Sz (Ok.new (by decide)) (by decide) (by decide) (by decide) (by decide)
 rw [show (encR Sz).toArray = #[.int .i64 1, .int .i64 0, .int .i64 0, .int .i64 2, .int .i64 10, .int .i64 0, .bool false, .int .i64 0, .int .i64 0] from rfl] at hq
 replace hq := Lib.hid hq
 go_wp2_with fail
 go_at_call 14
 refine hq.out.mono ?_
 clear hq
 rintro e w2 ⟨v2, g2, rfl, h2, _, hb2⟩
 have vZ := hb1.trans hb2
 have hq := sj (M := QN) h2 vZ.size 1 5 Re (by decide) (by decide) (by decide) (by decide)
 rw [Vn] at hq
 replace hq := Lib.hid hq
 go_wp2_with fail
 go_at_call 11
 refine hq.out.mono ?_
 clear hq
 rintro e w3 ⟨v3, g3, rfl, h3, _, hb3⟩
 have PQ := vZ.trans hb3
 have hq := yZ (M := QO) h3 PQ.size QM UD (by decide) (by decide) (by decide) (by decide)
 rw [show (encR QM).toArray = #[.int .i64 9, .int .i64 0, .int .i64 0, .int .i64 0, .int .i64 0, .int .i64 0, .bool false, .int .i64 0, .int .i64 5] from rfl] at hq
 replace hq := Lib.hid hq
 go_wp2_with fail
 go_at_call 14
 refine hq.out.mono ?_
 clear hq
 rintro e w4 ⟨v4, g4, rfl, h4, _, hb4⟩
 have H8 := Lib.hid (PQ.trans hb4)
 have k0 := h4.at'.c0
 have k1 := h4.cw.c0
 have hg := fP h4.cw.dZ 1
 rw [show (aj (dY QO (toW QM)).2).J = PO.L from rfl] at hg
 unfold gV at hg
 rw [UC.1] at hg
 have hj := UC.2
 obtain ⟨j, hjd⟩ : ∃ j, j = bC PO.L 1 := ⟨_, rfl⟩
 rw [← hjd] at hg hj
 clear hjd
 obtain ⟨j1, j2, j3, j4, j5, j6, j7, j8, j9, j0⟩ := j
 obtain ⟨e6, e7⟩ : j6 = 3 ∧ j7 = 5 := hj
 subst e6 e7
 rw [show (ah (j1, j2, j3, j4, j5, (3 : Int), (5 : Int), j8, j9, j0)).toArray = #[.int .i64 j1, .int .i64 j2, .int .i64 j3, .int .i64 j4, .int .i64 j5, .int .i64 3, .int .i64 5, .int .i64 j8, .int .i64 j9, .int .u64 j0] from rfl] at hg
 clear h1 h2 h3 h4 hb1 hb2 hb3 hb4 vZ PQ
 go_wp2_with fail
 go_at_call 33
 refine hg.mono ?_
 clear hg k0 k1
 rintro e w5 ⟨rfl, hg5⟩
 have Rf : Hid (Below w.heap.size w w5) := H8.out.trans (hg5.below.mono H8.out.size)
 go_wp2_with fail
 go_ret
 exact ⟨rfl, Rf.out.alloc Rf.out.size _⟩
section
variable {w : World} {u : Value} {l : List De}
theorem M7 (h : aG lK 12 w u l) (n : Int) (hn : n < 1 ∨ 64 < n) : Calls Tryz.prog 16 #[.int .i64 n, u] w fun e w' => e = .returned (.pointer none) ∧ w = w' := by
 have hf := KN h
 have hb := M6 n w hn
 go_enter Tryz.func16, Tryz.ntmps16
 go_wp2_with fail
 go_at_call 7
 refine hf.mono ?_
 rintro e w' ⟨v', rfl, _, rfl⟩
 go_wp2_with fail
 go_at_call 8
 refine hb.mono ?_
 rintro e w' ⟨rfl, rfl⟩
 go_wp2_with fail
 go_ret
 exact ⟨rfl, rfl⟩
theorem PS (h : aG lK 12 w u l) (hfit : ∀ x ∈ l, qH x) (n : Nat) (h1 : 1 ≤ n) (h2 : n ≤ 64) : Calls Tryz.prog 16 #[.int .i64 n, u] w fun e w' => ∃ s c t d p v g, e = .returned (.pointer (some ⟨s, 0, none⟩)) ∧
  SO w.heap.size w' s c t d p v g 60000 (lL (dR n) (l.take 60)) ∧ Below w.heap.size w w' := by
 have hf := KN h
 have hb := H6 n w h1 h2
 have SB : ∀ x ∈ l.take 60, qH x := fun x hx => hfit x (List.mem_of_mem_take hx)
 have hlen : (l.take 60).length ≤ 60 := by rw [List.length_take]; omega
 generalize l.take 60 = ds at *
 clear h hfit
 go_enter Tryz.func16, Tryz.ntmps16
 go_wp2_with fail
 go_at_call 7
 refine hf.mono ?_
 clear hf
 rintro e w' ⟨u', rfl, hr, rfl⟩
 go_wp2_with fail
 go_at_call 8
 refine hb.mono ?_
 clear hb
 rintro e w1 ⟨s, c, t, d, p, v1, g1, rfl, hS1, hb1⟩
 replace hr := Lib.hid hr
 obtain ⟨ao, cap, rfl, q1, q2, q3⟩ := hr.out
 clear q1 q3
 go_wp2_with fail
 go_loopw [7] (fun ii wr => ∃ (i : Nat) (v : Value) (g : Nat), i ≤ ds.length ∧ ii = .int .i64 i ∧ Hid (SO w.heap.size wr s c t d p v g (1000 * i) (lL (dR n) (ds.take i))) ∧ Hid (Below w.heap.size w wr)) (fun ii _ => ds.length - (intOf ii).toNat)
 case atStart =>
  exact ⟨0, v1, g1, Nat.zero_le _, rfl, Lib.hid hS1, Lib.hid hb1⟩
 case round =>
  clear hS1 hb1
  obtain ⟨i, v, g, hin, rfl, hC, hbr⟩ := hrel
  obtain ⟨hok, hpl, Vo⟩ := Dk (Ok.new h2) (ds.take i)
  have hle : (ds.take i).length ≤ 60 := by rw [List.length_take]; omega
  have hnl : (dR n).L.length = 0 ∧ (dR n).dr.length = n := ⟨rfl, by simp [dR]⟩
  by_cases hlt : i < ds.length
  ·have b2 : (i : Int) < (ds.length : Int) := by omega
   have wi : IntKind.i64.wrap ((i : Int) + 1) = (i : Int) + 1 := by rw [IntKind.wrap_i64]; omega
   have hrr := hr.out.below hbr.out
   obtain ⟨KT, cap', e0, r1, r2, r3⟩ := hrr
   injection e0 with e1 _ e2
   subst e1 e2
   obtain ⟨B, off, rfl, hB, hcell⟩ := r3 (by omega)
   have hx := fun (j : Nat) (z : Value) (hz : (lK ds[i])[j]? = some z) => hcell i ds[i] j z (List.getElem?_eq_getElem hlt) hz
   have hsn := J9 (dR n) hlt
   generalize hxd : ds[i] = x at *
   have hfx := SB x (by rw [← hxd]; exact List.getElem_mem hlt)
   obtain ⟨cm, ⟨y1, y2, y3, y4, y5, y6, y7, y8, y9⟩, xi, xt⟩ := x
   have k0 : wr.cell? ⟨B, off + i * 12, none⟩ = some (.bool cm) := hx 0 _ rfl
   have k1 : wr.cell? ⟨B, off + i * 12 + 1, none⟩ = some (.int .i64 y1) := hx 1 _ rfl
   have k2 : wr.cell? ⟨B, off + i * 12 + 1 + 1, none⟩ = some (.int .i64 y2) := (congrArg (fun z => wr.cell? ⟨B, z, none⟩) (show off + i * 12 + 1 + 1 = off + (i * 12 + 2) by omega)).trans (hx 2 _ rfl)
   have k3 : wr.cell? ⟨B, off + i * 12 + 1 + 2, none⟩ = some (.int .i64 y3) := (congrArg (fun z => wr.cell? ⟨B, z, none⟩) (show off + i * 12 + 1 + 2 = off + (i * 12 + 3) by omega)).trans (hx 3 _ rfl)
   have k4 : wr.cell? ⟨B, off + i * 12 + 1 + 3, none⟩ = some (.int .i64 y4) := (congrArg (fun z => wr.cell? ⟨B, z, none⟩) (show off + i * 12 + 1 + 3 = off + (i * 12 + 4) by omega)).trans (hx 4 _ rfl)
   have k5 : wr.cell? ⟨B, off + i * 12 + 1 + 4, none⟩ = some (.int .i64 y5) := (congrArg (fun z => wr.cell? ⟨B, z, none⟩) (show off + i * 12 + 1 + 4 = off + (i * 12 + 5) by omega)).trans (hx 5 _ rfl)
   have k6 : wr.cell? ⟨B, off + i * 12 + 1 + 5, none⟩ = some (.int .i64 y6) := (congrArg (fun z => wr.cell? ⟨B, z, none⟩) (show off + i * 12 + 1 + 5 = off + (i * 12 + 6) by omega)).trans (hx 6 _ rfl)
   have k7 : wr.cell? ⟨B, off + i * 12 + 1 + 6, none⟩ = some (.bool y7) := (congrArg (fun z => wr.cell? ⟨B, z, none⟩) (show off + i * 12 + 1 + 6 = off + (i * 12 + 7) by omega)).trans (hx 7 _ rfl)
   have k8 : wr.cell? ⟨B, off + i * 12 + 1 + 7, none⟩ = some (.int .i64 y8) := (congrArg (fun z => wr.cell? ⟨B, z, none⟩) (show off + i * 12 + 1 + 7 = off + (i * 12 + 8) by omega)).trans (hx 8 _ rfl)
   have k9 : wr.cell? ⟨B, off + i * 12 + 1 + 8, none⟩ = some (.int .i64 y9) := (congrArg (fun z => wr.cell? ⟨B, z, none⟩) (show off + i * 12 + 1 + 8 = off + (i * 12 + 9) by omega)).trans (hx 9 _ rfl)
   have k10 : wr.cell? ⟨B, off + i * 12 + 10, none⟩ = some (.int .i64 xi) := hx 10 _ rfl
   have k11 : wr.cell? ⟨B, off + i * 12 + 10 + 1, none⟩ = some (.int .i64 xt) := hx 11 _ rfl
   clear hx r3 hcell
   obtain ⟨M, hM⟩ : ∃ M, M = lL (dR n) (ds.take i) := ⟨_, rfl⟩
   rw [← hM] at hC hok hpl Vo hsn
   cases cm with
   | false =>
    have hq := yZ hC.out hbr.out.size ⟨y1, y2, y3, y4, y5, y6, y7, y8, y9⟩ hok (by omega) (by omega) (by omega) hfx.1.node
    rw [show (dY M (toW ⟨y1, y2, y3, y4, y5, y6, y7, y8, y9⟩)).2 = lL (dR n) (ds.take (i + 1)) from hsn.symm, show (encR ⟨y1, y2, y3, y4, y5, y6, y7, y8, y9⟩).toArray = #[.int .i64 y1, .int .i64 y2, .int .i64 y3, .int .i64 y4, .int .i64 y5, .int .i64 y6, .bool y7, .int .i64 y8, .int .i64 y9] from rfl] at hq
    replace hq := Lib.hid hq
    go_wp2_with fail
    go_at_call 14
    refine hq.out.mono ?_
    clear hq k0 k1 k2 k3 k4 k5 k6 k7 k8 k9 k10 k11
    rintro e w3 ⟨v3, g3, rfl, Bb, _, hb3⟩
    have PT := Lib.hid (hbr.out.trans hb3)
    have PU := Lib.hid (Bb.wider (show 1000 * (i : Int) + 1000 ≤ 1000 * ((i + 1 : Nat) : Int) by omega))
    clear Bb hb3
    go_wp2_with fail
    go_roundw
    case rel => exact ⟨i + 1, v3, g3, by omega, by go_num, PU, PT⟩
    case measure => simp [intOf]; omega
   | true =>
    have hq := sj hC.out hbr.out.size xi xt hok (by omega) (by omega) (by omega) hfx.2.2
    rw [show (bH M xi xt).2 = lL (dR n) (ds.take (i + 1)) from hsn.symm] at hq
    replace hq := Lib.hid hq
    go_wp2_with fail
    go_at_call 11
    refine hq.out.mono ?_
    clear hq k0 k1 k2 k3 k4 k5 k6 k7 k8 k9 k10 k11
    rintro e w3 ⟨v3, g3, rfl, Bb, _, hb3⟩
    have PT := Lib.hid (hbr.out.trans hb3)
    have PU := Lib.hid (Bb.wider (show 1000 * (i : Int) + 1000 ≤ 1000 * ((i + 1 : Nat) : Int) by omega))
    clear Bb hb3
    go_wp2_with fail
    go_roundw
    case rel => exact ⟨i + 1, v3, g3, by omega, by go_num, PU, PT⟩
    case measure => simp [intOf]; omega
  ·have b2 : ¬ (i : Int) < (ds.length : Int) := by omega
   have hi : i = ds.length := by omega
   subst hi
   rw [List.take_length] at hC
   have hC' := Lib.hid (hC.out.wider (show (1000 * (ds.length : Int)) ≤ 60000 by omega))
   go_wp2_with fail
   go_ret
   exact ⟨s, rfl, ⟨c, t, d, p, v, g, hC'.out⟩, hbr.out⟩
end
end Go.Proofs.YtnihdgcfamoplaaGreat

namespace Go.Proofs.YtnihdgcfamoplaaGreat
open Go.RowKit Go.Lib Go.Sort
section
variable {M : Md}
theorem H9 (M : Md) (r : Rw) (h : (dY M r).1.1 ≠ 0) : (dY M r).2 = M ∧ (dY M r).1 = eF (dY M r).1.1 := by
 revert h
 unfold dY
 by_cases hc : M.cl = true
 ·rw [if_pos hc]; exact fun _ => ⟨rfl, rfl⟩
 rw [if_neg hc]
 by_cases k1 : r.kind = 1
 ·rw [if_pos k1]
  unfold gQ
  split
  ·exact fun _ => ⟨rfl, rfl⟩
  ·split <;> exact fun h => absurd rfl h
 rw [if_neg k1]
 by_cases k2 : r.kind = 2 ∨ r.kind = 5
 ·rw [if_pos k2]
  unfold kv
  simp only
  split
  ·exact fun _ => ⟨rfl, rfl⟩
  split
  ·exact fun _ => ⟨rfl, rfl⟩
  ·exact fun h => absurd rfl h
 rw [if_neg k2]
 by_cases k3 : r.kind = 3 ∨ r.kind = 4 ∨ r.kind = 6
 ·rw [if_pos k3]
  unfold fq
  simp only
  split
  ·exact fun _ => ⟨rfl, rfl⟩
  split
  ·exact fun _ => ⟨rfl, rfl⟩
  split <;> exact fun h => absurd rfl h
 rw [if_neg k3]
 by_cases k7 : r.kind = 7 ∨ r.kind = 8
 ·rw [if_pos k7]
  unfold gz
  split
  ·exact fun _ => ⟨rfl, rfl⟩
  split
  ·exact fun _ => ⟨rfl, rfl⟩
  ·exact fun h => absurd rfl h
 rw [if_neg k7]
 by_cases k9 : r.kind = 9
 ·rw [if_pos k9]
  unfold kz
  split
  ·exact fun _ => ⟨rfl, rfl⟩
  ·exact fun h => absurd rfl h
 rw [if_neg k9]
 repeat' split
 all_goals first | exact fun h => absurd rfl h | exact fun _ => ⟨rfl, rfl⟩
theorem yT (M : Md) (i x : Int) (h : (bH M i x).1 = false) : (bH M i x).2 = M := by
 revert h
 unfold bH
 split
 ·split <;> exact fun h => nomatch h
 ·exact fun _ => rfl
end
end Go.Proofs.YtnihdgcfamoplaaGreat

namespace Go.Proofs.YtnihdgcfamoplaaGreat
open Go.RowKit Go.Lib Go.Sort
section
variable {M : Md}
theorem BQ (M : Md) (r : Rw) (h : (si M r).1.1 ≠ 0) : (si M r).2 = M ∧ (si M r).1 = eF (si M r).1.1 := by
 by_cases k : 1 ≤ r.kind ∧ r.kind ≤ 13
 ·rw [A9 k] at h ⊢
  exact H9 M r h
 ·rw [tF k]
  exact ⟨rfl, rfl⟩
end
end Go.Proofs.YtnihdgcfamoplaaGreat

namespace Go.Proofs.YtnihdgcfamoplaaGreat
open Go.RowKit Go.Lib
theorem Kb {L K : List Jb} {i : Nat} (h1 : i < L.length) (h2 : i < K.length) (he : L.take i = K.take i) (hx : L.getD i default = K.getD i default) : L.take (i + 1) = K.take (i + 1) := by
 rw [List.take_succ_eq_append_getElem h1, List.take_succ_eq_append_getElem h2, he]
 rw [List.getD, List.getElem?_eq_getElem h1, List.getD, List.getElem?_eq_getElem h2] at hx
 simp only [Option.getD_some] at hx
 rw [hx]
section
variable {w w' : World} {u v : Value} {L K : List Jb}
theorem wo (hu : aG ah 10 w u L) (hv : aG ah 10 w v K) (hL : L.length ≤ 100000) : Calls Tryz.prog 22 #[u, v] w fun e w' => e = .returned (.bool (decide (L = K))) ∧ Below w.heap.size w w' := by
 have hU := Lib.hid hu
 have hV := Lib.hid hv
 obtain ⟨ao, cap, rfl, h1, h2⟩ := hu.shape
 obtain ⟨bo, Vp, rfl, h3, h4⟩ := hv.shape
 obtain ⟨n, hn⟩ : ∃ n, n = L.length := ⟨_, rfl⟩
 obtain ⟨m, hm⟩ : ∃ m, m = K.length := ⟨_, rfl⟩
 rw [← hn] at h1 hL ⊢
 rw [← hm] at h3 ⊢
 clear hu hv
 by_cases hnm : n = m
 ·subst hnm
  replace hn := Lib.hid hn
  replace hm := Lib.hid hm
  go_enter Tryz.func22, Tryz.ntmps22
  go_wp2_with fail
  go_loopw [5] (fun ii wr => ∃ i : Nat, i ≤ n ∧ ii = .int .i64 i ∧ Hid (L.take i = K.take i) ∧ Hid (Below w.heap.size w wr)) (fun ii _ => n - (intOf ii).toNat)
  case atStart => exact ⟨0, Nat.zero_le _, rfl, by show _ = _; simp, Below.refl _ _⟩
  case round =>
   obtain ⟨i, hi, rfl, hsm, hbw⟩ := hrel
   by_cases hlt : i < n
   ·have b2 : (i : Int) < (n : Int) := by omega
    have b0 : (0 : Int) ≤ (i : Int) := by omega
    have wi : IntKind.i64.wrap ((i : Int) + 1) = (i : Int) + 1 := by rw [IntKind.wrap_i64]; omega
    have hi1 : i < L.length := by rw [← hn.out]; exact hlt
    have hi2 : i < K.length := by rw [← hm.out]; exact hlt
    obtain ⟨b, off, cp, hv5, _, _, hbl, hc⟩ := (hU.out.below hbw.out).Ng i hi1
    obtain ⟨d, UE, cp2, hv6, _, _, hdl, hd⟩ := (hV.out.below hbw.out).Ng i hi2
    rw [← hn.out] at hv5
    rw [← hm.out] at hv6
    cases hv5
    cases hv6
    have hmore := Kb hi1 hi2 hsm.out
    have hless : L.getD i default ≠ K.getD i default → ¬ L = K := fun h e => h (by rw [e])
    generalize L.getD i default = x at *
    generalize K.getD i default = y at *
    obtain ⟨x1, x2, x3, x4, x5, x6, x7, x8, x9, x0⟩ := x
    obtain ⟨y1, y2, y3, y4, y5, y6, y7, y8, y9, y0⟩ := y
    have a0 := hc 0 _ rfl
    have a1 := hc 1 _ rfl
    have a2 := hc 2 _ rfl
    have a3 := hc 3 _ rfl
    have a4 := hc 4 _ rfl
    have a5 := hc 5 _ rfl
    have a6 := hc 6 _ rfl
    have a7 := hc 7 _ rfl
    have a8 := hc 8 _ rfl
    have a9 := hc 9 _ rfl
    rw [Nat.add_zero] at a0
    have e0 := hd 0 _ rfl
    have e1 := hd 1 _ rfl
    have e2 := hd 2 _ rfl
    have e3 := hd 3 _ rfl
    have e4 := hd 4 _ rfl
    have e5 := hd 5 _ rfl
    have e6 := hd 6 _ rfl
    have e7 := hd 7 _ rfl
    have e8 := hd 8 _ rfl
    have e9 := hd 9 _ rfl
    rw [Nat.add_zero] at e0
    have hq := fun W => Nb (x1, x2, x3, x4, x5, x6, x7, x8, x9, x0) (y1, y2, y3, y4, y5, y6, y7, y8, y9, y0) W
    rw [sF, sF] at hq
    clear hc hd
    by_cases hxy : (x1, x2, x3, x4, x5, x6, x7, x8, x9, x0) = (y1, y2, y3, y4, y5, y6, y7, y8, y9, y0)
    ·rw [decide_eq_true hxy, Bool.not_true] at hq
     have hm1 : Hid (L.take (i + 1) = K.take (i + 1)) := hmore hxy
     have hbd : Hid (Below w.heap.size w wr.drew) := hbw.out.drew
     clear hmore hless hxy
     go_wp2_with fail
     go_region
     all_goals (try go_wp2_with fail)
     exact ⟨⟨i + 1, by omega, by go_num, hm1, hbd⟩, by simp [intOf]; omega⟩
    ·rw [decide_eq_false hxy, Bool.not_false] at hq
     have hf : Hid (decide (L = K) = false) := decide_eq_false (hless hxy)
     have hbd : Hid (Below w.heap.size w wr.drew) := hbw.out.drew
     clear hmore hless hxy
     go_wp2_with fail
     go_region
     all_goals (try go_wp2_with fail)
     go_ret
     exact ⟨by rw [hf.out]; rfl, hbd.out⟩
   ·obtain rfl : i = n := by omega
    have b2 : ¬ (i : Int) < (i : Int) := by omega
    have hf : Hid (decide (L = K) = true) := by
     refine decide_eq_true ?_
     have h := hsm.out
     rw [hn.out, List.take_length] at h
     rw [h, ← hn.out, hm.out, List.take_length]
    go_wp2_with fail
    go_ret
    exact ⟨by rw [hf.out]; rfl, hbw.out⟩
 ·have dn : ((n : Int) != (m : Int)) = true := by simp; omega
  have hf : Hid (decide (L = K) = false) := decide_eq_false fun e => hnm (by rw [hn, hm, e])
  replace hn := Lib.hid hn
  replace hm := Lib.hid hm
  clear hnm
  go_enter Tryz.func22, Tryz.ntmps22
  go_wp2_with fail
  go_ret
  exact ⟨by rw [hf.out]; rfl, Below.refl _ _⟩
end
theorem Ia {L K : List (Int × Int)} {i : Nat} (h1 : i < L.length) (h2 : i < K.length) (he : L.take i = K.take i) (hx : L.getD i (0, 0) = K.getD i (0, 0)) : L.take (i + 1) = K.take (i + 1) := by
 rw [List.take_succ_eq_append_getElem h1, List.take_succ_eq_append_getElem h2, he]
 rw [List.getD, List.getElem?_eq_getElem h1, List.getD, List.getElem?_eq_getElem h2] at hx
 simp only [Option.getD_some] at hx
 rw [hx]
theorem aG.PV {w : World} {v : Value} {L : List (Int × Int)} (h : aG EY 2 w v L) (i : Nat) (hi : i < L.length) : ∃ b off cap, v = .slice (some ⟨b, off, none⟩) L.length cap ∧ L.length ≤ cap ∧ cap ≤ maxLen ∧ b < w.heap.size ∧ ∀ j u, (EY (L.getD i (0, 0)))[j]? = some u → w.cell? ⟨b, off + i * 2 + j, none⟩ = some u := by
 obtain ⟨ao, cap, rfl, h1, h2, h3⟩ := h
 obtain ⟨b, off, rfl, hb, hc⟩ := h3 (by omega)
 exact ⟨b, off, cap, rfl, h1, h2, hb, fun j u hj => by rw [Nat.add_assoc]; exact hc i (L.getD i (0, 0)) j u (by simp [List.getD, hi]) hj⟩
section
theorem BR (x y : Int × Int) (w : World) : (Op.equalIn 10000 102 (.agg #[.int .i64 x.1, .int .i64 x.2]) (.agg #[.int .i64 y.1, .int .i64 y.2])).run Tryz.prog w = .ok (decide (x = y)) w := by
 have u2 := Tryz.underlying2
 have a2 := Tryz.isAgg2
 have z2 := Tryz.sizeOf2
 have u3 := Tryz.underlying3
 have a3 := Tryz.isAgg3
 have z3 := Tryz.sizeOf3
 have hS : Tryz.prog.underlying 102 = some (.struct (Tryz.prog.fieldsOf 102)) := by kernel_rfl
 have hp : Tryz.prog.stoodInHeld 102 = false := by kernel_rfl
 rw [show (10000 : Nat) = 9999 + 1 from rfl, run_equalIn_agg w 9999 102 _ _ hS hp]
 simp only [Program.fieldsOf, Tryz.underlying102]
 go_simp
 obtain ⟨x1, x2⟩ := x
 obtain ⟨y1, y2⟩ := y
 by_cases h1 : x1 = y1 <;> by_cases h2 : x2 = y2 <;> simp [h1, h2]
theorem M8 (x y : Int × Int) (w : World) : (binOp .neq 102 (.agg #[.int .i64 x.1, .int .i64 x.2]) (.agg #[.int .i64 y.1, .int .i64 y.2])).run Tryz.prog w = .ok (.bool (!decide (x = y))) w := by
 rw [run_neq_struct, BR]; rfl
end
section
variable {w w' : World} {u v : Value} {L K : List (Int × Int)}
theorem uf (hu : aG EY 2 w u L) (hv : aG EY 2 w v K) (hL : L.length ≤ 100000) : Calls Tryz.prog 23 #[u, v] w fun e w' => e = .returned (.bool (decide (L = K))) ∧ Below w.heap.size w w' := by
 have hU := Lib.hid hu
 have hV := Lib.hid hv
 obtain ⟨ao, cap, rfl, h1, h2⟩ := hu.shape
 obtain ⟨bo, Vp, rfl, h3, h4⟩ := hv.shape
 obtain ⟨n, hn⟩ : ∃ n, n = L.length := ⟨_, rfl⟩
 obtain ⟨m, hm⟩ : ∃ m, m = K.length := ⟨_, rfl⟩
 rw [← hn] at h1 hL ⊢
 rw [← hm] at h3 ⊢
 clear hu hv
 by_cases hnm : n = m
 ·subst hnm
  replace hn := Lib.hid hn
  replace hm := Lib.hid hm
  go_enter Tryz.func23, Tryz.ntmps23
  go_wp2_with fail
  go_loopw [5] (fun ii wr => ∃ i : Nat, i ≤ n ∧ ii = .int .i64 i ∧ Hid (L.take i = K.take i) ∧ Hid (Below w.heap.size w wr)) (fun ii _ => n - (intOf ii).toNat)
  case atStart => exact ⟨0, Nat.zero_le _, rfl, by show _ = _; simp, Below.refl _ _⟩
  case round =>
   obtain ⟨i, hi, rfl, hsm, hbw⟩ := hrel
   by_cases hlt : i < n
   ·have b2 : (i : Int) < (n : Int) := by omega
    have b0 : (0 : Int) ≤ (i : Int) := by omega
    have wi : IntKind.i64.wrap ((i : Int) + 1) = (i : Int) + 1 := by rw [IntKind.wrap_i64]; omega
    have hi1 : i < L.length := by rw [← hn.out]; exact hlt
    have hi2 : i < K.length := by rw [← hm.out]; exact hlt
    obtain ⟨b, off, cp, hv5, _, _, hbl, hc⟩ := (hU.out.below hbw.out).PV i hi1
    obtain ⟨d, UE, cp2, hv6, _, _, hdl, hd⟩ := (hV.out.below hbw.out).PV i hi2
    rw [← hn.out] at hv5
    rw [← hm.out] at hv6
    cases hv5
    cases hv6
    have hmore := Ia hi1 hi2 hsm.out
    have hless : L.getD i (0, 0) ≠ K.getD i (0, 0) → ¬ L = K := fun h e => h (by rw [e])
    generalize L.getD i (0, 0) = x at *
    generalize K.getD i (0, 0) = y at *
    obtain ⟨x1, x2⟩ := x
    obtain ⟨y1, y2⟩ := y
    have a0 := hc 0 _ rfl
    have a1 := hc 1 _ rfl
    rw [Nat.add_zero] at a0
    have e0 := hd 0 _ rfl
    have e1 := hd 1 _ rfl
    rw [Nat.add_zero] at e0
    have hq := fun W => M8 (x1, x2) (y1, y2) W
    simp only at hq
    clear hc hd
    by_cases hxy : (x1, x2) = (y1, y2)
    ·rw [decide_eq_true hxy, Bool.not_true] at hq
     have hm1 : Hid (L.take (i + 1) = K.take (i + 1)) := hmore hxy
     have hbd : Hid (Below w.heap.size w wr.drew) := hbw.out.drew
     clear hmore hless hxy
     go_wp2_with fail
     go_region
     all_goals (try go_wp2_with fail)
     exact ⟨⟨i + 1, by omega, by go_num, hm1, hbd⟩, by simp [intOf]; omega⟩
    ·rw [decide_eq_false hxy, Bool.not_false] at hq
     have hf : Hid (decide (L = K) = false) := decide_eq_false (hless hxy)
     have hbd : Hid (Below w.heap.size w wr.drew) := hbw.out.drew
     clear hmore hless hxy
     go_wp2_with fail
     go_region
     all_goals (try go_wp2_with fail)
     go_ret
     exact ⟨by rw [hf.out]; rfl, hbd.out⟩
   ·obtain rfl : i = n := by omega
    have b2 : ¬ (i : Int) < (i : Int) := by omega
    have hf : Hid (decide (L = K) = true) := by
     refine decide_eq_true ?_
     have h := hsm.out
     rw [hn.out, List.take_length] at h
     rw [h, ← hn.out, hm.out, List.take_length]
    go_wp2_with fail
    go_ret
    exact ⟨by rw [hf.out]; rfl, hbw.out⟩
 ·have dn : ((n : Int) != (m : Int)) = true := by simp; omega
  have hf : Hid (decide (L = K) = false) := decide_eq_false fun e => hnm (by rw [hn, hm, e])
  replace hn := Lib.hid hn
  replace hm := Lib.hid hm
  clear hnm
  go_enter Tryz.func23, Tryz.ntmps23
  go_wp2_with fail
  go_ret
  exact ⟨by rw [hf.out]; rfl, Below.refl _ _⟩
end
end Go.Proofs.YtnihdgcfamoplaaGreat

namespace Go.Proofs.YtnihdgcfamoplaaGreat
open Go.ChangeShapes Go.WideShapes Go.ChangeAt Go.RowKit Go.Lib Go.Sort Go.Deep
section
variable {H : Type} {enc : TypeId × Value → H} {w : World} {base : Nat} {v : Value} {d : DataW H} {ps : List MemPlace}
def KQ : List TypeId := [4, 3, 3, 3, 3, 2, 3, 4, 3, 2, 3, 2]
theorem Bc {α : Type} {Bd : α → List Value} {p : α → Prop} : ∀ {l : List (List Value)}, (∀ s ∈ l, ∃ x : α, s = Bd x ∧ p x) → ∃ L : List α, l = L.map Bd ∧ ∀ x ∈ L, p x
 | [], _ => ⟨[], rfl, fun _ h => nomatch h⟩
 | s :: l, h => by
  obtain ⟨x, rfl, hx⟩ := h s List.mem_cons_self
  obtain ⟨L, rfl, hL⟩ := Bc (l := l) fun s hs => h s (List.mem_cons_of_mem _ hs)
  exact ⟨x :: L, rfl, fun y hy => by
   rcases List.mem_cons.1 hy with rfl | hy
   ·exact hx
   ·exact hL y hy⟩
theorem Kc {α : Type} {Bd : α → List Value} {n : Nat} {L : List α} (h : aG id n w v (L.map Bd)) : aG Bd n w v L := by
 obtain ⟨ao, cap, h1, h2, h3, h4⟩ := h
 rw [List.length_map] at h1 h2 h4
 refine ⟨ao, cap, h1, h2, h3, fun hn => ?_⟩
 obtain ⟨b, off, e, hlt, hc⟩ := h4 hn
 exact ⟨b, off, e, hlt, fun i s j u hi hj => hc i (Bd s) j u (by rw [List.getElem?_map, hi]; rfl) hj⟩
theorem M9 (hval : Value.okWide Tryz.prog w .any base 22 v) (hd : DataW.Trod enc Tryz.prog w 0 (fun _ => true) true 22 v d ps) : ∃ l : List De, aG lK 12 w v l ∧ ∀ x ∈ l, qH x := by
 obtain ⟨l, hr, hf⟩ := K4 (n := 3) (ts := KQ) Tryz.underlying22 (by kernel_rfl) (by kernel_rfl) (by kernel_rfl) (by decide) hval hd
 obtain ⟨L, rfl, hL⟩ := Bc (Bd := lK) (p := qH) fun s hs => by
  obtain ⟨hl, hf⟩ := hf s hs
  match s, hl with
  | [a0, a1, a2, a3, a4, a5, a6, a7, a8, a9, Vq, Vr], _ =>
   obtain ⟨x0, rfl⟩ := qm hf 0 rfl Tryz.underlying4 rfl
   obtain ⟨x1, rfl, b1⟩ := dA hf 1 rfl Tryz.underlying3 rfl
   obtain ⟨x2, rfl, b2⟩ := dA hf 2 rfl Tryz.underlying3 rfl
   obtain ⟨x3, rfl, b3⟩ := dA hf 3 rfl Tryz.underlying3 rfl
   obtain ⟨x4, rfl, b4⟩ := dA hf 4 rfl Tryz.underlying3 rfl
   obtain ⟨x5, rfl, b5⟩ := dA hf 5 rfl Tryz.underlying2 rfl
   obtain ⟨x6, rfl, b6⟩ := dA hf 6 rfl Tryz.underlying3 rfl
   obtain ⟨x7, rfl⟩ := qm hf 7 rfl Tryz.underlying4 rfl
   obtain ⟨x8, rfl, b8⟩ := dA hf 8 rfl Tryz.underlying3 rfl
   obtain ⟨x9, rfl, b9⟩ := dA hf 9 rfl Tryz.underlying2 rfl
   obtain ⟨Em, rfl, b10⟩ := dA hf 10 rfl Tryz.underlying3 rfl
   obtain ⟨Qx, rfl, b11⟩ := dA hf 11 rfl Tryz.underlying2 rfl
   exact ⟨⟨x0, ⟨x1, x2, x3, x4, x5, x6, x7, x8, x9⟩, Em, Qx⟩, rfl, ⟨b1, b2, b3, b4, b5, b6, b8, b9⟩, b10, b11⟩
 exact ⟨L, Kc hr, hL⟩
end
end Go.Proofs.YtnihdgcfamoplaaGreat

namespace Go.Proofs.YtnihdgcfamoplaaGreat
open Go.ChangeShapes Go.WideShapes Go.ChangeAt Go.RowKit Go.Lib Go.Sort Go.Deep
section
variable {H : Type} {enc : TypeId × Value → H} {w : World} {base : Nat} {v : Value} {d : DataW H} {ps : List MemPlace}
theorem PX (hval : Value.okWide Tryz.prog w .any base 36 v) (hd : DataW.Trod enc Tryz.prog w 0 (fun _ => true) true 36 v d ps) : ∃ x : De, v = .agg (lK x).toArray ∧ qH x := by
 obtain ⟨s, rfl, hl, hf⟩ := Nu (n := 3) (ts := KQ) Tryz.underlying36 (by kernel_rfl) (by kernel_rfl) hval hd
 match s, hl with
 | [a0, a1, a2, a3, a4, a5, a6, a7, a8, a9, Vq, Vr], _ =>
  obtain ⟨x0, rfl⟩ := qm hf 0 rfl Tryz.underlying4 rfl
  obtain ⟨x1, rfl, b1⟩ := dA hf 1 rfl Tryz.underlying3 rfl
  obtain ⟨x2, rfl, b2⟩ := dA hf 2 rfl Tryz.underlying3 rfl
  obtain ⟨x3, rfl, b3⟩ := dA hf 3 rfl Tryz.underlying3 rfl
  obtain ⟨x4, rfl, b4⟩ := dA hf 4 rfl Tryz.underlying3 rfl
  obtain ⟨x5, rfl, b5⟩ := dA hf 5 rfl Tryz.underlying2 rfl
  obtain ⟨x6, rfl, b6⟩ := dA hf 6 rfl Tryz.underlying3 rfl
  obtain ⟨x7, rfl⟩ := qm hf 7 rfl Tryz.underlying4 rfl
  obtain ⟨x8, rfl, b8⟩ := dA hf 8 rfl Tryz.underlying3 rfl
  obtain ⟨x9, rfl, b9⟩ := dA hf 9 rfl Tryz.underlying2 rfl
  obtain ⟨Em, rfl, b10⟩ := dA hf 10 rfl Tryz.underlying3 rfl
  obtain ⟨Qx, rfl, b11⟩ := dA hf 11 rfl Tryz.underlying2 rfl
  exact ⟨⟨x0, ⟨x1, x2, x3, x4, x5, x6, x7, x8, x9⟩, Em, Qx⟩, rfl, ⟨b1, b2, b3, b4, b5, b6, b8, b9⟩, b10, b11⟩
end
end Go.Proofs.YtnihdgcfamoplaaGreat

namespace Go.Proofs.YtnihdgcfamoplaaGreat
open Go.RowKit Go.Lib Go.Sort
def pX (B : Nat) (w : World) (P : World → Prop) : Prop := ∀ w' : World, (∀ k, B ≤ k → k < w.heap.size → w'.heap[k]? = w.heap[k]?) → w.heap.size ≤ w'.heap.size → P w'
section
variable {B : Nat} {w w' : World} {P : World → Prop}
theorem pX.now (h : pX B w P) : P w := h w (fun _ _ _ => rfl) (Nat.le_refl _)
theorem pX.off (h : pX B w P) (hk : ∀ k, B ≤ k → k < w.heap.size → w'.heap[k]? = w.heap[k]?) (hs : w.heap.size ≤ w'.heap.size) : pX B w' P := fun W h1 h2 =>
 h W (fun k a b => (h1 k a (Nat.lt_of_lt_of_le b hs)).trans (hk k a b)) (Nat.le_trans hs h2)
theorem pX.kept (h : pX B w P) (hb : Below w.heap.size w w') : pX B w' P := h.off (fun k _ hk => hb.block k hk) hb.size
theorem pX.cs {c t d p g g' : Nat} {v v' : Value} (h : pX B w P) (hcs : CS w w' c t d p v g v' g') (hf : ∀ k, dM c t d p v g k → k < B) : pX B w' P :=
 h.off (fun k hB hk => hcs.heap hk fun hf' => absurd (hf k hf') (Nat.not_lt.2 hB)) hcs.off.size
theorem Be {c t d p g a : Nat} {v : Value} {m : Int} {M : Md} (h : CW w c t d p v g a m (aj M)) (hll : M.L.length ≤ 900) : Calls Tryz.prog 17 #[.pointer (some ⟨t, 0, none⟩)] w fun e w' => ∃ u, e = .returned u ∧ pX w.heap.size w' (fun W => aG ah 10 W u M.L) ∧ Below w.heap.size w w' := by
 refine (Qj h.dZ (by show M.L.length ≤ 1000; omega)).mono ?_
 rintro e w' ⟨u, rfl, h1, h2⟩
 exact ⟨u, rfl, fun W hW _ => aG.iJ (Cf h1 fun k hk => hW k (h1.lt k hk).1 (h1.lt k hk).2) ax rfl rfl, h2⟩
theorem uY {c t d p g a : Nat} {v : Value} {m : Int} {M : Md} (h : CW w c t d p v g a m (aj M)) (hI : aB M) (hll : M.L.length ≤ 400) : Calls Tryz.prog 18 #[.pointer (some ⟨p, 0, none⟩)] w fun e w' => ∃ u, e = .returned u ∧ pX w.heap.size w' (fun W => aG EY 2 W u (nY M)) ∧ Below w.heap.size w w' := by
 obtain ⟨S, aJ, hp, hC, hl, _⟩ := h.kW
 have e : S = nY M := hC.uniq (zA hI) fun _ _ => rfl
 have hs := oG M
 refine (BB hp hC.sm.pos (by rw [e]; omega)).mono ?_
 rintro en w' ⟨g', cap', rfl, h1, h2, h3⟩
 refine ⟨_, rfl, fun W hW _ => ?_, h3⟩
 have h4 := Cf h2 (w' := W) fun k hk => hW k (by
  have : some g' = some k := hk
  injection this with this
  omega) (h2.lt k hk).2
 exact aG.iJ h4 (fun _ => rfl) (by rw [← e]; rfl) (by rw [← e])
end
theorem QP (x y : Ry) (w : World) : (binOp .neq 39 (.agg (bK x).toArray) (.agg (bK y).toArray)).run Tryz.prog w = .ok (.bool (!decide (x = y))) w := by
 rw [run_neq_struct, Gs]; rfl
section
variable {w : World} {u : Value} {l : List De}
theorem BS (h : aG lK 12 w u l) (hfit : ∀ x ∈ l, qH x) (x : De) (hx : qH x) (n : Int) : Calls Tryz.prog 4 #[.int .i64 n, u, .agg (lK x).toArray] w fun e w' => e = .returned (.bool true) ∧ Below w.heap.size w w' := by
 obtain ⟨cm, ⟨y1, y2, y3, y4, y5, y6, y7, y8, y9⟩, xi, xt⟩ := x
 rw [show (lK ⟨cm, ⟨y1, y2, y3, y4, y5, y6, y7, y8, y9⟩, xi, xt⟩).toArray = #[.bool cm, .int .i64 y1, .int .i64 y2, .int .i64 y3, .int .i64 y4, .int .i64 y5, .int .i64 y6, .bool y7, .int .i64 y8, .int .i64 y9, .int .i64 xi, .int .i64 xt] from rfl]
 obtain ⟨wA, aH⟩ : ∃ wA, wA = w.alloc (.cells #[.bool cm, .int .i64 y1, .int .i64 y2, .int .i64 y3, .int .i64 y4, .int .i64 y5, .int .i64 y6, .bool y7, .int .i64 y8, .int .i64 y9, .int .i64 xi, .int .i64 xt] 36) := ⟨_, rfl⟩
 have bL : Hid (Below w.heap.size w wA) := by show Below _ _ _; rw [aH]; exact (Below.refl _ _).alloc (Nat.le_refl _) _
 have nT : wA.heap[w.heap.size]? = some (.cells #[.bool cm, .int .i64 y1, .int .i64 y2, .int .i64 y3, .int .i64 y4, .int .i64 y5, .int .i64 y6, .bool y7, .int .i64 y8, .int .i64 y9, .int .i64 xi, .int .i64 xt] 36 (0, 0)) := by rw [aH]; exact heap_alloc_new w _
 have hlA : w.heap.size < wA.heap.size := aC nT
 have hA := h.below bL.out
 by_cases hn : n < 1 ∨ 64 < n
 ·have hm := M7 hA n hn
  have haw := nU wA
  go_enter Tryz.func4, Tryz.ntmps4
  go_wp2_with fail
  rw [← aH]
  replace aH := Lib.hid aH
  go_at_call 16
  refine hm.mono ?_
  clear hm
  rintro e w1 ⟨rfl, rfl⟩
  go_wp2_with fail
  go_at_call 9
  refine haw.mono ?_
  clear haw
  rintro e w2 ⟨rfl, hb2⟩
  go_wp2_with fail
  go_ret
  exact ⟨rfl, bL.out.trans (hb2.mono bL.out.size)⟩
 obtain ⟨N, rfl⟩ := Int.eq_ofNat_of_zero_le (show 0 ≤ n by omega)
 have hm := PS hA hfit N (by omega) (by omega)
 obtain ⟨M, hM⟩ : ∃ M, M = lL (dR N) (l.take 60) := ⟨_, rfl⟩
 have hpl := Dk (Ok.new (show N ≤ 64 by omega)) (l.take 60)
 rw [← hM] at hm hpl
 have hdr : M.dr.length = N := by rw [hpl.2.2]; simp [dR]
 have hd1 : 1 ≤ M.dr.length := by omega
 have Wo : M.L.length ≤ 60 := by
  have h1 := hpl.2.1
  have h2 : (dR N).L.length = 0 := rfl
  have h3 : (l.take 60).length ≤ 60 := by rw [List.length_take]; omega
  omega
 have hok := hpl.1
 have yA := Ay hok.inv hd1
 clear hpl hdr hfit h hM hA
 replace hn := Lib.hid hn
 go_enter Tryz.func4, Tryz.ntmps4
 go_wp2_with fail
 rw [← aH]
 replace aH := Lib.hid aH
 replace nT := Lib.hid nT
 go_at_call 16
 refine hm.mono ?_
 clear hm
 rintro e w1 ⟨s, c, t, d, p, v, g, rfl, S1, hb1⟩
 have hf1 : ∀ k, dM c t d p v g k → k < w1.heap.size := fun k => S1.cw.lt
 replace hf1 := Lib.hid hf1
 have q0 := S1.at'.c0
 have q1 := S1.cw.c0
 have h1 := Be S1.cw (by omega)
 go_wp2_with fail
 go_at_call 17
 refine h1.mono ?_
 clear h1 q0 q1
 rintro e w2 ⟨uJ, rfl, hJ2, hb2⟩
 have S2 := S1.kept hb2
 have q0 := S2.at'.c0
 have q1 := S2.cw.c2
 have h1 := uY S2.cw hok.inv (by omega)
 go_wp2_with fail
 go_at_call 18
 refine h1.mono ?_
 clear h1 q0 q1
 rintro e w3 ⟨uS, rfl, oP, hb3⟩
 have S3 := Lib.hid (S2.kept hb3)
 have hJ3 := Lib.hid (hJ2.kept hb3)
 replace oP := Lib.hid oP
 have UF := hb2.size
 have PY : Hid (Below wA.heap.size wA w3) := hb1.trans ((hb2.trans (hb3.mono hb2.size)).mono hb1.size)
 clear S1 S2 hb1 hb2 hb3 hJ2
 go_wp2_with fail
 refine Reg2.rd w3 15 135 [[],[ae],[ae,ae],[ae,ae,ae],[ae,ae,ae,ae],[ae,ae,ae,ae,ae],[ae,ae,ae,ae,ae,ae],[ae,ae,ae,ae,ae,ae,ae],[af,af,af,af,af,af,af,af],[af,af,af,af,af,af,af,af,ae],[af,af,af,af,af,af,af,af,ae,ae],[af,af,af,af,af,af,af,af,ae,ae,ae],[af,af,af,af,af,af,af,af,ae,ae,ae,ae],[af,af,af,af,af,af,af,af,ae,ae,ae,ae,ae],[af,af,af,af,af,af,af,af,ae,ae,ae,ae,ae,ae]] [0, 0, 0, 1, 0, 0, 1, 1, 0, 0, 0, 1, 0, 0, 1] [.pure, .pure, .pure, .mU (.pointer (some ⟨c, 0, none⟩)), .pure, .pure, .mU (.pointer (some ⟨d, 0, none⟩)), .mU (.int .u64 (aI (gu (bR M)))), .pure, .pure, .pure, .mU (.pointer (some ⟨c, 0, none⟩)), .pure, .pure, .mU (.pointer (some ⟨d, 0, none⟩))] (by kernel_rfl) (by kernel_rfl) rfl rfl ⟨trivial, trivial, trivial, Reg2.tt, trivial, trivial, Reg2.tt, Reg2.tt, trivial, trivial, trivial, Reg2.tt, trivial, trivial, Reg2.tt, trivial⟩ ⟨rfl, rfl, rfl, Nat.le_refl _, fun _ _ => rfl⟩ ?_
 dsimp only [Reg2.mk, List.zip, List.zipWith, List.take]
 repeat (refine' Reg2.ai _ (by rfl) (fun wz => ?_) ?_; rotate_left; (go_simp; first | rfl | rw [if_neg (by omega)]); simp only [Act.put, xA, xB, xC]; (try simp only [xD]); (try simp only [xE]); (try simp only [id]))
 refine Reg2.pm (fun wz hI hF => ?_) (fun r3 => ?_) (by rfl)
 ·have c0 := (S3.out.kept hI).at'.c0
  go_wp2_with fail
  first | exact ⟨_, rfl, rfl, Reg2.Ext.refl _⟩ | exact ⟨_, rfl, ⟨(), rfl, trivial⟩, Reg2.Ext.refl _⟩
 simp only [Act.put, xA, xB, xC]; (try simp only [xD]); (try simp only [xE]); (try simp only [id])
 repeat (refine' Reg2.ai _ (by rfl) (fun wz => ?_) ?_; rotate_left; (go_simp; first | rfl | rw [if_neg (by omega)]); simp only [Act.put, xA, xB, xC]; (try simp only [xD]); (try simp only [xE]); (try simp only [id]))
 refine Reg2.pm (fun wz hI hF => ?_) (fun r6 => ?_) (by rfl)
 ·have c0 := (S3.out.kept hI).cw.c1
  go_wp2_with fail
  first | exact ⟨_, rfl, rfl, Reg2.Ext.refl _⟩ | exact ⟨_, rfl, ⟨(), rfl, trivial⟩, Reg2.Ext.refl _⟩
 simp only [Act.put, xA, xB, xC]; (try simp only [xD]); (try simp only [xE]); (try simp only [id])
 refine Reg2.pm (fun wz hI hF => ?_) (fun r7 => ?_) (by rfl)
 ·have hc := pQ (S3.out.kept hI).cw.nodes yA
  rw [show (aj M).T = bR M from rfl] at hc
  go_wp2_with (go_at_call 19; go_must (refine hc.mono ?_); rintro e w' ⟨rfl, rfl⟩)
  exact ⟨_, rfl, ⟨(), rfl, trivial⟩, (Below.refl _ _).drew⟩
 simp only [Act.put, xA, xB, xC]; (try simp only [xD]); (try simp only [xE]); (try simp only [id])
 repeat (refine' Reg2.ai _ (by rfl) (fun wz => ?_) ?_; rotate_left; (go_simp; first | rfl | rw [if_neg (by omega)]); simp only [Act.put, xA, xB, xC]; (try simp only [xD]); (try simp only [xE]); (try simp only [id]))
 refine Reg2.pm (fun wz hI hF => ?_) (fun Me => ?_) (by rfl)
 ·have c0 := (S3.out.kept hI).at'.c0
  go_wp2_with fail
  first | exact ⟨_, rfl, rfl, Reg2.Ext.refl _⟩ | exact ⟨_, rfl, ⟨(), rfl, trivial⟩, Reg2.Ext.refl _⟩
 simp only [Act.put, xA, xB, xC]; (try simp only [xD]); (try simp only [xE]); (try simp only [id])
 repeat (refine' Reg2.ai _ (by rfl) (fun wz => ?_) ?_; rotate_left; (go_simp; first | rfl | rw [if_neg (by omega)]); simp only [Act.put, xA, xB, xC]; (try simp only [xD]); (try simp only [xE]); (try simp only [id]))
 refine Reg2.pm (fun wz hI hF => ?_) (fun GK => ?_) (by rfl)
 ·have c0 := (S3.out.kept hI).cw.c1
  go_wp2_with fail
  first | exact ⟨_, rfl, rfl, Reg2.Ext.refl _⟩ | exact ⟨_, rfl, ⟨(), rfl, trivial⟩, Reg2.Ext.refl _⟩
 simp only [Act.put, xA, xB, xC]; (try simp only [xD]); (try simp only [xE]); (try simp only [id])
 refine Reg2.aA ?_
 intro w4 HI4 _ eu
 clear eu
 dsimp only [List.drop]
 have S4 := Lib.hid (S3.out.kept HI4)
 have Jm := Lib.hid (hJ3.out.kept HI4)
 have nK := Lib.hid (oP.out.kept HI4)
 have Ib : Hid (Below wA.heap.size wA w4) := PY.out.trans (HI4.mono PY.out.size)
 have Rh : w1.heap.size ≤ w2.heap.size := UF
 have hu := wU S4.out.cw.nodes yA
 rw [show (aj M).T = bR M from rfl] at hu
 clear PY HI4 S3 hJ3 oP
 go_wp2_with fail
 go_at_call 20
 refine hu.mono ?_
 clear hu
 rintro e w' ⟨rfl, rfl⟩
 have q0 := S4.out.at'.c0
 have h1 := fT S4.out.cw
 rw [show (aj M).cl = M.cl from rfl] at h1
 go_wp2_with fail
 go_at_call 21
 refine h1.mono ?_
 clear h1
 rintro e w' ⟨rfl, rfl⟩
 have xK := (Ib.out.block _ hlA).trans nT.out
 have k0 : w4.cell? ⟨w.heap.size, 0, none⟩ = some (.bool cm) := by simp [World.cell?, xK]
 have k1 : w4.cell? ⟨w.heap.size, 1, none⟩ = some (.int .i64 y1) := by simp [World.cell?, xK]
 have k2 : w4.cell? ⟨w.heap.size, 2, none⟩ = some (.int .i64 y2) := by simp [World.cell?, xK]
 have k3 : w4.cell? ⟨w.heap.size, 3, none⟩ = some (.int .i64 y3) := by simp [World.cell?, xK]
 have k4 : w4.cell? ⟨w.heap.size, 4, none⟩ = some (.int .i64 y4) := by simp [World.cell?, xK]
 have k5 : w4.cell? ⟨w.heap.size, 5, none⟩ = some (.int .i64 y5) := by simp [World.cell?, xK]
 have k6 : w4.cell? ⟨w.heap.size, 6, none⟩ = some (.int .i64 y6) := by simp [World.cell?, xK]
 have k7 : w4.cell? ⟨w.heap.size, 7, none⟩ = some (.bool y7) := by simp [World.cell?, xK]
 have k8 : w4.cell? ⟨w.heap.size, 8, none⟩ = some (.int .i64 y8) := by simp [World.cell?, xK]
 have k9 : w4.cell? ⟨w.heap.size, 9, none⟩ = some (.int .i64 y9) := by simp [World.cell?, xK]
 have k10 : w4.cell? ⟨w.heap.size, 10, none⟩ = some (.int .i64 xi) := by simp [World.cell?, xK]
 have k11 : w4.cell? ⟨w.heap.size, 11, none⟩ = some (.int .i64 xt) := by simp [World.cell?, xK]
 clear xK nT
 have Wp : Hid (∃ I : Nat, I = aI (gu (bR M))) := ⟨_, rfl⟩
 cases cm with
 | true =>
  have hcr := yT M xi xt
  have hq := sj S4.out (Nat.le_trans (Nat.le_refl _) Ib.out.size) xi xt hok hd1 (by omega) (by decide) hx.2.2
  generalize (bH M xi xt).2 = M2 at *
  generalize (bH M xi xt).1 = ok at *
  go_wp2_with fail
  go_at_call 11
  refine hq.mono ?_
  clear hq k0 k1 k2 k3 k4 k5 k6 k7 k8 k9 k10 k11
  rintro e w5 ⟨v5, g5, rfl, S5, mo, hb5⟩
  have su := Lib.hid (Ib.out.trans hb5)
  cases ok with
  | true =>
   have haw := nU w5
   go_wp2_with fail
   go_at_call 9
   refine haw.mono ?_
   clear haw
   rintro e w' ⟨rfl, hbz⟩
   have hfin := bL.out.trans ((su.out.trans (hbz.mono su.out.size)).mono bL.out.size)
   go_wp2_with fail
   go_ret
   exact ⟨rfl, hfin⟩
  | false =>
   have hM2 := hcr rfl
   rw [hM2] at S5
   replace S5 := Lib.hid S5
   have Et := Lib.hid (Jm.out.cs mo hf1.out)
   have FQ := Lib.hid (nK.out.cs mo (fun k hk => Nat.lt_of_lt_of_le (hf1.out k hk) Rh))
   clear mo hb5 q0
   have q0 := S5.out.at'.c0
   have q1 := S5.out.cw.c0
   have h1 := Be S5.out.cw (by omega)
   go_wp2_with fail
   go_at_call 17
   refine h1.mono ?_
   clear h1 q0 q1
   rintro e w6 ⟨uK, rfl, PZ, hb6⟩
   have h1 := wo PZ.now (Et.out.kept hb6).now (by omega)
   rw [decide_eq_true rfl] at h1
   go_wp2_with fail
   go_at_call 22
   refine h1.mono ?_
   clear h1 PZ
   rintro e w7 ⟨rfl, jD⟩
   have wu := hb6.trans (jD.mono hb6.size)
   have S7 := S5.out.kept wu
   have q0 := S7.at'.c0
   have q1 := S7.cw.c2
   have h1 := uY S7.cw hok.inv (by omega)
   go_wp2_with fail
   go_at_call 18
   refine h1.mono ?_
   clear h1 q0 q1
   rintro e w8 ⟨uU, rfl, hU8, nW⟩
   have wy := wu.trans (nW.mono wu.size)
   have h1 := uf hU8.now (FQ.out.kept wy).now (by have := oG M; omega)
   rw [decide_eq_true rfl] at h1
   go_wp2_with fail
   go_at_call 23
   refine h1.mono ?_
   clear h1 hU8
   rintro e w9 ⟨rfl, uP⟩
   have wC := wy.trans (uP.mono wy.size)
   have S9 := S5.out.kept wC
   have q0 := S9.at'.c0
   have q1 := S9.cw.c1
   have h1 := pQ S9.cw.nodes yA
   rw [show (aj M).T = bR M from rfl] at h1
   go_wp2_with fail
   go_at_call 19
   refine h1.mono ?_
   clear h1 q0 q1
   rintro e w' ⟨rfl, rfl⟩
   have Bf := wC.trans (((Below.refl w9.heap.size w9).drew).mono wC.size)
   have SA := S5.out.kept Bf
   have q0 := SA.at'.c0
   have q1 := SA.cw.c1
   have h1 := wU SA.cw.nodes yA
   rw [show (aj M).T = bR M from rfl] at h1
   go_wp2_with fail
   go_at_call 20
   refine h1.mono ?_
   clear h1 q1
   rintro e w' ⟨rfl, rfl⟩
   have h1 := fT SA.cw
   rw [show (aj M).cl = M.cl from rfl] at h1
   go_wp2_with fail
   go_at_call 21
   refine h1.mono ?_
   clear h1
   rintro e w' ⟨rfl, rfl⟩
   have haw := nU w9.drew
   have Ic := Lib.hid (su.out.trans (Bf.mono su.out.size))
   clear wu wy wC hb6 jD nW uP Bf
   go_wp2_with fail
   go_at_call 9
   refine haw.mono ?_
   clear haw
   rintro e w' ⟨rfl, hbz⟩
   have hfin := bL.out.trans ((Ic.out.trans (hbz.mono Ic.out.size)).mono bL.out.size)
   go_wp2_with fail
   go_ret
   exact ⟨rfl, hfin⟩
 | false =>
  have hrf := BQ M (toW ⟨y1, y2, y3, y4, y5, y6, y7, y8, y9⟩)
  rw [Dl] at hrf
  have hq := yZ S4.out (Nat.le_trans (Nat.le_refl _) Ib.out.size) ⟨y1, y2, y3, y4, y5, y6, y7, y8, y9⟩ hok hd1 (by omega) (by decide) hx.1.node
  rw [show (encR ⟨y1, y2, y3, y4, y5, y6, y7, y8, y9⟩).toArray = #[.int .i64 y1, .int .i64 y2, .int .i64 y3, .int .i64 y4, .int .i64 y5, .int .i64 y6, .bool y7, .int .i64 y8, .int .i64 y9] from rfl] at hq
  generalize (dY M (toW ⟨y1, y2, y3, y4, y5, y6, y7, y8, y9⟩)).2 = M2 at *
  generalize (si M (toW ⟨y1, y2, y3, y4, y5, y6, y7, y8, y9⟩)).1 = rp at *
  obtain ⟨z1, z2, z3, z4, z5, z6, z7, z8, z9⟩ := rp
  rw [show (bK (kY (z1, z2, z3, z4, z5, z6, z7, z8, z9))).toArray = #[.int .i64 z1, .int .i64 z2, .int .i64 z3, .int .i64 z4, .int .i64 z5, .int .i64 z6, .int .i64 z7, .int .i64 z8, .int .i64 z9] from rfl] at hq
  go_wp2_with fail
  go_at_call 14
  refine hq.mono ?_
  clear hq k0 k1 k2 k3 k4 k5 k6 k7 k8 k9 k10 k11
  rintro e w5 ⟨v5, g5, rfl, S5, mo, hb5⟩
  have su := Ib.out.trans hb5
  obtain ⟨wR, zV⟩ : ∃ wR, wR = w5.alloc (.cells #[.int .i64 z1, .int .i64 z2, .int .i64 z3, .int .i64 z4, .int .i64 z5, .int .i64 z6, .int .i64 z7, .int .i64 z8, .int .i64 z9] 39) := ⟨_, rfl⟩
  have hbR : Below w5.heap.size w5 wR := by rw [zV]; exact (Below.refl _ _).alloc (Nat.le_refl _) _
  have hQR : wR.heap[w5.heap.size]? = some (.cells #[.int .i64 z1, .int .i64 z2, .int .i64 z3, .int .i64 z4, .int .i64 z5, .int .i64 z6, .int .i64 z7, .int .i64 z8, .int .i64 z9] 39 (0, 0)) := by rw [zV]; exact heap_alloc_new w5 _
  have KR := Lib.hid (su.trans (hbR.mono su.size))
  have SR := Lib.hid (S5.kept hbR)
  have UG := Lib.hid ((Jm.out.cs mo hf1.out).kept hbR)
  have hTR := Lib.hid ((nK.out.cs mo (fun k hk => Nat.lt_of_lt_of_le (hf1.out k hk) Rh)).kept hbR)
  have r0 : wR.cell? ⟨w5.heap.size, 0, none⟩ = some (.int .i64 z1) := by simp [World.cell?, hQR]
  have r1 : wR.cell? ⟨w5.heap.size, 1, none⟩ = some (.int .i64 z2) := by simp [World.cell?, hQR]
  have r2 : wR.cell? ⟨w5.heap.size, 2, none⟩ = some (.int .i64 z3) := by simp [World.cell?, hQR]
  have r3 : wR.cell? ⟨w5.heap.size, 3, none⟩ = some (.int .i64 z4) := by simp [World.cell?, hQR]
  have r4 : wR.cell? ⟨w5.heap.size, 4, none⟩ = some (.int .i64 z5) := by simp [World.cell?, hQR]
  have r5 : wR.cell? ⟨w5.heap.size, 5, none⟩ = some (.int .i64 z6) := by simp [World.cell?, hQR]
  have r6 : wR.cell? ⟨w5.heap.size, 6, none⟩ = some (.int .i64 z7) := by simp [World.cell?, hQR]
  have r7 : wR.cell? ⟨w5.heap.size, 7, none⟩ = some (.int .i64 z8) := by simp [World.cell?, hQR]
  have r8 : wR.cell? ⟨w5.heap.size, 8, none⟩ = some (.int .i64 z9) := by simp [World.cell?, hQR]
  clear S5 mo hb5 su hbR q0 hQR
  by_cases hz : z1 = 0
  ·subst hz
   rw [zV] at r0
   have haw := nU wR
   go_wp2_with fail
   rw [← zV]
   replace zV := Lib.hid zV
   go_at_call 9
   refine haw.mono ?_
   clear haw
   rintro e w' ⟨rfl, hbz⟩
   have hfin := bL.out.trans ((KR.out.trans (hbz.mono KR.out.size)).mono bL.out.size)
   go_wp2_with fail
   go_ret
   exact ⟨rfl, hfin⟩
  ·obtain ⟨hM2, hz2⟩ := hrf hz
   have d1 : decide (z1 = 0) = false := decide_eq_false hz
   have d2 : (z1 == 0) = false := by simp [hz]
   rw [hM2] at SR
   have ez : (z1, z2, z3, z4, z5, z6, z7, z8, z9) = (z1, (0 : Int), (0 : Int), (0 : Int), (0 : Int), (0 : Int), (0 : Int), (0 : Int), (0 : Int)) := hz2
   simp only [Prod.mk.injEq, true_and] at ez
   obtain ⟨rfl, rfl, rfl, rfl, rfl, rfl, rfl, rfl⟩ := ez
   have en : ∀ W, Sem.run Tryz.prog (binOp .neq 39 (.agg #[.int .i64 z1, .int .i64 0, .int .i64 0, .int .i64 0, .int .i64 0, .int .i64 0, .int .i64 0, .int .i64 0, .int .i64 0]) (.agg #[.int .i64 z1, .int .i64 0, .int .i64 0, .int .i64 0, .int .i64 0, .int .i64 0, .int .i64 0, .int .i64 0, .int .i64 0])) W = .ok (.bool false) W := fun W => by
    have e := QP ⟨z1, 0, 0, 0, 0, 0, 0, 0, 0⟩ ⟨z1, 0, 0, 0, 0, 0, 0, 0, 0⟩ W
    rw [decide_eq_true rfl] at e
    exact e
   have su := KR
   have S5 := SR
   have Et := UG
   have FQ := hTR
   clear KR SR UG hTR
   have q0 := S5.out.at'.c0
   have q1 := S5.out.cw.c0
   have h1 := Be S5.out.cw (by omega)
   rw [zV] at q0 q1 r0 r1 r2 r3 r4 r5 r6 r7 r8
   go_wp2_with fail
   rw [← zV]
   replace zV := Lib.hid zV
   go_at_call 17
   refine h1.mono ?_
   clear h1 q0 q1
   rintro e w6 ⟨uK, rfl, PZ, hb6⟩
   have h1 := wo PZ.now (Et.out.kept hb6).now (by omega)
   rw [decide_eq_true rfl] at h1
   go_wp2_with fail
   go_at_call 22
   refine h1.mono ?_
   clear h1 PZ
   rintro e w7 ⟨rfl, jD⟩
   have wu := hb6.trans (jD.mono hb6.size)
   have S7 := S5.out.kept wu
   have q0 := S7.at'.c0
   have q1 := S7.cw.c2
   have h1 := uY S7.cw hok.inv (by omega)
   go_wp2_with fail
   go_at_call 18
   refine h1.mono ?_
   clear h1 q0 q1
   rintro e w8 ⟨uU, rfl, hU8, nW⟩
   have wy := wu.trans (nW.mono wu.size)
   have h1 := uf hU8.now (FQ.out.kept wy).now (by have := oG M; omega)
   rw [decide_eq_true rfl] at h1
   go_wp2_with fail
   go_at_call 23
   refine h1.mono ?_
   clear h1 hU8
   rintro e w9 ⟨rfl, uP⟩
   have wC := wy.trans (uP.mono wy.size)
   have S9 := S5.out.kept wC
   have q0 := S9.at'.c0
   have q1 := S9.cw.c1
   have h1 := pQ S9.cw.nodes yA
   rw [show (aj M).T = bR M from rfl] at h1
   go_wp2_with fail
   go_at_call 19
   refine h1.mono ?_
   clear h1 q0 q1
   rintro e w' ⟨rfl, rfl⟩
   have Bf := wC.trans (((Below.refl w9.heap.size w9).drew).mono wC.size)
   have SA := S5.out.kept Bf
   have q0 := SA.at'.c0
   have q1 := SA.cw.c1
   have h1 := wU SA.cw.nodes yA
   rw [show (aj M).T = bR M from rfl] at h1
   go_wp2_with fail
   go_at_call 20
   refine h1.mono ?_
   clear h1 q1
   rintro e w' ⟨rfl, rfl⟩
   have h1 := fT SA.cw
   rw [show (aj M).cl = M.cl from rfl] at h1
   go_wp2_with fail
   go_at_call 21
   refine h1.mono ?_
   clear h1
   rintro e w' ⟨rfl, rfl⟩
   have haw := nU w9.drew
   have Ic := Lib.hid (su.out.trans (Bf.mono su.out.size))
   clear wu wy wC hb6 jD nW uP Bf
   go_wp2_with fail
   go_at_call 9
   refine haw.mono ?_
   clear haw
   rintro e w' ⟨rfl, hbz⟩
   have hfin := bL.out.trans ((Ic.out.trans (hbz.mono Ic.out.size)).mono bL.out.size)
   go_wp2_with fail
   go_ret
   exact ⟨rfl, hfin⟩
theorem EO (n : Int) (u : Value) (l : List De) (x : De) (w : World) (_ : -9223372036854775808 ≤ n ∧ n ≤ 9223372036854775807) (h : aG lK 12 w u l) (hfit : ∀ x ∈ l, qH x) (hx : qH x) :
  Calls Tryz.prog 4 #[.int .i64 n, u, .agg (lK x).toArray] w fun e w' => e = .returned (.bool true) ∧ Below w.heap.size w w' := BS h hfit x hx n
end
end Go.Proofs.YtnihdgcfamoplaaGreat


namespace Go.Proofs.YtnihdgcfamoplaaGreat.seqRefuses
open Go.ChangeShapes Go.WideShapes Go.ChangeAt Go.RowKit
theorem own : ownKnob Tryz.prog.godebug = none := by kernel_rfl
theorem laid : laidOutB Tryz.prog = true := by kernel_rfl
theorem readable : (Tryz.f4.params.toList.all fun t => Tryz.prog.readableRec t && decide (t < Tryz.prog.types.size)) = true := by kernel_rfl
theorem lifted (os : Os) (started : os.Started) (H : Type) (enc : TypeId × Value → H) :
  ReturnsInHanded {} Tryz.checked os 4 .any (Rows.seqRefusesSpec.pre6 enc Tryz.prog Tryz.f4 Rows.seqRefusesRow.domain false) (Rows.seqRefusesSpec.post enc Tryz.prog Tryz.f4 false true false false) := by
 refine returnsInHanded_of_change (C := Tryz.checked) own started (by kernel_rfl) Tryz.func4
  (ChangeSpec.witness6 (enc := enc) (C := Tryz.checked) false ⟨#[], #[.int .i64 0, .slice none 0 0, .agg #[.bool false, .int .i64 0, .int .i64 0, .int .i64 0, .int .i64 0, .int .i64 0, .int .i64 0, .bool false, .int .i64 0, .int .i64 0, .int .i64 0, .int .i64 0]], []⟩ 8 (by kernel_rfl) (by kernel_rfl) (by kernel_rfl) (by kernel_rfl)) ?_
 intro W base args ds gs before hval0 hW hcnd _
 have hval : ∀ (j : Nat) t v, Tryz.f4.params[j]? = some t → args[j]? = some v → Value.okWide Tryz.prog W .any base t v := hval0
 have hW' := hW
 obtain ⟨p, q, Qh, hV, hpq, hfz, hnd⟩ := hW
 have hA : DataW.TrodAll enc Tryz.prog W 0 (fun _ => true) true Tryz.f4.params.toList args.toList ds p := Qh
 rw [Tryz.params4] at hA hval
 obtain ⟨v0, Wq, d0, ds0, p0, q0, hargs, rfl, rfl, h0, r0⟩ := trodAll_cons hA
 obtain ⟨v1, vs1, d1, ds1, p1, q1, rfl, rfl, rfl, h1, r1⟩ := trodAll_cons r0
 obtain ⟨v2, vs2, d2, Ws, p2, q2, rfl, rfl, rfl, h2, r2⟩ := trodAll_cons r1
 obtain ⟨rfl, rfl, rfl⟩ := trodAll_nil r2
 obtain rfl : args = #[v0, v1, v2] := by cases args; simp_all
 obtain ⟨rfl, rfl⟩ := trodVars_none hV
 obtain ⟨a0, rfl, rfl, rfl, w0⟩ := open_int Tryz.underlying3 (hval 0 3 v0 rfl rfl) h0
 obtain ⟨l1, hl1, hf1⟩ := M9 (hval 1 22 v1 rfl rfl) h1
 obtain ⟨l2, rfl, hf2⟩ := PX (hval 2 36 v2 rfl rfl) h2
 clear Qh hval0
 refine (EO a0 v1 l1 l2 W (bounds_i64 w0) hl1 hf1 hf2).mono fun e W' ⟨he, hg⟩ => ?_
 subst he
 exact ⟨_, rfl, KS hW' rfl rfl rfl Tryz.underlying4 laid (P5 readable) hg⟩
theorem over : Rows.seqRefusesRow.holds Tryz.pinned (OpenSpec.ofChange Rows.seqRefusesSpec) :=
 OpenClaim.holds_of_wide 4 Tryz.f4 rfl rfl rfl rfl rfl rfl rfl ⟨rfl, rfl, rfl, rfl, rfl⟩ rfl rfl rfl rfl rfl (by kernel_rfl) Tryz.func4 (by kernel_rfl)
  (of_decide_eq_true (by kernel_rfl)) (by unfold Func.isWrapper; first | (rw [if_pos (by decide +kernel)]; kernel_rfl) | (rw [if_neg (by decide +kernel)]; exact ⟨rfl, rfl⟩))
  (fun os started H enc _ => lifted os started H enc)
theorem proved : Rows.SeqRefusesSaid := over
#print axioms proved
end Go.Proofs.YtnihdgcfamoplaaGreat.seqRefuses
