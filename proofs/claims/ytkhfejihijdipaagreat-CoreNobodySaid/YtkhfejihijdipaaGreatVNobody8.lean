/-
 CoreNobody of the Go text returns true for every input, and each argument reads afterwards as it read before. No condition.
-/
import Derived.Test.YtkhfejihijdipaaGreatRows
import Derived.ProofKit
import Derived.OpenShut
import Derived.Test.YtkhfejihijdipaaGreatVNobody7
set_option maxRecDepth 1000000
set_option maxHeartbeats 8000000
set_option linter.all false
namespace Go.Proofs.YtkhfejihijdipaaGreat
open Go.RowKit Go.Lib Go.Sort
structure Bg (w0 w : World) (b c t d p : Nat) (v0 : Value) (g0 : Nat) (v : Value) (g a : Nat) (m mx : Int) (R : Wk) (M : Md) : Prop where
 sw : SW w b c t d p v g a m R (aj M)
 left : R.left = eH 64
 inv : aC M
 calm : Calm M
 cl : M.cl = false
 one : 1 ≤ M.dr.length
 few : M.L.length ≤ 190
 ha : a ≤ 1 + 2 * M.L.length
 hm : m + 1000 ≤ mx
 hmx : mx ≤ 1000000
 ok : R.ok = false
 ws : WS w0 w b c t d p v0 g0 v g
section
variable {L : List Jb} {id : Int} {ok : Jb → Bool} {ch : Jb → Jb} {M : Md}
theorem vD (L : List Jb) (i : Nat) : L[i]! = L.getD i default := by rw [List.getElem!_eq_getElem?_getD, List.getD_eq_getElem?_getD]
theorem rG (h : ¬ (id < 1 ∨ (L.length : Int) < id)) : bF L id = L.getD (id - 1).toNat default := by
 unfold bF
 rw [if_neg (by omega), if_neg (by omega), vD]
theorem wM (h : id < 1 ∨ (L.length : Int) < id) : bE L 0 id ok = 7 := by
 unfold bE
 rw [if_neg (by decide)]
 split
 ·rfl
 ·rw [if_pos (by omega)]
theorem z8 (h : ¬ (id < 1 ∨ (L.length : Int) < id)) (ho : ok (L.getD (id - 1).toNat default) = false) : bE L 0 id ok = 8 := by
 unfold bE
 rw [if_neg (by decide), if_neg (by omega), if_neg (by omega), vD, ho]
 rfl
theorem sG (h : ¬ (id < 1 ∨ (L.length : Int) < id)) (ho : ok (L.getD (id - 1).toNat default) = true) : bE L 0 id ok = 0 := by
 unfold bE
 rw [if_neg (by decide), if_neg (by omega), if_neg (by omega), vD, ho]
 rfl
theorem nH {e0 : Int} (h : bE L e0 id ok = 0) : bS L e0 id ok ch = L.set (id - 1).toNat (ch (L.getD (id - 1).toNat default)) := by
 unfold bS
 rw [if_pos h, vD]
theorem Cc (h : id < 1 ∨ (M.L.length : Int) < id) : getM M id = (default, false) := if_pos h
theorem vE (h : ¬ (id < 1 ∨ (M.L.length : Int) < id)) : getM M id = (M.L.getD (id - 1).toNat default, true) := if_neg h
theorem wN {x : Jb} (h : ¬ (id < 1 ∨ (L.length : Int) < id)) : bF (L.set (id - 1).toNat x) id = x := by
 rw [rG (by rw [List.length_set]; exact h), fD, if_pos ⟨rfl, by omega⟩]
theorem uB (r : Rw) (h : r.id < 1 ∨ (M.L.length : Int) < r.id) : fI M r = (fC 7, M) := by
 unfold fI
 rw [Cc h]
 exact if_pos rfl
theorem Lr (r : Rw) (h : r.id < 1 ∨ (M.L.length : Int) < r.id) : lH M r = (fC 7, M) := by
 unfold lH
 rw [Cc h]
 exact if_pos rfl
end
section
variable {w0 w : World} {b c t d p g g0 a N : Nat} {v v0 : Value} {m mx : Int} {P : Pg} {M M' : Md} {R : Wk} {Q : World → Prop}
theorem IW (h : SW w b c t d p v g a m R (aj M)) (hl : R.left = eH 64) (hc : M.cl = true) (ha : a ≤ 800) (hm : m ≤ mx) (hw : WS w0 w b c t d p v0 g0 v g) :
  Goes b c 1000 w (Fin w0 b c t d p v0 g0 mx M (nX (fC 12)) false) :=
 aU (N := 999) aZ (AP h hc) h hl rfl ha hm hw rfl rfl rfl
theorem IX (h : Bg w0 w b c t d p v0 g0 v g a m mx R M) (hq : ¬ (1 ≤ R.ag.kind ∧ R.ag.kind ≤ 13)) :
  Goes b c 1000 w (Fin w0 b c t d p v0 g0 mx M (nX (fC 4)) false) :=
 aU (N := 999) aZ (F9 h.sw h.cl hq) h.sw h.left rfl (by have := h.ha; have := h.few; omega) (by have := h.hm; omega) h.ws rfl rfl rfl
theorem eU {k k' a' : Nat} {m' : Int} {R' : Wk} {P' : Pg} (hk : ∀ args w, Sem.run Tryz.prog (callFunc k args) w = .ok (.enter k args) w)
  (hp : Calls Tryz.prog k #[.pointer (some ⟨b, 0, none⟩), .pointer (some ⟨c, 0, none⟩)] w (au w b c t d p v g a' m' (eH k') R' P'))
  (h : SW w b c t d p v g a m R P) (hl : R.left = eH k) (hl' : R'.left = R.left)
  (hn : ∀ w' v' g', SW w' b c t d p v' g' a' m' { R' with left := eH k' } P' → WS w w' b c t d p v g v' g' → Goes b c N w' Q) : Goes b c (N + 1) w Q :=
 uy h hl (hl'.trans hl) hk hp hn
theorem AQ (h : Bg w0 w b c t d p v0 g0 v g a m mx R M) (hk : R.ag.kind = 4) :
  Goes b c 1000 w (Fin w0 b c t d p v0 g0 mx (fI M (toW R.ag)).2 (nX (fI M (toW R.ag)).1) false) := by
 have hll := h.few
 have ha := h.ha
 have hm := h.hm
 have hrd : iW R.ag.kind = false := by rw [hk]; rfl
 have iK : ∀ {L : Value} {a' : Nat} {m' : Int} {R' : Wk} {P' : Pg}, Calls Tryz.prog 120 #[.pointer (some ⟨b, 0, none⟩), .pointer (some ⟨c, 0, none⟩)] w (au w b c t d p v g a' m' L R' P') → Calls Tryz.prog 64 #[.pointer (some ⟨b, 0, none⟩), .pointer (some ⟨c, 0, none⟩)] w (au w b c t d p v g a' m' L R' P') := fun hn => eZ h.sw h.cl (by rw [hk]; decide) hrd (Lg h.sw hk hn)
 by_cases hid : R.ag.id < 1 ∨ (M.L.length : Int) < R.ag.id
 ·rw [uB (toW R.ag) hid]
  exact aU (N := 999) aZ (iK (vz h.sw 7 (by decide) (wM hid))) h.sw h.left rfl (by omega) (by omega) h.ws rfl rfl rfl
 ·have hi : (R.ag.id - 1).toNat < M.L.length := by omega
  have hmem := aV hi
  have eM := vE (M := M) hid
  by_cases hs : (M.L.getD (R.ag.id - 1).toNat default).st = 2
  ·have hE : bE M.L 0 R.ag.id (fun j : Jb => decide (j.state = 2)) = 0 := sG hid (decide_eq_true hs)
   have hr := FR h.sw hE
   have eL : bS (aj M).J 0 R.ag.id (fun j : Jb => decide (j.state = 2)) ni = M.L.set (R.ag.id - 1).toNat ((M.L.getD (R.ag.id - 1).toNat default).setSt 1) := nH hE
   rw [eL, wN hid] at hr
   generalize hx : M.L.getD (R.ag.id - 1).toNat default = x at *
   have bo := h.inv.one _ hmem
   have bw := h.inv.mb.wid _ hmem
   have bl := h.inv.mb.lim _ hmem
   have bf := h.inv.mb.fin _ hmem
   have bn := h.inv.mb.bG _ hmem
   have hp : x.aJ = -1 := h.inv.rest _ hmem (by omega)
   have hpl : ak (x.setSt 1) = false := by unfold ak; simp [show (x.setSt 1).aJ = -1 from hp]
   have hI1 : aC { M with L := M.L.set (R.ag.id - 1).toNat (x.setSt 1) } :=
    h.inv.set (i := (R.ag.id - 1).toNat) (y := x.setSt 1) (h.inv.mb.set _ _ bw bl (by show -1 ≤ x.aJ ∧ x.aJ ≤ _; omega) bf bn) (by rw [hx]; rfl) ⟨bo.1, bo.2.1, bo.2.2.1, (show (1 : Int) ≤ 1 by omega), (show (1 : Int) ≤ 6 by omega)⟩ (fun _ => hp) (fun e => absurd (show (1 : Int) = 3 from e) (by decide)) (.inl hp) (h.inv.ky.set hi fun n e => by unfold aF at e; simp [Jb.setSt, Jb.st] at e)
     fun t ht => lD h.inv hi (by rw [hx]; exact ⟨fun e => absurd (show (1 : Int) = 3 from e) (by decide), fun e => by omega⟩) (by rw [hx]; rfl) (by rw [hx]; rfl) hpl t ht
   have hP : ({ aj M with J := M.L.set (R.ag.id - 1).toNat (x.setSt 1) } : Pg) = aj { M with L := M.L.set (R.ag.id - 1).toNat (x.setSt 1) } := by
    have h3 : ((x.setSt 1).st = 3) ↔ ((M.L.getD (R.ag.id - 1).toNat default).st = 3) := by rw [hx]; exact ⟨fun e => absurd (show (1 : Int) = 3 from e) (by decide), fun e => by omega⟩
    have e1 : bX M = bX { M with L := M.L.set (R.ag.id - 1).toNat (x.setSt 1) } := by
     refine nG (by rw [bq, bq]) fun n hn => ?_
     rw [bW, bW, nO hi h3 (by rw [hx]; rfl)]
    have e2 : (fun t => ax M t 0) = fun t => ax { M with L := M.L.set (R.ag.id - 1).toNat (x.setSt 1) } t 0 := by
     funext t
     rw [pJ hi h3 (by rw [hx]; rfl) (by rw [hx]; rfl), dB hpl, hx, dB (by unfold ak; simp [hp])]
     omega
    show Pg.mk _ _ (bX M) (fun t => ax M t 0) _ = _
    rw [e1, e2]
    rfl
   rw [hP] at hr
   have e : fI M (toW R.ag) = (lW (x.setSt 1), fe { M with L := M.L.set (R.ag.id - 1).toNat (x.setSt 1) } (x.setSt 1)) := by
    have hj : dV (toW R.ag).kind x = x.setSt 1 := by unfold dV; rw [show (toW R.ag).kind = 4 from hk]; rfl
    unfold fI
    rw [show (toW R.ag).id = R.ag.id from rfl, eM]
    refine (if_neg (fun e => nomatch e)).trans ((if_neg ?_).trans ((if_pos hk).trans ?_))
    ·show ¬ ((R.ag.kind = 3 ∧ x.st ≠ 1) ∨ (R.ag.kind = 4 ∧ x.st ≠ 2))
     omega
    ·show (lW (dV (toW R.ag).kind x), fe { M with L := M.L.set (R.ag.id - 1).toNat (dV (toW R.ag).kind x) } (dV (toW R.ag).kind x)) = _
     rw [hj]
   rw [e]
   refine (eU (N := 901) (k := 64) (k' := 135) aZ (iK hr) h.sw h.left rfl fun w' v' g' hS' hw' => ?_).more (show 902 ≤ 1000 by decide)
   have hL : (M.L.set (R.ag.id - 1).toNat (x.setSt 1)).length = M.L.length := List.length_set
   have SX := zZ (x.setSt 1) (M.L.set (R.ag.id - 1).toNat (x.setSt 1))
   have hidx : x.id = (((R.ag.id - 1).toNat : Nat) : Int) + 1 := by rw [← hx]; exact h.inv.ids _ hi
   have := rF (M := { M with L := M.L.set (R.ag.id - 1).toNat (x.setSt 1) }) (M' := fe { M with L := M.L.set (R.ag.id - 1).toNat (x.setSt 1) } (x.setSt 1)) (R := { ({ R with az := x.setSt 1, rep := iq (x.setSt 1) } : Wk) with left := eH 135 }) (w0 := w0) (b := b) (c := c) (t := t) (d := d) (p := p) (v0 := v0) (g0 := g0) (mx := mx) rfl (by show x.id ≠ 0; omega) h.one (by show (M.L.set (R.ag.id - 1).toNat (x.setSt 1)).length ≤ 900; omega) h.hmx 900 (L := M.L.set (R.ag.id - 1).toNat (x.setSt 1)) rfl (by show hits (x.setSt 1) _ ≤ 900; omega) hI1 rfl hS' (by show a + 2 * hits (x.setSt 1) _ ≤ 800; omega) (by show m + (hits (x.setSt 1) _ : Nat) ≤ mx; omega) (h.ws.trans hw')
   rw [show ({ ({ R with az := x.setSt 1, rep := iq (x.setSt 1) } : Wk) with left := eH 135 } : Wk).ok = false from h.ok] at this
   exact this
  ·have hE : bE M.L 0 R.ag.id (fun j : Jb => decide (j.state = 2)) = 8 := z8 hid (decide_eq_false hs)
   have e : fI M (toW R.ag) = (fC 8, M) := by
    unfold fI
    rw [show (toW R.ag).id = R.ag.id from rfl, eM]
    exact (if_neg (fun e => nomatch e)).trans (if_pos (.inr ⟨hk, hs⟩))
   rw [e]
   exact aU (N := 999) aZ (iK (vz h.sw 8 (by decide) hE)) h.sw h.left rfl (by omega) (by omega) h.ws rfl rfl rfl
end
end Go.Proofs.YtkhfejihijdipaaGreat

namespace Go.Proofs.YtkhfejihijdipaaGreat
open Go.RowKit Go.Lib Go.Sort
section
variable {w0 w : World} {b c t d p g g0 a N : Nat} {v v0 : Value} {m mx : Int} {P : Pg} {M M' : Md} {R : Wk} {Q : World → Prop}
theorem Ce {i : Nat} {y : Jb} (hi : i < M.L.length) (hs : (M.L.getD i default).st ≠ 3) (hy : y.st ≠ 3) (hy2 : y.bG = (M.L.getD i default).bG) (hy3 : y.fin = (M.L.getD i default).fin) (hyp : ak y = false)
  (hI : aC M) (hI1 : aC { M with L := M.L.set i y }) (h1 : 1 ≤ M.dr.length) (hll : M.L.length ≤ 900) (ha : a ≤ 700) (hm : m + 1 ≤ mx) (hmx : mx ≤ 1000000)
  (h : SW w b c t d p v g a m R { aj M with J := M.L.set i y }) (hl : R.left = eH 139) (hj : R.az = M.L.getD i default) (hw : WS w0 w b c t d p v0 g0 v g) :
  Goes b c (N + 1) w (Fin w0 b c t d p v0 g0 mx { M with L := M.L.set i y } R.rep R.ok) := by
 have hmem := aV hi
 have bo := hI.one _ hmem
 have bw := hI.mb.wid _ hmem
 have bl := hI.mb.lim _ hmem
 have bp := hI.mb.aJ _ hmem
 have hst : (y.st = 3) ↔ ((M.L.getD i default).st = 3) := ⟨fun e => absurd e hy, fun e => absurd e hs⟩
 have dm := ed hI h1 hll
 have kK := ed hI1 h1 (by rw [List.length_set]; exact hll)
 have qC : PK { aj M with J := M.L.set i y } := ⟨dm.now, kK.few, kK.st, kK.lim, dm.p9, dm.f⟩
 have eT : bX M = bX { M with L := M.L.set i y } := by
  refine nG (by rw [bq, bq]) fun n hn => ?_
  rw [bW, bW, nO hi hst hy2]
 have ef : ∀ t, ax { M with L := M.L.set i y } t 0 = ax M t 0 + dA t 0 (M.L.getD i default) := fun t => by
  rw [pJ hi hst hy2 hy3, dB hyp]
  omega
 have eP : ∀ F : Int → Int, F = (fun t => ax { M with L := M.L.set i y } t 0) → ({ aj M with J := M.L.set i y, f := F } : Pg) = aj { M with L := M.L.set i y } := fun F hF => by
  show Pg.mk _ _ (bX M) F _ = _
  rw [eT, hF]
  rfl
 cases hp : ak (M.L.getD i default) with
 | true =>
  have hv := Dx h qC (by omega) (by omega) (by rw [hj]; exact hp) (by rw [hj]; exact bp.2) (by rw [hj]; exact bl) (by rw [hj]; exact bo.2.2.1) (by rw [hj]; exact bw) (fun t => ax { M with L := M.L.set i y } t 0) (fun t ht => by
   rw [hj]
   have hu := qc hI hi hp t
   rw [iB hi, dB (j := (M.L.getD i default).aD (-1)) (by unfold ak; simp [Jb.aD, Jb.aJ])] at hu
   show ax { M with L := M.L.set i y } t 0 = ax M t 0 + had (max (M.L.getD i default).aJ M.now) ((M.L.getD i default).aJ + (M.L.getD i default).lim) (M.L.getD i default).wid t
   rw [ef]
   omega) (fun t ht => kK.f t ht)
  have e := eP (fun t => ax { M with L := M.L.set i y } t 0) rfl
  rw [e] at hv
  exact aU (a' := a + 2) (m' := m + 1) uA hv h hl rfl (by omega) (by omega) hw rfl rfl rfl
 | false =>
  have hv := Dy h qC (by omega) (by omega) (by rw [hj]; exact hp) (by rw [hj]; exact hs) (by rw [hj]; exact bp.2) (by rw [hj]; exact bl)
  have e : ({ aj M with J := M.L.set i y } : Pg) = aj { M with L := M.L.set i y } := eP _ (by
   funext t
   rw [ef, dB hp]
   show ax M t 0 = _
   omega)
  rw [e] at hv
  exact aU (a' := a) (m' := m) uA hv h hl rfl (by omega) (by omega) hw rfl rfl rfl
theorem IY (h : Bg w0 w b c t d p v0 g0 v g a m mx R M) (hk : R.ag.kind = 3) :
  Goes b c 1000 w (Fin w0 b c t d p v0 g0 mx (fI M (toW R.ag)).2 (nX (fI M (toW R.ag)).1) false) := by
 have hll := h.few
 have ha := h.ha
 have hm := h.hm
 have hrd : iW R.ag.kind = false := by rw [hk]; rfl
 have iK : ∀ {L : Value} {a' : Nat} {m' : Int} {R' : Wk} {P' : Pg}, Calls Tryz.prog 119 #[.pointer (some ⟨b, 0, none⟩), .pointer (some ⟨c, 0, none⟩)] w (au w b c t d p v g a' m' L R' P') → Calls Tryz.prog 64 #[.pointer (some ⟨b, 0, none⟩), .pointer (some ⟨c, 0, none⟩)] w (au w b c t d p v g a' m' L R' P') := fun hn => eZ h.sw h.cl (by rw [hk]; decide) hrd (Lf h.sw hk hn)
 by_cases hid : R.ag.id < 1 ∨ (M.L.length : Int) < R.ag.id
 ·rw [uB (toW R.ag) hid]
  exact aU (N := 999) aZ (iK (BO h.sw 7 (by decide) (wM hid))) h.sw h.left rfl (by omega) (by omega) h.ws rfl rfl rfl
 ·have hi : (R.ag.id - 1).toNat < M.L.length := by omega
  have eM := vE (M := M) hid
  by_cases hs : (M.L.getD (R.ag.id - 1).toNat default).st = 1
  ·have hE : bE M.L 0 R.ag.id (fun j : Jb => decide (j.state = 1)) = 0 := sG hid (decide_eq_true hs)
   have hr := NS h.sw hE
   have eL : bS (aj M).J 0 R.ag.id (fun j : Jb => decide (j.state = 1)) og = M.L.set (R.ag.id - 1).toNat (((M.L.getD (R.ag.id - 1).toNat default).setSt 2).aD (-1)) := nH hE
   rw [eL, wN hid, show bF (aj M).J R.ag.id = M.L.getD (R.ag.id - 1).toNat default from rG hid] at hr
   have e : fI M (toW R.ag) = (lW (((M.L.getD (R.ag.id - 1).toNat default).setSt 2).aD (-1)), { M with L := M.L.set (R.ag.id - 1).toNat (((M.L.getD (R.ag.id - 1).toNat default).setSt 2).aD (-1)) }) := by
    have hj : dV (toW R.ag).kind (M.L.getD (R.ag.id - 1).toNat default) = ((M.L.getD (R.ag.id - 1).toNat default).setSt 2).aD (-1) := by unfold dV; rw [show (toW R.ag).kind = 3 from hk]; rfl
    have hk4 : ¬ (toW R.ag).kind = 4 := by rw [show (toW R.ag).kind = 3 from hk]; decide
    unfold fI
    rw [show (toW R.ag).id = R.ag.id from rfl, eM]
    refine (if_neg (fun e => nomatch e)).trans ((if_neg ?_).trans ((if_neg hk4).trans ?_))
    ·show ¬ ((R.ag.kind = 3 ∧ (M.L.getD (R.ag.id - 1).toNat default).st ≠ 1) ∨ (R.ag.kind = 4 ∧ (M.L.getD (R.ag.id - 1).toNat default).st ≠ 2))
     omega
    ·show (lW (dV (toW R.ag).kind (M.L.getD (R.ag.id - 1).toNat default)), { M with L := M.L.set (R.ag.id - 1).toNat (dV (toW R.ag).kind (M.L.getD (R.ag.id - 1).toNat default)) }) = _
     rw [hj]
   have hI1 := (h.inv.Cy h.calm (toW R.ag)).1
   rw [e] at hI1 ⊢
   refine (eU (N := 1) (k := 64) (k' := 139) aZ (iK hr) h.sw h.left rfl fun w' v' g' hS' hw' => ?_).more (show 2 ≤ 1000 by decide)
   have := Ce (N := 0) (mx := mx) (a := a) (m := m) (y := ((M.L.getD (R.ag.id - 1).toNat default).setSt 2).aD (-1)) hi (by rw [hs]; decide) (show (2 : Int) ≠ 3 by decide) rfl rfl (by unfold ak; rw [show (((M.L.getD (R.ag.id - 1).toNat default).setSt 2).aD (-1)).aJ = -1 from rfl]; simp) h.inv hI1 h.one (by omega) (by omega) (by omega) h.hmx hS' rfl rfl (h.ws.trans hw')
   rw [show ({ ({ R with az := M.L.getD (R.ag.id - 1).toNat default, rep := iq (((M.L.getD (R.ag.id - 1).toNat default).setSt 2).aD (-1)) } : Wk) with left := eH 139 } : Wk).ok = false from h.ok] at this
   exact this
  ·have hE : bE M.L 0 R.ag.id (fun j : Jb => decide (j.state = 1)) = 8 := z8 hid (decide_eq_false hs)
   have e : fI M (toW R.ag) = (fC 8, M) := by
    unfold fI
    rw [show (toW R.ag).id = R.ag.id from rfl, eM]
    exact (if_neg (fun e => nomatch e)).trans (if_pos (.inl ⟨hk, hs⟩))
   rw [e]
   exact aU (N := 999) aZ (iK (BO h.sw 8 (by decide) hE)) h.sw h.left rfl (by omega) (by omega) h.ws rfl rfl rfl
theorem vF (h : Bg w0 w b c t d p v0 g0 v g a m mx R M) (s : Int) (hk : (R.ag.kind = 2 ∧ s = 5) ∨ (R.ag.kind = 5 ∧ s = 4)) :
  Goes b c 1000 w (Fin w0 b c t d p v0 g0 mx (lH M (toW R.ag)).2 (nX (lH M (toW R.ag)).1) false) := by
 have hll := h.few
 have ha := h.ha
 have hm := h.hm
 have jG := h.inv.mb.now
 have dm := ed h.inv h.one (by omega)
 have hrd : iW R.ag.kind = false := by rcases hk with ⟨hk, _⟩ | ⟨hk, _⟩ <;> (rw [hk]; rfl)
 have iK : ∀ {L : Value} {a' : Nat} {m' : Int} {R' : Wk} {P' : Pg}, Calls Tryz.prog 118 #[.pointer (some ⟨b, 0, none⟩), .pointer (some ⟨c, 0, none⟩), .int .i64 s] w (au w b c t d p v g a' m' L R' P') → Calls Tryz.prog 64 #[.pointer (some ⟨b, 0, none⟩), .pointer (some ⟨c, 0, none⟩)] w (au w b c t d p v g a' m' L R' P') := fun hn => by
  rcases hk with ⟨hk, rfl⟩ | ⟨hk, rfl⟩
  ·exact eZ h.sw h.cl (by rw [hk]; decide) hrd (Ld h.sw hk hn)
  ·exact eZ h.sw h.cl (by rw [hk]; decide) hrd (Le h.sw hk hn)
 have QS : bg s M.now = 0 := by unfold bg; (repeat' split) <;> omega
 by_cases hid : R.ag.id < 1 ∨ (M.L.length : Int) < R.ag.id
 ·rw [Lr (toW R.ag) hid]
  exact aU (N := 999) aZ (iK (xJ h.sw dm s 7 (by decide) (by rw [show (aj M).now = M.now from rfl, QS]; exact wM hid))) h.sw h.left rfl (by omega) (by omega) h.ws rfl rfl rfl
 ·have hi : (R.ag.id - 1).toNat < M.L.length := by omega
  have hmem := aV hi
  have bo := h.inv.one _ hmem
  have eM := vE (M := M) hid
  by_cases hs : dP s (M.L.getD (R.ag.id - 1).toNat default) = true
  ·have hE : bE (aj M).J (bg s (aj M).now) R.ag.id (dP s) = 0 := by rw [show (aj M).now = M.now from rfl, QS]; exact sG hid hs
   have hr := Ip h.sw dm s hE
   obtain ⟨y, Ls⟩ : ∃ y, y = gY M R.ag.kind (M.L.getD (R.ag.id - 1).toNat default) := ⟨_, rfl⟩
   have hyj : bH s M.now (M.L.getD (R.ag.id - 1).toNat default) = y := by
    rw [Ls]
    unfold gY bH
    have es : (if R.ag.kind = 5 then (4 : Int) else 5) = s := by split <;> omega
    rw [es]
    by_cases e3 : (M.L.getD (R.ag.id - 1).toNat default).st = 3
    ·rw [if_pos e3, if_pos (show (M.L.getD (R.ag.id - 1).toNat default).2.2.2.2.2.1 = 3 from e3)]; rfl
    ·rw [if_neg e3, if_neg (show ¬ (M.L.getD (R.ag.id - 1).toNat default).2.2.2.2.2.1 = 3 from e3)]; rfl
   have eL : bS (aj M).J (bg s (aj M).now) R.ag.id (dP s) (bH s (aj M).now) = M.L.set (R.ag.id - 1).toNat y := (nH hE).trans (by rw [← hyj]; rfl)
   rw [eL, wN hid, show bF (aj M).J R.ag.id = M.L.getD (R.ag.id - 1).toNat default from rG hid] at hr
   have hok : ¬ (3 < (M.L.getD (R.ag.id - 1).toNat default).st ∨ (R.ag.kind = 5 ∧ (M.L.getD (R.ag.id - 1).toNat default).st ≠ 3)) := by
    unfold dP at hs
    rw [Bool.or_eq_true, Bool.and_eq_true, decide_eq_true_iff, decide_eq_true_iff, decide_eq_true_iff] at hs
    have : (M.L.getD (R.ag.id - 1).toNat default).state = (M.L.getD (R.ag.id - 1).toNat default).st := rfl
    omega
   have e : lH M (toW R.ag) = (lW y, { M with L := M.L.set (R.ag.id - 1).toNat y }) := by
    unfold lH
    rw [show (toW R.ag).id = R.ag.id from rfl, eM]
    refine (if_neg (fun e => nomatch e)).trans ((if_neg hok).trans ?_)
    rw [Ls]
    rfl
   have hI1 := (h.inv.Jf h.calm (toW R.ag)).1
   rw [e] at hI1 ⊢
   have hy3 : y.st ≠ 3 := by
    rw [Ls]
    show (if R.ag.kind = 5 then (4 : Int) else 5) ≠ 3
    split <;> omega
   have hyp : ak y = false := by
    unfold ak
    rw [show y.aJ = -1 by rw [Ls]; rfl]
    simp
   have QT : y.bG = (M.L.getD (R.ag.id - 1).toNat default).bG := by rw [Ls]; unfold gY; split <;> rfl
   refine (eU (N := 2) (k := 64) (k' := 137) aZ (iK hr) h.sw h.left rfl fun w' v' g' hS' hw' => ?_).more (show 3 ≤ 1000 by decide)
   clear Ls hyj
   have kK := ed hI1 h.one (by rw [List.length_set]; omega)
   by_cases h3 : (M.L.getD (R.ag.id - 1).toNat default).st = 3
   ·have hrn := h.inv.runs _ hmem h3
    have Jg := h.inv.mb.bG _ hmem
    have hfin := h.inv.mb.fin _ hmem
    have hlt := h.calm.runs _ hmem h3
    have hg := KP hS' ⟨dm.now, kK.few, kK.st, kK.lim, dm.p9, dm.f⟩ h3 Jg
    obtain ⟨n, hn⟩ : ∃ n : Int, n = ((List.range M.dr.length).countP (fun k => bU (M.L.getD (R.ag.id - 1).toNat default).bG.toNat k && !(M.dr.getD k false)) : Nat) := ⟨_, rfl⟩
    have hn2 : 0 ≤ n ∧ n ≤ 64 := by
     have h4 := List.countP_le_length (p := fun k => bU (M.L.getD (R.ag.id - 1).toNat default).bG.toNat k && !(M.dr.getD k false)) (l := List.range M.dr.length)
     rw [List.length_range] at h4
     have := h.inv.mb.nn
     omega
    refine eU (N := 1) (k := 137) (k' := 139) (a' := a) (m' := m)
     (R' := { ({ ({ R with az := M.L.getD (R.ag.id - 1).toNat default, rep := iq y } : Wk) with left := eH 137 } : Wk) with idle := n }) (P' := { aj M with J := M.L.set (R.ag.id - 1).toNat y, T := bX { M with L := M.L.set (R.ag.id - 1).toNat y } })
     Gb (hg.mono fun e w' hp => ?_) hS' rfl rfl fun w2 v2 g2 hS2 hw2 => ?_
    ·obtain ⟨n', x', T', h5, h6⟩ := hp
     obtain ⟨h7, _, h8⟩ := BD h.inv hi h3 hy3 h5
     rw [← hn] at h7
     subst h7 h8
     exact h6
    ·have hv := FJ hS2 ⟨dm.now, kK.few, kK.st, kK.lim, kK.p9, dm.f⟩ (by omega) (by have := h.hmx; omega) h3 (h.inv.mb.aJ _ hmem).2 (h.inv.mb.lim _ hmem) ⟨hlt, hfin.2⟩ (by show -64 ≤ n ∧ n ≤ 64; omega) (fun t => ax { M with L := M.L.set (R.ag.id - 1).toNat y } t 0) (fun t ht => by
      have hf := pM h.inv.ky hi h3 hy3 hyp t 0
      show ax { M with L := M.L.set (R.ag.id - 1).toNat y } t 0 = ax M t 0 + had (max M.now M.now) (M.L.getD (R.ag.id - 1).toNat default).fin n t
      have ht' : M.now ≤ t := ht
      unfold had
      by_cases c1 : t < (M.L.getD (R.ag.id - 1).toNat default).fin
      ·rw [if_pos c1] at hf
       rw [if_pos ⟨by omega, .inl c1⟩, hf, hn]
      ·rw [if_neg c1] at hf
       rw [if_neg (by omega), hf]
       rfl) (fun t ht => kK.f t ht)
     exact aU (N := 0) uA hv hS2 rfl rfl (by omega) (by omega) ((h.ws.trans hw').trans hw2) rfl rfl h.ok
   ·have hg := NC hS' h3
    refine eU (N := 1) (k := 137) (k' := 139) Gb hg hS' rfl rfl fun w2 v2 g2 hS2 hw2 => ?_
    have TS : y.fin = (M.L.getD (R.ag.id - 1).toNat default).fin := by
     have : y = bH s M.now (M.L.getD (R.ag.id - 1).toNat default) := by
      have := congrArg (fun l : List Jb => l.getD (R.ag.id - 1).toNat default) eL
      rw [show bS (aj M).J (bg s (aj M).now) R.ag.id (dP s) (bH s (aj M).now) = M.L.set (R.ag.id - 1).toNat (bH s M.now (M.L.getD (R.ag.id - 1).toNat default)) from nH hE] at this
      simp only [fD] at this
      rw [if_pos ⟨trivial, hi⟩, if_pos ⟨trivial, hi⟩] at this
      exact this.symm
     rw [this]
     show (if (M.L.getD (R.ag.id - 1).toNat default).2.2.2.2.2.1 = 3 then M.now else _) = _
     rw [if_neg (show ¬ (M.L.getD (R.ag.id - 1).toNat default).2.2.2.2.2.1 = 3 from h3)]
     rfl
    have := Ce (N := 0) (mx := mx) (a := a) (m := m) (y := y) hi h3 hy3 QT TS hyp h.inv hI1 h.one (by omega) (by omega) (by omega) h.hmx hS2 rfl rfl ((h.ws.trans hw').trans hw2)
    rw [show ({ ({ ({ R with az := M.L.getD (R.ag.id - 1).toNat default, rep := iq y } : Wk) with left := eH 137 } : Wk) with left := eH 139 } : Wk).ok = false from h.ok] at this
    exact this
  ·rw [Bool.not_eq_true] at hs
   have hE : bE M.L (bg s M.now) R.ag.id (dP s) = 8 := by rw [QS]; exact z8 hid hs
   have hno : 3 < (M.L.getD (R.ag.id - 1).toNat default).st ∨ (R.ag.kind = 5 ∧ (M.L.getD (R.ag.id - 1).toNat default).st ≠ 3) := by
    unfold dP at hs
    rw [Bool.or_eq_false_iff, Bool.and_eq_false_iff, decide_eq_false_iff_not, decide_eq_false_iff_not, decide_eq_false_iff_not] at hs
    have : (M.L.getD (R.ag.id - 1).toNat default).state = (M.L.getD (R.ag.id - 1).toNat default).st := rfl
    omega
   have e : lH M (toW R.ag) = (fC 8, M) := by
    unfold lH
    rw [show (toW R.ag).id = R.ag.id from rfl, eM]
    exact (if_neg (fun e => nomatch e)).trans (if_pos hno)
   rw [e]
   exact aU (N := 999) aZ (iK (xJ h.sw dm s 8 (by decide) hE)) h.sw h.left rfl (by omega) (by omega) h.ws rfl rfl rfl
end
end Go.Proofs.YtkhfejihijdipaaGreat

namespace Go.Proofs.YtkhfejihijdipaaGreat
open Go.RowKit Go.Lib Go.Sort
section
variable {w0 w : World} {b c t d p g g0 a N : Nat} {v v0 : Value} {m mx : Int} {P : Pg} {M M' : Md} {R : Wk} {Q : World → Prop}
theorem Oe {k : Nat} (hk : k < 64) (L : List Jb) : (holderL L k < 0 ∧ jU L k = gB) ∨ ∃ i : Nat, holderL L k = i ∧ i < L.length ∧ jU L k = L.getD i default ∧ (L.getD i default).st = 3 := by
 have e : (fun j : Jb => decide (j.state ∈ [(3 : Int)]) && BN (k : Int) j) = aF k := by
  funext j
  unfold aF BN
  rw [mF hk, jX]
  have : (j.state ∈ [(3 : Int)]) ↔ (j.st = 3) := List.mem_singleton
  rw [decide_eq_decide.2 this]
 have e2 : jU L (k : Int) = match L.findIdx? (aF k) with | some i => L.getD i default | none => gB := by
  unfold jU
  rw [e]
  cases L.findIdx? (aF k) <;> rfl
 rcases eB L k with h | ⟨i, h, hi, h2⟩
 ·refine .inl ⟨h, ?_⟩
  rw [e2]
  unfold holderL at h
  cases hf : L.findIdx? (aF k) with
  | none => rfl
  | some i => rw [hf] at h; simp only at h; omega
 ·refine .inr ⟨i, h, hi, ?_, by unfold aF at h2; simp at h2; exact h2.1⟩
  rw [e2]
  unfold holderL at h
  cases hf : L.findIdx? (aF k) with
  | none => rw [hf] at h; simp only at h; omega
  | some q =>
   rw [hf] at h
   simp only at h
   have : q = i := by omega
   subst this
   rfl
theorem uC {k : Nat} {bb : Bool} (hk : k < M.dr.length) (hb : M.dr.getD k false = !bb) (hI : aC M) (hC : ∀ j ∈ M.L, j.st = 3 → M.now < j.fin) (h1 : 1 ≤ M.dr.length) (hll : M.L.length ≤ 900)
  (hI' : aC { M with dr := M.dr.set k bb }) (hn : R.ag.node = k) (ha : a ≤ 800) (hm : m ≤ 1000000) {by' : Int} (hby : by' = if bb then -1 else 1)
  (h : SW w b c t d p v g a m R { aj M with T := bX { M with dr := M.dr.set k bb } }) :
  Calls Tryz.prog 142 #[.pointer (some ⟨b, 0, none⟩), .pointer (some ⟨c, 0, none⟩), .int .i64 0, .int .i64 by'] w
   (au w b c t d p v g (a + 2) (m + 1) .nilFunc { R with rep := ⟨0, (k : Int), aO { M with dr := M.dr.set k bb } k, 0, 0, 0, 0, 0, 0⟩ } (aj { M with dr := M.dr.set k bb })) := by
 have hnn := hI.mb.nn
 have jG := hI.mb.now
 have dm := ed hI h1 hll
 have kK := ed hI' (by show 1 ≤ (M.dr.set k bb).length; rw [List.length_set]; exact h1) hll
 have hX : (max (gH (aj M) (k : Int)) M.now < 1152921504606846976) ∧ ∀ u, M.now ≤ u → ((decide (holderL M.L k < 0) || decide ((M.L.getD (holderL M.L k).toNat default).fin ≤ u)) = decide (max (gH (aj M) (k : Int)) M.now ≤ u)) := by
  rcases Oe (show k < 64 by omega) M.L with ⟨g1, g2⟩ | ⟨i, g1, hi, g2, g3⟩
  ·have e : gH (aj M) (k : Int) = M.now := by
    unfold gH
    rw [show (aj M).J = M.L from rfl, g2]
    rfl
   rw [e]
   refine ⟨by omega, fun u hu => ?_⟩
   rw [decide_eq_true g1, Bool.true_or]
   exact (decide_eq_true (by omega)).symm
  ·have hf := hC _ (aV hi) g3
   have hf2 := hI.mb.fin _ (aV hi)
   have e : gH (aj M) (k : Int) = max (M.L.getD i default).fin (M.now + 1) := by
    unfold gH
    rw [show (aj M).J = M.L from rfl, g2, if_pos g3]
    rfl
   rw [e, g1, Int.toNat_natCast]
   refine ⟨by omega, fun u hu => ?_⟩
   rw [decide_eq_false (show ¬ ((i : Int) < 0) by omega), Bool.false_or]
   exact decide_eq_decide.2 (by omega)
 have TT : oq (bX { M with dr := M.dr.set k bb }) (k : Int) = aO { M with dr := M.dr.set k bb } k := by
  unfold oq
  rw [if_pos ⟨by omega, by rw [bq]; show (k : Int) < ((M.dr.set k bb).length : Nat); rw [List.length_set]; omega⟩, Int.toNat_natCast, bW]
 have hv := Iq (by' := by') h ⟨dm.now, dm.few, dm.st, dm.lim, kK.p9, dm.f⟩ ha hm hI.mb.bG (by omega) (by rw [hby]; split <;> omega) (fun u => ax { M with dr := M.dr.set k bb } u 0) (fun u hu => by
  have hu' : M.now ≤ u := hu
  have hd := uM hk bb u 0
  have hx := hX.2 u hu'
  rw [hn]
  show ax { M with dr := M.dr.set k bb } u 0 = ax M u 0 + had (max (gH (aj M) (k : Int)) M.now) 1152921504606846976 by' u
  have hnf : bN M u k = (!(M.dr.getD k false) && decide (max (gH (aj M) (k : Int)) M.now ≤ u)) := by rw [← hx]; rfl
  have hh : had (max (gH (aj M) (k : Int)) M.now) 1152921504606846976 by' u = if max (gH (aj M) (k : Int)) M.now ≤ u then by' else 0 := by unfold had; simp
  rw [hd, hnf, hx, hb, hh, hby]
  by_cases c1 : max (gH (aj M) (k : Int)) M.now ≤ u
  ·rw [decide_eq_true c1, if_pos c1]
   cases bb <;> simp <;> omega
  ·rw [decide_eq_false c1, if_neg c1]
   cases bb <;> simp) (fun u hu => kK.f u hu) (by
  rw [hn]
  have : gH { aj M with T := bX { M with dr := M.dr.set k bb } } (k : Int) = gH (aj M) (k : Int) := rfl
  rw [this]
  omega)
 rw [hn, show ({ aj M with T := bX { M with dr := M.dr.set k bb } } : Pg).T = bX { M with dr := M.dr.set k bb } from rfl, TT] at hv
 exact hv
theorem drain_eq {n : Nat} (h : dF kL M.L = none) : eY M n true = { M with dr := M.dr.set n true } := by
 unfold eY
 rw [if_pos rfl, pR h]
theorem uD {k : Nat} (hk : k < M.dr.length) {bb : Bool} (hb : M.dr.getD k false = !bb) : lh (bX M) (k : Int) bb 0 (bX { M with dr := M.dr.set k bb }) := by
 have hd : bb = decide ((bX M).getD (k : Int).toNat 0 < 3) := by
  rw [Int.toNat_natCast, bW, dO hk, hb]
  cases bb <;> (by_cases h1 : 0 ≤ holderL M.L k <;> simp [h1])
 have hc : lh (bX M) (k : Int) bb 0 ((bX M).set (k : Int).toNat (jI ((bX M).getD (k : Int).toNat 0))) :=
  ⟨fun h => absurd h (by rw [bq]; omega), fun _ _ h => absurd hd h, fun _ _ _ => ⟨rfl, rfl⟩⟩
 have e := (Fj hk hb hc).2
 rw [e] at hc
 exact hc
theorem DL (h : Bg w0 w b c t d p v0 g0 v g a m mx R M) (hk : R.ag.kind = 8) (hnd : -9223372036854775808 ≤ R.ag.node ∧ R.ag.node ≤ 9223372036854775807) :
  Goes b c 1000 w (Fin w0 b c t d p v0 g0 mx (gT M (toW R.ag)).2 (nX (gT M (toW R.ag)).1) false) := by
 have hll := h.few
 have ha := h.ha
 have hm := h.hm
 have hmx := h.hmx
 have dm := ed h.inv h.one (by omega)
 have hrd : iW R.ag.kind = false := by rw [hk]; rfl
 have iK : ∀ {L : Value} {a' : Nat} {m' : Int} {R' : Wk} {P' : Pg}, Calls Tryz.prog 122 #[.pointer (some ⟨b, 0, none⟩), .pointer (some ⟨c, 0, none⟩)] w (au w b c t d p v g a' m' L R' P') → Calls Tryz.prog 64 #[.pointer (some ⟨b, 0, none⟩), .pointer (some ⟨c, 0, none⟩)] w (au w b c t d p v g a' m' L R' P') := fun hn => eZ h.sw h.cl (by rw [hk]; decide) hrd (Li h.sw hk hn)
 have hd7 : decide ((toW R.ag).kind = 7) = false := decide_eq_false (by rw [show (toW R.ag).kind = 8 from hk]; decide)
 by_cases ho : R.ag.node < 0 ∨ (M.dr.length : Int) ≤ R.ag.node
 ·have e : gT M (toW R.ag) = (fC 11, M) := if_pos ho
  have hT : lh (bX M) R.ag.node false 11 (bX M) := ⟨fun _ => ⟨rfl, rfl⟩, fun h1 h2 => by rw [bq] at h2; omega, fun h1 h2 => by rw [bq] at h2; omega⟩
  rw [e]
  refine aU (N := 999) (a' := a) (m' := m) (R' := { R with rep := jJ 11, ok := false }) aZ (iK (resume_fn (P' := aj M) h.sw dm hnd hT fun W v1 g1 hW => ?_)) h.sw h.left rfl (by omega) (by omega) h.ws rfl rfl rfl
  exact BP hW 11 1 (by decide)
 ·obtain ⟨k, hkk⟩ := Int.eq_ofNat_of_zero_le (show 0 ≤ R.ag.node by omega)
  have hk2 : k < M.dr.length := by omega
  cases hdr : M.dr.getD k false with
  | false =>
   have e : gT M (toW R.ag) = (fC 8, M) := by
    unfold gT
    refine (if_neg ho).trans (if_pos ?_)
    rw [hd7, show (toW R.ag).node = R.ag.node from rfl, hkk, Int.toNat_natCast, hdr]
   have hs : (bX M).getD R.ag.node.toNat 0 < 3 := by
    rw [hkk, Int.toNat_natCast, bW, dO hk2, hdr]
    split <;> simp
   have hT : lh (bX M) R.ag.node false 8 (bX M) := ⟨fun h1 => by rw [bq] at h1; omega, fun _ _ _ => ⟨rfl, rfl⟩, fun _ _ h3 => by rw [decide_eq_true hs] at h3; cases h3⟩
   rw [e]
   refine aU (N := 999) (a' := a) (m' := m) (R' := { R with rep := jJ 8, ok := false }) aZ (iK (resume_fn (P' := aj M) h.sw dm hnd hT fun W v1 g1 hW => ?_)) h.sw h.left rfl (by omega) (by omega) h.ws rfl rfl rfl
   exact BP hW 8 1 (by decide)
  | true =>
   have e : gT M (toW R.ag) = ((0, (k : Int), aO { M with dr := M.dr.set k false } (k : Int), 0, 0, 0, 0, 0, 0), { M with dr := M.dr.set k false }) := by
    unfold gT
    refine (if_neg ho).trans ((if_neg ?_).trans ?_)
    ·rw [hd7, show (toW R.ag).node = R.ag.node from rfl, hkk, Int.toNat_natCast, hdr]
     exact fun e => nomatch e
    ·rw [hd7, show (toW R.ag).node = R.ag.node from rfl, hkk, Int.toNat_natCast]
     rfl
   have hI' := (h.inv.Gu h.calm (toW R.ag)).1
   rw [e] at hI' ⊢
   have hT := uD hk2 (bb := false) hdr
   rw [← hkk] at hT
   refine aU (N := 999) aZ (iK (resume_fn h.sw dm hnd hT fun W v1 g1 hW => uC (bb := false) (by' := 1) hk2 hdr h.inv h.calm.runs h.one (by omega) hI' hkk (by omega) (by omega) rfl hW)) h.sw h.left rfl (by omega) (by omega) h.ws rfl rfl h.ok
theorem Gc {k : Nat} (hl : R.left = eH 141) (hkk : R.ag.node = k) (hk : k < M.dr.length) (hdr : M.dr.getD k false = false) (h1 : 1 ≤ M.dr.length) (hll : M.L.length ≤ 900) (hmx : mx ≤ 1000000) (hI' : aC (eY M k true)) (q : Nat) :
  ∀ {L : List Jb} {w : World} {v : Value} {g a : Nat} {m : Int}, L.length = M.L.length → hits kL L ≤ q → aC { M with L := L } → (∀ j ∈ L, j.st = 3 → M.now < j.fin) → fe { M with L := L } kL = fe M kL → SW w b c t d p v g a m R (aj { M with L := L }) → a + 2 * hits kL L + 2 ≤ 800 → m + hits kL L + 1 ≤ mx → WS w0 w b c t d p v0 g0 v g →
   Goes b c (q + 1) w (Fin w0 b c t d p v0 g0 mx (eY M k true) ⟨0, (k : Int), aO (eY M k true) k, 0, 0, 0, 0, 0, 0⟩ R.ok) := by
 have last : ∀ {L : List Jb} {w : World} {v : Value} {g a : Nat} {m : Int} (q : Nat), L.length = M.L.length → dF kL L = none → aC { M with L := L } → (∀ j ∈ L, j.st = 3 → M.now < j.fin) → fe { M with L := L } kL = fe M kL → SW w b c t d p v g a m R (aj { M with L := L }) → a + 2 ≤ 800 → m + 1 ≤ mx → WS w0 w b c t d p v0 g0 v g →
   Goes b c (q + 1) w (Fin w0 b c t d p v0 g0 mx (eY M k true) ⟨0, (k : Int), aO (eY M k true) k, 0, 0, 0, 0, 0, 0⟩ R.ok) := by
  intro L w v g a m q hL ho hI hC hM hS ha hm hw
  have eD : eY M k true = { M with L := L, dr := M.dr.set k true } := by
   have h2 := pR (M := { M with L := L }) ho
   rw [h2] at hM
   unfold eY
   rw [if_pos rfl, ← hM]
  rw [eD] at hI' ⊢
  have hT := uD (M := { M with L := L }) (k := k) hk (bb := true) hdr
  rw [← hkk] at hT
  refine aU (N := q) Cb (xL (M := { M with L := L }) hS (ed hI h1 (by show L.length ≤ 900; omega)) rfl hI h1 (by show L.length ≤ 900; omega) (by omega) (by omega) ho (by have := hI.mb.nn; have : M.dr.length ≤ 64 := this; omega) hT fun W v1 g1 hW => uC (M := { M with L := L }) (bb := true) (by' := -1) hk hdr hI hC h1 (by show L.length ≤ 900; omega) hI' hkk (by omega) (by omega) rfl hW) hS hl rfl (by omega) (by omega) hw rfl rfl rfl
 induction q with
 | zero =>
  intro L w v g a m hL hq hI hC hM hS ha hm hw
  cases ho : dF kL L with
  | none => exact last 0 hL ho hI hC hM hS (by omega) (by omega) hw
  | some i =>
   have := (iO (L := L) ho).2.2.2.2
   omega
 | succ q ih =>
  intro L w v g a m hL hq hI hC hM hS ha hm hw
  cases ho : dF kL L with
  | none => exact last (q + 1) hL ho hI hC hM hS (by omega) (by omega) hw
  | some i =>
   obtain ⟨hi, _, _, _, hh⟩ := iO ho
   refine eU (k := 141) (k' := 141) Cb (xM (M := { M with L := L }) hS hI h1 (by show L.length ≤ 900; omega) (by omega) (by omega) ho) hS hl rfl fun w' v' g' hS' hw' => ?_
   rw [← hl] at hS'
   refine ih (L := L.set i ((L.getD i default).aD (-1))) (by rw [List.length_set]; exact hL) (by omega) (hI.uP hi) (fun j hj => ?_) ((tQ (M := { M with L := L }) ho).trans hM) hS' (by omega) (by omega) (hw.trans hw')
   rcases List.mem_or_eq_of_mem_set hj with h2 | rfl
   ·exact hC j h2
   ·exact fun hs => hC (L.getD i default) (aV hi) hs
theorem Gd (h : Bg w0 w b c t d p v0 g0 v g a m mx R M) (hk : R.ag.kind = 7) (hnd : -9223372036854775808 ≤ R.ag.node ∧ R.ag.node ≤ 9223372036854775807) :
  Goes b c 1000 w (Fin w0 b c t d p v0 g0 mx (gT M (toW R.ag)).2 (nX (gT M (toW R.ag)).1) false) := by
 have hll := h.few
 have ha := h.ha
 have hm := h.hm
 have hmx := h.hmx
 have dm := ed h.inv h.one (by omega)
 have hrd : iW R.ag.kind = false := by rw [hk]; rfl
 have iK : ∀ {L : Value} {a' : Nat} {m' : Int} {R' : Wk} {P' : Pg}, Calls Tryz.prog 121 #[.pointer (some ⟨b, 0, none⟩), .pointer (some ⟨c, 0, none⟩)] w (au w b c t d p v g a' m' L R' P') → Calls Tryz.prog 64 #[.pointer (some ⟨b, 0, none⟩), .pointer (some ⟨c, 0, none⟩)] w (au w b c t d p v g a' m' L R' P') := fun hn => eZ h.sw h.cl (by rw [hk]; decide) hrd (Lh h.sw hk hn)
 have hd7 : decide ((toW R.ag).kind = 7) = true := decide_eq_true hk
 by_cases ho : R.ag.node < 0 ∨ (M.dr.length : Int) ≤ R.ag.node
 ·have e : gT M (toW R.ag) = (fC 11, M) := if_pos ho
  rw [e]
  exact aU (N := 999) aZ (iK (BZ h.sw dm hnd 11 (.inl ⟨by
   unfold oq
   rw [if_neg (by rw [show (aj M).T = bX M from rfl, bq]; omega)], rfl⟩))) h.sw h.left rfl (by omega) (by omega) h.ws rfl rfl rfl
 ·obtain ⟨k, hkk⟩ := Int.eq_ofNat_of_zero_le (show 0 ≤ R.ag.node by omega)
  have hk2 : k < M.dr.length := by omega
  have est : oq (aj M).T R.ag.node = aO M (k : Int) := by
   unfold oq
   rw [if_pos ⟨by omega, by rw [show (aj M).T = bX M from rfl, bq]; omega⟩, hkk, Int.toNat_natCast]
   exact bW k
  cases hdr : M.dr.getD k false with
  | true =>
   have e : gT M (toW R.ag) = (fC 8, M) := by
    unfold gT
    refine (if_neg ho).trans (if_pos ?_)
    rw [hd7, show (toW R.ag).node = R.ag.node from rfl, hkk, Int.toNat_natCast, hdr]
   rw [e]
   exact aU (N := 999) aZ (iK (BZ h.sw dm hnd 8 (.inr ⟨by
    rw [est, dO hk2, hdr]
    split <;> simp, rfl⟩))) h.sw h.left rfl (by omega) (by omega) h.ws rfl rfl rfl
  | false =>
   have e : gT M (toW R.ag) = ((0, (k : Int), aO (eY M k true) (k : Int), 0, 0, 0, 0, 0, 0), eY M k true) := by
    unfold gT
    refine (if_neg ho).trans ((if_neg ?_).trans ?_)
    ·rw [hd7, show (toW R.ag).node = R.ag.node from rfl, hkk, Int.toNat_natCast, hdr]
     exact fun e => nomatch e
    ·rw [hd7, show (toW R.ag).node = R.ag.node from rfl, hkk, Int.toNat_natCast]
   have hI' := (h.inv.Gu h.calm (toW R.ag)).1
   rw [e] at hI' ⊢
   have hst : oq (aj M).T R.ag.node = 1 ∨ oq (aj M).T R.ag.node = 2 := by
    rw [est, dO hk2, hdr]
    split <;> simp
   have SX := zZ kL M.L
   cases hz : dF kL M.L with
   | none =>
    have eD := drain_eq (n := k) hz
    have hI2 : aC { M with dr := M.dr.set k true } := by rw [← eD]; exact hI'
    have hT := uD hk2 (bb := true) hdr
    rw [← hkk] at hT
    show Goes b c 1000 w (Fin w0 b c t d p v0 g0 mx (eY M k true) ⟨0, (k : Int), aO (eY M k true) k, 0, 0, 0, 0, 0, 0⟩ false)
    rw [eD]
    refine aU (N := 999) aZ (iK (BU h.sw dm hnd hst fun W hW => xL hW dm rfl h.inv h.one (by omega) (by omega) (by omega) hz hnd hT fun W2 v1 g1 hW2 => uC (bb := true) (by' := -1) hk2 hdr h.inv h.calm.runs h.one (by omega) hI2 hkk (by omega) (by omega) rfl hW2)) h.sw h.left rfl (by omega) (by omega) h.ws rfl rfl h.ok
   | some i =>
    obtain ⟨hi, _, _, _, hh⟩ := iO hz
    refine (eU (N := 901) (k := 64) (k' := 141) aZ (iK (BU h.sw dm hnd hst fun W hW => xM hW h.inv h.one (by omega) (by omega) (by omega) hz)) h.sw h.left rfl fun w' v' g' hS' hw' => ?_).more (show 902 ≤ 1000 by decide)
    have := Gc (M := M) (R := { R with left := eH 141 }) (w0 := w0) (b := b) (c := c) (t := t) (d := d) (p := p) (v0 := v0) (g0 := g0) (mx := mx) (k := k) rfl hkk hk2 hdr h.one (by omega) hmx hI' 900 (L := M.L.set i ((M.L.getD i default).aD (-1))) (by rw [List.length_set]) (by omega) (h.inv.uP hi) (fun j hj => by
     rcases List.mem_or_eq_of_mem_set hj with h2 | rfl
     ·exact h.calm.runs j h2
     ·exact fun hs => h.calm.runs (M.L.getD i default) (aV hi) hs) (tQ hz) hS' (by omega) (by omega) (h.ws.trans hw')
    rw [show ({ R with left := eH 141 } : Wk).ok = false from h.ok] at this
    exact this
end
end Go.Proofs.YtkhfejihijdipaaGreat

namespace Go.Proofs.YtkhfejihijdipaaGreat
open Go.RowKit Go.Lib Go.Sort
section
variable {M : Md}
theorem Early.set (h : Early M) {i : Nat} {y : Jb} (hy : y.st ≤ 2 → y.fin = -1) : Early { M with L := M.L.set i y } := fun j hj => by
 rcases List.mem_or_eq_of_mem_set hj with h1 | rfl
 ·exact h j h1
 ·exact hy
theorem Early.map (h : Early M) {f : Jb → Jb} (hf : ∀ j : Jb, (j.st ≤ 2 → j.fin = -1) → ((f j).st ≤ 2 → (f j).fin = -1)) : Early { M with L := M.L.map f } := fun j hj => by
 obtain ⟨x, hx, rfl⟩ := List.mem_map.1 hj
 exact hf x (h x hx)
theorem Early.drop (h : Early M) (j : Jb) : Early (fe M j) := h.map fun x hx => by
 unfold fZ
 split
 ·exact hx
 ·exact hx
theorem Early.begin (h : Early M) (i : Nat) : Early (aT M i) := h.set fun hs => absurd hs (show ¬ (3 : Int) ≤ 2 by decide)
theorem Early.starts (n : Nat) (h : Early M) : Early (startGo n M) := by
 induction n generalizing M with
 | zero => exact h
 | succ n ih =>
  unfold startGo
  split
  ·exact ih (h.begin _)
  ·exact ih h
theorem Early.pQ (h : Early M) : Early (dw M) := by
 refine Early.starts _ (h.map fun x hx => ?_)
 unfold aQ
 split
 ·exact fun hs => absurd hs (show ¬ (6 : Int) ≤ 2 by decide)
 ·exact hx
theorem Early.dW (to : Int) (n : Nat) (h : Early M) : Early (dW to n M) := by
 induction n generalizing M with
 | zero => exact h
 | succ n ih =>
  unfold Proofs.YtkhfejihijdipaaGreat.dW
  split
  ·exact h
  ·refine ih (Early.pQ ?_)
   exact h
theorem Early.Eo (h : Early M) (r : Rw) : Early (gZ M r).2 := by
 have same : Early { M with cl := true } := h
 unfold gZ
 repeat' split
 all_goals first | exact h | exact same | skip
 ·unfold iL
  have ha : Early { M with L := M.L ++ [bR M r] } := fun j hj => by
   rcases List.mem_append.1 hj with h1 | h1
   ·exact h j h1
   ·rw [List.mem_singleton] at h1; subst h1; exact fun _ => rfl
  repeat' split
  ·exact h
  ·exact ha
  ·exact ha.drop _
 ·unfold lH
  simp only
  repeat' split
  ·exact h
  ·exact h
  ·refine h.set fun hs => ?_
   have e : (gY M r.kind (getM M r.id).1).st = if r.kind = 5 then 4 else 5 := rfl
   rw [e] at hs
   split at hs <;> omega
 ·unfold fI
  simp only
  have hx : ((getM M r.id).2 = false) ∨ (getM M r.id).1 ∈ M.L := by
   cases hg : (getM M r.id).2 with
   | false => exact .inl rfl
   | true => exact .inr (jW hg).1
  by_cases h1 : (getM M r.id).2 = false
  ·rw [if_pos h1]; exact h
  ·rw [if_neg h1]
   have hm := hx.resolve_left h1
   have hx1 := h _ hm
   split
   ·exact h
   ·rename_i h2
    have hy : (dV r.kind (getM M r.id).1).st ≤ 2 → (dV r.kind (getM M r.id).1).fin = -1 := by
     unfold dV
     split
     ·rename_i h3
      exact fun _ => hx1 (by by_cases e : (getM M r.id).1.st = 1 <;> omega)
     ·split
      ·rename_i h3
       exact fun _ => hx1 (by by_cases e : (getM M r.id).1.st = 2 <;> omega)
      ·exact hx1
    split
    ·exact (h.set hy).drop _
    ·exact h.set hy
 ·unfold gT
  repeat' split
  ·exact h
  ·exact h
  ·unfold eY
   split
   ·exact h.drop kL
   ·exact h
 ·unfold lX
  split
  ·exact h
  ·exact h.dW _ _
theorem Early.jM (h : Early M) (id t : Int) : Early (fo M id t).2 := by
 unfold fo
 split
 ·rename_i hf
  split
  ·exact h.begin _
  ·by_cases hi : (id - 1).toNat < M.L.length
   ·refine h.set fun hs => ?_
    exact h (M.L.getD (id - 1).toNat default) (aV hi) hs
   ·show Early { M with L := M.L.set (id - 1).toNat _ }
    rw [List.set_eq_of_length_le (by omega)]
    exact h
 ·exact h
theorem IZ (n : Nat) : Early (fT n) := fun _ hj => nomatch hj
theorem Lt (f : Nat → Bool) (n j : Nat) (h : ∀ k, n ≤ k → f k = false) : aL f (n + j) = aL f n := by
 induction j with
 | zero => rfl
 | succ j ih =>
  show aL f (n + j) + (if f (n + j) = true then 1 else 0) = _
  rw [h (n + j) (by omega), ih]
  simp
theorem rH (h : aC M) (f : Nat → Bool) (x y : Int) (hf : ∀ k, f k = (decide (aO M k = x) || decide (aO M k = y))) (hx : x ≠ 0) (hy : y ≠ 0) : ((aL f 64 : Nat) : Int) = ku M x y := by
 have hn := h.mb.nn
 have hc := Lt f M.dr.length (64 - M.dr.length) fun k hk => by
  rw [hf, gN (by omega), decide_eq_false (fun e => hx e.symm), decide_eq_false (fun e => hy e.symm)]
  rfl
 rw [show M.dr.length + (64 - M.dr.length) = 64 by omega] at hc
 rw [hc, qa]
 unfold ku
 rw [show f = fun k : Nat => decide (aO M k = x) || decide (aO M k = y) from funext hf]
end
section
variable {w0 w : World} {b c t d p g g0 a N : Nat} {v v0 : Value} {m mx : Int} {P : Pg} {M M' : Md} {R : Wk} {Q : World → Prop}
theorem I1 (h : Bg w0 w b c t d p v0 g0 v g a m mx R M) (hk : R.ag.kind = 6 ∨ R.ag.kind = 10 ∨ R.ag.kind = 11 ∨ R.ag.kind = 12) :
  Goes b c 1000 w (Fin w0 b c t d p v0 g0 mx (gZ M (toW R.ag)).2 (nX (gZ M (toW R.ag)).1) false) := by
 have hll := h.few
 have ha := h.ha
 have hm := h.hm
 have hmx := h.hmx
 have hcl : ¬ M.cl = true := by rw [h.cl]; decide
 have dm := ed h.inv h.one (by omega)
 have hrd : iW R.ag.kind = true := by rcases hk with e | e | e | e <;> (rw [e]; rfl)
 have iK : ∀ {L : Value} {a' : Nat} {m' : Int} {R' : Wk} {P' : Pg}, Calls Tryz.prog 92 #[.pointer (some ⟨b, 0, none⟩), .pointer (some ⟨c, 0, none⟩)] w (au w b c t d p v g a' m' L R' P') → Calls Tryz.prog 64 #[.pointer (some ⟨b, 0, none⟩), .pointer (some ⟨c, 0, none⟩)] w (au w b c t d p v g a' m' L R' P') := fun hn => Ga h.sw h.cl (by omega) hrd hn
 rcases hk with hk | hk | hk | hk
 ·by_cases hid : R.ag.id < 1 ∨ (M.L.length : Int) < R.ag.id
  ·have e : gZ M (toW R.ag) = (fC 7, M) := by
    unfold gZ
    rw [if_neg hcl, show (toW R.ag).kind = 6 from hk]
    exact uB (toW R.ag) hid
   have hg : fU M.L R.ag.id = 7 := by unfold fU; (repeat' split) <;> omega
   rw [e]
   exact aU (N := 999) aZ (iK (yf h.sw hk 7 (by decide) hg)) h.sw h.left rfl (by omega) (by omega) h.ws rfl rfl rfl
  ·have hg : fU M.L R.ag.id = 0 := by unfold fU; (repeat' split) <;> omega
   have hi : (R.ag.id - 1).toNat < M.L.length := by omega
   have e : gZ M (toW R.ag) = (lW (M.L.getD (R.ag.id - 1).toNat default), M) := by
    unfold gZ
    rw [if_neg hcl, show (toW R.ag).kind = 6 from hk]
    show fI M (toW R.ag) = _
    unfold fI
    rw [show (toW R.ag).id = R.ag.id from rfl, vE hid, show (toW R.ag).kind = 6 from hk]
    show (lW (M.L.getD (R.ag.id - 1).toNat default), ({ M with L := M.L.set (R.ag.id - 1).toNat (M.L.getD (R.ag.id - 1).toNat default) } : Md)) = _
    have : M.L.set (R.ag.id - 1).toNat (M.L.getD (R.ag.id - 1).toNat default) = M.L := by
     simp only [List.getD, List.getElem?_eq_getElem hi, Option.getD_some, List.set_getElem_self]
    rw [this]
   have hr := zV h.sw hk hg
   rw [show bF (aj M).J R.ag.id = M.L.getD (R.ag.id - 1).toNat default from rG hid] at hr
   rw [e]
   exact aU (N := 999) aZ (iK hr) h.sw h.left rfl (by omega) (by omega) h.ws rfl rfl h.ok
 ·have e : gZ M (toW R.ag) = (((0, 0, 0, 0, 0, 0, (ku M 1 1 : Int), (ku M 2 3 : Int), (ku M 4 4 : Int)) : Rl), M) := by
   unfold gZ
   rw [if_neg hcl, show (toW R.ag).kind = 10 from hk]
   rfl
  have hr := IM h.sw dm hk
  rw [show (aj M).T = bX M from rfl, rH h.inv (gI (bX M)) 1 1 (fun k => by rw [si, Bool.or_self]) (by decide) (by decide),
   rH h.inv (bJ (bX M)) 2 3 (fun k => by unfold bJ; rw [bW]) (by decide) (by decide),
   rH h.inv (fun i => bM (bX M) i && !bJ (bX M) i) 4 4 (fun k => by
    unfold bM bJ
    rw [bW]
    generalize aO M k = s
    by_cases h2 : s = 2
    ·subst h2; rfl
    ·by_cases h3 : s = 3
     ·subst h3; rfl
     ·rw [decide_eq_false h2, decide_eq_false h3]; simp) (by decide) (by decide)] at hr
  rw [e]
  exact aU (N := 999) aZ (iK hr) h.sw h.left rfl (by omega) (by omega) h.ws rfl rfl h.ok
 ·have e : gZ M (toW R.ag) = (((0, 0, 0, 0, 0, 0, (mg M 1 : Int), (mg M 2 : Int), (mg M 3 : Int)) : Rl), M) := by
   unfold gZ
   rw [if_neg hcl, show (toW R.ag).kind = 11 from hk]
   rfl
  rw [e]
  exact aU (N := 999) aZ (iK (IP h.sw dm hk)) h.sw h.left rfl (by omega) (by omega) h.ws rfl rfl h.ok
 ·have e : gZ M (toW R.ag) = ((0, 0, 0, M.now, 0, 0, ax M M.now 0, 0, 0), M) := by
   unfold gZ
   rw [if_neg hcl, show (toW R.ag).kind = 12 from hk]
   rfl
  rw [e]
  exact aU (N := 999) aZ (iK (F8 h.sw (by omega) hk)) h.sw h.left rfl (by omega) (by omega) h.ws rfl rfl h.ok
theorem I4 (h : Bg w0 w b c t d p v0 g0 v g a m mx R M) (hk : R.ag.kind = 13) (hrep : R.rep = qb) :
  Goes b c 1000 w (Fin w0 b c t d p v0 g0 mx { M with cl := true } (nX (fC 0)) false) := by
 have hll := h.few
 have ha := h.ha
 have hm := h.hm
 have hrd : iW R.ag.kind = false := by rw [hk]; rfl
 exact aU (N := 999) aZ (eZ h.sw h.cl (by rw [hk]; decide) hrd (IQ h.sw hk)) h.sw h.left rfl (by omega) (by omega) h.ws rfl hrep h.ok
theorem AR (to : Int) (hto : to ≤ 1099511627776) (hl : R.left = eH 145) (qK : R.target = to) (hmx : mx ≤ 1000000) (n : Nat) :
  ∀ {M : Md} {w : World} {v : Value} {g a : Nat} {m : Int}, aC M → Calm M → Early M → 1 ≤ M.dr.length → M.L.length ≤ 900 → M.now ≤ to → kM M < n → SW w b c t d p v g a m R (aj M) → a ≤ 800 → m + n ≤ mx → WS w0 w b c t d p v0 g0 v g →
   Goes b c n w (Fin w0 b c t d p v0 g0 mx { dW to n M with now := to } ⟨0, 0, 0, to, 0, 0, ax (dW to n M) to 0, 0, 0⟩ R.ok) := by
 induction n with
 | zero =>
  intro M w v g a m hI hC hE h1 hll hnt hn
  have := (kU lZ 2 M.L fun j _ => mV j).1
  unfold kM at hn
  omega
 | succ n ih =>
  intro M w v g a m hI hC hE h1 hll hnt hn hS ha hm hw
  by_cases hx : aP M < 0 ∨ to < aP M
  ·have e : dW to (n + 1) M = M := if_pos hx
   rw [e]
   have hf := sW hS hI hE h1 hll ha (by omega) (by rw [qK]; exact hx) (by rw [qK]; exact ⟨hnt, hto⟩)
   rw [qK] at hf
   exact aU (N := n) xO hf hS hl rfl (by omega) (by omega) hw rfl rfl rfl
  ·have e : dW to (n + 1) M = dW to n (dw { M with now := aP M }) := if_neg hx
   rw [e]
   obtain ⟨a1, a2, a3⟩ := hI.step hC (by omega) (by omega)
   obtain ⟨b1, b2, b3, b4⟩ := a2.pQ
   have hkp := pI a2.mb
   have hf := xK hS hI hC hE h1 hll ha (by omega) (by rw [qK]; omega) (by rw [qK]; exact hto)
   refine eU (k := 145) (k' := 145) xO hf hS hl rfl fun w' v' g' hS' hw' => ?_
   rw [← hl] at hS'
   refine ih b1 b2 (Early.pQ hE) (by rw [hkp.2.2.2.1]; exact h1) (by rw [hkp.2.1]; exact hll) (by rw [hkp.2.2.1]; show aP M ≤ to; omega) ?_ hS' ha (by omega) (hw.trans hw')
   have := b4 a3
   have e2 : kM { M with now := aP M } = kM M := rfl
   omega
theorem I5 (h : Bg w0 w b c t d p v0 g0 v g a m mx R M) (hE : Early M) (hk : R.ag.kind = 9) :
  Goes b c 1000 w (Fin w0 b c t d p v0 g0 mx (lX M R.ag.till).2 (nX (lX M R.ag.till).1) false) := by
 have hll := h.few
 have ha := h.ha
 have hm := h.hm
 have hmx := h.hmx
 have jG := h.inv.mb.now
 have dm := ed h.inv h.one (by omega)
 have hrd : iW R.ag.kind = false := by rw [hk]; rfl
 have iK : ∀ {L : Value} {a' : Nat} {m' : Int} {R' : Wk} {P' : Pg}, Calls Tryz.prog 123 #[.pointer (some ⟨b, 0, none⟩), .pointer (some ⟨c, 0, none⟩)] w (au w b c t d p v g a' m' L R' P') → Calls Tryz.prog 64 #[.pointer (some ⟨b, 0, none⟩), .pointer (some ⟨c, 0, none⟩)] w (au w b c t d p v g a' m' L R' P') := fun hn => eZ h.sw h.cl (by rw [hk]; decide) hrd (Lj h.sw hk hn)
 by_cases hlow : R.ag.till < 1
 ·have e : lX M R.ag.till = (fC 10, M) := if_pos (.inl hlow)
  rw [e]
  exact aU (N := 999) aZ (iK (Lb h.sw dm hlow)) h.sw h.left rfl (by omega) (by omega) h.ws rfl rfl rfl
 ·by_cases hhi : 1099511627776 - M.now < R.ag.till
  ·have e : lX M R.ag.till = (fC 10, M) := if_pos (.inr hhi)
   rw [e]
   exact aU (N := 999) aZ (iK (IL h.sw dm hlow hhi)) h.sw h.left rfl (by omega) (by omega) h.ws rfl rfl rfl
  ·have hev := (kU lZ 2 M.L fun j _ => mV j).2
   have SY : kM M < (2 * M.L.length + 1 : Nat) := by unfold kM; omega
   have e : lX M R.ag.till = ((0, 0, 0, M.now + R.ag.till, 0, 0, ax (nL M (M.now + R.ag.till)) (M.now + R.ag.till) 0, 0, 0), nL M (M.now + R.ag.till)) := if_neg (by omega)
   rw [e]
   obtain ⟨to, hto⟩ : ∃ to, to = M.now + R.ag.till := ⟨_, rfl⟩
   rw [← hto]
   unfold nL
   obtain ⟨n, hn⟩ : ∃ n, n = 2 * M.L.length := ⟨_, rfl⟩
   rw [← hn] at SY ⊢
   by_cases hx : aP M < 0 ∨ to < aP M
   ·have e : dW to (n + 1) M = M := if_pos hx
    rw [e]
    refine aU (N := 999) (a' := a) (m' := m + 1) (R' := { R with target := to, rep := ⟨0, 0, 0, to, 0, 0, ax M to 0, 0, 0⟩ }) aZ (iK (F6 (P' := aj { M with now := to }) h.sw dm hlow hhi fun W hW => ?_)) h.sw h.left rfl (by omega) (by omega) h.ws rfl rfl h.ok
    rw [show (aj M).now + R.ag.till = to from hto.symm] at hW
    exact sW hW h.inv hE h.one (by omega) (by omega) (by omega) hx ⟨by show M.now ≤ to; omega, by show to ≤ _; omega⟩
   ·have e : dW to (n + 1) M = dW to n (dw { M with now := aP M }) := if_neg hx
    rw [e]
    obtain ⟨a1, a2, a3⟩ := h.inv.step h.calm (by omega) (by omega)
    obtain ⟨b1, b2, b3, b4⟩ := a2.pQ
    have hkp := pI a2.mb
    refine (eU (N := n) (k := 64) (k' := 145) (a' := a) (m' := m + 1) (R' := { R with target := to }) (P' := aj (dw { M with now := aP M })) aZ (iK (F6 h.sw dm hlow hhi fun W hW => ?_)) h.sw h.left rfl fun w' v' g' hS' hw' => ?_).more (show n + 1 ≤ 1000 by omega)
    ·rw [show (aj M).now + R.ag.till = to from hto.symm] at hW
     exact xK hW h.inv h.calm hE h.one (by omega) (by omega) (by omega) ⟨by omega, by show aP M ≤ to; omega⟩ (by show to ≤ _; omega)
    ·have := AR (R := { ({ R with target := to } : Wk) with left := eH 145 }) (w0 := w0) (b := b) (c := c) (t := t) (d := d) (p := p) (v0 := v0) (g0 := g0) (mx := mx) to (by omega) rfl rfl hmx n b1 b2 (Early.pQ hE) (by rw [hkp.2.2.2.1]; exact h.one) (by rw [hkp.2.1]; show M.L.length ≤ 900; omega) (by rw [hkp.2.2.1]; show aP M ≤ to; omega) (by
      have := b4 a3
      have e2 : kM { M with now := aP M } = kM M := rfl
      omega) hS' (by omega) (by omega) (h.ws.trans hw')
     rw [show ({ ({ R with target := to } : Wk) with left := eH 145 } : Wk).ok = false from h.ok] at this
     exact this
end
end Go.Proofs.YtkhfejihijdipaaGreat

namespace Go.Proofs.YtkhfejihijdipaaGreat
open Go.RowKit Go.Lib Go.Sort
section
variable {M : Md}
theorem Gf (hI : aC M) {id t : Int} (hf : eQ M id t = true) : ∃ i : Nat, id = (i : Int) + 1 ∧ i < M.L.length ∧ (M.L.getD i default).st = 1 ∧ M.now ≤ t ∧ t ≤ 1099511627776 ∧ M.cl = false ∧
  ∀ u, t ≤ u → u < t + (M.L.getD i default).lim → (M.L.getD i default).wid ≤ ax M u ((i : Int) + 1) := by
 have hn := hI.mb.now
 unfold eQ at hf
 simp only at hf
 split at hf
 ·cases hf
 rename_i hq
 have hg : (getM M id).2 = true := by cases e : (getM M id).2 <;> simp_all
 obtain ⟨hm, hi, he, hid⟩ := jW hg
 rw [he] at hm hq hf
 have hs : (M.L.getD (id - 1).toNat default).st = 1 := by
  by_cases e : (M.L.getD (id - 1).toNat default).st = 1
  ·exact e
  ·exact absurd (.inr (.inr (.inl e))) hq
 have ht : M.now ≤ t ∧ t ≤ 1099511627776 := by omega
 have hcl : M.cl = false := by
  cases e : M.cl with
  | false => rfl
  | true => exact absurd (.inl e) hq
 have Em := hI.ids _ hi
 have hroom := fun u => vL hn.1 ht.1 hf u
 rw [Em] at hroom
 exact ⟨(id - 1).toNat, hid, hi, hs, ht.1, ht.2, hcl, hroom⟩
theorem Aa (hI : aC M) {i : Nat} (hi : i < M.L.length) (hroom : ∀ u, M.now ≤ u → u < M.now + (M.L.getD i default).lim → (M.L.getD i default).wid ≤ ax M u ((i : Int) + 1)) : (M.L.getD i default).wid ≤ aH M M.now M.dr.length := by
 have bo := hI.one _ (aV hi)
 have h0 := hroom M.now (Int.le_refl _) (by omega)
 have ht0 := lC (L := M.L) (fun j hj => hI.mb.wid j hj) M.now ((i : Int) + 1)
 unfold ax at h0
 omega
theorem DN (hI : aC M) (hC : Calm M) {i : Nat} (hi : i < M.L.length) (hs : (M.L.getD i default).st = 1) {t : Int} (ht : M.now ≤ t ∧ t ≤ 1099511627776)
  (hroom : ∀ u, t ≤ u → u < t + (M.L.getD i default).lim → (M.L.getD i default).wid ≤ ax M u ((i : Int) + 1)) (u : Int) (hu : M.now ≤ u) :
  ax (if t = M.now then aT M i else { M with L := M.L.set i ((M.L.getD i default).aD t) }) u 0 = ax M u ((i : Int) + 1) + had (max t M.now) (t + (M.L.getD i default).lim) (-(M.L.getD i default).wid) u := by
 have hm := aV hi
 have bo := hI.one _ hm
 have bl := hI.mb.lim _ hm
 have hn := hI.mb.now
 have hid := hI.ids i hi
 rw [kT hi hI.ids]
 have hh : had (max t M.now) (t + (M.L.getD i default).lim) (-(M.L.getD i default).wid) u = if t ≤ u ∧ u < t + (M.L.getD i default).lim then -(M.L.getD i default).wid else 0 := by
  unfold had
  have e1 : max t M.now = t := by omega
  rw [e1]
  by_cases c : t ≤ u ∧ u < t + (M.L.getD i default).lim
  ·rw [if_pos c, if_pos ⟨c.1, .inl c.2⟩]
  ·rw [if_neg c, if_neg (by omega)]
 rw [hh]
 by_cases e : t = M.now
 ·subst e
  rw [if_pos rfl, pK hi (by omega)]
  have hlow := (hI.begin hC.runs hi hs (Aa hI hi hroom) fun v h1 h2 => by
   have := hroom v h1 h2
   rw [kT hi hI.ids] at this
   exact this).2
  rw [hlow]
  split <;> split <;> omega
 ·rw [if_neg e, iB hi]
  have hpl : ak ((M.L.getD i default).aD t) = true := by
   unfold ak
   rw [Bool.and_eq_true]
   exact ⟨decide_eq_true hs, decide_eq_true (show 0 ≤ t by omega)⟩
  have hc2 := kS (t := u) (but := 0) hpl (show (M.L.getD i default).id ≠ 0 by rw [hid]; omega)
  rw [hc2]
  show ax M u 0 + dA u 0 (M.L.getD i default) - (if t ≤ u ∧ u < t + (M.L.getD i default).lim then (M.L.getD i default).wid else 0) = _
  split <;> omega
end
section
variable {w0 w : World} {b c t d p g g0 a N : Nat} {v v0 : Value} {m mx : Int} {P : Pg} {M M' : Md} {R : Wk} {Q : World → Prop}
def nI (M : Md) : Ry := if M.cl then jJ 12 else qb
theorem DR (h : SW w b c t d p v g a m R (aj M)) (hl : R.left = eH 65) (hI : aC M) (hC : Calm M) (h1 : 1 ≤ M.dr.length) (hll : M.L.length ≤ 190) (ha : a ≤ 1 + 2 * M.L.length) (hm : m + 1000 ≤ mx) (hmx : mx ≤ 1000000)
  (ho : R.ok = false) (hrep : R.rep = qb) (hxt : -9223372036854775808 ≤ R.dD ∧ R.dD ≤ 9223372036854775807) (hw : WS w0 w b c t d p v0 g0 v g) :
  Goes b c 1000 w (Fin w0 b c t d p v0 g0 mx (fo M R.ko R.dD).2 (nI M) (fo M R.ko R.dD).1) := by
 cases hf : eQ M R.ko R.dD with
 | false =>
  have e : fo M R.ko R.dD = (false, M) := if_neg (by rw [hf]; decide)
  rw [e]
  cases hcl : M.cl with
  | true => exact aU (N := 999) wL (AO h hcl) h hl rfl (by omega) (by omega) hw rfl (by unfold nI; rw [hcl]; rfl) rfl
  | false => exact aU (N := 999) wL (K8 h hI h1 (by omega) (by omega) hxt hcl hf) h hl rfl (by omega) (by omega) hw rfl (by unfold nI; rw [hcl]; exact hrep) ho
 | true =>
  obtain ⟨i, hid, hi, hs, ht1, ht2, hcl, hroom⟩ := Gf hI hf
  have JB : (R.ko - 1).toNat = i := by omega
  have hmem := aV hi
  have bo := hI.one _ hmem
  have bl := hI.mb.lim _ hmem
  have bw := hI.mb.wid _ hmem
  have bp := hI.mb.aJ _ hmem
  have Em := hI.ids i hi
  have jG := hI.mb.now
  have dm := ed hI h1 (by omega)
  have e : fo M R.ko R.dD = (true, if R.dD = M.now then aT M i else { M with L := M.L.set i ((M.L.getD i default).aD R.dD) }) := by
   unfold fo
   rw [if_pos hf, JB]
   split <;> rfl
  have hI' := (hI.jM hC R.ko R.dD).1
  rw [e] at hI' ⊢
  have hfree := DN hI hC hi hs ⟨ht1, ht2⟩ hroom
  have hdr : (if R.dD = M.now then aT M i else { M with L := M.L.set i ((M.L.getD i default).aD R.dD) }).dr.length = M.dr.length := by split <;> rfl
  have Og : (if R.dD = M.now then aT M i else { M with L := M.L.set i ((M.L.getD i default).aD R.dD) }).now = M.now := by split <;> rfl
  have PT : qb = nI M := by unfold nI; rw [hcl]; rfl
  have TU : bF M.L R.ko = M.L.getD i default := by rw [rG (by omega), JB]
  have hck := IJ h hI h1 (by omega) (by omega) hxt hcl hf
  rw [TU] at hck
  have wS : ∀ u, ax M u ((i : Int) + 1) = ax M u 0 + dA u 0 (M.L.getD i default) := fun u => kT hi hI.ids u
  have kK : PK { aj M with f := fun u => ax M u ((i : Int) + 1) } := ⟨dm.now, dm.few, dm.st, dm.lim, dm.p9, fun u hu => ⟨Al hI hi u hu, (Co hI.mb u _).2⟩⟩
  obtain ⟨M1, hM1⟩ : ∃ M1, M1 = (if R.dD = M.now then aT M i else { M with L := M.L.set i ((M.L.getD i default).aD R.dD) }) := ⟨_, rfl⟩
  rw [← hM1] at hI' hfree hdr Og ⊢
  have hrange : ∀ u, M.now ≤ u → 0 ≤ ax M1 u 0 ∧ ax M1 u 0 ≤ 64 := fun u hu => uo hI' u (by rw [Og]; exact hu)
  have S9 : PK { aj M with f := fun u => ax M1 u 0 } := ⟨dm.now, dm.few, dm.st, dm.lim, dm.p9, fun u hu => hrange u hu⟩
  refine (eU (N := 3) (k := 65) (k' := 94) wL hck h hl rfl fun w1 v1 g1 hS1 hw1 => ?_).more (show 4 ≤ 1000 by decide)
  have cont : ∀ (w2 : World) (v2 : Value) (g2 a2 : Nat) (m2 : Int), SW w2 b c t d p v2 g2 a2 m2 { R with az := M.L.getD i default, ok := true, left := eH 125 } { aj M with f := fun u => ax M u ((i : Int) + 1) } → a2 ≤ 700 → m2 + 10 ≤ mx → WS w0 w2 b c t d p v0 g0 v2 g2 →
    Goes b c 2 w2 (Fin w0 b c t d p v0 g0 mx M1 (nI M) true) := by
   intro w2 v2 g2 a2 m2 hS2 ha2 hm2 hw2
   have hen := K7 hS2 kK (by omega) (by omega) hs ⟨by show 0 ≤ R.dD; omega, by show R.dD ≤ 1099511627776; omega⟩ ⟨bo.2.2.1, bl.2⟩ bw (fun u => ax M1 u 0) (fun u hu => hfree u hu) (fun u hu => hrange u hu)
   refine eU (N := 1) (k := 125) (k' := 148) Lp hen hS2 rfl rfl fun w3 v3 g3 F7 hw3 => ?_
   by_cases hx : R.dD = M.now
   ·have hidle : (M.L.getD i default).wid ≤ ((List.range M.dr.length).countP fun n : Nat => decide (aO M n = 1) : Nat) := by
     rw [← FO hC.runs]
     exact Aa hI hi (by rw [← hx]; exact hroom)
    have hT := FP hI hi (by omega) hidle
    have hset := FZ F7 S9 hx (by show -9223372036854775808 ≤ (M.L.getD i default).wid ∧ (M.L.getD i default).wid ≤ _; omega) hT
    rw [if_pos hx] at hM1
    have hbs : bS (aj M).J (fF (aj M).now) (M.L.getD i default).id (fun j : Jb => decide (j.state = 1)) (kD (aj M).now (gX M (M.L.getD i default).wid : Int)) = (aT M i).L := xI hI hi hs
    have hP : ({ aj M with f := fun u => ax M1 u 0, T := bX (aT M i), J := (aT M i).L } : Pg) = aj M1 := by rw [hM1]; rfl
    refine aU (N := 0) (a' := a2 + 2) (m' := m2 + 1) zX (hset.mono fun e w' hp => ?_) F7 rfl rfl (by omega) (by omega) (hw2.trans hw3) rfl (hrep.trans PT) rfl
    rw [← hP, ← hbs]
    exact hp
   ·have hset := AL F7 hx
    rw [if_neg hx] at hM1
    have JX : gy R.dD = 0 := by unfold gy; rw [if_neg (by omega), if_neg (by omega)]
    have hbs : bS (aj M).J (gy R.dD) R.ko (fun j : Jb => decide (j.state = 1)) (jV R.dD) = M.L.set i ((M.L.getD i default).aD R.dD) := by
     rw [JX]
     have := sG (ok := fun j : Jb => decide (j.state = 1)) (L := M.L) (id := R.ko) (by omega) (by rw [JB]; exact decide_eq_true hs)
     have h2 := nH (ch := jV R.dD) this
     rw [JB] at h2
     exact h2
    have hT1 : bX M = bX M1 := by
     rw [hM1]
     refine nG (by rw [bq, bq]) fun n hn => ?_
     rw [bW, bW, nO (y := (M.L.getD i default).aD R.dD) hi Iff.rfl rfl]
    have hP : ({ aj M with f := fun u => ax M1 u 0, J := M.L.set i ((M.L.getD i default).aD R.dD) } : Pg) = aj M1 := by
     show Pg.mk M.now _ (bX M) _ M.cl = _
     rw [hT1, hM1]
     rfl
    refine aU (N := 0) (a' := a2 + 2) (m' := m2 + 1) zX (hset.mono fun e w' hp => ?_) F7 rfl rfl (by omega) (by omega) (hw2.trans hw3) rfl (hrep.trans PT) rfl
    rw [← hP, ← hbs]
    exact hp
  cases hpl : ak (M.L.getD i default) with
  | true =>
   have hlv := FX hS1 dm (by omega) (by omega) hpl bp.2 bl bo.2.2.1 bw (fun u => ax M u ((i : Int) + 1)) (fun u hu => by
    have hun := qc hI hi hpl u
    rw [iB hi, dB (j := (M.L.getD i default).aD (-1)) (by unfold ak; simp [Jb.aD, Jb.aJ])] at hun
    show ax M u ((i : Int) + 1) = ax M u 0 + had (max (M.L.getD i default).aJ M.now) ((M.L.getD i default).aJ + (M.L.getD i default).lim) (M.L.getD i default).wid u
    rw [wS]
    omega) (fun u hu => kK.f u hu)
   refine eU (N := 2) (k := 94) (k' := 125) Ca hlv hS1 rfl rfl fun w2 v2 g2 hS2 hw2 => ?_
   exact cont w2 v2 g2 _ _ hS2 (by omega) (by omega) ((hw.trans hw1).trans hw2)
  | false =>
   have hlv := FY hS1 hpl bp.2 bl
   refine eU (N := 2) (k := 94) (k' := 125) Ca hlv hS1 rfl rfl fun w2 v2 g2 hS2 hw2 => ?_
   have hP : aj M = { aj M with f := fun u => ax M u ((i : Int) + 1) } := by
    have : (fun u => ax M u ((i : Int) + 1)) = fun u => ax M u 0 := by
     funext u
     rw [wS, dB hpl]
     omega
    rw [this]
    rfl
   rw [hP] at hS2
   exact cont w2 v2 g2 _ _ hS2 (by omega) (by omega) ((hw.trans hw1).trans hw2)
theorem Oh (h : SW w b c t d p v g a m R (aj M)) (hl : R.left = eH 64) (hI : aC M) (hC : Calm M) (hE : Early M) (h1 : 1 ≤ M.dr.length) (hll : M.L.length ≤ 190) (ha : a ≤ 1 + 2 * M.L.length) (hm : m + 1000 ≤ mx) (hmx : mx ≤ 1000000)
  (ho : R.ok = false) (hrep : R.rep = qb) (hnd : -9223372036854775808 ≤ R.ag.node ∧ R.ag.node ≤ 9223372036854775807) (hw : WS w0 w b c t d p v0 g0 v g) :
  Goes b c 1000 w (Fin w0 b c t d p v0 g0 mx (gZ M (toW R.ag)).2 (nX (gZ M (toW R.ag)).1) false) := by
 cases hcl : M.cl with
 | true =>
  have e : gZ M (toW R.ag) = (fC 12, M) := if_pos hcl
  rw [e]
  exact IW h hl hcl (by omega) (by omega) hw
 | false =>
  have hcn : ¬ M.cl = true := by rw [hcl]; decide
  have hB : Bg w0 w b c t d p v0 g0 v g a m mx R M := ⟨h, hl, hI, hC, hcl, h1, hll, ha, hm, hmx, ho, hw⟩
  have hkr : ∀ r : Rw, gZ M r = if r.kind = 1 then iL M r
    else if r.kind = 2 ∨ r.kind = 5 then lH M r
    else if r.kind = 3 ∨ r.kind = 4 ∨ r.kind = 6 then fI M r
    else if r.kind = 7 ∨ r.kind = 8 then gT M r
    else if r.kind = 9 then lX M r.by'
    else if r.kind = 10 then ((0, 0, 0, 0, 0, 0, ku M 1 1, ku M 2 3, ku M 4 4), M)
    else if r.kind = 11 then ((0, 0, 0, 0, 0, 0, mg M 1, mg M 2, mg M 3), M)
    else if r.kind = 12 then ((0, 0, 0, M.now, 0, 0, ax M M.now 0, 0, 0), M)
    else if r.kind = 13 then (fC 0, { M with cl := true })
    else (fC 4, M) := fun r => if_neg hcn
  by_cases hrd : R.ag.kind = 6 ∨ R.ag.kind = 10 ∨ R.ag.kind = 11 ∨ R.ag.kind = 12
  ·exact I1 hB hrd
  rw [hkr]
  have ek : (toW R.ag).kind = R.ag.kind := rfl
  rw [ek]
  by_cases k1 : R.ag.kind = 1
  ·rw [if_pos k1]; exact DK h hl hI hcl h1 hll ha hm hmx hw k1 ho
  rw [if_neg k1]
  by_cases k25 : R.ag.kind = 2 ∨ R.ag.kind = 5
  ·rw [if_pos k25]
   rcases k25 with k | k
   ·exact vF hB 5 (.inl ⟨k, rfl⟩)
   ·exact vF hB 4 (.inr ⟨k, rfl⟩)
  rw [if_neg k25]
  by_cases QU : R.ag.kind = 3 ∨ R.ag.kind = 4 ∨ R.ag.kind = 6
  ·rw [if_pos QU]
   rcases QU with k | k | k
   ·exact IY hB k
   ·exact AQ hB k
   ·exact absurd (.inl k) hrd
  rw [if_neg QU]
  by_cases Gg : R.ag.kind = 7 ∨ R.ag.kind = 8
  ·rw [if_pos Gg]
   rcases Gg with k | k
   ·exact Gd hB k hnd
   ·exact DL hB k hnd
  rw [if_neg Gg]
  by_cases k9 : R.ag.kind = 9
  ·rw [if_pos k9]; exact I5 hB hE k9
  rw [if_neg k9, if_neg (by omega), if_neg (by omega), if_neg (by omega)]
  by_cases k13 : R.ag.kind = 13
  ·rw [if_pos k13]; exact I4 hB k13 hrep
  rw [if_neg k13]
  exact IX hB (by omega)
end
end Go.Proofs.YtkhfejihijdipaaGreat

namespace Go.Proofs.YtkhfejihijdipaaGreat
open Go.RowKit Go.Lib Go.Sort
section
variable {M : Md}
theorem JC {r : Rw} (h : r.kind = 1) : gZ M r = if M.cl = true then (fC 12, M) else iL M r := by
 unfold gZ
 by_cases hc : M.cl = true
 ·rw [if_pos hc, if_pos hc]
 ·rw [if_neg hc, if_neg hc, if_pos h]
theorem Oi {r : Rw} (h : (r.kind = 2 ∨ r.kind = 5)) : gZ M r = if M.cl = true then (fC 12, M) else lH M r := by
 unfold gZ
 by_cases hc : M.cl = true
 ·rw [if_pos hc, if_pos hc]
 ·rw [if_neg hc, if_neg hc, if_neg (show ¬ r.kind = 1 by omega), if_pos h]
theorem JD {r : Rw} (h : (r.kind = 3 ∨ r.kind = 4 ∨ r.kind = 6)) : gZ M r = if M.cl = true then (fC 12, M) else fI M r := by
 unfold gZ
 by_cases hc : M.cl = true
 ·rw [if_pos hc, if_pos hc]
 ·rw [if_neg hc, if_neg hc, if_neg (show ¬ r.kind = 1 by omega), if_neg (show ¬ (r.kind = 2 ∨ r.kind = 5) by omega), if_pos h]
theorem Oj {r : Rw} (h : (r.kind = 7 ∨ r.kind = 8)) : gZ M r = if M.cl = true then (fC 12, M) else gT M r := by
 unfold gZ
 by_cases hc : M.cl = true
 ·rw [if_pos hc, if_pos hc]
 ·rw [if_neg hc, if_neg hc, if_neg (show ¬ r.kind = 1 by omega), if_neg (show ¬ (r.kind = 2 ∨ r.kind = 5) by omega), if_neg (show ¬ (r.kind = 3 ∨ r.kind = 4 ∨ r.kind = 6) by omega), if_pos h]
theorem JE {r : Rw} (h : r.kind = 9) : gZ M r = if M.cl = true then (fC 12, M) else lX M r.by' := by
 unfold gZ
 by_cases hc : M.cl = true
 ·rw [if_pos hc, if_pos hc]
 ·rw [if_neg hc, if_neg hc, if_neg (show ¬ r.kind = 1 by omega), if_neg (show ¬ (r.kind = 2 ∨ r.kind = 5) by omega), if_neg (show ¬ (r.kind = 3 ∨ r.kind = 4 ∨ r.kind = 6) by omega), if_neg (show ¬ (r.kind = 7 ∨ r.kind = 8) by omega), if_pos h]
theorem Ol {r r' : Rw} (h : r.kind = r'.kind) (h2 : ¬ (1 ≤ r.kind ∧ r.kind ≤ 9)) : gZ M r = gZ M r' := by
 unfold gZ
 rw [h] at h2 ⊢
 by_cases hc : M.cl = true
 ·rw [if_pos hc, if_pos hc]
 ·have n1 : ¬ r'.kind = 1 := by omega
  have n2 : ¬ (r'.kind = 2 ∨ r'.kind = 5) := by omega
  have n3 : ¬ (r'.kind = 3 ∨ r'.kind = 4 ∨ r'.kind = 6) := by omega
  have n4 : ¬ (r'.kind = 7 ∨ r'.kind = 8) := by omega
  have n5 : ¬ r'.kind = 9 := by omega
  simp only [if_neg hc, if_neg n1, if_neg n2, if_neg n3, if_neg n4, if_neg n5]
theorem Lu (M : Md) (r : Rq) : gZ M (toW (kJ r)) = gZ M (toW r) := by
 unfold kJ
 by_cases k1 : r.kind = 1
 ·rw [if_pos k1, JC (r := toW r) k1, JC (r := toW ⟨r.kind, 0, r.user, r.width, r.limit, r.prio, r.held, 0, 0⟩) k1]
  rfl
 rw [if_neg k1]
 by_cases k2 : r.kind = 2 ∨ r.kind = 3 ∨ r.kind = 4 ∨ r.kind = 5 ∨ r.kind = 6
 ·rw [if_pos k2]
  by_cases k25 : r.kind = 2 ∨ r.kind = 5
  ·rw [Oi (r := toW r) k25, Oi (r := toW ⟨r.kind, r.id, 0, 0, 0, 0, false, 0, 0⟩) k25]
   rfl
  ·have PU : r.kind = 3 ∨ r.kind = 4 ∨ r.kind = 6 := by omega
   rw [JD (r := toW r) PU, JD (r := toW ⟨r.kind, r.id, 0, 0, 0, 0, false, 0, 0⟩) PU]
   rfl
 rw [if_neg k2]
 by_cases Gg : r.kind = 7 ∨ r.kind = 8
 ·rw [if_pos Gg, Oj (r := toW r) Gg, Oj (r := toW ⟨r.kind, 0, 0, 0, 0, 0, false, r.node, 0⟩) Gg]
  rfl
 rw [if_neg Gg]
 by_cases k9 : r.kind = 9
 ·rw [if_pos k9, JE (r := toW r) k9, JE (r := toW ⟨r.kind, 0, 0, 0, 0, 0, false, 0, r.till⟩) k9]
  rfl
 rw [if_neg k9]
 exact Ol rfl (by show ¬ (1 ≤ r.kind ∧ r.kind ≤ 9); omega)
theorem Gh (r : Rq) (h : -9223372036854775808 ≤ r.node ∧ r.node ≤ 9223372036854775807) : -9223372036854775808 ≤ (kJ r).node ∧ (kJ r).node ≤ 9223372036854775807 := by
 have z : -9223372036854775808 ≤ (0 : Int) ∧ (0 : Int) ≤ 9223372036854775807 := by decide
 unfold kJ
 repeat' split
 all_goals first | exact z | exact h
structure Ok (M : Md) : Prop where
 inv : aC M
 calm : Calm M
 early : Early M
theorem Ok.new {n : Nat} (h : n ≤ 64) : Ok (fT n) := ⟨(Er h).1, (Er h).2, IZ n⟩
theorem Ok.Eo (h : Ok M) (r : Rw) : Ok (gZ M r).2 := ⟨(h.inv.Eo h.calm r).1, (h.inv.Eo h.calm r).2, h.early.Eo r⟩
theorem Ok.jM (h : Ok M) (id t : Int) : Ok (fo M id t).2 := ⟨(h.inv.jM h.calm id t).1, (h.inv.jM h.calm id t).2, h.early.jM id t⟩
end
section
variable {w : World} {b c t d p g : Nat} {v : Value} {m : Int} {M : Md}
def Whole (w : World) (b c t d p : Nat) (v : Value) (g : Nat) (m : Int) (M' : Md) (y : Ry) (ok : Bool) (e : Ending) (w' : World) : Prop :=
 ∃ (n : Int) (v' : Value) (g' : Nat) (R : Wk), 0 < n ∧ n < 2000 ∧ e = .returned (.int .i64 n) ∧ CW w' c t d p v' g' (1 + 2 * M'.L.length) (m + 1000) (aj M') ∧ bK w' b R ∧ R.left = .nilFunc ∧ R.rep = y ∧ R.ok = ok ∧ WS w w' b c t d p v g v' g'
theorem Ab {M' : Md} {y : Ry} {ok : Bool} (h : Goes b c 1000 w (Fin w b c t d p v g (m + 1000) M' y ok)) (hI : aC M') :
  Calls Tryz.prog 29 #[.pointer (some ⟨c, 0, none⟩), .pointer (some ⟨b, 0, none⟩)] w (Whole w b c t d p v g m M' y ok) := by
 refine (Lm h (by decide)).mono ?_
 rintro e w' ⟨n, h1, h2, rfl, ⟨v', g', a, m', R, hS, ha, hm, hl, hr, ho, hw⟩⟩
 exact ⟨n, v', g', R, h1, h2, rfl, (hS.cw.Od hI).wider (Nat.le_refl _) hm, hS.wk, hl, hr, ho, hw⟩
theorem Gi (h : CW w c t d p v g (1 + 2 * M.L.length) m (aj M)) (r : Rq) (hb : bK w b (sZ r)) (hM : Ok M) (h1 : 1 ≤ M.dr.length) (hll : M.L.length ≤ 190) (hm : m + 1000 ≤ 1000000) (hnd : -9223372036854775808 ≤ r.node ∧ r.node ≤ 9223372036854775807) :
  Calls Tryz.prog 29 #[.pointer (some ⟨c, 0, none⟩), .pointer (some ⟨b, 0, none⟩)] w (Whole w b c t d p v g m (gZ M (toW r)).2 (nX (gZ M (toW r)).1) false) := by
 have hg := Oh (mx := m + 1000) (R := sZ r) ⟨hb, h⟩ rfl hM.inv hM.calm hM.early h1 hll (Nat.le_refl _) (Int.le_refl _) hm rfl rfl (Gh r hnd) (WS.refl w)
 rw [show (sZ r).ag = kJ r from rfl, Lu] at hg
 exact Ab hg (hM.Eo _).inv
theorem AU (h : CW w c t d p v g (1 + 2 * M.L.length) m (aj M)) (i x : Int) (hb : bK w b (zW i x)) (hM : Ok M) (h1 : 1 ≤ M.dr.length) (hll : M.L.length ≤ 190) (hm : m + 1000 ≤ 1000000) (hx : -9223372036854775808 ≤ x ∧ x ≤ 9223372036854775807) :
  Calls Tryz.prog 29 #[.pointer (some ⟨c, 0, none⟩), .pointer (some ⟨b, 0, none⟩)] w (Whole w b c t d p v g m (fo M i x).2 (nI M) (fo M i x).1) :=
 Ab (DR (mx := m + 1000) (R := zW i x) ⟨hb, h⟩ rfl hM.inv hM.calm h1 hll (Nat.le_refl _) (Int.le_refl _) hm rfl rfl hx (WS.refl w)) (hM.jM i x).inv
end
end Go.Proofs.YtkhfejihijdipaaGreat

namespace Go.Proofs.YtkhfejihijdipaaGreat
open Go.RowKit Go.Lib Go.Sort
section
variable {w : World} {b c t d p g a : Nat} {v : Value} {m : Int} {M : Md} {R : Wk}
theorem I6 (h : CW w c t d p v g a m (aj M)) (hI : aC M) (hll : M.L.length ≤ 400) : Calls Tryz.prog 16 #[.pointer (some ⟨p, 0, none⟩)] w fun e w' => ∃ u, e = .returned u ∧ aW Q0 2 w' u (lu M) ∧ Below w.heap.size w w' := by
 obtain ⟨S, aG, hp, hC, hl, _⟩ := h.kQ
 have e : S = lu M := hC.uniq (yN hI) fun _ _ => rfl
 have hs := xP M
 refine (Aw hp hC.sm.pos (by rw [e]; omega)).mono ?_
 rintro en w' ⟨g', cap', rfl, h1, h2, h3⟩
 exact ⟨_, rfl, aW.jq h2 (fun _ => rfl) (by rw [← e]; rfl) (by rw [← e]), h3⟩
theorem Cf (h : bK w b R) : Calls Tryz.prog 32 #[.pointer (some ⟨b, 0, none⟩)] w fun e w' => e = .returned (.agg (fG R.rep).toArray) ∧ Below w.heap.size w w' := by
 obtain ⟨y1, y2, y3, y4, y5, y6, y7, y8, y9, hy⟩ : ∃ y1 y2 y3 y4 y5 y6 y7 y8 y9, R.rep = ⟨y1, y2, y3, y4, y5, y6, y7, y8, y9⟩ := ⟨_, _, _, _, _, _, _, _, _, rfl⟩
 have h' : ∀ o, bK (w.alloc o) b R := fun o => (((Below.refl w.heap.size w).alloc (Nat.le_refl _) o).block b h.lt).trans h
 have c24 : ∀ o, (w.alloc o).cell? ⟨b, 24, none⟩ = some (.int .i64 y1) := fun o => (h' o).at 24 (.int .i64 y1) (by show some (Value.int .i64 R.rep.1) = _; rw [hy])
 have U1 : ∀ o, (w.alloc o).cell? ⟨b, 25, none⟩ = some (.int .i64 y2) := fun o => (h' o).at 25 (.int .i64 y2) (by show some (Value.int .i64 R.rep.2) = _; rw [hy])
 have U2 : ∀ o, (w.alloc o).cell? ⟨b, 26, none⟩ = some (.int .i64 y3) := fun o => (h' o).at 26 (.int .i64 y3) (by show some (Value.int .i64 R.rep.3) = _; rw [hy])
 have U3 : ∀ o, (w.alloc o).cell? ⟨b, 27, none⟩ = some (.int .i64 y4) := fun o => (h' o).at 27 (.int .i64 y4) (by show some (Value.int .i64 R.rep.4) = _; rw [hy])
 have c28 : ∀ o, (w.alloc o).cell? ⟨b, 28, none⟩ = some (.int .i64 y5) := fun o => (h' o).at 28 (.int .i64 y5) (by show some (Value.int .i64 R.rep.5) = _; rw [hy])
 have U4 : ∀ o, (w.alloc o).cell? ⟨b, 29, none⟩ = some (.int .i64 y6) := fun o => (h' o).at 29 (.int .i64 y6) (by show some (Value.int .i64 R.rep.6) = _; rw [hy])
 have U5 : ∀ o, (w.alloc o).cell? ⟨b, 30, none⟩ = some (.int .i64 y7) := fun o => (h' o).at 30 (.int .i64 y7) (by show some (Value.int .i64 R.rep.7) = _; rw [hy])
 have c31 : ∀ o, (w.alloc o).cell? ⟨b, 31, none⟩ = some (.int .i64 y8) := fun o => (h' o).at 31 (.int .i64 y8) (by show some (Value.int .i64 R.rep.8) = _; rw [hy])
 have c32 : ∀ o, (w.alloc o).cell? ⟨b, 32, none⟩ = some (.int .i64 y9) := fun o => (h' o).at 32 (.int .i64 y9) (by show some (Value.int .i64 R.rep.9) = _; rw [hy])
 rw [hy]
 clear h h' hy
 go_enter Tryz.func32, Tryz.ntmps32
 go_wp2_with fail
 refine dX rfl rfl rfl (heap_alloc_new w _) Tryz.underlying74 rfl (by kernel_rfl) ⟨rfl, ?_⟩
 exact (Below.refl _ _).alloc (Nat.le_refl _) _
theorem Om (h : bK w b R) : Calls Tryz.prog 33 #[.pointer (some ⟨b, 0, none⟩)] w fun e w' => e = .returned (.bool R.ok) ∧ w = w' := by
 have TF := h.at 33 (.bool R.ok) rfl
 clear h
 generalize R.ok = o at *
 go_enter Tryz.func33, Tryz.ntmps33
 go_wp2_with fail
 go_ret
 exact ⟨rfl, rfl⟩
end
end Go.Proofs.YtkhfejihijdipaaGreat

namespace Go.Proofs.YtkhfejihijdipaaGreat
open Go.RowKit Go.Lib Go.Sort
def Lv : Rq := ⟨1, 0, 0, 2, 10, 0, false, 0, 0⟩
def QV : Md := (gZ (fT 4) (toW Lv)).2
def TY : Md := (fo QV 1 0).2
theorem TZ : lu TY = [(0, 2), (10, 4)] := by decide
theorem Ac {c t d p g : Nat} {v : Value} {b B : Nat} (h : ∀ k, fw c t d p v g k → B ≤ k) (hb : B ≤ b) : ∀ k, rC b c t d p v g k → B ≤ k := fun k hk => hk.elim (fun e => e ▸ hb) (h k)
theorem WS.T9 {w w1 : World} {b c t d p g g1 B : Nat} {v v1 : Value} (h : WS w w1 b c t d p v g v1 g1) (hC : ∀ k, fw c t d p v g k → B ≤ k) (hb : B ≤ b) (hB : B ≤ w.heap.size) : ∀ k, fw c t d p v1 g1 k → B ≤ k := fun k hk => h.lo (Ac hC hb) hB k (.inr hk)
theorem Lx (w : World) : Calls Tryz.prog 10 #[] w fun e w' => e = .returned (.bool true) ∧ Below w.heap.size w w' := by
 have hn := Oc 4 w (by decide) (by decide)
 go_enter Tryz.func10, Tryz.ntmps10
 go_wp2_with fail
 go_at_call 9
 refine hn.mono ?_
 clear hn
 rintro e w1 ⟨c, t, d, p, v, g, rfl, ⟨uZ, hlo1⟩, hb1⟩
 have hq := xN Lv w1
 rw [show (encR Lv).toArray = #[.int .i64 1, .int .i64 0, .int .i64 0, .int .i64 2, .int .i64 10, .int .i64 0, .bool false, .int .i64 0, .int .i64 0] from rfl] at hq
 go_wp2_with fail
 go_at_call 27
 refine hq.mono ?_
 clear hq
 rintro e w2 ⟨b, rfl, hW2, hlb, hb2⟩
 have hC2 := uZ.kept hb2
 have Oo := Gi (M := fT 4) hC2 Lv hW2 (Ok.new (by decide)) (by decide) (by decide) (by decide) (by decide)
 go_wp2_with fail
 go_at_call 29
 refine Oo.mono ?_
 clear Oo uZ
 rintro e w3 ⟨n1, v3, g3, R3, _, _, rfl, Ua, hW3, _, hr3, _, hs3⟩
 have hx := tq 1 0 w3
 go_wp2_with fail
 go_at_call 28
 refine hx.mono ?_
 clear hx
 rintro e w4 ⟨x, rfl, Pn, hlx, hb4⟩
 have nK := Ua.kept hb4
 have Dv : bK w4 b R3 := (hb4.block b hW3.lt).trans hW3
 have hbx : b ≠ x := Nat.ne_of_lt (Nat.lt_of_lt_of_le hW3.lt hlx)
 have Oo := AU (M := QV) nK 1 0 Pn ((Ok.new (by decide)).Eo _) (by decide) (by decide) (by decide) (by decide)
 go_wp2_with fail
 go_at_call 29
 refine Oo.mono ?_
 clear Oo
 rintro e w5 ⟨n2, v5, g5, R5, _, _, rfl, fV, Po, _, _, wC, hs5⟩
 have Pb : bK w5 b R3 := (hs5.heap Dv.lt (fun hf => hf.elim hbx (nK.other Dv (by decide)))).trans Dv
 have Gj : Hid (Below w.heap.size w w5) := by
  have l1 := hb1.size
  have s2 := hb2.size
  have s3 := hs3.off.size
  have lo3 := hs3.T9 hlo1 (Nat.le_trans l1 hlb) (Nat.le_trans l1 s2)
  have f3 := hs3.below (Ac hlo1 (Nat.le_trans l1 hlb)) (Nat.le_trans l1 s2)
  have l3 : w.heap.size ≤ w3.heap.size := Nat.le_trans (Nat.le_trans l1 s2) s3
  have f5 := hs5.below (Ac lo3 (Nat.le_trans l3 hlx)) (Nat.le_trans l3 hb4.size)
  exact hb1.trans ((hb2.mono l1).trans (f3.trans ((hb4.mono l3).trans f5)))
 have hst := I6 fV ((Ok.new (by decide)).Eo (toW Lv) |>.jM 1 0).inv (by decide)
 have q2 := fV.c2
 go_wp2_with fail
 go_at_call 16
 refine hst.mono ?_
 clear hst q2
 rintro e w6 ⟨u, rfl, hu, hb6⟩
 rw [show lu (fo QV 1 0).2 = [(0, 2), (10, 4)] from TZ] at hu
 have QM : bK w6 b R3 := (hb6.block b Pb.lt).trans Pb
 have Ta : bK w6 x R5 := (hb6.block x Po.lt).trans Po
 have Gl : Hid (Below w.heap.size w w6) := Gj.out.trans (hb6.mono Gj.out.size)
 obtain ⟨ao, cap, rfl, q1, q2, q3⟩ := hu
 obtain ⟨B, off, rfl, hlt, hc⟩ := q3 (by decide)
 have I7 := Cf QM
 rw [hr3, show (nX (gZ (fT 4) (toW Lv)).1) = ⟨0, 1, 1, -1, -1, -1, 2, 0, 0⟩ from rfl, show (fG ⟨0, 1, 1, -1, -1, -1, 2, 0, 0⟩).toArray = #[.int .i64 0, .int .i64 1, .int .i64 1, .int .i64 (-1), .int .i64 (-1), .int .i64 (-1), .int .i64 2, .int .i64 0, .int .i64 0] from rfl] at I7
 have hok : ∀ W, Below w6.heap.size w6 W → Calls Tryz.prog 33 #[.pointer (some ⟨x, 0, none⟩)] W fun e w' => e = .returned (.bool true) ∧ W = w' := fun W hW => by
  have := Om ((hW.block x Ta.lt).trans Ta)
  rw [wC] at this
  exact this
 have k1 : w6.cell? ⟨B, off + 1, none⟩ = some (.int .i64 2) := hc 0 (0, 2) 1 _ rfl rfl
 have k2 : w6.cell? ⟨B, off + 2, none⟩ = some (.int .i64 10) := hc 1 (10, 4) 0 _ rfl rfl
 have k3 : w6.cell? ⟨B, off + 3, none⟩ = some (.int .i64 4) := hc 1 (10, 4) 1 _ rfl rfl
 clear hc
 have U6 : ∀ W, Sem.run Tryz.prog (Instr.field 74 (.agg #[.int .i64 0, .int .i64 1, .int .i64 1, .int .i64 (-1), .int .i64 (-1), .int .i64 (-1), .int .i64 2, .int .i64 0, .int .i64 0]) 1) W = .ok (.int .i64 1) W := fun W => by kernel_rfl
 go_wp2_with fail
 go_at_call 32
 refine I7.mono ?_
 clear I7
 rintro e w7 ⟨rfl, iX⟩
 have k1 := (iX.cell (p := ⟨B, off + 1, none⟩) hlt).trans k1
 have k2 := (iX.cell (p := ⟨B, off + 2, none⟩) hlt).trans k2
 have k3 := (iX.cell (p := ⟨B, off + 3, none⟩) hlt).trans k3
 have PV := hok w7 iX
 have JF : Hid (Below w.heap.size w w7) := Gl.out.trans (iX.mono Gl.out.size)
 clear hok
 go_wp2_with fail
 go_at_call 33
 refine PV.mono ?_
 clear PV
 rintro e w' ⟨rfl, rfl⟩
 go_wp2_with fail
 go_ret
 exact ⟨rfl, JF.out⟩
end Go.Proofs.YtkhfejihijdipaaGreat

namespace Go.Proofs.YtkhfejihijdipaaGreat
open Go.RowKit Go.Lib Go.Sort
def ZC (w : World) (z : Nat) : Prop := w.heap[z]? = some (.cells #[.pointer none, .pointer none, .pointer none, .bool false, .bool false] 48 (0, 0))
section
variable {w w' w1 w2 : World} {b z : Nat} {R : Wk}
theorem ZC.kept (h : ZC w z) (hb : Below w.heap.size w w') : ZC w' z := (hb.block z (aB h)).trans h
theorem ql (h : ZC w z) : Calls Tryz.prog 34 #[.pointer (some ⟨z, 0, none⟩)] w fun e w' => e = .returned (.bool true) ∧ w = w' := by
 have c3 : w.cell? ⟨z, 3, none⟩ = some (.bool false) := by simp [World.cell?, show w.heap[z]? = _ from h]
 clear h
 go_enter Tryz.func34, Tryz.ntmps34
 go_wp2_with fail
 go_ret
 exact ⟨rfl, rfl⟩
theorem vG {q : Option Addr} (hno : Calls Tryz.prog 34 #[.pointer q] w fun e w' => e = .returned (.bool true) ∧ w = w') : Calls Tryz.prog 26 #[.pointer q] w fun e w' => e = .returned (.bool true) ∧ w = w' := by
 go_enter Tryz.func26, Tryz.ntmps26
 go_wp2_with (go_at_call 34; go_must (refine hno.mono ?_); rintro e w' ⟨rfl, rfl⟩)
 go_ret
 exact ⟨rfl, rfl⟩
theorem LA (w : World) : Calls Tryz.prog 24 #[.pointer none] w fun e w' => e = .returned (.pointer none) ∧ w = w' := by
 have hno := oW w
 go_enter Tryz.func24, Tryz.ntmps24
 go_wp2_with (go_at_call 34; go_must (refine hno.mono ?_); rintro e w' ⟨rfl, rfl⟩)
 go_ret
 exact ⟨rfl, rfl⟩
theorem I8 (w : World) : Calls Tryz.prog 35 #[.pointer none] w fun e w' => e = .returned (.slice none 0 0) ∧ w = w' := by
 have hno := oW w
 go_enter Tryz.func35, Tryz.ntmps35
 go_wp2_with (go_at_call 34; go_must (refine hno.mono ?_); rintro e w' ⟨rfl, rfl⟩)
 go_ret
 exact ⟨rfl, rfl⟩
theorem DT (h : ZC w z) : Calls Tryz.prog 17 #[.pointer (some ⟨z, 0, none⟩)] w fun e w' => e = .returned (.slice none 0 0) ∧ w = w' := by
 have hno := ql h
 go_enter Tryz.func17, Tryz.ntmps17
 go_wp2_with (go_at_call 34; go_must (refine hno.mono ?_); rintro e w' ⟨rfl, rfl⟩)
 go_ret
 exact ⟨rfl, rfl⟩
theorem DU (h : ZC w z) (n : Int) : Calls Tryz.prog 20 #[.pointer (some ⟨z, 0, none⟩), .int .i64 n] w fun e w' => e = .returned (.agg #[.int .i64 0, .int .i64 0, .int .i64 0, .int .i64 0, .int .i64 0, .int .i64 0, .int .i64 0, .int .i64 0, .int .i64 0, .int .u64 0]) ∧ Below w.heap.size w w' := by
 obtain ⟨wA, aM⟩ : ∃ wA, wA = w.alloc (.cells #[.int .i64 0, .int .i64 0, .int .i64 0, .int .i64 0, .int .i64 0, .int .i64 0, .int .i64 0, .int .i64 0, .int .i64 0, .int .u64 0] 55) := ⟨_, rfl⟩
 have cZ : Below w.heap.size w wA := by rw [aM]; exact (Below.refl _ _).alloc (Nat.le_refl _) _
 have Nk : wA.heap[w.heap.size]? = some (.cells (ah gB).toArray 55 (0, 0)) := by rw [aM]; exact heap_alloc_new w _
 have hno := ql (h.kept cZ)
 rw [aM] at hno
 go_enter Tryz.func20, Tryz.ntmps20
 go_wp2_with (go_at_call 34; go_must (refine hno.mono ?_); rintro e w' ⟨rfl, rfl⟩)
 rw [← aM]
 refine dX rfl rfl rfl Nk Tryz.underlying55 rfl (by kernel_rfl) ⟨rfl, cZ⟩
theorem LB (w : World) : Calls Tryz.prog 37 #[.pointer none] w fun e w' => e = .returned (.bool true) ∧ w = w' := by
 go_enter Tryz.func37, Tryz.ntmps37
 go_wp2_with fail
 go_ret
 exact ⟨rfl, rfl⟩
theorem Pp (w : World) : Calls Tryz.prog 33 #[.pointer none] w fun e w' => e = .returned (.bool false) ∧ w = w' := by
 go_enter Tryz.func33, Tryz.ntmps33
 go_wp2_with fail
 go_ret
 exact ⟨rfl, rfl⟩
theorem I9 (w : World) : Calls Tryz.prog 32 #[.pointer none] w fun e w' => e = .returned (.agg #[.int .i64 0, .int .i64 0, .int .i64 0, .int .i64 0, .int .i64 0, .int .i64 0, .int .i64 0, .int .i64 0, .int .i64 0]) ∧ Below w.heap.size w w' := by
 go_enter Tryz.func32, Tryz.ntmps32
 go_wp2_with fail
 refine dX rfl rfl rfl (heap_alloc_new w _) Tryz.underlying74 rfl (by kernel_rfl) ⟨rfl, ?_⟩
 exact (Below.refl _ _).alloc (Nat.le_refl _) _
theorem Ad {q : Option Addr} {k : Nat} (h : bK w b R) (hl : R.left = eH k) (hno : Calls Tryz.prog 34 #[.pointer q] w fun e w' => e = .returned (.bool true) ∧ w = w') :
  Calls Tryz.prog 31 #[.pointer (some ⟨b, 0, none⟩), .pointer q] w fun e w' => e = .returned (.bool true) ∧ bK w' b { R with rep := ⟨8, 0, 0, 0, 0, 0, 0, 0, 0⟩, ok := false, left := .nilFunc } ∧ fM (fun k => k = b) w w' := by
 have hd := vg h false (.inr ⟨⟨k, hl⟩, rfl⟩)
 have hf := gF h 8
 go_enter Tryz.func31, Tryz.ntmps31
 go_wp2_with fail
 go_at_call 37
 refine hd.mono ?_
 clear hd
 rintro e w' ⟨rfl, rfl⟩
 go_wp2_with fail
 go_at_call 34
 refine hno.mono ?_
 clear hno
 rintro e w' ⟨rfl, rfl⟩
 go_wp2_with fail
 go_at_call 67
 refine hf.mono ?_
 clear hf
 rintro e w1 ⟨rfl, hW, ho⟩
 have hW2 := hW.left .nilFunc
 have f11 := hW.free 11
 have c11 := hW.at 11 R.left rfl
 rw [hl] at c11
 unfold eH at c11
 have hd2 := vg hW2 true (.inl ⟨rfl, rfl⟩)
 have ho2 := eF ho (bT w1 11 .nilFunc)
 clear hW
 go_wp2_with fail
 go_at_call 37
 refine hd2.mono ?_
 clear hd2
 rintro e w' ⟨rfl, rfl⟩
 go_wp2_with fail
 go_ret
 exact ⟨rfl, hW2, ho2⟩
end
end Go.Proofs.YtkhfejihijdipaaGreat

namespace Go.Proofs.YtkhfejihijdipaaGreat
open Go.RowKit Go.Lib Go.Sort
theorem LC (xi xt : Int) (w : World) : Calls Tryz.prog 36 #[.pointer none, .agg #[.int .i64 xi, .int .i64 xt]] w fun e w' => e = .returned (.bool false) ∧ Below w.heap.size w w' := by
 obtain ⟨wA, aM⟩ : ∃ wA, wA = w.alloc (.cells #[.int .i64 xi, .int .i64 xt] 35) := ⟨_, rfl⟩
 have cZ : Hid (Below w.heap.size w wA) := by show Below _ _ _; rw [aM]; exact (Below.refl _ _).alloc (Nat.le_refl _) _
 have sM : Hid (wA.heap[w.heap.size]? = some (.cells #[.int .i64 xi, .int .i64 xt] 35 (0, 0))) := by show _ = _; rw [aM]; exact heap_alloc_new w _
 have hcl := fun (W : World) => vG (oW W)
 go_enter Tryz.func36, Tryz.ntmps36
 go_wp2_with fail
 rw [← aM]
 replace aM := Lib.hid aM
 refine Reg2.rd wA 10 76 [[],[ae],[ae,ae],[ae,ae,ae],[ae,ae,ae,ae],[ae,ae,ae,af,af],[ae,ae,ae,af,af,ae],[ae,ae,ae,af,af,ae,ae],[ae,ae,ae,af,af,ae,ae,ae],[ae,ae,ae,af,af,ae,ae,ae,ae]] [0, 1, 0, 0, 1, 0, 0, 0, 1, 1] [.pure, .mU (.bool true), .pure, .pure, .mU (.int .i64 xt), .pure, .pure, .pure, .mU (.int .i64 0), .mU (.int .i64 0)] (by kernel_rfl) (by kernel_rfl) rfl rfl ⟨trivial, Reg2.tt, trivial, trivial, Reg2.tt, trivial, trivial, trivial, Reg2.tt, Reg2.tt, trivial⟩ ⟨rfl, rfl, rfl, Nat.le_refl _, fun _ _ => rfl⟩ ?_
 dsimp only [Reg2.mk, List.zip, List.zipWith, List.take]
 repeat (refine' Reg2.ai _ (by rfl) (fun wz => ?_) ?_; rotate_left; (go_simp; first | rfl | rw [if_neg (by omega)]); simp only [Act.put, xA, xB, xC]; (try simp only [xD]); (try simp only [xE]); (try simp only [id]))
 refine Reg2.pm (fun wz hI hF => ?_) (fun r1 => ?_) (by rfl)
 ·go_wp2_with (go_at_call 26; go_must (refine (hcl wz).mono ?_); rintro e w' ⟨rfl, rfl⟩)
  first | exact ⟨_, rfl, rfl, Reg2.Ext.refl _⟩ | exact ⟨_, rfl, ⟨(), rfl, trivial⟩, Reg2.Ext.refl _⟩
 simp only [Act.put, xA, xB, xC]; (try simp only [xD]); (try simp only [xE]); (try simp only [id])
 repeat (refine' Reg2.ai _ (by rfl) (fun wz => ?_) ?_; rotate_left; (go_simp; first | rfl | rw [if_neg (by omega)]); simp only [Act.put, xA, xB, xC]; (try simp only [xD]); (try simp only [xE]); (try simp only [id]))
 refine Reg2.bP (by rfl) ?_
 simp only [Act.put, xA, xB, xC]; (try simp only [xD]); (try simp only [xE]); (try simp only [id])
 refine Reg2.bB (by rfl) ?_
 simp only [Act.put, xA, xB, xC]; (try simp only [xD]); (try simp only [xE]); (try simp only [id])
 refine Reg2.bP (by rfl) ?_
 simp only [Act.put, xA, xB, xC]; (try simp only [xD]); (try simp only [xE]); (try simp only [id])
 refine Reg2.bP (by rfl) ?_
 simp only [Act.put, xA, xB, xC]; (try simp only [xD]); (try simp only [xE]); (try simp only [id])
 refine Reg2.bP (by rfl) ?_
 simp only [Act.put, xA, xB, xC]; (try simp only [xD]); (try simp only [xE]); (try simp only [id])
 refine Reg2.bB (by rfl) ?_
 simp only [Act.put, xA, xB, xC]; (try simp only [xD]); (try simp only [xE]); (try simp only [id])
 refine Reg2.bB (by rfl) ?_
 simp only [Act.put, xA, xB, xC]; (try simp only [xD]); (try simp only [xE]); (try simp only [id])
 refine Reg2.aA ?_
 intro w4 HI4 _ dU
 clear dU
 dsimp only [List.drop]
 go_wp2_with fail
 go_ret
 exact ⟨rfl, cZ.out.trans (HI4.mono cZ.out.size)⟩
end Go.Proofs.YtkhfejihijdipaaGreat

namespace Go.Proofs.YtkhfejihijdipaaGreat
open Go.ChangeShapes Go.WideShapes Go.ChangeAt Go.RowKit Go.Lib Go.Sort Go.Deep
section
variable {H : Type} {enc : TypeId × Value → H} {w : World} {base : Nat} {v : Value} {d : DataW H} {ps : List MemPlace}
theorem Ja (hval : Value.okWide Tryz.prog w .any base 35 v) (hd : DataW.Trod enc Tryz.prog w 0 (fun _ => true) true 35 v d ps) : ∃ i x : Int, v = .agg #[.int .i64 i, .int .i64 x] := by
 obtain ⟨s, rfl, hl, hf⟩ := Es (n := 2) (ts := [3, 2]) Tryz.underlying35 (by kernel_rfl) (by kernel_rfl) hval hd
 match s, hl with
 | [a0, a1], _ =>
  obtain ⟨x0, rfl, b0⟩ := iP hf 0 rfl Tryz.underlying3 rfl
  obtain ⟨x1, rfl, b1⟩ := iP hf 1 rfl Tryz.underlying2 rfl
  exact ⟨x0, x1, rfl⟩
end
theorem DV (r : Rq) (xi xt : Int) (w : World) : Calls Tryz.prog 7 #[.agg (encR r).toArray, .agg #[.int .i64 xi, .int .i64 xt]] w fun e w' => e = .returned (.bool true) ∧ Below w.heap.size w w' := by
 have zR := jR
 obtain ⟨k9, bV⟩ : ∃ k, k = 9 := ⟨_, rfl⟩
 rw [← bV] at zR
 have hk0 : ¬ k9 = 0 := by omega
 have lR := gL r
 rw [← bV] at lR
 replace bV := Lib.hid bV
 obtain ⟨wA, aM⟩ : ∃ wA, wA = ((w.alloc (.cells (encR r).toArray 33)).alloc (.cells #[.int .i64 xi, .int .i64 xt] 35)).alloc (.cells #[.pointer none, .pointer none, .pointer none, .bool false, .bool false] 48) := ⟨_, rfl⟩
 have hb1 : Below w.heap.size w (w.alloc (.cells (encR r).toArray 33)) := (Below.refl _ _).alloc (Nat.le_refl _) _
 have hb2 := hb1.alloc hb1.size (.cells #[.int .i64 xi, .int .i64 xt] 35)
 have cZ : Hid (Below w.heap.size w wA) := by show Below _ _ _; rw [aM]; exact hb2.alloc hb2.size _
 have hsA : wA.heap.size = w.heap.size + 1 + 1 + 1 := by rw [aM]; simp
 have Tc : wA.heap[w.heap.size]? = some (.cells (encR r).toArray 33 (0, 0)) := by
  rw [aM]
  exact dN (dN (heap_alloc_new w _))
 have hzx : Hid (wA.heap[w.heap.size + 1]? = some (.cells #[.int .i64 xi, .int .i64 xt] 35 (0, 0))) := by
  show _ = _
  rw [aM]
  refine dN ?_
  have := heap_alloc_new (w.alloc (.cells (encR r).toArray 33)) (.cells #[.int .i64 xi, .int .i64 xt] 35)
  simpa using this
 have hzz : Hid (ZC wA (w.heap.size + 1 + 1)) := by
  show _ = _
  rw [aM]
  have := heap_alloc_new ((w.alloc (.cells (encR r).toArray 33)).alloc (.cells #[.int .i64 xi, .int .i64 xt] 35)) (.cells #[.pointer none, .pointer none, .pointer none, .bool false, .bool false] 48)
  simpa using this
 have Td := eu Tc lR
 have hq := xN r wA
 rw [aM] at Td hq
 generalize hcR : encR r = cR at *
 replace hcR := Lib.hid hcR
 clear hb1 hb2 Tc
 go_enter Tryz.func7, Tryz.ntmps7
 go_wp2_with fail
 go_at_call 27
 refine hq.mono ?_
 clear hq Td
 rw [← aM]
 replace aM := Lib.hid aM
 rintro e w1 ⟨b, rfl, hW1, hlb, hb1⟩
 have hx1 : w1.heap[w.heap.size + 1]? = some (.cells #[.int .i64 xi, .int .i64 xt] 35 (0, 0)) := (hb1.block _ (aB hzx.out)).trans hzx.out
 have c0 : w1.cell? ⟨w.heap.size + 1, 0, none⟩ = some (.int .i64 xi) := by simp [World.cell?, hx1]
 have c1 : w1.cell? ⟨w.heap.size + 1, 1, none⟩ = some (.int .i64 xt) := by simp [World.cell?, hx1]
 have hz1 := hzz.out.kept hb1
 have hx := tq xi xt w1
 go_wp2_with fail
 go_at_call 28
 refine hx.mono ?_
 clear hx c0 c1
 rintro e w2 ⟨x, rfl, hX2, hlx, hb2⟩
 have hW2 : bK w2 b (sZ r) := (hb2.block b hW1.lt).trans hW1
 have hz2 := hz1.kept hb2
 have hx2 : w2.heap[w.heap.size + 1]? = some (.cells #[.int .i64 xi, .int .i64 xt] 35 (0, 0)) := (hb2.block _ (aB hx1)).trans hx1
 have hbx : b ≠ x := Nat.ne_of_lt (Nat.lt_of_lt_of_le hW1.lt hlx)
 have lb : w.heap.size + 1 + 1 < b := by omega
 have lx : w.heap.size + 1 + 1 < x := by have := hb1.size; omega
 have hst := Ad (q := none) hW2 rfl (oW w2)
 go_wp2_with fail
 go_at_call 31
 refine hst.mono ?_
 clear hst
 rintro e w3 ⟨rfl, hW3, ho3⟩
 have l2 : w2.heap.size ≤ w3.heap.size := ho3.size
 have Te : bK w3 x (zW xi xt) := (ho3.block x hX2.lt (Ne.symm hbx)).trans hX2
 have hz3 : ZC w3 (w.heap.size + 1 + 1) := (ho3.block _ (aB hz2) (by show ¬ _ = b; omega)).trans hz2
 have hx3 : w3.heap[w.heap.size + 1]? = some (.cells #[.int .i64 xi, .int .i64 xt] 35 (0, 0)) := (ho3.block _ (aB hx2) (by show ¬ _ = b; omega)).trans hx2
 have hst := Ad Te rfl (ql hz3)
 go_wp2_with fail
 go_at_call 31
 refine hst.mono ?_
 clear hst
 rintro e w4 ⟨rfl, Pn, nJ⟩
 have Dv := (nJ.block b hW3.lt hbx).trans hW3
 have vk : ZC w4 (w.heap.size + 1 + 1) := (nJ.block _ (aB hz3) (by show ¬ _ = x; omega)).trans hz3
 have hx4 : w4.heap[w.heap.size + 1]? = some (.cells #[.int .i64 xi, .int .i64 xt] 35 (0, 0)) := (nJ.block _ (aB hx3) (by show ¬ _ = x; omega)).trans hx3
 have PX : Hid (Below w.heap.size w w4) := by
  have l0 := cZ.out.size
  have l1 := hb1.size
  have U7 := hb2.size
  have g3 : Below w.heap.size w2 w3 := ho3.below (fun k hk => by have e : k = b := hk; omega) (by omega)
  have g4 : Below w.heap.size w3 w4 := nJ.below (fun k hk => by have e : k = x := hk; omega) (by omega)
  exact cZ.out.trans ((hb1.mono l0).trans ((hb2.mono (by omega)).trans (g3.trans g4)))
 have I7 := Cf Dv
 have er : ∀ n, (fG ({ sZ r with rep := ⟨8, 0, 0, 0, 0, 0, 0, 0, 0⟩, ok := false, left := n } : Wk).rep).toArray = #[.int .i64 8, .int .i64 0, .int .i64 0, .int .i64 0, .int .i64 0, .int .i64 0, .int .i64 0, .int .i64 0, .int .i64 0] := fun _ => rfl
 rw [er] at I7
 clear er
 have e1 : ∀ W, Sem.run Tryz.prog (binOp .neq 74 (.agg #[.int .i64 8, .int .i64 0, .int .i64 0, .int .i64 0, .int .i64 0, .int .i64 0, .int .i64 0, .int .i64 0, .int .i64 0]) (.agg #[.int .i64 8, .int .i64 0, .int .i64 0, .int .i64 0, .int .i64 0, .int .i64 0, .int .i64 0, .int .i64 0, .int .i64 0])) W = .ok (.bool false) W := fun W => by kernel_rfl
 go_wp2_with fail
 go_at_call 32
 refine I7.mono ?_
 clear I7 Dv hW3 hW2 hW1 Te hX2
 rintro e w5 ⟨rfl, hb5⟩
 have Po := (hb5.block x Pn.lt).trans Pn
 have xV := vk.kept hb5
 have hx5 := (hb5.block _ (aB hx4)).trans hx4
 have Gj : Hid (Below w.heap.size w w5) := PX.out.trans (hb5.mono PX.out.size)
 have hok := Om Po
 go_wp2_with fail
 go_at_call 33
 refine hok.mono ?_
 clear hok e1
 rintro e w' ⟨rfl, rfl⟩
 have h1 := oW w5
 go_wp2_with fail
 go_at_call 34
 refine h1.mono ?_
 clear h1
 rintro e w' ⟨rfl, rfl⟩
 have h1 := ql xV
 go_wp2_with fail
 go_at_call 34
 refine h1.mono ?_
 rintro e w' ⟨rfl, rfl⟩
 have h2 := vG h1
 clear h1
 go_wp2_with fail
 go_at_call 26
 refine h2.mono ?_
 clear h2
 rintro e w' ⟨rfl, rfl⟩
 have h1 := LA w5
 go_wp2_with fail
 go_at_call 24
 refine h1.mono ?_
 clear h1
 rintro e w' ⟨rfl, rfl⟩
 have h1 := I8 w5
 go_wp2_with fail
 go_at_call 35
 refine h1.mono ?_
 clear h1
 rintro e w' ⟨rfl, rfl⟩
 have h1 := DT xV
 go_wp2_with fail
 go_at_call 17
 refine h1.mono ?_
 clear h1
 rintro e w' ⟨rfl, rfl⟩
 have c0 : w5.cell? ⟨w.heap.size + 1, 0, none⟩ = some (.int .i64 xi) := by simp [World.cell?, hx5]
 have c1 : w5.cell? ⟨w.heap.size + 1, 1, none⟩ = some (.int .i64 xt) := by simp [World.cell?, hx5]
 have h1 := LC xi xt w5
 go_wp2_with fail
 go_at_call 36
 refine h1.mono ?_
 clear h1 c0 c1
 rintro e w6 ⟨rfl, hb6⟩
 have Ub := xV.kept hb6
 have Gl : Hid (Below w.heap.size w w6) := Gj.out.trans (hb6.mono Gj.out.size)
 have h1 := DU Ub 0
 have e2 : ∀ W, Sem.run Tryz.prog (binOp .eql 55 (.agg #[.int .i64 0, .int .i64 0, .int .i64 0, .int .i64 0, .int .i64 0, .int .i64 0, .int .i64 0, .int .i64 0, .int .i64 0, .int .u64 0]) (.agg #[.int .i64 0, .int .i64 0, .int .i64 0, .int .i64 0, .int .i64 0, .int .i64 0, .int .i64 0, .int .i64 0, .int .i64 0, .int .u64 0])) W = .ok (.bool true) W := fun W => by kernel_rfl
 go_wp2_with fail
 go_at_call 20
 refine h1.mono ?_
 clear h1
 rintro e w7 ⟨rfl, iX⟩
 have JF : Hid (Below w.heap.size w w7) := Gl.out.trans (iX.mono Gl.out.size)
 have h1 := LB w7
 go_wp2_with fail
 go_at_call 37
 refine h1.mono ?_
 clear h1 e2
 rintro e w' ⟨rfl, rfl⟩
 have h1 := I9 w7
 have e3 : ∀ W, Sem.run Tryz.prog (binOp .eql 74 (.agg #[.int .i64 0, .int .i64 0, .int .i64 0, .int .i64 0, .int .i64 0, .int .i64 0, .int .i64 0, .int .i64 0, .int .i64 0]) (.agg #[.int .i64 0, .int .i64 0, .int .i64 0, .int .i64 0, .int .i64 0, .int .i64 0, .int .i64 0, .int .i64 0, .int .i64 0])) W = .ok (.bool true) W := fun W => by kernel_rfl
 go_wp2_with fail
 go_at_call 32
 refine h1.mono ?_
 clear h1
 rintro e w8 ⟨rfl, qB⟩
 have PY : Hid (Below w.heap.size w w8) := JF.out.trans (qB.mono JF.out.size)
 have h1 := Pp w8
 go_wp2_with fail
 go_at_call 33
 refine h1.mono ?_
 clear h1 e3
 rintro e w' ⟨rfl, rfl⟩
 have haw := Lx w8
 go_wp2_with fail
 go_at_call 10
 refine haw.mono ?_
 clear haw
 rintro e w9 ⟨rfl, zU⟩
 go_wp2_with fail
 go_ret
 exact ⟨rfl, PY.out.trans (zU.mono PY.out.size)⟩
end Go.Proofs.YtkhfejihijdipaaGreat


namespace Go.Proofs.YtkhfejihijdipaaGreat.coreNobody
open Go.ChangeShapes Go.WideShapes Go.ChangeAt Go.RowKit
theorem own : ownKnob Tryz.prog.godebug = none := by kernel_rfl
theorem laid : laidOutB Tryz.prog = true := by kernel_rfl
theorem readable : (Tryz.f7.params.toList.all fun t => Tryz.prog.readableRec t && decide (t < Tryz.prog.types.size)) = true := by kernel_rfl
theorem lifted (os : Os) (started : os.Started) (H : Type) (enc : TypeId × Value → H) :
  ReturnsInHanded {} Tryz.checked os 7 .any (Rows.coreNobodySpec.pre6 enc Tryz.prog Tryz.f7 Rows.coreNobodyRow.domain false) (Rows.coreNobodySpec.post enc Tryz.prog Tryz.f7 false true false false) := by
 refine returnsInHanded_of_change (C := Tryz.checked) own started (by kernel_rfl) Tryz.func7
  (ChangeSpec.witness6 (enc := enc) (C := Tryz.checked) false ⟨#[], #[.agg #[.int .i64 0, .int .i64 0, .int .i64 0, .int .i64 0, .int .i64 0, .int .i64 0, .bool false, .int .i64 0, .int .i64 0], .agg #[.int .i64 0, .int .i64 0]], []⟩ 8 (by kernel_rfl) (by kernel_rfl) (by kernel_rfl) (by kernel_rfl)) ?_
 intro W base args ds gs before hval0 hW hcnd _
 have hval : ∀ (j : Nat) t v, Tryz.f7.params[j]? = some t → args[j]? = some v → Value.okWide Tryz.prog W .any base t v := hval0
 have hW' := hW
 obtain ⟨p, q, OG, hV, hpq, hfz, hnd⟩ := hW
 have hA : DataW.TrodAll enc Tryz.prog W 0 (fun _ => true) true Tryz.f7.params.toList args.toList ds p := OG
 rw [Tryz.params7] at hA hval
 obtain ⟨v0, U8, d0, ds0, p0, q0, hargs, rfl, rfl, h0, r0⟩ := trodAll_cons hA
 obtain ⟨v1, vs1, d1, ds1, p1, q1, rfl, rfl, rfl, h1, r1⟩ := trodAll_cons r0
 obtain ⟨rfl, rfl, rfl⟩ := trodAll_nil r1
 obtain rfl : args = #[v0, v1] := by cases args; simp_all
 obtain ⟨rfl, rfl⟩ := trodVars_none hV
 obtain ⟨l0, rfl⟩ := Ox (hval 0 33 v0 rfl rfl) h0
 obtain ⟨i1, x1, rfl⟩ := Ja (hval 1 35 v1 rfl rfl) h1
 clear OG hval0
 refine (DV l0 i1 x1 W).mono fun e W' ⟨he, hg⟩ => ?_
 subst he
 exact ⟨_, rfl, JG hW' rfl rfl rfl Tryz.underlying4 laid (Oq readable) hg⟩
theorem over : Rows.coreNobodyRow.holds Tryz.pinned (OpenSpec.ofChange Rows.coreNobodySpec) :=
 OpenClaim.holds_of_wide 7 Tryz.f7 rfl rfl rfl rfl rfl rfl rfl ⟨rfl, rfl, rfl, rfl, rfl⟩ rfl rfl rfl rfl rfl (by kernel_rfl) Tryz.func7 (by kernel_rfl)
  (of_decide_eq_true (by kernel_rfl)) (by unfold Func.isWrapper; first | (rw [if_pos (by decide +kernel)]; kernel_rfl) | (rw [if_neg (by decide +kernel)]; exact ⟨rfl, rfl⟩))
  (fun os started H enc _ => lifted os started H enc)
theorem proved : Rows.CoreNobodySaid := over
#print axioms proved
end Go.Proofs.YtkhfejihijdipaaGreat.coreNobody
