/-
 Own words and walks, merged: part 8 of 9.
-/
import Derived.Deep.LoopGhost
import Derived.Test.YtnihdgcfamoplaaGreatPa7
set_option maxRecDepth 1000000
set_option maxHeartbeats 8000000
set_option linter.all false
namespace Go.Proofs.YtnihdgcfamoplaaGreat
open Go.RowKit Go.Lib Go.Sort
structure Bg (w0 w : World) (b c t d p : Nat) (v0 : Value) (g0 : Nat) (v : Value) (g a : Nat) (m mx : Int) (R : Wk) (M : Md) : Prop where
 sw : SW w b c t d p v g a m R (ak M)
 left : R.left = fH 83
 inv : aG M
 calm : Calm M
 cl : M.cl = false
 one : 1 ≤ M.dr.length
 few : M.L.length ≤ 190
 ha : a ≤ 1 + 2 * M.L.length
 hm : m + 1000 ≤ mx
 hmx : mx ≤ 1000000
 ok : R.ok = false
 ws : WS w0 w b c t d p v0 g0 v g
section
variable {L : List Jb} {id : Int} {ok : Jb → Bool} {ch : Jb → Jb} {M : Md}
theorem vW (L : List Jb) (i : Nat) : L[i]! = L.getD i default := by rw [List.getElem!_eq_getElem?_getD, List.getD_eq_getElem?_getD]
theorem sH (h : ¬ (id < 1 ∨ (L.length : Int) < id)) : bH L id = L.getD (id - 1).toNat default := by
 unfold bH
 rw [if_neg (by omega), if_neg (by omega), vW]
theorem xz (h : id < 1 ∨ (L.length : Int) < id) : bM L 0 id ok = 7 := by
 unfold bM
 rw [if_neg (by decide)]
 split
 ·rfl
 ·rw [if_pos (by omega)]
theorem AY (h : ¬ (id < 1 ∨ (L.length : Int) < id)) (ho : ok (L.getD (id - 1).toNat default) = false) : bM L 0 id ok = 8 := by
 unfold bM
 rw [if_neg (by decide), if_neg (by omega), if_neg (by omega), vW, ho]
 rfl
theorem tL (h : ¬ (id < 1 ∨ (L.length : Int) < id)) (ho : ok (L.getD (id - 1).toNat default) = true) : bM L 0 id ok = 0 := by
 unfold bM
 rw [if_neg (by decide), if_neg (by omega), if_neg (by omega), vW, ho]
 rfl
theorem om {e0 : Int} (h : bM L e0 id ok = 0) : cu L e0 id ok ch = L.set (id - 1).toNat (ch (L.getD (id - 1).toNat default)) := by
 unfold cu
 rw [if_pos h, vW]
theorem Dj (h : id < 1 ∨ (M.L.length : Int) < id) : getM M id = (default, false) := if_pos h
theorem vX (h : ¬ (id < 1 ∨ (M.L.length : Int) < id)) : getM M id = (M.L.getD (id - 1).toNat default, true) := if_neg h
theorem xG {x : Jb} (h : ¬ (id < 1 ∨ (L.length : Int) < id)) : bH (L.set (id - 1).toNat x) id = x := by
 rw [sH (by rw [List.length_set]; exact h), df, if_pos ⟨rfl, by omega⟩]
theorem uX (r : Rw) (h : r.id < 1 ∨ (M.L.length : Int) < r.id) : fE M r = (fF 7, M) := by
 unfold fE
 rw [Dj h]
 exact if_pos rfl
theorem Ng (r : Rw) (h : r.id < 1 ∨ (M.L.length : Int) < r.id) : ku M r = (fF 7, M) := by
 unfold ku
 rw [Dj h]
 exact if_pos rfl
end
section
variable {w0 w : World} {b c t d p g g0 a N : Nat} {v v0 : Value} {m mx : Int} {P : Pg} {M M' : Md} {R : Wk} {Q : World → Prop}
theorem J9 (h : SW w b c t d p v g a m R (ak M)) (hl : R.left = fH 83) (hc : M.cl = true) (ha : a ≤ 800) (hm : m ≤ mx) (hw : WS w0 w b c t d p v0 g0 v g) :
  Goes b c 1000 w (Fin w0 b c t d p v0 g0 mx M (kY (fF 12)) false) :=
 aZ (N := 999) bz (BJ h hc) h hl rfl ha hm hw rfl rfl rfl
theorem Ka (h : Bg w0 w b c t d p v0 g0 v g a m mx R M) (hq : ¬ (1 ≤ R.ah.kind ∧ R.ah.kind ≤ 13)) :
  Goes b c 1000 w (Fin w0 b c t d p v0 g0 mx M (kY (fF 4)) false) :=
 aZ (N := 999) bz (Hq h.sw h.cl hq) h.sw h.left rfl (by have := h.ha; have := h.few; omega) (by have := h.hm; omega) h.ws rfl rfl rfl
theorem fI {k k' a' : Nat} {m' : Int} {R' : Wk} {P' : Pg} (hk : ∀ args w, Sem.run Tryz.prog (callFunc k args) w = .ok (.enter k args) w)
  (hp : Calls Tryz.prog k #[.pointer (some ⟨b, 0, none⟩), .pointer (some ⟨c, 0, none⟩)] w (au w b c t d p v g a' m' (fH k') R' P'))
  (h : SW w b c t d p v g a m R P) (hl : R.left = fH k) (hl' : R'.left = R.left)
  (hn : ∀ w' v' g', SW w' b c t d p v' g' a' m' { R' with left := fH k' } P' → WS w w' b c t d p v g v' g' → Goes b c N w' Q) : Goes b c (N + 1) w Q :=
 uU h hl (hl'.trans hl) hk hp hn
theorem BM (h : Bg w0 w b c t d p v0 g0 v g a m mx R M) (hk : R.ah.kind = 4) :
  Goes b c 1000 w (Fin w0 b c t d p v0 g0 mx (fE M (toW R.ah)).2 (kY (fE M (toW R.ah)).1) false) := by
 have hll := h.few
 have ha := h.ha
 have hm := h.hm
 have hrd : jl R.ah.kind = false := by rw [hk]; rfl
 have eO : ∀ {L : Value} {a' : Nat} {m' : Int} {R' : Wk} {P' : Pg}, Calls Tryz.prog 122 #[.pointer (some ⟨b, 0, none⟩), .pointer (some ⟨c, 0, none⟩)] w (au w b c t d p v g a' m' L R' P') → Calls Tryz.prog 83 #[.pointer (some ⟨b, 0, none⟩), .pointer (some ⟨c, 0, none⟩)] w (au w b c t d p v g a' m' L R' P') := fun hn => fK h.sw h.cl (by rw [hk]; decide) hrd (M7 h.sw hk hn)
 by_cases hid : R.ah.id < 1 ∨ (M.L.length : Int) < R.ah.id
 ·rw [uX (toW R.ah) hid]
  exact aZ (N := 999) bz (eO (vS h.sw 7 (by decide) (xz hid))) h.sw h.left rfl (by omega) (by omega) h.ws rfl rfl rfl
 ·have hi : (R.ah.id - 1).toNat < M.L.length := by omega
  have hmem := bg hi
  have eM := vX (M := M) hid
  by_cases hs : (M.L.getD (R.ah.id - 1).toNat default).st = 2
  ·have hE : bM M.L 0 R.ah.id (fun j : Jb => decide (j.state = 2)) = 0 := tL hid (decide_eq_true hs)
   have hr := G6 h.sw hE
   have eL : cu (ak M).J 0 R.ah.id (fun j : Jb => decide (j.state = 2)) nS = M.L.set (R.ah.id - 1).toNat ((M.L.getD (R.ah.id - 1).toNat default).setSt 1) := om hE
   rw [eL, xG hid] at hr
   generalize hx : M.L.getD (R.ah.id - 1).toNat default = x at *
   have bo := h.inv.one _ hmem
   have bw := h.inv.mb.wid _ hmem
   have bl := h.inv.mb.lim _ hmem
   have bf := h.inv.mb.fin _ hmem
   have bn := h.inv.mb.bN _ hmem
   have hp : x.aD = -1 := h.inv.rest _ hmem (by omega)
   have hpl : aj (x.setSt 1) = false := by unfold aj; simp [show (x.setSt 1).aD = -1 from hp]
   have hI1 : aG { M with L := M.L.set (R.ah.id - 1).toNat (x.setSt 1) } :=
    h.inv.set (i := (R.ah.id - 1).toNat) (y := x.setSt 1) (h.inv.mb.set _ _ bw bl (by show -1 ≤ x.aD ∧ x.aD ≤ _; omega) bf bn) (by rw [hx]; rfl) ⟨bo.1, bo.2.1, bo.2.2.1, (show (1 : Int) ≤ 1 by omega), (show (1 : Int) ≤ 6 by omega)⟩ (fun _ => hp) (fun e => absurd (show (1 : Int) = 3 from e) (by decide)) (.inl hp) (h.inv.kL.set hi fun n e => by unfold aK at e; simp [Jb.setSt, Jb.st] at e)
     fun t ht => lZ h.inv hi (by rw [hx]; exact ⟨fun e => absurd (show (1 : Int) = 3 from e) (by decide), fun e => by omega⟩) (by rw [hx]; rfl) (by rw [hx]; rfl) hpl t ht
   have hP : ({ ak M with J := M.L.set (R.ah.id - 1).toNat (x.setSt 1) } : Pg) = ak { M with L := M.L.set (R.ah.id - 1).toNat (x.setSt 1) } := by
    have h3 : ((x.setSt 1).st = 3) ↔ ((M.L.getD (R.ah.id - 1).toNat default).st = 3) := by rw [hx]; exact ⟨fun e => absurd (show (1 : Int) = 3 from e) (by decide), fun e => by omega⟩
    have e1 : dA M = dA { M with L := M.L.set (R.ah.id - 1).toNat (x.setSt 1) } := by
     refine oh (by rw [bB, bB]) fun n hn => ?_
     rw [dm, dm, oF hi h3 (by rw [hx]; rfl)]
    have e2 : (fun t => az M t 0) = fun t => az { M with L := M.L.set (R.ah.id - 1).toNat (x.setSt 1) } t 0 := by
     funext t
     rw [ql hi h3 (by rw [hx]; rfl) (by rw [hx]; rfl), dP hpl, hx, dP (by unfold aj; simp [hp])]
     omega
    show Pg.mk _ _ (dA M) (fun t => az M t 0) _ = _
    rw [e1, e2]
    rfl
   rw [hP] at hr
   have e : fE M (toW R.ah) = (mH (x.setSt 1), fu { M with L := M.L.set (R.ah.id - 1).toNat (x.setSt 1) } (x.setSt 1)) := by
    have hj : dN (toW R.ah).kind x = x.setSt 1 := by unfold dN; rw [show (toW R.ah).kind = 4 from hk]; rfl
    unfold fE
    rw [show (toW R.ah).id = R.ah.id from rfl, eM]
    refine (if_neg (fun e => nomatch e)).trans ((if_neg ?_).trans ((if_pos hk).trans ?_))
    ·show ¬ ((R.ah.kind = 3 ∧ x.st ≠ 1) ∨ (R.ah.kind = 4 ∧ x.st ≠ 2))
     omega
    ·show (mH (dN (toW R.ah).kind x), fu { M with L := M.L.set (R.ah.id - 1).toNat (dN (toW R.ah).kind x) } (dN (toW R.ah).kind x)) = _
     rw [hj]
   rw [e]
   refine (fI (N := 901) (k := 83) (k' := 138) bz (eO hr) h.sw h.left rfl fun w' v' g' hS' hw' => ?_).more (show 902 ≤ 1000 by decide)
   have hL : (M.L.set (R.ah.id - 1).toNat (x.setSt 1)).length = M.L.length := List.length_set
   have UX := AX (x.setSt 1) (M.L.set (R.ah.id - 1).toNat (x.setSt 1))
   have hidx : x.id = (((R.ah.id - 1).toNat : Nat) : Int) + 1 := by rw [← hx]; exact h.inv.ids _ hi
   have := sG (M := { M with L := M.L.set (R.ah.id - 1).toNat (x.setSt 1) }) (M' := fu { M with L := M.L.set (R.ah.id - 1).toNat (x.setSt 1) } (x.setSt 1)) (R := { ({ R with aC := x.setSt 1, rep := iG (x.setSt 1) } : Wk) with left := fH 138 }) (w0 := w0) (b := b) (c := c) (t := t) (d := d) (p := p) (v0 := v0) (g0 := g0) (mx := mx) rfl (by show x.id ≠ 0; omega) h.one (by show (M.L.set (R.ah.id - 1).toNat (x.setSt 1)).length ≤ 900; omega) h.hmx 900 (L := M.L.set (R.ah.id - 1).toNat (x.setSt 1)) rfl (by show hits (x.setSt 1) _ ≤ 900; omega) hI1 rfl hS' (by show a + 2 * hits (x.setSt 1) _ ≤ 800; omega) (by show m + (hits (x.setSt 1) _ : Nat) ≤ mx; omega) (h.ws.trans hw')
   rw [show ({ ({ R with aC := x.setSt 1, rep := iG (x.setSt 1) } : Wk) with left := fH 138 } : Wk).ok = false from h.ok] at this
   exact this
  ·have hE : bM M.L 0 R.ah.id (fun j : Jb => decide (j.state = 2)) = 8 := AY hid (decide_eq_false hs)
   have e : fE M (toW R.ah) = (fF 8, M) := by
    unfold fE
    rw [show (toW R.ah).id = R.ah.id from rfl, eM]
    exact (if_neg (fun e => nomatch e)).trans (if_pos (.inr ⟨hk, hs⟩))
   rw [e]
   exact aZ (N := 999) bz (eO (vS h.sw 8 (by decide) hE)) h.sw h.left rfl (by omega) (by omega) h.ws rfl rfl rfl
end
end Go.Proofs.YtnihdgcfamoplaaGreat

namespace Go.Proofs.YtnihdgcfamoplaaGreat
open Go.RowKit Go.Lib Go.Sort
section
variable {w0 w : World} {b c t d p g g0 a N : Nat} {v v0 : Value} {m mx : Int} {P : Pg} {M M' : Md} {R : Wk} {Q : World → Prop}
theorem Dk {i : Nat} {y : Jb} (hi : i < M.L.length) (hs : (M.L.getD i default).st ≠ 3) (hy : y.st ≠ 3) (hy2 : y.bN = (M.L.getD i default).bN) (hy3 : y.fin = (M.L.getD i default).fin) (hyp : aj y = false)
  (hI : aG M) (hI1 : aG { M with L := M.L.set i y }) (h1 : 1 ≤ M.dr.length) (hll : M.L.length ≤ 900) (ha : a ≤ 700) (hm : m + 1 ≤ mx) (hmx : mx ≤ 1000000)
  (h : SW w b c t d p v g a m R { ak M with J := M.L.set i y }) (hl : R.left = fH 142) (hj : R.aC = M.L.getD i default) (hw : WS w0 w b c t d p v0 g0 v g) :
  Goes b c (N + 1) w (Fin w0 b c t d p v0 g0 mx { M with L := M.L.set i y } R.rep R.ok) := by
 have hmem := bg hi
 have bo := hI.one _ hmem
 have bw := hI.mb.wid _ hmem
 have bl := hI.mb.lim _ hmem
 have bp := hI.mb.aD _ hmem
 have hst : (y.st = 3) ↔ ((M.L.getD i default).st = 3) := ⟨fun e => absurd e hy, fun e => absurd e hs⟩
 have dM := fC hI h1 hll
 have kZ := fC hI1 h1 (by rw [List.length_set]; exact hll)
 have qZ : PK { ak M with J := M.L.set i y } := ⟨dM.now, kZ.few, kZ.st, kZ.lim, dM.qG, dM.f⟩
 have eT : dA M = dA { M with L := M.L.set i y } := by
  refine oh (by rw [bB, bB]) fun n hn => ?_
  rw [dm, dm, oF hi hst hy2]
 have ef : ∀ t, az { M with L := M.L.set i y } t 0 = az M t 0 + dO t 0 (M.L.getD i default) := fun t => by
  rw [ql hi hst hy2 hy3, dP hyp]
  omega
 have eP : ∀ F : Int → Int, F = (fun t => az { M with L := M.L.set i y } t 0) → ({ ak M with J := M.L.set i y, f := F } : Pg) = ak { M with L := M.L.set i y } := fun F hF => by
  show Pg.mk _ _ (dA M) F _ = _
  rw [eT, hF]
  rfl
 cases hp : aj (M.L.getD i default) with
 | true =>
  have hv := EC h qZ (by omega) (by omega) (by rw [hj]; exact hp) (by rw [hj]; exact bp.2) (by rw [hj]; exact bl) (by rw [hj]; exact bo.2.2.1) (by rw [hj]; exact bw) (fun t => az { M with L := M.L.set i y } t 0) (fun t ht => by
   rw [hj]
   have hu := qI hI hi hp t
   rw [iK hi, dP (j := (M.L.getD i default).aI (-1)) (by unfold aj; simp [Jb.aI, Jb.aD])] at hu
   show az { M with L := M.L.set i y } t 0 = az M t 0 + had (max (M.L.getD i default).aD M.now) ((M.L.getD i default).aD + (M.L.getD i default).lim) (M.L.getD i default).wid t
   rw [ef]
   omega) (fun t ht => kZ.f t ht)
  have e := eP (fun t => az { M with L := M.L.set i y } t 0) rfl
  rw [e] at hv
  exact aZ (a' := a + 2) (m' := m + 1) uW hv h hl rfl (by omega) (by omega) hw rfl rfl rfl
 | false =>
  have hv := ED h qZ (by omega) (by omega) (by rw [hj]; exact hp) (by rw [hj]; exact hs) (by rw [hj]; exact bp.2) (by rw [hj]; exact bl)
  have e : ({ ak M with J := M.L.set i y } : Pg) = ak { M with L := M.L.set i y } := eP _ (by
   funext t
   rw [ef, dP hp]
   show az M t 0 = _
   omega)
  rw [e] at hv
  exact aZ (a' := a) (m' := m) uW hv h hl rfl (by omega) (by omega) hw rfl rfl rfl
theorem Kb (h : Bg w0 w b c t d p v0 g0 v g a m mx R M) (hk : R.ah.kind = 3) :
  Goes b c 1000 w (Fin w0 b c t d p v0 g0 mx (fE M (toW R.ah)).2 (kY (fE M (toW R.ah)).1) false) := by
 have hll := h.few
 have ha := h.ha
 have hm := h.hm
 have hrd : jl R.ah.kind = false := by rw [hk]; rfl
 have eO : ∀ {L : Value} {a' : Nat} {m' : Int} {R' : Wk} {P' : Pg}, Calls Tryz.prog 121 #[.pointer (some ⟨b, 0, none⟩), .pointer (some ⟨c, 0, none⟩)] w (au w b c t d p v g a' m' L R' P') → Calls Tryz.prog 83 #[.pointer (some ⟨b, 0, none⟩), .pointer (some ⟨c, 0, none⟩)] w (au w b c t d p v g a' m' L R' P') := fun hn => fK h.sw h.cl (by rw [hk]; decide) hrd (M6 h.sw hk hn)
 by_cases hid : R.ah.id < 1 ∨ (M.L.length : Int) < R.ah.id
 ·rw [uX (toW R.ah) hid]
  exact aZ (N := 999) bz (eO (CZ h.sw 7 (by decide) (xz hid))) h.sw h.left rfl (by omega) (by omega) h.ws rfl rfl rfl
 ·have hi : (R.ah.id - 1).toNat < M.L.length := by omega
  have eM := vX (M := M) hid
  by_cases hs : (M.L.getD (R.ah.id - 1).toNat default).st = 1
  ·have hE : bM M.L 0 R.ah.id (fun j : Jb => decide (j.state = 1)) = 0 := tL hid (decide_eq_true hs)
   have hr := PD h.sw hE
   have eL : cu (ak M).J 0 R.ah.id (fun j : Jb => decide (j.state = 1)) oU = M.L.set (R.ah.id - 1).toNat (((M.L.getD (R.ah.id - 1).toNat default).setSt 2).aI (-1)) := om hE
   rw [eL, xG hid, show bH (ak M).J R.ah.id = M.L.getD (R.ah.id - 1).toNat default from sH hid] at hr
   have e : fE M (toW R.ah) = (mH (((M.L.getD (R.ah.id - 1).toNat default).setSt 2).aI (-1)), { M with L := M.L.set (R.ah.id - 1).toNat (((M.L.getD (R.ah.id - 1).toNat default).setSt 2).aI (-1)) }) := by
    have hj : dN (toW R.ah).kind (M.L.getD (R.ah.id - 1).toNat default) = ((M.L.getD (R.ah.id - 1).toNat default).setSt 2).aI (-1) := by unfold dN; rw [show (toW R.ah).kind = 3 from hk]; rfl
    have hk4 : ¬ (toW R.ah).kind = 4 := by rw [show (toW R.ah).kind = 3 from hk]; decide
    unfold fE
    rw [show (toW R.ah).id = R.ah.id from rfl, eM]
    refine (if_neg (fun e => nomatch e)).trans ((if_neg ?_).trans ((if_neg hk4).trans ?_))
    ·show ¬ ((R.ah.kind = 3 ∧ (M.L.getD (R.ah.id - 1).toNat default).st ≠ 1) ∨ (R.ah.kind = 4 ∧ (M.L.getD (R.ah.id - 1).toNat default).st ≠ 2))
     omega
    ·show (mH (dN (toW R.ah).kind (M.L.getD (R.ah.id - 1).toNat default)), { M with L := M.L.set (R.ah.id - 1).toNat (dN (toW R.ah).kind (M.L.getD (R.ah.id - 1).toNat default)) }) = _
     rw [hj]
   have hI1 := (h.inv.DN h.calm (toW R.ah)).1
   rw [e] at hI1 ⊢
   refine (fI (N := 1) (k := 83) (k' := 142) bz (eO hr) h.sw h.left rfl fun w' v' g' hS' hw' => ?_).more (show 2 ≤ 1000 by decide)
   have := Dk (N := 0) (mx := mx) (a := a) (m := m) (y := ((M.L.getD (R.ah.id - 1).toNat default).setSt 2).aI (-1)) hi (by rw [hs]; decide) (show (2 : Int) ≠ 3 by decide) rfl rfl (by unfold aj; rw [show (((M.L.getD (R.ah.id - 1).toNat default).setSt 2).aI (-1)).aD = -1 from rfl]; simp) h.inv hI1 h.one (by omega) (by omega) (by omega) h.hmx hS' rfl rfl (h.ws.trans hw')
   rw [show ({ ({ R with aC := M.L.getD (R.ah.id - 1).toNat default, rep := iG (((M.L.getD (R.ah.id - 1).toNat default).setSt 2).aI (-1)) } : Wk) with left := fH 142 } : Wk).ok = false from h.ok] at this
   exact this
  ·have hE : bM M.L 0 R.ah.id (fun j : Jb => decide (j.state = 1)) = 8 := AY hid (decide_eq_false hs)
   have e : fE M (toW R.ah) = (fF 8, M) := by
    unfold fE
    rw [show (toW R.ah).id = R.ah.id from rfl, eM]
    exact (if_neg (fun e => nomatch e)).trans (if_pos (.inl ⟨hk, hs⟩))
   rw [e]
   exact aZ (N := 999) bz (eO (CZ h.sw 8 (by decide) hE)) h.sw h.left rfl (by omega) (by omega) h.ws rfl rfl rfl
theorem vY (h : Bg w0 w b c t d p v0 g0 v g a m mx R M) (s : Int) (hk : (R.ah.kind = 2 ∧ s = 5) ∨ (R.ah.kind = 5 ∧ s = 4)) :
  Goes b c 1000 w (Fin w0 b c t d p v0 g0 mx (ku M (toW R.ah)).2 (kY (ku M (toW R.ah)).1) false) := by
 have hll := h.few
 have ha := h.ha
 have hm := h.hm
 have jr := h.inv.mb.now
 have dM := fC h.inv h.one (by omega)
 have hrd : jl R.ah.kind = false := by rcases hk with ⟨hk, _⟩ | ⟨hk, _⟩ <;> (rw [hk]; rfl)
 have eO : ∀ {L : Value} {a' : Nat} {m' : Int} {R' : Wk} {P' : Pg}, Calls Tryz.prog 120 #[.pointer (some ⟨b, 0, none⟩), .pointer (some ⟨c, 0, none⟩), .int .i64 s] w (au w b c t d p v g a' m' L R' P') → Calls Tryz.prog 83 #[.pointer (some ⟨b, 0, none⟩), .pointer (some ⟨c, 0, none⟩)] w (au w b c t d p v g a' m' L R' P') := fun hn => by
  rcases hk with ⟨hk, rfl⟩ | ⟨hk, rfl⟩
  ·exact fK h.sw h.cl (by rw [hk]; decide) hrd (M4 h.sw hk hn)
  ·exact fK h.sw h.cl (by rw [hk]; decide) hrd (M5 h.sw hk hn)
 have Ta : bA s M.now = 0 := by unfold bA; (repeat' split) <;> omega
 by_cases hid : R.ah.id < 1 ∨ (M.L.length : Int) < R.ah.id
 ·rw [Ng (toW R.ah) hid]
  exact aZ (N := 999) bz (eO (yB h.sw dM s 7 (by decide) (by rw [show (ak M).now = M.now from rfl, Ta]; exact xz hid))) h.sw h.left rfl (by omega) (by omega) h.ws rfl rfl rfl
 ·have hi : (R.ah.id - 1).toNat < M.L.length := by omega
  have hmem := bg hi
  have bo := h.inv.one _ hmem
  have eM := vX (M := M) hid
  by_cases hs : eU s (M.L.getD (R.ah.id - 1).toNat default) = true
  ·have hE : bM (ak M).J (bA s (ak M).now) R.ah.id (eU s) = 0 := by rw [show (ak M).now = M.now from rfl, Ta]; exact tL hid hs
   have hr := JK h.sw dM s hE
   obtain ⟨y, Nh⟩ : ∃ y, y = iA M R.ah.kind (M.L.getD (R.ah.id - 1).toNat default) := ⟨_, rfl⟩
   have hyj : bO s M.now (M.L.getD (R.ah.id - 1).toNat default) = y := by
    rw [Nh]
    unfold iA bO
    have es : (if R.ah.kind = 5 then (4 : Int) else 5) = s := by split <;> omega
    rw [es]
    by_cases e3 : (M.L.getD (R.ah.id - 1).toNat default).st = 3
    ·rw [if_pos e3, if_pos (show (M.L.getD (R.ah.id - 1).toNat default).2.2.2.2.2.1 = 3 from e3)]; rfl
    ·rw [if_neg e3, if_neg (show ¬ (M.L.getD (R.ah.id - 1).toNat default).2.2.2.2.2.1 = 3 from e3)]; rfl
   have eL : cu (ak M).J (bA s (ak M).now) R.ah.id (eU s) (bO s (ak M).now) = M.L.set (R.ah.id - 1).toNat y := (om hE).trans (by rw [← hyj]; rfl)
   rw [eL, xG hid, show bH (ak M).J R.ah.id = M.L.getD (R.ah.id - 1).toNat default from sH hid] at hr
   have hok : ¬ (3 < (M.L.getD (R.ah.id - 1).toNat default).st ∨ (R.ah.kind = 5 ∧ (M.L.getD (R.ah.id - 1).toNat default).st ≠ 3)) := by
    unfold eU at hs
    rw [Bool.or_eq_true, Bool.and_eq_true, decide_eq_true_iff, decide_eq_true_iff, decide_eq_true_iff] at hs
    have : (M.L.getD (R.ah.id - 1).toNat default).state = (M.L.getD (R.ah.id - 1).toNat default).st := rfl
    omega
   have e : ku M (toW R.ah) = (mH y, { M with L := M.L.set (R.ah.id - 1).toNat y }) := by
    unfold ku
    rw [show (toW R.ah).id = R.ah.id from rfl, eM]
    refine (if_neg (fun e => nomatch e)).trans ((if_neg hok).trans ?_)
    rw [Nh]
    rfl
   have hI1 := (h.inv.Kt h.calm (toW R.ah)).1
   rw [e] at hI1 ⊢
   have hy3 : y.st ≠ 3 := by
    rw [Nh]
    show (if R.ah.kind = 5 then (4 : Int) else 5) ≠ 3
    split <;> omega
   have hyp : aj y = false := by
    unfold aj
    rw [show y.aD = -1 by rw [Nh]; rfl]
    simp
   have Tc : y.bN = (M.L.getD (R.ah.id - 1).toNat default).bN := by rw [Nh]; unfold iA; split <;> rfl
   refine (fI (N := 2) (k := 83) (k' := 140) bz (eO hr) h.sw h.left rfl fun w' v' g' hS' hw' => ?_).more (show 3 ≤ 1000 by decide)
   clear Nh hyj
   have kZ := fC hI1 h.one (by rw [List.length_set]; omega)
   by_cases h3 : (M.L.getD (R.ah.id - 1).toNat default).st = 3
   ·have hrn := h.inv.runs _ hmem h3
    have Ku := h.inv.mb.bN _ hmem
    have hfin := h.inv.mb.fin _ hmem
    have hlt := h.calm.runs _ hmem h3
    have hg := ME hS' ⟨dM.now, kZ.few, kZ.st, kZ.lim, dM.qG, dM.f⟩ h3 Ku
    obtain ⟨n, hn⟩ : ∃ n : Int, n = ((List.range M.dr.length).countP (fun k => cO (M.L.getD (R.ah.id - 1).toNat default).bN.toNat k && !(M.dr.getD k false)) : Nat) := ⟨_, rfl⟩
    have hn2 : 0 ≤ n ∧ n ≤ 64 := by
     have h4 := List.countP_le_length (p := fun k => cO (M.L.getD (R.ah.id - 1).toNat default).bN.toNat k && !(M.dr.getD k false)) (l := List.range M.dr.length)
     rw [List.length_range] at h4
     have := h.inv.mb.nn
     omega
    refine fI (N := 1) (k := 140) (k' := 142) (a' := a) (m' := m)
     (R' := { ({ ({ R with aC := M.L.getD (R.ah.id - 1).toNat default, rep := iG y } : Wk) with left := fH 140 } : Wk) with idle := n }) (P' := { ak M with J := M.L.set (R.ah.id - 1).toNat y, T := dA { M with L := M.L.set (R.ah.id - 1).toNat y } })
     Hu (hg.mono fun e w' hp => ?_) hS' rfl rfl fun w2 v2 g2 hS2 hw2 => ?_
    ·obtain ⟨n', x', T', h5, h6⟩ := hp
     obtain ⟨h7, _, h8⟩ := CO h.inv hi h3 hy3 h5
     rw [← hn] at h7
     subst h7 h8
     exact h6
    ·have hv := GQ hS2 ⟨dM.now, kZ.few, kZ.st, kZ.lim, kZ.qG, dM.f⟩ (by omega) (by have := h.hmx; omega) h3 (h.inv.mb.aD _ hmem).2 (h.inv.mb.lim _ hmem) ⟨hlt, hfin.2⟩ (by show -64 ≤ n ∧ n ≤ 64; omega) (fun t => az { M with L := M.L.set (R.ah.id - 1).toNat y } t 0) (fun t ht => by
      have hf := qo h.inv.kL hi h3 hy3 hyp t 0
      show az { M with L := M.L.set (R.ah.id - 1).toNat y } t 0 = az M t 0 + had (max M.now M.now) (M.L.getD (R.ah.id - 1).toNat default).fin n t
      have ht' : M.now ≤ t := ht
      unfold had
      by_cases c1 : t < (M.L.getD (R.ah.id - 1).toNat default).fin
      ·rw [if_pos c1] at hf
       rw [if_pos ⟨by omega, .inl c1⟩, hf, hn]
      ·rw [if_neg c1] at hf
       rw [if_neg (by omega), hf]
       rfl) (fun t ht => kZ.f t ht)
     exact aZ (N := 0) uW hv hS2 rfl rfl (by omega) (by omega) ((h.ws.trans hw').trans hw2) rfl rfl h.ok
   ·have hg := Pj hS' h3
    refine fI (N := 1) (k := 140) (k' := 142) Hu hg hS' rfl rfl fun w2 v2 g2 hS2 hw2 => ?_
    have VF : y.fin = (M.L.getD (R.ah.id - 1).toNat default).fin := by
     have : y = bO s M.now (M.L.getD (R.ah.id - 1).toNat default) := by
      have := congrArg (fun l : List Jb => l.getD (R.ah.id - 1).toNat default) eL
      rw [show cu (ak M).J (bA s (ak M).now) R.ah.id (eU s) (bO s (ak M).now) = M.L.set (R.ah.id - 1).toNat (bO s M.now (M.L.getD (R.ah.id - 1).toNat default)) from om hE] at this
      simp only [df] at this
      rw [if_pos ⟨trivial, hi⟩, if_pos ⟨trivial, hi⟩] at this
      exact this.symm
     rw [this]
     show (if (M.L.getD (R.ah.id - 1).toNat default).2.2.2.2.2.1 = 3 then M.now else _) = _
     rw [if_neg (show ¬ (M.L.getD (R.ah.id - 1).toNat default).2.2.2.2.2.1 = 3 from h3)]
     rfl
    have := Dk (N := 0) (mx := mx) (a := a) (m := m) (y := y) hi h3 hy3 Tc VF hyp h.inv hI1 h.one (by omega) (by omega) (by omega) h.hmx hS2 rfl rfl ((h.ws.trans hw').trans hw2)
    rw [show ({ ({ ({ R with aC := M.L.getD (R.ah.id - 1).toNat default, rep := iG y } : Wk) with left := fH 140 } : Wk) with left := fH 142 } : Wk).ok = false from h.ok] at this
    exact this
  ·rw [Bool.not_eq_true] at hs
   have hE : bM M.L (bA s M.now) R.ah.id (eU s) = 8 := by rw [Ta]; exact AY hid hs
   have hno : 3 < (M.L.getD (R.ah.id - 1).toNat default).st ∨ (R.ah.kind = 5 ∧ (M.L.getD (R.ah.id - 1).toNat default).st ≠ 3) := by
    unfold eU at hs
    rw [Bool.or_eq_false_iff, Bool.and_eq_false_iff, decide_eq_false_iff_not, decide_eq_false_iff_not, decide_eq_false_iff_not] at hs
    have : (M.L.getD (R.ah.id - 1).toNat default).state = (M.L.getD (R.ah.id - 1).toNat default).st := rfl
    omega
   have e : ku M (toW R.ah) = (fF 8, M) := by
    unfold ku
    rw [show (toW R.ah).id = R.ah.id from rfl, eM]
    exact (if_neg (fun e => nomatch e)).trans (if_pos hno)
   rw [e]
   exact aZ (N := 999) bz (eO (yB h.sw dM s 8 (by decide) hE)) h.sw h.left rfl (by omega) (by omega) h.ws rfl rfl rfl
end
end Go.Proofs.YtnihdgcfamoplaaGreat

namespace Go.Proofs.YtnihdgcfamoplaaGreat
open Go.RowKit Go.Lib Go.Sort
section
variable {w0 w : World} {b c t d p g g0 a N : Nat} {v v0 : Value} {m mx : Int} {P : Pg} {M M' : Md} {R : Wk} {Q : World → Prop}
theorem PX {k : Nat} (hk : k < 64) (L : List Jb) : (holderL L k < 0 ∧ kg L k = gW) ∨ ∃ i : Nat, holderL L k = i ∧ i < L.length ∧ kg L k = L.getD i default ∧ (L.getD i default).st = 3 := by
 have e : (fun j : Jb => decide (j.state ∈ [(3 : Int)]) && CY (k : Int) j) = aK k := by
  funext j
  unfold aK CY
  rw [nu hk, kv]
  have : (j.state ∈ [(3 : Int)]) ↔ (j.st = 3) := List.mem_singleton
  rw [decide_eq_decide.2 this]
 have e2 : kg L (k : Int) = match L.findIdx? (aK k) with | some i => L.getD i default | none => gW := by
  unfold kg
  rw [e]
  cases L.findIdx? (aK k) <;> rfl
 rcases fD L k with h | ⟨i, h, hi, h2⟩
 ·refine .inl ⟨h, ?_⟩
  rw [e2]
  unfold holderL at h
  cases hf : L.findIdx? (aK k) with
  | none => rfl
  | some i => rw [hf] at h; simp only at h; omega
 ·refine .inr ⟨i, h, hi, ?_, by unfold aK at h2; simp at h2; exact h2.1⟩
  rw [e2]
  unfold holderL at h
  cases hf : L.findIdx? (aK k) with
  | none => rw [hf] at h; simp only at h; omega
  | some q =>
   rw [hf] at h
   simp only at h
   have : q = i := by omega
   subst this
   rfl
theorem uY {k : Nat} {bb : Bool} (hk : k < M.dr.length) (hb : M.dr.getD k false = !bb) (hI : aG M) (hC : ∀ j ∈ M.L, j.st = 3 → M.now < j.fin) (h1 : 1 ≤ M.dr.length) (hll : M.L.length ≤ 900)
  (hI' : aG { M with dr := M.dr.set k bb }) (hn : R.ah.node = k) (ha : a ≤ 800) (hm : m ≤ 1000000) {by' : Int} (hby : by' = if bb then -1 else 1)
  (h : SW w b c t d p v g a m R { ak M with T := dA { M with dr := M.dr.set k bb } }) :
  Calls Tryz.prog 145 #[.pointer (some ⟨b, 0, none⟩), .pointer (some ⟨c, 0, none⟩), .int .i64 0, .int .i64 by'] w
   (au w b c t d p v g (a + 2) (m + 1) .nilFunc { R with rep := ⟨0, (k : Int), aU { M with dr := M.dr.set k bb } k, 0, 0, 0, 0, 0, 0⟩ } (ak { M with dr := M.dr.set k bb })) := by
 have hnn := hI.mb.nn
 have jr := hI.mb.now
 have dM := fC hI h1 hll
 have kZ := fC hI' (by show 1 ≤ (M.dr.set k bb).length; rw [List.length_set]; exact h1) hll
 have hX : (max (gQ (ak M) (k : Int)) M.now < 1152921504606846976) ∧ ∀ u, M.now ≤ u → ((decide (holderL M.L k < 0) || decide ((M.L.getD (holderL M.L k).toNat default).fin ≤ u)) = decide (max (gQ (ak M) (k : Int)) M.now ≤ u)) := by
  rcases PX (show k < 64 by omega) M.L with ⟨g1, g2⟩ | ⟨i, g1, hi, g2, g3⟩
  ·have e : gQ (ak M) (k : Int) = M.now := by
    unfold gQ
    rw [show (ak M).J = M.L from rfl, g2]
    rfl
   rw [e]
   refine ⟨by omega, fun u hu => ?_⟩
   rw [decide_eq_true g1, Bool.true_or]
   exact (decide_eq_true (by omega)).symm
  ·have hf := hC _ (bg hi) g3
   have hf2 := hI.mb.fin _ (bg hi)
   have e : gQ (ak M) (k : Int) = max (M.L.getD i default).fin (M.now + 1) := by
    unfold gQ
    rw [show (ak M).J = M.L from rfl, g2, if_pos g3]
    rfl
   rw [e, g1, Int.toNat_natCast]
   refine ⟨by omega, fun u hu => ?_⟩
   rw [decide_eq_false (show ¬ ((i : Int) < 0) by omega), Bool.false_or]
   exact decide_eq_decide.2 (by omega)
 have VG : oZ (dA { M with dr := M.dr.set k bb }) (k : Int) = aU { M with dr := M.dr.set k bb } k := by
  unfold oZ
  rw [if_pos ⟨by omega, by rw [bB]; show (k : Int) < ((M.dr.set k bb).length : Nat); rw [List.length_set]; omega⟩, Int.toNat_natCast, dm]
 have hv := JL (by' := by') h ⟨dM.now, dM.few, dM.st, dM.lim, kZ.qG, dM.f⟩ ha hm hI.mb.bN (by omega) (by rw [hby]; split <;> omega) (fun u => az { M with dr := M.dr.set k bb } u 0) (fun u hu => by
  have hu' : M.now ≤ u := hu
  have hd := vB hk bb u 0
  have hx := hX.2 u hu'
  rw [hn]
  show az { M with dr := M.dr.set k bb } u 0 = az M u 0 + had (max (gQ (ak M) (k : Int)) M.now) 1152921504606846976 by' u
  have hnf : bT M u k = (!(M.dr.getD k false) && decide (max (gQ (ak M) (k : Int)) M.now ≤ u)) := by rw [← hx]; rfl
  have hh : had (max (gQ (ak M) (k : Int)) M.now) 1152921504606846976 by' u = if max (gQ (ak M) (k : Int)) M.now ≤ u then by' else 0 := by unfold had; simp
  rw [hd, hnf, hx, hb, hh, hby]
  by_cases c1 : max (gQ (ak M) (k : Int)) M.now ≤ u
  ·rw [decide_eq_true c1, if_pos c1]
   cases bb <;> simp <;> omega
  ·rw [decide_eq_false c1, if_neg c1]
   cases bb <;> simp) (fun u hu => kZ.f u hu) (by
  rw [hn]
  have : gQ { ak M with T := dA { M with dr := M.dr.set k bb } } (k : Int) = gQ (ak M) (k : Int) := rfl
  rw [this]
  omega)
 rw [hn, show ({ ak M with T := dA { M with dr := M.dr.set k bb } } : Pg).T = dA { M with dr := M.dr.set k bb } from rfl, VG] at hv
 exact hv
theorem drain_eq {n : Nat} (h : dU kF M.L = none) : fo M n true = { M with dr := M.dr.set n true } := by
 unfold fo
 rw [if_pos rfl, qy h]
theorem uZ {k : Nat} (hk : k < M.dr.length) {bb : Bool} (hb : M.dr.getD k false = !bb) : lT (dA M) (k : Int) bb 0 (dA { M with dr := M.dr.set k bb }) := by
 have hd : bb = decide ((dA M).getD (k : Int).toNat 0 < 3) := by
  rw [Int.toNat_natCast, dm, eQ hk, hb]
  cases bb <;> (by_cases h1 : 0 ≤ holderL M.L k <;> simp [h1])
 have hc : lT (dA M) (k : Int) bb 0 ((dA M).set (k : Int).toNat (jP ((dA M).getD (k : Int).toNat 0))) :=
  ⟨fun h => absurd h (by rw [bB]; omega), fun _ _ h => absurd hd h, fun _ _ _ => ⟨rfl, rfl⟩⟩
 have e := (Gs hk hb hc).2
 rw [e] at hc
 exact hc
theorem EM (h : Bg w0 w b c t d p v0 g0 v g a m mx R M) (hk : R.ah.kind = 8) (hnd : -9223372036854775808 ≤ R.ah.node ∧ R.ah.node ≤ 9223372036854775807) :
  Goes b c 1000 w (Fin w0 b c t d p v0 g0 mx (gF M (toW R.ah)).2 (kY (gF M (toW R.ah)).1) false) := by
 have hll := h.few
 have ha := h.ha
 have hm := h.hm
 have hmx := h.hmx
 have dM := fC h.inv h.one (by omega)
 have hrd : jl R.ah.kind = false := by rw [hk]; rfl
 have eO : ∀ {L : Value} {a' : Nat} {m' : Int} {R' : Wk} {P' : Pg}, Calls Tryz.prog 124 #[.pointer (some ⟨b, 0, none⟩), .pointer (some ⟨c, 0, none⟩)] w (au w b c t d p v g a' m' L R' P') → Calls Tryz.prog 83 #[.pointer (some ⟨b, 0, none⟩), .pointer (some ⟨c, 0, none⟩)] w (au w b c t d p v g a' m' L R' P') := fun hn => fK h.sw h.cl (by rw [hk]; decide) hrd (M9 h.sw hk hn)
 have hd7 : decide ((toW R.ah).kind = 7) = false := decide_eq_false (by rw [show (toW R.ah).kind = 8 from hk]; decide)
 by_cases ho : R.ah.node < 0 ∨ (M.dr.length : Int) ≤ R.ah.node
 ·have e : gF M (toW R.ah) = (fF 11, M) := if_pos ho
  have hT : lT (dA M) R.ah.node false 11 (dA M) := ⟨fun _ => ⟨rfl, rfl⟩, fun h1 h2 => by rw [bB] at h2; omega, fun h1 h2 => by rw [bB] at h2; omega⟩
  rw [e]
  refine aZ (N := 999) (a' := a) (m' := m) (R' := { R with rep := jQ 11, ok := false }) bz (eO (resume_fn (P' := ak M) h.sw dM hnd hT fun W v1 g1 hW => ?_)) h.sw h.left rfl (by omega) (by omega) h.ws rfl rfl rfl
  exact C8 hW 11 1 (by decide)
 ·obtain ⟨k, hkk⟩ := Int.eq_ofNat_of_zero_le (show 0 ≤ R.ah.node by omega)
  have hk2 : k < M.dr.length := by omega
  cases hdr : M.dr.getD k false with
  | false =>
   have e : gF M (toW R.ah) = (fF 8, M) := by
    unfold gF
    refine (if_neg ho).trans (if_pos ?_)
    rw [hd7, show (toW R.ah).node = R.ah.node from rfl, hkk, Int.toNat_natCast, hdr]
   have hs : (dA M).getD R.ah.node.toNat 0 < 3 := by
    rw [hkk, Int.toNat_natCast, dm, eQ hk2, hdr]
    split <;> simp
   have hT : lT (dA M) R.ah.node false 8 (dA M) := ⟨fun h1 => by rw [bB] at h1; omega, fun _ _ _ => ⟨rfl, rfl⟩, fun _ _ h3 => by rw [decide_eq_true hs] at h3; cases h3⟩
   rw [e]
   refine aZ (N := 999) (a' := a) (m' := m) (R' := { R with rep := jQ 8, ok := false }) bz (eO (resume_fn (P' := ak M) h.sw dM hnd hT fun W v1 g1 hW => ?_)) h.sw h.left rfl (by omega) (by omega) h.ws rfl rfl rfl
   exact C8 hW 8 1 (by decide)
  | true =>
   have e : gF M (toW R.ah) = ((0, (k : Int), aU { M with dr := M.dr.set k false } (k : Int), 0, 0, 0, 0, 0, 0), { M with dr := M.dr.set k false }) := by
    unfold gF
    refine (if_neg ho).trans ((if_neg ?_).trans ?_)
    ·rw [hd7, show (toW R.ah).node = R.ah.node from rfl, hkk, Int.toNat_natCast, hdr]
     exact fun e => nomatch e
    ·rw [hd7, show (toW R.ah).node = R.ah.node from rfl, hkk, Int.toNat_natCast]
     rfl
   have hI' := (h.inv.Iu h.calm (toW R.ah)).1
   rw [e] at hI' ⊢
   have hT := uZ hk2 (bb := false) hdr
   rw [← hkk] at hT
   refine aZ (N := 999) bz (eO (resume_fn h.sw dM hnd hT fun W v1 g1 hW => uY (bb := false) (by' := 1) hk2 hdr h.inv h.calm.runs h.one (by omega) hI' hkk (by omega) (by omega) rfl hW)) h.sw h.left rfl (by omega) (by omega) h.ws rfl rfl h.ok
theorem Hy {k : Nat} (hl : R.left = fH 144) (hkk : R.ah.node = k) (hk : k < M.dr.length) (hdr : M.dr.getD k false = false) (h1 : 1 ≤ M.dr.length) (hll : M.L.length ≤ 900) (hmx : mx ≤ 1000000) (hI' : aG (fo M k true)) (q : Nat) :
  ∀ {L : List Jb} {w : World} {v : Value} {g a : Nat} {m : Int}, L.length = M.L.length → hits kF L ≤ q → aG { M with L := L } → (∀ j ∈ L, j.st = 3 → M.now < j.fin) → fu { M with L := L } kF = fu M kF → SW w b c t d p v g a m R (ak { M with L := L }) → a + 2 * hits kF L + 2 ≤ 800 → m + hits kF L + 1 ≤ mx → WS w0 w b c t d p v0 g0 v g →
   Goes b c (q + 1) w (Fin w0 b c t d p v0 g0 mx (fo M k true) ⟨0, (k : Int), aU (fo M k true) k, 0, 0, 0, 0, 0, 0⟩ R.ok) := by
 have last : ∀ {L : List Jb} {w : World} {v : Value} {g a : Nat} {m : Int} (q : Nat), L.length = M.L.length → dU kF L = none → aG { M with L := L } → (∀ j ∈ L, j.st = 3 → M.now < j.fin) → fu { M with L := L } kF = fu M kF → SW w b c t d p v g a m R (ak { M with L := L }) → a + 2 ≤ 800 → m + 1 ≤ mx → WS w0 w b c t d p v0 g0 v g →
   Goes b c (q + 1) w (Fin w0 b c t d p v0 g0 mx (fo M k true) ⟨0, (k : Int), aU (fo M k true) k, 0, 0, 0, 0, 0, 0⟩ R.ok) := by
  intro L w v g a m q hL ho hI hC hM hS ha hm hw
  have eD : fo M k true = { M with L := L, dr := M.dr.set k true } := by
   have h2 := qy (M := { M with L := L }) ho
   rw [h2] at hM
   unfold fo
   rw [if_pos rfl, ← hM]
  rw [eD] at hI' ⊢
  have hT := uZ (M := { M with L := L }) (k := k) hk (bb := true) hdr
  rw [← hkk] at hT
  refine aZ (N := q) Di (yD (M := { M with L := L }) hS (fC hI h1 (by show L.length ≤ 900; omega)) rfl hI h1 (by show L.length ≤ 900; omega) (by omega) (by omega) ho (by have := hI.mb.nn; have : M.dr.length ≤ 64 := this; omega) hT fun W v1 g1 hW => uY (M := { M with L := L }) (bb := true) (by' := -1) hk hdr hI hC h1 (by show L.length ≤ 900; omega) hI' hkk (by omega) (by omega) rfl hW) hS hl rfl (by omega) (by omega) hw rfl rfl rfl
 induction q with
 | zero =>
  intro L w v g a m hL hq hI hC hM hS ha hm hw
  cases ho : dU kF L with
  | none => exact last 0 hL ho hI hC hM hS (by omega) (by omega) hw
  | some i =>
   have := (iW (L := L) ho).2.2.2.2
   omega
 | succ q ih =>
  intro L w v g a m hL hq hI hC hM hS ha hm hw
  cases ho : dU kF L with
  | none => exact last (q + 1) hL ho hI hC hM hS (by omega) (by omega) hw
  | some i =>
   obtain ⟨hi, _, _, _, hh⟩ := iW ho
   refine fI (k := 144) (k' := 144) Di (yE (M := { M with L := L }) hS hI h1 (by show L.length ≤ 900; omega) (by omega) (by omega) ho) hS hl rfl fun w' v' g' hS' hw' => ?_
   rw [← hl] at hS'
   refine ih (L := L.set i ((L.getD i default).aI (-1))) (by rw [List.length_set]; exact hL) (by omega) (hI.vE hi) (fun j hj => ?_) ((uC (M := { M with L := L }) ho).trans hM) hS' (by omega) (by omega) (hw.trans hw')
   rcases List.mem_or_eq_of_mem_set hj with h2 | rfl
   ·exact hC j h2
   ·exact fun hs => hC (L.getD i default) (bg hi) hs
theorem Hz (h : Bg w0 w b c t d p v0 g0 v g a m mx R M) (hk : R.ah.kind = 7) (hnd : -9223372036854775808 ≤ R.ah.node ∧ R.ah.node ≤ 9223372036854775807) :
  Goes b c 1000 w (Fin w0 b c t d p v0 g0 mx (gF M (toW R.ah)).2 (kY (gF M (toW R.ah)).1) false) := by
 have hll := h.few
 have ha := h.ha
 have hm := h.hm
 have hmx := h.hmx
 have dM := fC h.inv h.one (by omega)
 have hrd : jl R.ah.kind = false := by rw [hk]; rfl
 have eO : ∀ {L : Value} {a' : Nat} {m' : Int} {R' : Wk} {P' : Pg}, Calls Tryz.prog 123 #[.pointer (some ⟨b, 0, none⟩), .pointer (some ⟨c, 0, none⟩)] w (au w b c t d p v g a' m' L R' P') → Calls Tryz.prog 83 #[.pointer (some ⟨b, 0, none⟩), .pointer (some ⟨c, 0, none⟩)] w (au w b c t d p v g a' m' L R' P') := fun hn => fK h.sw h.cl (by rw [hk]; decide) hrd (M8 h.sw hk hn)
 have hd7 : decide ((toW R.ah).kind = 7) = true := decide_eq_true hk
 by_cases ho : R.ah.node < 0 ∨ (M.dr.length : Int) ≤ R.ah.node
 ·have e : gF M (toW R.ah) = (fF 11, M) := if_pos ho
  rw [e]
  exact aZ (N := 999) bz (eO (Df h.sw dM hnd 11 (.inl ⟨by
   unfold oZ
   rw [if_neg (by rw [show (ak M).T = dA M from rfl, bB]; omega)], rfl⟩))) h.sw h.left rfl (by omega) (by omega) h.ws rfl rfl rfl
 ·obtain ⟨k, hkk⟩ := Int.eq_ofNat_of_zero_le (show 0 ≤ R.ah.node by omega)
  have hk2 : k < M.dr.length := by omega
  have est : oZ (ak M).T R.ah.node = aU M (k : Int) := by
   unfold oZ
   rw [if_pos ⟨by omega, by rw [show (ak M).T = dA M from rfl, bB]; omega⟩, hkk, Int.toNat_natCast]
   exact dm k
  cases hdr : M.dr.getD k false with
  | true =>
   have e : gF M (toW R.ah) = (fF 8, M) := by
    unfold gF
    refine (if_neg ho).trans (if_pos ?_)
    rw [hd7, show (toW R.ah).node = R.ah.node from rfl, hkk, Int.toNat_natCast, hdr]
   rw [e]
   exact aZ (N := 999) bz (eO (Df h.sw dM hnd 8 (.inr ⟨by
    rw [est, eQ hk2, hdr]
    split <;> simp, rfl⟩))) h.sw h.left rfl (by omega) (by omega) h.ws rfl rfl rfl
  | false =>
   have e : gF M (toW R.ah) = ((0, (k : Int), aU (fo M k true) (k : Int), 0, 0, 0, 0, 0, 0), fo M k true) := by
    unfold gF
    refine (if_neg ho).trans ((if_neg ?_).trans ?_)
    ·rw [hd7, show (toW R.ah).node = R.ah.node from rfl, hkk, Int.toNat_natCast, hdr]
     exact fun e => nomatch e
    ·rw [hd7, show (toW R.ah).node = R.ah.node from rfl, hkk, Int.toNat_natCast]
   have hI' := (h.inv.Iu h.calm (toW R.ah)).1
   rw [e] at hI' ⊢
   have hst : oZ (ak M).T R.ah.node = 1 ∨ oZ (ak M).T R.ah.node = 2 := by
    rw [est, eQ hk2, hdr]
    split <;> simp
   have UX := AX kF M.L
   cases hz : dU kF M.L with
   | none =>
    have eD := drain_eq (n := k) hz
    have hI2 : aG { M with dr := M.dr.set k true } := by rw [← eD]; exact hI'
    have hT := uZ hk2 (bb := true) hdr
    rw [← hkk] at hT
    show Goes b c 1000 w (Fin w0 b c t d p v0 g0 mx (fo M k true) ⟨0, (k : Int), aU (fo M k true) k, 0, 0, 0, 0, 0, 0⟩ false)
    rw [eD]
    refine aZ (N := 999) bz (eO (Dc h.sw dM hnd hst fun W hW => yD hW dM rfl h.inv h.one (by omega) (by omega) (by omega) hz hnd hT fun W2 v1 g1 hW2 => uY (bb := true) (by' := -1) hk2 hdr h.inv h.calm.runs h.one (by omega) hI2 hkk (by omega) (by omega) rfl hW2)) h.sw h.left rfl (by omega) (by omega) h.ws rfl rfl h.ok
   | some i =>
    obtain ⟨hi, _, _, _, hh⟩ := iW hz
    refine (fI (N := 901) (k := 83) (k' := 144) bz (eO (Dc h.sw dM hnd hst fun W hW => yE hW h.inv h.one (by omega) (by omega) (by omega) hz)) h.sw h.left rfl fun w' v' g' hS' hw' => ?_).more (show 902 ≤ 1000 by decide)
    have := Hy (M := M) (R := { R with left := fH 144 }) (w0 := w0) (b := b) (c := c) (t := t) (d := d) (p := p) (v0 := v0) (g0 := g0) (mx := mx) (k := k) rfl hkk hk2 hdr h.one (by omega) hmx hI' 900 (L := M.L.set i ((M.L.getD i default).aI (-1))) (by rw [List.length_set]) (by omega) (h.inv.vE hi) (fun j hj => by
     rcases List.mem_or_eq_of_mem_set hj with h2 | rfl
     ·exact h.calm.runs j h2
     ·exact fun hs => h.calm.runs (M.L.getD i default) (bg hi) hs) (uC hz) hS' (by omega) (by omega) (h.ws.trans hw')
    rw [show ({ R with left := fH 144 } : Wk).ok = false from h.ok] at this
    exact this
end
end Go.Proofs.YtnihdgcfamoplaaGreat

namespace Go.Proofs.YtnihdgcfamoplaaGreat
open Go.RowKit Go.Lib Go.Sort
section
variable {M : Md}
theorem Early.set (h : Early M) {i : Nat} {y : Jb} (hy : y.st ≤ 2 → y.fin = -1) : Early { M with L := M.L.set i y } := fun j hj => by
 rcases List.mem_or_eq_of_mem_set hj with h1 | rfl
 ·exact h j h1
 ·exact hy
theorem Early.map (h : Early M) {f : Jb → Jb} (hf : ∀ j : Jb, (j.st ≤ 2 → j.fin = -1) → ((f j).st ≤ 2 → (f j).fin = -1)) : Early { M with L := M.L.map f } := fun j hj => by
 obtain ⟨x, hx, rfl⟩ := List.mem_map.1 hj
 exact hf x (h x hx)
theorem Early.drop (h : Early M) (j : Jb) : Early (fu M j) := h.map fun x hx => by
 unfold dH
 split
 ·exact hx
 ·exact hx
theorem Early.begin (h : Early M) (i : Nat) : Early (aV M i) := h.set fun hs => absurd hs (show ¬ (3 : Int) ≤ 2 by decide)
theorem Early.starts (n : Nat) (h : Early M) : Early (startGo n M) := by
 induction n generalizing M with
 | zero => exact h
 | succ n ih =>
  unfold startGo
  split
  ·exact ih (h.begin _)
  ·exact ih h
theorem Early.qw (h : Early M) : Early (dB M) := by
 refine Early.starts _ (h.map fun x hx => ?_)
 unfold aR
 split
 ·exact fun hs => absurd hs (show ¬ (6 : Int) ≤ 2 by decide)
 ·exact hx
theorem Early.cZ (to : Int) (n : Nat) (h : Early M) : Early (cZ to n M) := by
 induction n generalizing M with
 | zero => exact h
 | succ n ih =>
  unfold Proofs.YtnihdgcfamoplaaGreat.cZ
  split
  ·exact h
  ·refine ih (Early.qw ?_)
   exact h
theorem Early.Fx (h : Early M) (r : Rw) : Early (dW M r).2 := by
 have same : Early { M with cl := true } := h
 unfold dW
 repeat' split
 all_goals first | exact h | exact same | skip
 ·unfold gI
  have ha : Early { M with L := M.L ++ [aX M r] } := fun j hj => by
   rcases List.mem_append.1 hj with h1 | h1
   ·exact h j h1
   ·rw [List.mem_singleton] at h1; subst h1; exact fun _ => rfl
  repeat' split
  ·exact h
  ·exact ha
  ·exact ha.drop _
 ·unfold ku
  simp only
  repeat' split
  ·exact h
  ·exact h
  ·refine h.set fun hs => ?_
   have e : (iA M r.kind (getM M r.id).1).st = if r.kind = 5 then 4 else 5 := rfl
   rw [e] at hs
   split at hs <;> omega
 ·unfold fE
  simp only
  have hx : ((getM M r.id).2 = false) ∨ (getM M r.id).1 ∈ M.L := by
   cases hg : (getM M r.id).2 with
   | false => exact .inl rfl
   | true => exact .inr (iD hg).1
  by_cases h1 : (getM M r.id).2 = false
  ·rw [if_pos h1]; exact h
  ·rw [if_neg h1]
   have hm := hx.resolve_left h1
   have hx1 := h _ hm
   split
   ·exact h
   ·rename_i h2
    have hy : (dN r.kind (getM M r.id).1).st ≤ 2 → (dN r.kind (getM M r.id).1).fin = -1 := by
     unfold dN
     split
     ·rename_i h3
      exact fun _ => hx1 (by by_cases e : (getM M r.id).1.st = 1 <;> omega)
     ·split
      ·rename_i h3
       exact fun _ => hx1 (by by_cases e : (getM M r.id).1.st = 2 <;> omega)
      ·exact hx1
    split
    ·exact (h.set hy).drop _
    ·exact h.set hy
 ·unfold gF
  repeat' split
  ·exact h
  ·exact h
  ·unfold fo
   split
   ·exact h.drop kF
   ·exact h
 ·unfold ko
  split
  ·exact h
  ·exact h.cZ _ _
theorem Early.jy (h : Early M) (id t : Int) : Early (bu M id t).2 := by
 unfold bu
 split
 ·rename_i hf
  split
  ·exact h.begin _
  ·by_cases hi : (id - 1).toNat < M.L.length
   ·refine h.set fun hs => ?_
    exact h (M.L.getD (id - 1).toNat default) (bg hi) hs
   ·show Early { M with L := M.L.set (id - 1).toNat _ }
    rw [List.set_eq_of_length_le (by omega)]
    exact h
 ·exact h
theorem Kc (n : Nat) : Early (eF n) := fun _ hj => nomatch hj
theorem Ni (f : Nat → Bool) (n j : Nat) (h : ∀ k, n ≤ k → f k = false) : aQ f (n + j) = aQ f n := by
 induction j with
 | zero => rfl
 | succ j ih =>
  show aQ f (n + j) + (if f (n + j) = true then 1 else 0) = _
  rw [h (n + j) (by omega), ih]
  simp
theorem sI (h : aG M) (f : Nat → Bool) (x y : Int) (hf : ∀ k, f k = (decide (aU M k = x) || decide (aU M k = y))) (hx : x ≠ 0) (hy : y ≠ 0) : ((aQ f 64 : Nat) : Int) = kJ M x y := by
 have hn := h.mb.nn
 have hc := Ni f M.dr.length (64 - M.dr.length) fun k hk => by
  rw [hf, gY (by omega), decide_eq_false (fun e => hx e.symm), decide_eq_false (fun e => hy e.symm)]
  rfl
 rw [show M.dr.length + (64 - M.dr.length) = 64 by omega] at hc
 rw [hc, qH]
 unfold kJ
 rw [show f = fun k : Nat => decide (aU M k = x) || decide (aU M k = y) from funext hf]
end
section
variable {w0 w : World} {b c t d p g g0 a N : Nat} {v v0 : Value} {m mx : Int} {P : Pg} {M M' : Md} {R : Wk} {Q : World → Prop}
theorem Ke (h : Bg w0 w b c t d p v0 g0 v g a m mx R M) (hk : R.ah.kind = 6 ∨ R.ah.kind = 10 ∨ R.ah.kind = 11 ∨ R.ah.kind = 12) :
  Goes b c 1000 w (Fin w0 b c t d p v0 g0 mx (dW M (toW R.ah)).2 (kY (dW M (toW R.ah)).1) false) := by
 have hll := h.few
 have ha := h.ha
 have hm := h.hm
 have hmx := h.hmx
 have hcl : ¬ M.cl = true := by rw [h.cl]; decide
 have dM := fC h.inv h.one (by omega)
 have hrd : jl R.ah.kind = true := by rcases hk with e | e | e | e <;> (rw [e]; rfl)
 have eO : ∀ {L : Value} {a' : Nat} {m' : Int} {R' : Wk} {P' : Pg}, Calls Tryz.prog 101 #[.pointer (some ⟨b, 0, none⟩), .pointer (some ⟨c, 0, none⟩)] w (au w b c t d p v g a' m' L R' P') → Calls Tryz.prog 83 #[.pointer (some ⟨b, 0, none⟩), .pointer (some ⟨c, 0, none⟩)] w (au w b c t d p v g a' m' L R' P') := fun hn => Hr h.sw h.cl (by omega) hrd hn
 rcases hk with hk | hk | hk | hk
 ·by_cases hid : R.ah.id < 1 ∨ (M.L.length : Int) < R.ah.id
  ·have e : dW M (toW R.ah) = (fF 7, M) := by
    unfold dW
    rw [if_neg hcl, show (toW R.ah).kind = 6 from hk]
    exact uX (toW R.ah) hid
   have hg : gz M.L R.ah.id = 7 := by unfold gz; (repeat' split) <;> omega
   rw [e]
   exact aZ (N := 999) bz (eO (yS h.sw hk 7 (by decide) hg)) h.sw h.left rfl (by omega) (by omega) h.ws rfl rfl rfl
  ·have hg : gz M.L R.ah.id = 0 := by unfold gz; (repeat' split) <;> omega
   have hi : (R.ah.id - 1).toNat < M.L.length := by omega
   have e : dW M (toW R.ah) = (mH (M.L.getD (R.ah.id - 1).toNat default), M) := by
    unfold dW
    rw [if_neg hcl, show (toW R.ah).kind = 6 from hk]
    show fE M (toW R.ah) = _
    unfold fE
    rw [show (toW R.ah).id = R.ah.id from rfl, vX hid, show (toW R.ah).kind = 6 from hk]
    show (mH (M.L.getD (R.ah.id - 1).toNat default), ({ M with L := M.L.set (R.ah.id - 1).toNat (M.L.getD (R.ah.id - 1).toNat default) } : Md)) = _
    have : M.L.set (R.ah.id - 1).toNat (M.L.getD (R.ah.id - 1).toNat default) = M.L := by
     simp only [List.getD, List.getElem?_eq_getElem hi, Option.getD_some, List.set_getElem_self]
    rw [this]
   have hr := AR h.sw hk hg
   rw [show bH (ak M).J R.ah.id = M.L.getD (R.ah.id - 1).toNat default from sH hid] at hr
   rw [e]
   exact aZ (N := 999) bz (eO hr) h.sw h.left rfl (by omega) (by omega) h.ws rfl rfl h.ok
 ·have e : dW M (toW R.ah) = (((0, 0, 0, 0, 0, 0, (kJ M 1 1 : Int), (kJ M 2 3 : Int), (kJ M 4 4 : Int)) : Rl), M) := by
   unfold dW
   rw [if_neg hcl, show (toW R.ah).kind = 10 from hk]
   rfl
  have hr := J4 h.sw dM hk
  rw [show (ak M).T = dA M from rfl, sI h.inv (gT (dA M)) 1 1 (fun k => by rw [tC, Bool.or_self]) (by decide) (by decide),
   sI h.inv (bQ (dA M)) 2 3 (fun k => by unfold bQ; rw [dm]) (by decide) (by decide),
   sI h.inv (fun i => bS (dA M) i && !bQ (dA M) i) 4 4 (fun k => by
    unfold bS bQ
    rw [dm]
    generalize aU M k = s
    by_cases h2 : s = 2
    ·subst h2; rfl
    ·by_cases h3 : s = 3
     ·subst h3; rfl
     ·rw [decide_eq_false h2, decide_eq_false h3]; simp) (by decide) (by decide)] at hr
  rw [e]
  exact aZ (N := 999) bz (eO hr) h.sw h.left rfl (by omega) (by omega) h.ws rfl rfl h.ok
 ·have e : dW M (toW R.ah) = (((0, 0, 0, 0, 0, 0, (mP M 1 : Int), (mP M 2 : Int), (mP M 3 : Int)) : Rl), M) := by
   unfold dW
   rw [if_neg hcl, show (toW R.ah).kind = 11 from hk]
   rfl
  rw [e]
  exact aZ (N := 999) bz (eO (J5 h.sw dM hk)) h.sw h.left rfl (by omega) (by omega) h.ws rfl rfl h.ok
 ·have e : dW M (toW R.ah) = ((0, 0, 0, M.now, 0, 0, az M M.now 0, 0, 0), M) := by
   unfold dW
   rw [if_neg hcl, show (toW R.ah).kind = 12 from hk]
   rfl
  rw [e]
  exact aZ (N := 999) bz (eO (Ho h.sw (by omega) hk)) h.sw h.left rfl (by omega) (by omega) h.ws rfl rfl h.ok
theorem Kg (h : Bg w0 w b c t d p v0 g0 v g a m mx R M) (hk : R.ah.kind = 13) (hrep : R.rep = mY) :
  Goes b c 1000 w (Fin w0 b c t d p v0 g0 mx { M with cl := true } (kY (fF 0)) false) := by
 have hll := h.few
 have ha := h.ha
 have hm := h.hm
 have hrd : jl R.ah.kind = false := by rw [hk]; rfl
 exact aZ (N := 999) bz (fK h.sw h.cl (by rw [hk]; decide) hrd (J6 h.sw hk)) h.sw h.left rfl (by omega) (by omega) h.ws rfl hrep h.ok
theorem BN (to : Int) (hto : to ≤ 1099511627776) (hl : R.left = fH 148) (rF : R.target = to) (hmx : mx ≤ 1000000) (n : Nat) :
  ∀ {M : Md} {w : World} {v : Value} {g a : Nat} {m : Int}, aG M → Calm M → Early M → 1 ≤ M.dr.length → M.L.length ≤ 900 → M.now ≤ to → lh M < n → SW w b c t d p v g a m R (ak M) → a ≤ 800 → m + n ≤ mx → WS w0 w b c t d p v0 g0 v g →
   Goes b c n w (Fin w0 b c t d p v0 g0 mx { cZ to n M with now := to } ⟨0, 0, 0, to, 0, 0, az (cZ to n M) to 0, 0, 0⟩ R.ok) := by
 induction n with
 | zero =>
  intro M w v g a m hI hC hE h1 hll hnt hn
  have := (lH mI 2 M.L fun j _ => nL j).1
  unfold lh at hn
  omega
 | succ n ih =>
  intro M w v g a m hI hC hE h1 hll hnt hn hS ha hm hw
  by_cases hx : aW M < 0 ∨ to < aW M
  ·have e : cZ to (n + 1) M = M := if_pos hx
   rw [e]
   have hf := uk hS hI hE h1 hll ha (by omega) (by rw [rF]; exact hx) (by rw [rF]; exact ⟨hnt, hto⟩)
   rw [rF] at hf
   exact aZ (N := n) yF hf hS hl rfl (by omega) (by omega) hw rfl rfl rfl
  ·have e : cZ to (n + 1) M = cZ to n (dB { M with now := aW M }) := if_neg hx
   rw [e]
   obtain ⟨a1, a2, a3⟩ := hI.step hC (by omega) (by omega)
   obtain ⟨b1, b2, b3, b4⟩ := a2.qw
   have hkp := mV a2.mb
   have hf := yC hS hI hC hE h1 hll ha (by omega) (by rw [rF]; omega) (by rw [rF]; exact hto)
   refine fI (k := 148) (k' := 148) yF hf hS hl rfl fun w' v' g' hS' hw' => ?_
   rw [← hl] at hS'
   refine ih b1 b2 (Early.qw hE) (by rw [hkp.2.2.2.1]; exact h1) (by rw [hkp.2.1]; exact hll) (by rw [hkp.2.2.1]; show aW M ≤ to; omega) ?_ hS' ha (by omega) (hw.trans hw')
   have := b4 a3
   have e2 : lh { M with now := aW M } = lh M := rfl
   omega
theorem Kh (h : Bg w0 w b c t d p v0 g0 v g a m mx R M) (hE : Early M) (hk : R.ah.kind = 9) :
  Goes b c 1000 w (Fin w0 b c t d p v0 g0 mx (ko M R.ah.till).2 (kY (ko M R.ah.till).1) false) := by
 have hll := h.few
 have ha := h.ha
 have hm := h.hm
 have hmx := h.hmx
 have jr := h.inv.mb.now
 have dM := fC h.inv h.one (by omega)
 have hrd : jl R.ah.kind = false := by rw [hk]; rfl
 have eO : ∀ {L : Value} {a' : Nat} {m' : Int} {R' : Wk} {P' : Pg}, Calls Tryz.prog 125 #[.pointer (some ⟨b, 0, none⟩), .pointer (some ⟨c, 0, none⟩)] w (au w b c t d p v g a' m' L R' P') → Calls Tryz.prog 83 #[.pointer (some ⟨b, 0, none⟩), .pointer (some ⟨c, 0, none⟩)] w (au w b c t d p v g a' m' L R' P') := fun hn => fK h.sw h.cl (by rw [hk]; decide) hrd (Na h.sw hk hn)
 by_cases hlow : R.ah.till < 1
 ·have e : ko M R.ah.till = (fF 10, M) := if_pos (.inl hlow)
  rw [e]
  exact aZ (N := 999) bz (eO (MZ h.sw dM hlow)) h.sw h.left rfl (by omega) (by omega) h.ws rfl rfl rfl
 ·by_cases hhi : 1099511627776 - M.now < R.ah.till
  ·have e : ko M R.ah.till = (fF 10, M) := if_pos (.inr hhi)
   rw [e]
   exact aZ (N := 999) bz (eO (J3 h.sw dM hlow hhi)) h.sw h.left rfl (by omega) (by omega) h.ws rfl rfl rfl
  ·have hev := (lH mI 2 M.L fun j _ => nL j).2
   have UY : lh M < (2 * M.L.length + 1 : Nat) := by unfold lh; omega
   have e : ko M R.ah.till = ((0, 0, 0, M.now + R.ah.till, 0, 0, az (oz M (M.now + R.ah.till)) (M.now + R.ah.till) 0, 0, 0), oz M (M.now + R.ah.till)) := if_neg (by omega)
   rw [e]
   obtain ⟨to, hto⟩ : ∃ to, to = M.now + R.ah.till := ⟨_, rfl⟩
   rw [← hto]
   unfold oz
   obtain ⟨n, hn⟩ : ∃ n, n = 2 * M.L.length := ⟨_, rfl⟩
   rw [← hn] at UY ⊢
   by_cases hx : aW M < 0 ∨ to < aW M
   ·have e : cZ to (n + 1) M = M := if_pos hx
    rw [e]
    refine aZ (N := 999) (a' := a) (m' := m + 1) (R' := { R with target := to, rep := ⟨0, 0, 0, to, 0, 0, az M to 0, 0, 0⟩ }) bz (eO (Hl (P' := ak { M with now := to }) h.sw dM hlow hhi fun W hW => ?_)) h.sw h.left rfl (by omega) (by omega) h.ws rfl rfl h.ok
    rw [show (ak M).now + R.ah.till = to from hto.symm] at hW
    exact uk hW h.inv hE h.one (by omega) (by omega) (by omega) hx ⟨by show M.now ≤ to; omega, by show to ≤ _; omega⟩
   ·have e : cZ to (n + 1) M = cZ to n (dB { M with now := aW M }) := if_neg hx
    rw [e]
    obtain ⟨a1, a2, a3⟩ := h.inv.step h.calm (by omega) (by omega)
    obtain ⟨b1, b2, b3, b4⟩ := a2.qw
    have hkp := mV a2.mb
    refine (fI (N := n) (k := 83) (k' := 148) (a' := a) (m' := m + 1) (R' := { R with target := to }) (P' := ak (dB { M with now := aW M })) bz (eO (Hl h.sw dM hlow hhi fun W hW => ?_)) h.sw h.left rfl fun w' v' g' hS' hw' => ?_).more (show n + 1 ≤ 1000 by omega)
    ·rw [show (ak M).now + R.ah.till = to from hto.symm] at hW
     exact yC hW h.inv h.calm hE h.one (by omega) (by omega) (by omega) ⟨by omega, by show aW M ≤ to; omega⟩ (by show to ≤ _; omega)
    ·have := BN (R := { ({ R with target := to } : Wk) with left := fH 148 }) (w0 := w0) (b := b) (c := c) (t := t) (d := d) (p := p) (v0 := v0) (g0 := g0) (mx := mx) to (by omega) rfl rfl hmx n b1 b2 (Early.qw hE) (by rw [hkp.2.2.2.1]; exact h.one) (by rw [hkp.2.1]; show M.L.length ≤ 900; omega) (by rw [hkp.2.2.1]; show aW M ≤ to; omega) (by
      have := b4 a3
      have e2 : lh { M with now := aW M } = lh M := rfl
      omega) hS' (by omega) (by omega) (h.ws.trans hw')
     rw [show ({ ({ R with target := to } : Wk) with left := fH 148 } : Wk).ok = false from h.ok] at this
     exact this
end
end Go.Proofs.YtnihdgcfamoplaaGreat

namespace Go.Proofs.YtnihdgcfamoplaaGreat
open Go.RowKit Go.Lib Go.Sort
section
variable {M : Md}
theorem HV (hI : aG M) {id t : Int} (hf : fw M id t = true) : ∃ i : Nat, id = (i : Int) + 1 ∧ i < M.L.length ∧ (M.L.getD i default).st = 1 ∧ M.now ≤ t ∧ t ≤ 1099511627776 ∧ M.cl = false ∧
  ∀ u, t ≤ u → u < t + (M.L.getD i default).lim → (M.L.getD i default).wid ≤ az M u ((i : Int) + 1) := by
 have hn := hI.mb.now
 unfold fw at hf
 simp only at hf
 split at hf
 ·cases hf
 rename_i hq
 have hg : (getM M id).2 = true := by cases e : (getM M id).2 <;> simp_all
 obtain ⟨hm, hi, he, hid⟩ := iD hg
 rw [he] at hm hq hf
 have hs : (M.L.getD (id - 1).toNat default).st = 1 := by
  by_cases e : (M.L.getD (id - 1).toNat default).st = 1
  ·exact e
  ·exact absurd (.inr (.inr (.inl e))) hq
 have ht : M.now ≤ t ∧ t ≤ 1099511627776 := by omega
 have hcl : M.cl = false := by
  cases e : M.cl with
  | false => rfl
  | true => exact absurd (.inl e) hq
 have zA := hI.ids _ hi
 have hroom := fun u => wH hn.1 ht.1 hf u
 rw [zA] at hroom
 exact ⟨(id - 1).toNat, hid, hi, hs, ht.1, ht.2, hcl, hroom⟩
theorem AZ (hI : aG M) {i : Nat} (hi : i < M.L.length) (hroom : ∀ u, M.now ≤ u → u < M.now + (M.L.getD i default).lim → (M.L.getD i default).wid ≤ az M u ((i : Int) + 1)) : (M.L.getD i default).wid ≤ aM M M.now M.dr.length := by
 have bo := hI.one _ (bg hi)
 have h0 := hroom M.now (Int.le_refl _) (by omega)
 have ht0 := lW (L := M.L) (fun j hj => hI.mb.wid j hj) M.now ((i : Int) + 1)
 unfold az at h0
 omega
theorem EN (hI : aG M) (hC : Calm M) {i : Nat} (hi : i < M.L.length) (hs : (M.L.getD i default).st = 1) {t : Int} (ht : M.now ≤ t ∧ t ≤ 1099511627776)
  (hroom : ∀ u, t ≤ u → u < t + (M.L.getD i default).lim → (M.L.getD i default).wid ≤ az M u ((i : Int) + 1)) (u : Int) (hu : M.now ≤ u) :
  az (if t = M.now then aV M i else { M with L := M.L.set i ((M.L.getD i default).aI t) }) u 0 = az M u ((i : Int) + 1) + had (max t M.now) (t + (M.L.getD i default).lim) (-(M.L.getD i default).wid) u := by
 have hm := bg hi
 have bo := hI.one _ hm
 have bl := hI.mb.lim _ hm
 have hn := hI.mb.now
 have hid := hI.ids i hi
 rw [lG hi hI.ids]
 have hh : had (max t M.now) (t + (M.L.getD i default).lim) (-(M.L.getD i default).wid) u = if t ≤ u ∧ u < t + (M.L.getD i default).lim then -(M.L.getD i default).wid else 0 := by
  unfold had
  have e1 : max t M.now = t := by omega
  rw [e1]
  by_cases c : t ≤ u ∧ u < t + (M.L.getD i default).lim
  ·rw [if_pos c, if_pos ⟨c.1, .inl c.2⟩]
  ·rw [if_neg c, if_neg (by omega)]
 rw [hh]
 by_cases e : t = M.now
 ·subst e
  rw [if_pos rfl, qm hi (by omega)]
  have hlow := (hI.begin hC.runs hi hs (AZ hI hi hroom) fun v h1 h2 => by
   have := hroom v h1 h2
   rw [lG hi hI.ids] at this
   exact this).2
  rw [hlow]
  split <;> split <;> omega
 ·rw [if_neg e, iK hi]
  have hpl : aj ((M.L.getD i default).aI t) = true := by
   unfold aj
   rw [Bool.and_eq_true]
   exact ⟨decide_eq_true hs, decide_eq_true (show 0 ≤ t by omega)⟩
  have hc2 := lF (t := u) (but := 0) hpl (show (M.L.getD i default).id ≠ 0 by rw [hid]; omega)
  rw [hc2]
  show az M u 0 + dO u 0 (M.L.getD i default) - (if t ≤ u ∧ u < t + (M.L.getD i default).lim then (M.L.getD i default).wid else 0) = _
  split <;> omega
end
section
variable {w0 w : World} {b c t d p g g0 a N : Nat} {v v0 : Value} {m mx : Int} {P : Pg} {M M' : Md} {R : Wk} {Q : World → Prop}
def mE (M : Md) : Ry := if M.cl then jQ 12 else mY
theorem EO (h : SW w b c t d p v g a m R (ak M)) (hl : R.left = fH 72) (hI : aG M) (hC : Calm M) (h1 : 1 ≤ M.dr.length) (hll : M.L.length ≤ 190) (ha : a ≤ 1 + 2 * M.L.length) (hm : m + 1000 ≤ mx) (hmx : mx ≤ 1000000)
  (ho : R.ok = false) (hrep : R.rep = mY) (hxt : -9223372036854775808 ≤ R.dR ∧ R.dR ≤ 9223372036854775807) (hw : WS w0 w b c t d p v0 g0 v g) :
  Goes b c 1000 w (Fin w0 b c t d p v0 g0 mx (bu M R.kH R.dR).2 (mE M) (bu M R.kH R.dR).1) := by
 cases hf : fw M R.kH R.dR with
 | false =>
  have e : bu M R.kH R.dR = (false, M) := if_neg (by rw [hf]; decide)
  rw [e]
  cases hcl : M.cl with
  | true => exact aZ (N := 999) xy (BI h hcl) h hl rfl (by omega) (by omega) hw rfl (by unfold mE; rw [hcl]; rfl) rfl
  | false => exact aZ (N := 999) xy (MV h hI h1 (by omega) (by omega) hxt hcl hf) h hl rfl (by omega) (by omega) hw rfl (by unfold mE; rw [hcl]; exact hrep) ho
 | true =>
  obtain ⟨i, hid, hi, hs, ht1, ht2, hcl, hroom⟩ := HV hI hf
  have KR : (R.kH - 1).toNat = i := by omega
  have hmem := bg hi
  have bo := hI.one _ hmem
  have bl := hI.mb.lim _ hmem
  have bw := hI.mb.wid _ hmem
  have bp := hI.mb.aD _ hmem
  have zA := hI.ids i hi
  have jr := hI.mb.now
  have dM := fC hI h1 (by omega)
  have e : bu M R.kH R.dR = (true, if R.dR = M.now then aV M i else { M with L := M.L.set i ((M.L.getD i default).aI R.dR) }) := by
   unfold bu
   rw [if_pos hf, KR]
   split <;> rfl
  have hI' := (hI.jy hC R.kH R.dR).1
  rw [e] at hI' ⊢
  have hfree := EN hI hC hi hs ⟨ht1, ht2⟩ hroom
  have hdr : (if R.dR = M.now then aV M i else { M with L := M.L.set i ((M.L.getD i default).aI R.dR) }).dr.length = M.dr.length := by split <;> rfl
  have PY : (if R.dR = M.now then aV M i else { M with L := M.L.set i ((M.L.getD i default).aI R.dR) }).now = M.now := by split <;> rfl
  have RD : mY = mE M := by unfold mE; rw [hcl]; rfl
  have VH : bH M.L R.kH = M.L.getD i default := by rw [sH (by omega), KR]
  have hck := JZ h hI h1 (by omega) (by omega) hxt hcl hf
  rw [VH] at hck
  have xP : ∀ u, az M u ((i : Int) + 1) = az M u 0 + dO u 0 (M.L.getD i default) := fun u => lG hi hI.ids u
  have kZ : PK { ak M with f := fun u => az M u ((i : Int) + 1) } := ⟨dM.now, dM.few, dM.st, dM.lim, dM.qG, fun u hu => ⟨Bq hI hi u hu, (Dy hI.mb u _).2⟩⟩
  obtain ⟨M1, hM1⟩ : ∃ M1, M1 = (if R.dR = M.now then aV M i else { M with L := M.L.set i ((M.L.getD i default).aI R.dR) }) := ⟨_, rfl⟩
  rw [← hM1] at hI' hfree hdr PY ⊢
  have hrange : ∀ u, M.now ≤ u → 0 ≤ az M1 u 0 ∧ az M1 u 0 ≤ 64 := fun u hu => uP hI' u (by rw [PY]; exact hu)
  have UZ : PK { ak M with f := fun u => az M1 u 0 } := ⟨dM.now, dM.few, dM.st, dM.lim, dM.qG, fun u hu => hrange u hu⟩
  refine (fI (N := 3) (k := 72) (k' := 97) xy hck h hl rfl fun w1 v1 g1 hS1 hw1 => ?_).more (show 4 ≤ 1000 by decide)
  have cont : ∀ (w2 : World) (v2 : Value) (g2 a2 : Nat) (m2 : Int), SW w2 b c t d p v2 g2 a2 m2 { R with aC := M.L.getD i default, ok := true, left := fH 113 } { ak M with f := fun u => az M u ((i : Int) + 1) } → a2 ≤ 700 → m2 + 10 ≤ mx → WS w0 w2 b c t d p v0 g0 v2 g2 →
    Goes b c 2 w2 (Fin w0 b c t d p v0 g0 mx M1 (mE M) true) := by
   intro w2 v2 g2 a2 m2 hS2 ha2 hm2 hw2
   have hen := MU hS2 kZ (by omega) (by omega) hs ⟨by show 0 ≤ R.dR; omega, by show R.dR ≤ 1099511627776; omega⟩ ⟨bo.2.2.1, bl.2⟩ bw (fun u => az M1 u 0) (fun u hu => hfree u hu) (fun u hu => hrange u hu)
   refine fI (N := 1) (k := 113) (k' := 133) Nf hen hS2 rfl rfl fun w3 v3 g3 Hm hw3 => ?_
   by_cases hx : R.dR = M.now
   ·have hidle : (M.L.getD i default).wid ≤ ((List.range M.dr.length).countP fun n : Nat => decide (aU M n = 1) : Nat) := by
     rw [← GY hC.runs]
     exact AZ hI hi (by rw [← hx]; exact hroom)
    have hT := GZ hI hi (by omega) hidle
    have hset := Hf Hm UZ hx (by show -9223372036854775808 ≤ (M.L.getD i default).wid ∧ (M.L.getD i default).wid ≤ _; omega) hT
    rw [if_pos hx] at hM1
    have hbs : cu (ak M).J (fZ (ak M).now) (M.L.getD i default).id (fun j : Jb => decide (j.state = 1)) (kQ (ak M).now (iy M (M.L.getD i default).wid : Int)) = (aV M i).L := yA hI hi hs
    have hP : ({ ak M with f := fun u => az M1 u 0, T := dA (aV M i), J := (aV M i).L } : Pg) = ak M1 := by rw [hM1]; rfl
    refine aZ (N := 0) (a' := a2 + 2) (m' := m2 + 1) AV (hset.mono fun e w' hp => ?_) Hm rfl rfl (by omega) (by omega) (hw2.trans hw3) rfl (hrep.trans RD) rfl
    rw [← hP, ← hbs]
    exact hp
   ·have hset := BH Hm hx
    rw [if_neg hx] at hM1
    have Lm : gM R.dR = 0 := by unfold gM; rw [if_neg (by omega), if_neg (by omega)]
    have hbs : cu (ak M).J (gM R.dR) R.kH (fun j : Jb => decide (j.state = 1)) (kr R.dR) = M.L.set i ((M.L.getD i default).aI R.dR) := by
     rw [Lm]
     have := tL (ok := fun j : Jb => decide (j.state = 1)) (L := M.L) (id := R.kH) (by omega) (by rw [KR]; exact decide_eq_true hs)
     have h2 := om (ch := kr R.dR) this
     rw [KR] at h2
     exact h2
    have hT1 : dA M = dA M1 := by
     rw [hM1]
     refine oh (by rw [bB, bB]) fun n hn => ?_
     rw [dm, dm, oF (y := (M.L.getD i default).aI R.dR) hi Iff.rfl rfl]
    have hP : ({ ak M with f := fun u => az M1 u 0, J := M.L.set i ((M.L.getD i default).aI R.dR) } : Pg) = ak M1 := by
     show Pg.mk M.now _ (dA M) _ M.cl = _
     rw [hT1, hM1]
     rfl
    refine aZ (N := 0) (a' := a2 + 2) (m' := m2 + 1) AV (hset.mono fun e w' hp => ?_) Hm rfl rfl (by omega) (by omega) (hw2.trans hw3) rfl (hrep.trans RD) rfl
    rw [← hP, ← hbs]
    exact hp
  cases hpl : aj (M.L.getD i default) with
  | true =>
   have hlv := Hd hS1 dM (by omega) (by omega) hpl bp.2 bl bo.2.2.1 bw (fun u => az M u ((i : Int) + 1)) (fun u hu => by
    have hun := qI hI hi hpl u
    rw [iK hi, dP (j := (M.L.getD i default).aI (-1)) (by unfold aj; simp [Jb.aI, Jb.aD])] at hun
    show az M u ((i : Int) + 1) = az M u 0 + had (max (M.L.getD i default).aD M.now) ((M.L.getD i default).aD + (M.L.getD i default).lim) (M.L.getD i default).wid u
    rw [xP]
    omega) (fun u hu => kZ.f u hu)
   refine fI (N := 2) (k := 97) (k' := 113) Dh hlv hS1 rfl rfl fun w2 v2 g2 hS2 hw2 => ?_
   exact cont w2 v2 g2 _ _ hS2 (by omega) (by omega) ((hw.trans hw1).trans hw2)
  | false =>
   have hlv := He hS1 hpl bp.2 bl
   refine fI (N := 2) (k := 97) (k' := 113) Dh hlv hS1 rfl rfl fun w2 v2 g2 hS2 hw2 => ?_
   have hP : ak M = { ak M with f := fun u => az M u ((i : Int) + 1) } := by
    have : (fun u => az M u ((i : Int) + 1)) = fun u => az M u 0 := by
     funext u
     rw [xP, dP hpl]
     omega
    rw [this]
    rfl
   rw [hP] at hS2
   exact cont w2 v2 g2 _ _ hS2 (by omega) (by omega) ((hw.trans hw1).trans hw2)
theorem PZ (h : SW w b c t d p v g a m R (ak M)) (hl : R.left = fH 83) (hI : aG M) (hC : Calm M) (hE : Early M) (h1 : 1 ≤ M.dr.length) (hll : M.L.length ≤ 190) (ha : a ≤ 1 + 2 * M.L.length) (hm : m + 1000 ≤ mx) (hmx : mx ≤ 1000000)
  (ho : R.ok = false) (hrep : R.rep = mY) (hnd : -9223372036854775808 ≤ R.ah.node ∧ R.ah.node ≤ 9223372036854775807) (hw : WS w0 w b c t d p v0 g0 v g) :
  Goes b c 1000 w (Fin w0 b c t d p v0 g0 mx (dW M (toW R.ah)).2 (kY (dW M (toW R.ah)).1) false) := by
 cases hcl : M.cl with
 | true =>
  have e : dW M (toW R.ah) = (fF 12, M) := if_pos hcl
  rw [e]
  exact J9 h hl hcl (by omega) (by omega) hw
 | false =>
  have hcn : ¬ M.cl = true := by rw [hcl]; decide
  have hB : Bg w0 w b c t d p v0 g0 v g a m mx R M := ⟨h, hl, hI, hC, hcl, h1, hll, ha, hm, hmx, ho, hw⟩
  have hkr : ∀ r : Rw, dW M r = if r.kind = 1 then gI M r
    else if r.kind = 2 ∨ r.kind = 5 then ku M r
    else if r.kind = 3 ∨ r.kind = 4 ∨ r.kind = 6 then fE M r
    else if r.kind = 7 ∨ r.kind = 8 then gF M r
    else if r.kind = 9 then ko M r.by'
    else if r.kind = 10 then ((0, 0, 0, 0, 0, 0, kJ M 1 1, kJ M 2 3, kJ M 4 4), M)
    else if r.kind = 11 then ((0, 0, 0, 0, 0, 0, mP M 1, mP M 2, mP M 3), M)
    else if r.kind = 12 then ((0, 0, 0, M.now, 0, 0, az M M.now 0, 0, 0), M)
    else if r.kind = 13 then (fF 0, { M with cl := true })
    else (fF 4, M) := fun r => if_neg hcn
  by_cases hrd : R.ah.kind = 6 ∨ R.ah.kind = 10 ∨ R.ah.kind = 11 ∨ R.ah.kind = 12
  ·exact Ke hB hrd
  rw [hkr]
  have ek : (toW R.ah).kind = R.ah.kind := rfl
  rw [ek]
  by_cases k1 : R.ah.kind = 1
  ·rw [if_pos k1]; exact EL h hl hI hcl h1 hll ha hm hmx hw k1 ho
  rw [if_neg k1]
  by_cases k25 : R.ah.kind = 2 ∨ R.ah.kind = 5
  ·rw [if_pos k25]
   rcases k25 with k | k
   ·exact vY hB 5 (.inl ⟨k, rfl⟩)
   ·exact vY hB 4 (.inr ⟨k, rfl⟩)
  rw [if_neg k25]
  by_cases Td : R.ah.kind = 3 ∨ R.ah.kind = 4 ∨ R.ah.kind = 6
  ·rw [if_pos Td]
   rcases Td with k | k | k
   ·exact Kb hB k
   ·exact BM hB k
   ·exact absurd (.inl k) hrd
  rw [if_neg Td]
  by_cases HY : R.ah.kind = 7 ∨ R.ah.kind = 8
  ·rw [if_pos HY]
   rcases HY with k | k
   ·exact Hz hB k hnd
   ·exact EM hB k hnd
  rw [if_neg HY]
  by_cases k9 : R.ah.kind = 9
  ·rw [if_pos k9]; exact Kh hB hE k9
  rw [if_neg k9, if_neg (by omega), if_neg (by omega), if_neg (by omega)]
  by_cases k13 : R.ah.kind = 13
  ·rw [if_pos k13]; exact Kg hB k13 hrep
  rw [if_neg k13]
  exact Ka hB (by omega)
end
end Go.Proofs.YtnihdgcfamoplaaGreat

namespace Go.Proofs.YtnihdgcfamoplaaGreat
open Go.RowKit Go.Lib Go.Sort
section
variable {M : Md}
theorem KS {r : Rw} (h : r.kind = 1) : dW M r = if M.cl = true then (fF 12, M) else gI M r := by
 unfold dW
 by_cases hc : M.cl = true
 ·rw [if_pos hc, if_pos hc]
 ·rw [if_neg hc, if_neg hc, if_pos h]
theorem P5 {r : Rw} (h : (r.kind = 2 ∨ r.kind = 5)) : dW M r = if M.cl = true then (fF 12, M) else ku M r := by
 unfold dW
 by_cases hc : M.cl = true
 ·rw [if_pos hc, if_pos hc]
 ·rw [if_neg hc, if_neg hc, if_neg (show ¬ r.kind = 1 by omega), if_pos h]
theorem KT {r : Rw} (h : (r.kind = 3 ∨ r.kind = 4 ∨ r.kind = 6)) : dW M r = if M.cl = true then (fF 12, M) else fE M r := by
 unfold dW
 by_cases hc : M.cl = true
 ·rw [if_pos hc, if_pos hc]
 ·rw [if_neg hc, if_neg hc, if_neg (show ¬ r.kind = 1 by omega), if_neg (show ¬ (r.kind = 2 ∨ r.kind = 5) by omega), if_pos h]
theorem P6 {r : Rw} (h : (r.kind = 7 ∨ r.kind = 8)) : dW M r = if M.cl = true then (fF 12, M) else gF M r := by
 unfold dW
 by_cases hc : M.cl = true
 ·rw [if_pos hc, if_pos hc]
 ·rw [if_neg hc, if_neg hc, if_neg (show ¬ r.kind = 1 by omega), if_neg (show ¬ (r.kind = 2 ∨ r.kind = 5) by omega), if_neg (show ¬ (r.kind = 3 ∨ r.kind = 4 ∨ r.kind = 6) by omega), if_pos h]
theorem KU {r : Rw} (h : r.kind = 9) : dW M r = if M.cl = true then (fF 12, M) else ko M r.by' := by
 unfold dW
 by_cases hc : M.cl = true
 ·rw [if_pos hc, if_pos hc]
 ·rw [if_neg hc, if_neg hc, if_neg (show ¬ r.kind = 1 by omega), if_neg (show ¬ (r.kind = 2 ∨ r.kind = 5) by omega), if_neg (show ¬ (r.kind = 3 ∨ r.kind = 4 ∨ r.kind = 6) by omega), if_neg (show ¬ (r.kind = 7 ∨ r.kind = 8) by omega), if_pos h]
theorem P7 {r r' : Rw} (h : r.kind = r'.kind) (h2 : ¬ (1 ≤ r.kind ∧ r.kind ≤ 9)) : dW M r = dW M r' := by
 unfold dW
 rw [h] at h2 ⊢
 by_cases hc : M.cl = true
 ·rw [if_pos hc, if_pos hc]
 ·have n1 : ¬ r'.kind = 1 := by omega
  have n2 : ¬ (r'.kind = 2 ∨ r'.kind = 5) := by omega
  have n3 : ¬ (r'.kind = 3 ∨ r'.kind = 4 ∨ r'.kind = 6) := by omega
  have n4 : ¬ (r'.kind = 7 ∨ r'.kind = 8) := by omega
  have n5 : ¬ r'.kind = 9 := by omega
  simp only [if_neg hc, if_neg n1, if_neg n2, if_neg n3, if_neg n4, if_neg n5]
theorem Nj (M : Md) (r : Rq) : dW M (toW (kX r)) = dW M (toW r) := by
 unfold kX
 by_cases k1 : r.kind = 1
 ·rw [if_pos k1, KS (r := toW r) k1, KS (r := toW ⟨r.kind, 0, r.user, r.width, r.limit, r.prio, r.held, 0, 0⟩) k1]
  rfl
 rw [if_neg k1]
 by_cases k2 : r.kind = 2 ∨ r.kind = 3 ∨ r.kind = 4 ∨ r.kind = 5 ∨ r.kind = 6
 ·rw [if_pos k2]
  by_cases k25 : r.kind = 2 ∨ r.kind = 5
  ·rw [P5 (r := toW r) k25, P5 (r := toW ⟨r.kind, r.id, 0, 0, 0, 0, false, 0, 0⟩) k25]
   rfl
  ·have RF : r.kind = 3 ∨ r.kind = 4 ∨ r.kind = 6 := by omega
   rw [KT (r := toW r) RF, KT (r := toW ⟨r.kind, r.id, 0, 0, 0, 0, false, 0, 0⟩) RF]
   rfl
 rw [if_neg k2]
 by_cases HY : r.kind = 7 ∨ r.kind = 8
 ·rw [if_pos HY, P6 (r := toW r) HY, P6 (r := toW ⟨r.kind, 0, 0, 0, 0, 0, false, r.node, 0⟩) HY]
  rfl
 rw [if_neg HY]
 by_cases k9 : r.kind = 9
 ·rw [if_pos k9, KU (r := toW r) k9, KU (r := toW ⟨r.kind, 0, 0, 0, 0, 0, false, 0, r.till⟩) k9]
  rfl
 rw [if_neg k9]
 exact P7 rfl (by show ¬ (1 ≤ r.kind ∧ r.kind ≤ 9); omega)
theorem HZ (r : Rq) (h : -9223372036854775808 ≤ r.node ∧ r.node ≤ 9223372036854775807) : -9223372036854775808 ≤ (kX r).node ∧ (kX r).node ≤ 9223372036854775807 := by
 have z : -9223372036854775808 ≤ (0 : Int) ∧ (0 : Int) ≤ 9223372036854775807 := by decide
 unfold kX
 repeat' split
 all_goals first | exact z | exact h
structure Ok (M : Md) : Prop where
 inv : aG M
 calm : Calm M
 early : Early M
theorem Ok.new {n : Nat} (h : n ≤ 64) : Ok (eF n) := ⟨(Fz h).1, (Fz h).2, Kc n⟩
theorem Ok.Fx (h : Ok M) (r : Rw) : Ok (dW M r).2 := ⟨(h.inv.Fx h.calm r).1, (h.inv.Fx h.calm r).2, h.early.Fx r⟩
theorem Ok.jy (h : Ok M) (id t : Int) : Ok (bu M id t).2 := ⟨(h.inv.jy h.calm id t).1, (h.inv.jy h.calm id t).2, h.early.jy id t⟩
end
section
end
end Go.Proofs.YtnihdgcfamoplaaGreat

namespace Go.Proofs.YtnihdgcfamoplaaGreat
open Go.RowKit Go.Lib Go.Sort
section
variable {w : World} {b c t d p g a : Nat} {v : Value} {m : Int} {M : Md} {R : Wk}
theorem Nk (h : bY w b R) : Calls Tryz.prog 50 #[.pointer (some ⟨b, 0, none⟩)] w fun e w' => e = .returned (.agg (bU R.rep).toArray) ∧ Below w.heap.size w w' := by
 obtain ⟨y1, y2, y3, y4, y5, y6, y7, y8, y9, hy⟩ : ∃ y1 y2 y3 y4 y5 y6 y7 y8 y9, R.rep = ⟨y1, y2, y3, y4, y5, y6, y7, y8, y9⟩ := ⟨_, _, _, _, _, _, _, _, _, rfl⟩
 have h' : ∀ o, bY (w.alloc o) b R := fun o => (((Below.refl w.heap.size w).alloc (Nat.le_refl _) o).block b h.lt).trans h
 have c24 : ∀ o, (w.alloc o).cell? ⟨b, 24, none⟩ = some (.int .i64 y1) := fun o => (h' o).at 24 (.int .i64 y1) (by show some (Value.int .i64 R.rep.1) = _; rw [hy])
 have WQ : ∀ o, (w.alloc o).cell? ⟨b, 25, none⟩ = some (.int .i64 y2) := fun o => (h' o).at 25 (.int .i64 y2) (by show some (Value.int .i64 R.rep.2) = _; rw [hy])
 have WR : ∀ o, (w.alloc o).cell? ⟨b, 26, none⟩ = some (.int .i64 y3) := fun o => (h' o).at 26 (.int .i64 y3) (by show some (Value.int .i64 R.rep.3) = _; rw [hy])
 have WT : ∀ o, (w.alloc o).cell? ⟨b, 27, none⟩ = some (.int .i64 y4) := fun o => (h' o).at 27 (.int .i64 y4) (by show some (Value.int .i64 R.rep.4) = _; rw [hy])
 have c28 : ∀ o, (w.alloc o).cell? ⟨b, 28, none⟩ = some (.int .i64 y5) := fun o => (h' o).at 28 (.int .i64 y5) (by show some (Value.int .i64 R.rep.5) = _; rw [hy])
 have WU : ∀ o, (w.alloc o).cell? ⟨b, 29, none⟩ = some (.int .i64 y6) := fun o => (h' o).at 29 (.int .i64 y6) (by show some (Value.int .i64 R.rep.6) = _; rw [hy])
 have WV : ∀ o, (w.alloc o).cell? ⟨b, 30, none⟩ = some (.int .i64 y7) := fun o => (h' o).at 30 (.int .i64 y7) (by show some (Value.int .i64 R.rep.7) = _; rw [hy])
 have c31 : ∀ o, (w.alloc o).cell? ⟨b, 31, none⟩ = some (.int .i64 y8) := fun o => (h' o).at 31 (.int .i64 y8) (by show some (Value.int .i64 R.rep.8) = _; rw [hy])
 have c32 : ∀ o, (w.alloc o).cell? ⟨b, 32, none⟩ = some (.int .i64 y9) := fun o => (h' o).at 32 (.int .i64 y9) (by show some (Value.int .i64 R.rep.9) = _; rw [hy])
 rw [hy]
 clear h h' hy
 go_enter Tryz.func50, Tryz.ntmps50
 go_wp2_with fail
 refine fB rfl rfl rfl (heap_alloc_new w _) Tryz.underlying39 rfl (by kernel_rfl) ⟨rfl, ?_⟩
 exact (Below.refl _ _).alloc (Nat.le_refl _) _
theorem Te (h : bY w b R) : Calls Tryz.prog 37 #[.pointer (some ⟨b, 0, none⟩)] w fun e w' => e = .returned (.bool R.ok) ∧ w = w' := by
 have Vr := h.at 33 (.bool R.ok) rfl
 clear h
 generalize R.ok = o at *
 go_enter Tryz.func37, Tryz.ntmps37
 go_wp2_with fail
 go_ret
 exact ⟨rfl, rfl⟩
end
end Go.Proofs.YtnihdgcfamoplaaGreat

namespace Go.Proofs.YtnihdgcfamoplaaGreat
open Go.RowKit Go.Lib Go.Sort
structure De where
 ma : Bool
 r : Rq
 xi : Int
 xt : Int
def jg (x : De) : List Value := .bool x.ma :: (encR x.r ++ [.int .i64 x.xi, .int .i64 x.xt])
section
variable {w : World} {v : Value} {l : List De}
theorem KV (h : aF jg 12 w v l) : Calls Tryz.prog 7 #[v] w fun e w' => ∃ v', e = .returned v' ∧ aF jg 12 w v' (l.take 60) ∧ w = w' := by
 have hr := h
 obtain ⟨ao, cap, rfl, h1, h2, h3⟩ := h
 by_cases hn : 60 < l.length
 ·have d1 : decide ((60 : Int) < (l.length : Int)) = true := decide_eq_true (by omega)
  have hcut := hr.cut (n := 60) (by omega)
  go_enter Tryz.func7, Tryz.ntmps7
  go_wp2_with fail
  go_ret
  exact ⟨_, rfl, hcut, rfl⟩
 ·have d1 : decide ((60 : Int) < (l.length : Int)) = false := decide_eq_false (by omega)
  have e : l.take 60 = l := List.take_of_length_le (by omega)
  rw [e]
  go_enter Tryz.func7, Tryz.ntmps7
  go_wp2_with fail
  go_ret
  exact ⟨_, rfl, hr, rfl⟩
end
end Go.Proofs.YtnihdgcfamoplaaGreat

namespace Go.Proofs.YtnihdgcfamoplaaGreat
open Go.RowKit Go.Lib Go.Sort
section
variable {M : Md}
theorem nC (M : Md) (j : Jb) : (fu M j).L.length = M.L.length ∧ (fu M j).dr = M.dr := ⟨by show (M.L.map _).length = _; rw [List.length_map], rfl⟩
theorem Q4 (hI : aG M) (r : Rw) : (dW M r).2.L.length ≤ M.L.length + 1 ∧ (dW M r).2.dr.length = M.dr.length := by
 unfold dW
 by_cases hc : M.cl = true
 ·rw [if_pos hc]; exact ⟨Nat.le_succ _, rfl⟩
 rw [if_neg hc]
 by_cases k1 : r.kind = 1
 ·rw [if_pos k1]
  unfold gI
  split
  ·exact ⟨Nat.le_succ _, rfl⟩
  split
  ·exact ⟨by show (M.L ++ [_]).length ≤ _; simp, rfl⟩
  ·refine ⟨?_, rfl⟩
   rw [(nC _ _).1]
   show (M.L ++ [_]).length ≤ _
   simp
 rw [if_neg k1]
 by_cases k2 : r.kind = 2 ∨ r.kind = 5
 ·rw [if_pos k2]
  unfold ku
  simp only
  split
  ·exact ⟨Nat.le_succ _, rfl⟩
  split
  ·exact ⟨Nat.le_succ _, rfl⟩
  ·exact ⟨by show (M.L.set _ _).length ≤ _; rw [List.length_set]; omega, rfl⟩
 rw [if_neg k2]
 by_cases k3 : r.kind = 3 ∨ r.kind = 4 ∨ r.kind = 6
 ·rw [if_pos k3]
  unfold fE
  simp only
  split
  ·exact ⟨Nat.le_succ _, rfl⟩
  split
  ·exact ⟨Nat.le_succ _, rfl⟩
  split
  ·refine ⟨?_, rfl⟩
   rw [(nC _ _).1]
   show (M.L.set _ _).length ≤ _
   rw [List.length_set]; omega
  ·exact ⟨by show (M.L.set _ _).length ≤ _; rw [List.length_set]; omega, rfl⟩
 rw [if_neg k3]
 by_cases k7 : r.kind = 7 ∨ r.kind = 8
 ·rw [if_pos k7]
  unfold gF
  split
  ·exact ⟨Nat.le_succ _, rfl⟩
  split
  ·exact ⟨Nat.le_succ _, rfl⟩
  ·unfold fo
   split
   ·exact ⟨by show (fu M kF).L.length ≤ _; rw [(nC _ _).1]; omega, by show (M.dr.set _ _).length = _; rw [List.length_set]⟩
   ·exact ⟨Nat.le_succ _, by show (M.dr.set _ _).length = _; rw [List.length_set]⟩
 rw [if_neg k7]
 by_cases k9 : r.kind = 9
 ·rw [if_pos k9]
  unfold ko
  split
  ·exact ⟨Nat.le_succ _, rfl⟩
  ·have hn := hI.mb.now
   have hk := vw (M.now + r.by') (2 * M.L.length + 1) hI.mb (by omega)
   exact ⟨by show (cZ _ _ M).L.length ≤ _; rw [hk.2.1]; omega, by show (cZ _ _ M).dr.length = _; rw [hk.2.2.1]⟩
 rw [if_neg k9]
 repeat' split
 all_goals exact ⟨Nat.le_succ _, rfl⟩
theorem yG (M : Md) (id t : Int) : (bu M id t).2.L.length = M.L.length ∧ (bu M id t).2.dr = M.dr := by
 unfold bu
 split
 ·split
  ·exact ⟨by show (M.L.set _ _).length = _; rw [List.length_set], rfl⟩
  ·exact ⟨by show (M.L.set _ _).length = _; rw [List.length_set], rfl⟩
 ·exact ⟨rfl, rfl⟩
def mF (M : Md) (x : De) : Md := if x.ma then (bu M x.xi x.xt).2 else (dW M (toW x.r)).2
def lU (M : Md) (l : List De) : Md := l.foldl mF M
theorem Ok.de (h : Ok M) (x : De) : Ok (mF M x) := by
 unfold mF
 split
 ·exact h.jy _ _
 ·exact h.Fx _
theorem KW (h : Ok M) (x : De) : (mF M x).L.length ≤ M.L.length + 1 ∧ (mF M x).dr.length = M.dr.length := by
 unfold mF
 split
 ·have := yG M x.xi x.xt
  exact ⟨by rw [this.1]; omega, by rw [this.2]⟩
 ·exact Q4 h.inv _
theorem Dl (h : Ok M) (l : List De) : Ok (lU M l) ∧ (lU M l).L.length ≤ M.L.length + l.length ∧ (lU M l).dr.length = M.dr.length := by
 unfold lU
 induction l generalizing M with
 | nil => exact ⟨h, Nat.le_refl _, rfl⟩
 | cons x l ih =>
  obtain ⟨h1, h2, h3⟩ := ih (h.de x)
  have := KW h x
  exact ⟨h1, by show (l.foldl mF (mF M x)).L.length ≤ M.L.length + (l.length + 1); omega, h3.trans this.2⟩
theorem Ki (M : Md) {l : List De} {i : Nat} (hi : i < l.length) : lU M (l.take (i + 1)) = mF (lU M (l.take i)) l[i] := by
 unfold lU
 rw [List.take_succ_eq_append_getElem hi, List.foldl_append]
 rfl
end
end Go.Proofs.YtnihdgcfamoplaaGreat

namespace Go.Proofs.YtnihdgcfamoplaaGreat
open Go.RowKit Go.Lib Go.Sort
section
variable {M : Md}
def yH (M : Md) (r : Rw) : Rl × Md := if 1 ≤ r.kind ∧ r.kind ≤ 13 then dW M r else (fF 4, M)
theorem H5 {r : Rw} (h : 1 ≤ r.kind ∧ r.kind ≤ 13) : yH M r = dW M r := by unfold yH; rw [if_pos h]
theorem xH {r : Rw} (h : ¬ (1 ≤ r.kind ∧ r.kind ≤ 13)) : yH M r = (fF 4, M) := by unfold yH; rw [if_neg h]
theorem Nl (M : Md) (r : Rw) : (yH M r).2 = (dW M r).2 := by
 by_cases h : 1 ≤ r.kind ∧ r.kind ≤ 13
 ·rw [H5 h]
 ·rw [xH h]
  unfold dW
  rw [if_neg (show ¬ r.kind = 1 by omega), if_neg (show ¬ (r.kind = 2 ∨ r.kind = 5) by omega), if_neg (show ¬ (r.kind = 3 ∨ r.kind = 4 ∨ r.kind = 6) by omega), if_neg (show ¬ (r.kind = 7 ∨ r.kind = 8) by omega), if_neg (show ¬ r.kind = 9 by omega), if_neg (show ¬ r.kind = 10 by omega), if_neg (show ¬ r.kind = 11 by omega), if_neg (show ¬ r.kind = 12 by omega), if_neg (show ¬ r.kind = 13 by omega)]
  split <;> rfl
end
def mG (w : World) (s c : Nat) : Prop := w.heap[s]? = some (.cells #[.pointer (some ⟨c, 0, none⟩)] 44 (0, 0))
theorem mG.lt {w : World} {s c : Nat} (h : mG w s c) : s < w.heap.size := ay h
theorem mG.c0 {w : World} {s c : Nat} (h : mG w s c) : w.cell? ⟨s, 0, none⟩ = some (.pointer (some ⟨c, 0, none⟩)) := by simp [World.cell?, show w.heap[s]? = _ from h]
theorem mG.kept {w w' : World} {s c : Nat} (h : mG w s c) (hb : Below w.heap.size w w') : mG w' s c := (hb.block s h.lt).trans h
theorem mG.far {w w' : World} {s c : Nat} (h : mG w s c) (hf : Q3 w w') : mG w' s c := hf s _ _ _ (by decide) (by decide) h
structure SO (B : Nat) (w : World) (s c t d p : Nat) (v : Value) (g : Nat) (m : Int) (M : Md) : Prop where
 at' : mG w s c
 Tf : B ≤ s
 cw : CW w c t d p v g (1 + 2 * M.L.length) m (ak M)
 lo : ∀ k, dY c t d p v g k → B ≤ k
section
variable {w w' w1 : World} {B s c t d p g g' : Nat} {v v' : Value} {m m' : Int} {M M' : Md}
theorem SO.apart (h : SO B w s c t d p v g m M) : ¬ dY c t d p v g s := h.cw.other h.at' (by decide)
theorem SO.kept (h : SO B w s c t d p v g m M) (hb : Below w.heap.size w w') : SO B w' s c t d p v g m M := ⟨h.at'.kept hb, h.Tf, h.cw.kept hb, h.lo⟩
theorem SO.wider (h : SO B w s c t d p v g m M) (hm : m ≤ m') : SO B w s c t d p v g m' M := ⟨h.at', h.Tf, h.cw.wider (Nat.le_refl _) hm, h.lo⟩
theorem SO.turn (h : SO B w s c t d p v g m M) (hs : CS w w' c t d p v g v' g') (hC : CW w' c t d p v' g' (1 + 2 * M'.L.length) m' (ak M')) (hB : B ≤ w.heap.size) : SO B w' s c t d p v' g' m' M' :=
 ⟨(hs.heap h.at'.lt h.apart).trans h.at', h.Tf, hC, hs.lo h.lo hB⟩
theorem SO.below (h : SO B w s c t d p v g m M) (hs : CS w w' c t d p v g v' g') (hB : B ≤ w.heap.size) : Below B w w' := hs.below h.lo hB
theorem CS.P8 {b : Nat} (hb : Below w.heap.size w w1) (hlo : w.heap.size ≤ b) (hs : WS w1 w' b c t d p v g v' g') : CS w w' c t d p v g v' g' := by
 refine ⟨⟨hs.off.os.trans hb.os, hs.off.tape.trans hb.tape, hs.off.output.trans hb.output, Nat.le_trans hb.size hs.off.size, fun k hk hf => ?_⟩, fun k hk => ?_⟩
 ·refine (hs.heap (Nat.lt_of_lt_of_le hk hb.size) ?_).trans (hb.block k hk)
  rintro (rfl | h2)
  ·omega
  ·exact hf h2
 ·rcases hs.grew k (.inr hk) with (rfl | h2) | h2
  ·exact .inr hlo
  ·exact .inl h2
  ·exact .inr (Nat.le_trans hb.size h2)
end
section
variable {w : World} {B s c t d p g : Nat} {v : Value} {m : Int} {M : Md}
theorem xI (h : SO B w s c t d p v g m M) : Calls Tryz.prog 34 #[.pointer (some ⟨s, 0, none⟩)] w fun e w' => e = .returned (.bool false) ∧ w = w' := by
 have c0 := h.at'.c0
 have hn := kW h.cw
 go_enter Tryz.func34, Tryz.ntmps34
 go_wp2_with fail
 go_at_call 51
 refine hn.mono ?_
 clear hn
 rintro e w' ⟨rfl, rfl⟩
 go_wp2_with fail
 go_ret
 exact ⟨rfl, rfl⟩
theorem P9 (c : Nat) (w : World) : Calls Tryz.prog 32 #[.pointer (some ⟨c, 0, none⟩)] w fun e w' => e = .returned (.pointer (some ⟨w.heap.size, 0, none⟩)) ∧ mG w' w.heap.size c ∧ Below w.heap.size w w' := by
 go_enter Tryz.func32, Tryz.ntmps32
 go_wp2_with fail
 go_ret
 exact ⟨rfl, heap_alloc_new w _, (Below.refl _ _).alloc (Nat.le_refl _) _⟩
theorem Nn (n : Int) (w : World) (h : n < 1 ∨ 64 < n) : Calls Tryz.prog 8 #[.int .i64 n] w fun e w' => e = .returned (.tuple #[.pointer none, .int .i64 1]) ∧ w = w' := by
 have hn := Nc n w h
 go_enter Tryz.func8, Tryz.ntmps8
 go_wp2_with (go_at_call 31; go_must (refine hn.mono ?_); rintro e w' ⟨rfl, rfl⟩)
 go_ret2
 exact ⟨rfl, rfl⟩
theorem H6 (n : Nat) (w : World) (h1 : 1 ≤ n) (h2 : n ≤ 64) : Calls Tryz.prog 8 #[.int .i64 n] w fun e w' => ∃ s c t d p v g, e = .returned (.tuple #[.pointer (some ⟨s, 0, none⟩), .int .i64 0]) ∧ SO w.heap.size w' s c t d p v g 0 (eF n) ∧ Below w.heap.size w w' := by
 have hn := PU n w h1 h2
 go_enter Tryz.func8, Tryz.ntmps8
 go_wp2_with fail
 go_at_call 31
 refine hn.mono ?_
 clear hn
 rintro e w1 ⟨c, t, d, p, v, g, rfl, ⟨xe, hlo1⟩, hb1⟩
 have ho := P9 c w1
 go_wp2_with fail
 go_at_call 32
 refine ho.mono ?_
 clear ho
 rintro e w2 ⟨rfl, hS2, hb2⟩
 go_wp2_with fail
 go_ret2
 exact ⟨w1.heap.size, c, t, d, p, v, g, rfl, ⟨hS2, hb1.size, xe.kept hb2, hlo1⟩, hb1.trans (hb2.mono hb1.size)⟩
end
section
variable {w w0 : World} {B s b c t d p g N : Nat} {v : Value} {m : Int} {M : Md} {Q : World → Prop}
theorem H7 (hs : mG w s c) (h : Goes b c N w Q) : Calls Tryz.prog 35 #[.pointer (some ⟨s, 0, none⟩), .pointer (some ⟨b, 0, none⟩)] w fun e w' => e = .returned (.pointer (some ⟨b, 0, none⟩)) ∧ Q w' := by
 go_enter Tryz.func35, Tryz.ntmps35
 go_wp2_with fail
 go_loopg [] N (fun k wr => Hid (mG wr s c) ∧ Hid (Goes b c k wr Q))
 case atStart => exact ⟨Lib.hid hs, Lib.hid h⟩
 case round =>
  obtain ⟨h1, h2⟩ := hrel
  cases gk with
  | zero => exact h2.out.elim
  | succ K =>
   have c0 := h1.out.c0
   have hg : Calls Tryz.prog 71 #[.pointer (some ⟨b, 0, none⟩), .pointer (some ⟨c, 0, none⟩)] wr fun e w' => Q3 wr w' ∧ ((e = .returned (.bool true) ∧ Q w') ∨ (e = .returned (.bool false) ∧ Goes b c K w' Q)) := h2.out
   go_wp2_with fail
   go_at_call 71
   refine hg.mono ?_
   clear hg
   rintro e w' ⟨hf, ⟨rfl, hq⟩ | ⟨rfl, hq⟩⟩
   ·go_wp2_with fail
    go_ret
    exact ⟨rfl, hq⟩
   ·have h3 := Lib.hid (h1.out.far hf)
    have h4 := Lib.hid hq
    go_wp2_with fail
    go_roundg K
    case measure => omega
    case rel => exact ⟨h3, h4⟩
def A7 (w : World) (b c t d p : Nat) (v : Value) (g : Nat) (m : Int) (M' : Md) (y : Ry) (ok : Bool) (e : Ending) (w' : World) : Prop :=
 ∃ (v' : Value) (g' : Nat) (R : Wk), e = .returned (.pointer (some ⟨b, 0, none⟩)) ∧ CW w' c t d p v' g' (1 + 2 * M'.L.length) (m + 1000) (ak M') ∧ bY w' b R ∧ R.rep = y ∧ R.ok = ok ∧ WS w w' b c t d p v g v' g'
theorem vZ {M' : Md} {y : Ry} {ok : Bool} (hs : mG w s c) (h : Goes b c 1000 w (Fin w b c t d p v g (m + 1000) M' y ok)) (hI : aG M') :
  Calls Tryz.prog 35 #[.pointer (some ⟨s, 0, none⟩), .pointer (some ⟨b, 0, none⟩)] w (A7 w b c t d p v g m M' y ok) := by
 refine (H7 hs h).mono ?_
 rintro e w' ⟨rfl, ⟨v', g', a, m', R, hS, ha, hm, hl, hr, ho, hw⟩⟩
 exact ⟨v', g', R, rfl, (hS.cw.PV hI).wider (Nat.le_refl _) hm, hS.wk, hr, ho, hw⟩
theorem BO (hs : mG w s c) (h : CW w c t d p v g (1 + 2 * M.L.length) m (ak M)) (r : Rq) (hb : bY w b (vV r)) (hM : Ok M) (h1 : 1 ≤ M.dr.length) (hll : M.L.length ≤ 190) (hm : m + 1000 ≤ 1000000) (hnd : -9223372036854775808 ≤ r.node ∧ r.node ≤ 9223372036854775807) :
  Calls Tryz.prog 35 #[.pointer (some ⟨s, 0, none⟩), .pointer (some ⟨b, 0, none⟩)] w (A7 w b c t d p v g m (dW M (toW r)).2 (kY (dW M (toW r)).1) false) := by
 have hg := PZ (mx := m + 1000) (R := vV r) ⟨hb, h⟩ rfl hM.inv hM.calm hM.early h1 hll (Nat.le_refl _) (Int.le_refl _) hm rfl rfl (HZ r hnd) (WS.refl w)
 rw [show (vV r).ah = kX r from rfl, Nj] at hg
 exact vZ hs hg (hM.Fx _).inv
theorem yT (hs : mG w s c) (h : CW w c t d p v g (1 + 2 * M.L.length) m (ak M)) (i x : Int) (hb : bY w b (AU i x)) (hM : Ok M) (h1 : 1 ≤ M.dr.length) (hll : M.L.length ≤ 190) (hm : m + 1000 ≤ 1000000) (hx : -9223372036854775808 ≤ x ∧ x ≤ 9223372036854775807) :
  Calls Tryz.prog 35 #[.pointer (some ⟨s, 0, none⟩), .pointer (some ⟨b, 0, none⟩)] w (A7 w b c t d p v g m (bu M i x).2 (mE M) (bu M i x).1) :=
 vZ hs (EO (mx := m + 1000) (R := AU i x) ⟨hb, h⟩ rfl hM.inv hM.calm h1 hll (Nat.le_refl _) (Int.le_refl _) hm rfl rfl hx (WS.refl w)) (hM.jy i x).inv
theorem KX {w : World} {G : Nat} {z : Ry} (hb : w.heap[G]? = some (.cells (bU z).toArray 39 (0, 0))) (y : Ry) :
  Sem.run Tryz.prog (storeCells ⟨G, 0, none⟩ (bU y) 0) w = .ok () (w.setRow G (bU y).toArray) ∧ (w.setRow G (bU y).toArray).heap[G]? = some (.cells (bU y).toArray 39 (0, 0)) := by
 have hst := run_storeCells_at Tryz.prog G 0 39 (bU y) 0 (bU z).toArray w hb (by simp [jd]) (xh y)
 simp only [Nat.add_zero] at hst
 have e : (((bU z).toArray.toList.take 0 ++ bU y ++ (bU z).toArray.toList.drop (0 + (bU y).length)).toArray) = (bU y).toArray := by simp [jd]
 rw [e] at hst
 exact ⟨hst, setRow_heap w G _ _ _ _ hb⟩
theorem CS.row {w w' : World} {c t d p g g' G : Nat} {v v' : Value} (h : CS w w' c t d p v g v' g') (hG : w.heap.size ≤ G) (cs : Array Value) : CS w (w'.setRow G cs) c t d p v g v' g' :=
 ⟨⟨h.off.os, h.off.tape, h.off.output, by simp; exact h.off.size, fun k hk hf => (setRow_other w' G k cs (by omega)).trans (h.off.block k hk hf)⟩, h.grew⟩
theorem CS.later {w w1 w' : World} {c t d p g g' : Nat} {v v' : Value} (h : CS w w1 c t d p v g v' g') (hb : Below w1.heap.size w1 w') : CS w w' c t d p v g v' g' := h.trans (CS.of_below hb)
def yZ (B : Nat) (w : World) (s c t d p : Nat) (v : Value) (g : Nat) (m : Int) (M' : Md) (r : Value) (e : Ending) (w' : World) : Prop :=
 ∃ (v' : Value) (g' : Nat), e = .returned r ∧ SO B w' s c t d p v' g' (m + 1000) M' ∧ CS w w' c t d p v g v' g' ∧ Below B w w'
theorem za (h : SO B w s c t d p v g m M) (hB : B ≤ w.heap.size) (r : Rq) (hM : Ok M) (h1 : 1 ≤ M.dr.length) (hll : M.L.length ≤ 190) (hm : m + 1000 ≤ 1000000) (hnd : -9223372036854775808 ≤ r.node ∧ r.node ≤ 9223372036854775807) :
  Calls Tryz.prog 14 #[.pointer (some ⟨s, 0, none⟩), .agg (encR r).toArray] w (yZ B w s c t d p v g m (dW M (toW r)).2 (.agg (bU (kY (yH M (toW r)).1)).toArray)) := by
 by_cases hk : 1 ≤ r.kind ∧ r.kind ≤ 13
 ·rw [H5 (show 1 ≤ (toW r).kind ∧ (toW r).kind ≤ 13 from hk)]
  have key : ∀ w2 b, bY w2 b (vV r) → Below w.heap.size w w2 → Calls Tryz.prog 35 #[.pointer (some ⟨s, 0, none⟩), .pointer (some ⟨b, 0, none⟩)] w2 (A7 w2 b c t d p v g m (dW M (toW r)).2 (kY (dW M (toW r)).1) false) :=
   fun w2 b hW hb2 => BO (h.at'.kept hb2) (h.cw.kept hb2) r hW hM h1 hll hm hnd
  have hf0 : ∀ k, dY c t d p v g k → k < w.heap.size := fun k => h.cw.lt
  generalize kY (dW M (toW r)).1 = y at *
  generalize (dW M (toW r)).2 = M2 at *
  obtain ⟨y1, y2, y3, y4, y5, y6, y7, y8, y9⟩ := r
  obtain ⟨wA, aB⟩ : ∃ wA, wA = (w.alloc (.cells #[.int .i64 y1, .int .i64 y2, .int .i64 y3, .int .i64 y4, .int .i64 y5, .int .i64 y6, .bool y7, .int .i64 y8, .int .i64 y9] 32)).alloc (.cells #[.int .i64 0, .int .i64 0, .int .i64 0, .int .i64 0, .int .i64 0, .int .i64 0, .int .i64 0, .int .i64 0, .int .i64 0] 39) := ⟨_, rfl⟩
  have bC : Below w.heap.size w wA := by rw [aB]; exact ((Below.refl _ _).alloc (Nat.le_refl _) _).alloc (by simp) _
  have hsA : wA.heap.size = w.heap.size + 2 := by rw [aB]; simp
  have ic : wA.heap[w.heap.size + 1]? = some (.cells (bU mY).toArray 39 (0, 0)) := by rw [aB]; exact heap_alloc2_new w _ _
  have dG : wA.heap[w.heap.size]? = some (.cells #[.int .i64 y1, .int .i64 y2, .int .i64 y3, .int .i64 y4, .int .i64 y5, .int .i64 y6, .bool y7, .int .i64 y8, .int .i64 y9] 32 (0, 0)) := by rw [aB]; exact bP (heap_alloc_new w _)
  have hl := xI (h.kept bC)
  have hi := AJ y1 wA
  dsimp only at hk
  rw [decide_eq_true hk.1, decide_eq_true hk.2] at hi
  have hq := Ht ⟨y1, y2, y3, y4, y5, y6, y7, y8, y9⟩ wA
  rw [show (encR ⟨y1, y2, y3, y4, y5, y6, y7, y8, y9⟩).toArray = #[.int .i64 y1, .int .i64 y2, .int .i64 y3, .int .i64 y4, .int .i64 y5, .int .i64 y6, .bool y7, .int .i64 y8, .int .i64 y9] from rfl] at hq ⊢
  have r0 : wA.cell? ⟨w.heap.size, 0, none⟩ = some (.int .i64 y1) := by simp [World.cell?, dG]
  have r1 : wA.cell? ⟨w.heap.size, 1, none⟩ = some (.int .i64 y2) := by simp [World.cell?, dG]
  have r2 : wA.cell? ⟨w.heap.size, 2, none⟩ = some (.int .i64 y3) := by simp [World.cell?, dG]
  have r3 : wA.cell? ⟨w.heap.size, 3, none⟩ = some (.int .i64 y4) := by simp [World.cell?, dG]
  have r4 : wA.cell? ⟨w.heap.size, 4, none⟩ = some (.int .i64 y5) := by simp [World.cell?, dG]
  have r5 : wA.cell? ⟨w.heap.size, 5, none⟩ = some (.int .i64 y6) := by simp [World.cell?, dG]
  have r6 : wA.cell? ⟨w.heap.size, 6, none⟩ = some (.bool y7) := by simp [World.cell?, dG]
  have r7 : wA.cell? ⟨w.heap.size, 7, none⟩ = some (.int .i64 y8) := by simp [World.cell?, dG]
  have r8 : wA.cell? ⟨w.heap.size, 8, none⟩ = some (.int .i64 y9) := by simp [World.cell?, dG]
  clear dG
  have zY := uO
  obtain ⟨k9, bW⟩ : ∃ k, k = 9 := ⟨_, rfl⟩
  rw [← bW] at zY
  have lY := jd y
  rw [← bW] at lY
  have hk0 : ¬ k9 = 0 := by omega
  replace bW := Lib.hid bW
  replace key := Lib.hid key
  replace hf0 := Lib.hid hf0
  replace ic := Lib.hid ic
  go_enter Tryz.func14, Tryz.ntmps14
  go_wp2_with fail
  rw [← aB]
  replace aB := Lib.hid aB
  go_at_call 34
  refine hl.mono ?_
  clear hl
  rintro e w' ⟨rfl, rfl⟩
  go_wp2_with fail
  go_at_call 48
  refine hi.mono ?_
  clear hi
  rintro e w' ⟨rfl, rfl⟩
  go_wp2_with fail
  go_at_call 49
  refine hq.mono ?_
  clear hq
  rintro e w2 ⟨b, rfl, hW2, hlb, hb2⟩
  have wo : Below w.heap.size w w2 := bC.trans (hb2.mono bC.size)
  have hp := key.out w2 b hW2 wo
  go_wp2_with fail
  go_at_call 35
  refine hp.mono ?_
  clear hp
  rintro e w3 ⟨v', g', R, rfl, A8, hW3, hr, _, hs3⟩
  have Kj := Nk hW3
  rw [hr] at Kj
  go_wp2_with fail
  go_at_call 50
  refine Kj.mono ?_
  clear Kj
  rintro e w4 ⟨rfl, hb4⟩
  have hcs : CS w w4 c t d p v g v' g' := (CS.P8 wo (by omega) hs3).later hb4
  have hG : ¬ Az b c t d p v g (w.heap.size + 1) := by
   rintro (e | hf)
   ·omega
   ·have := hf0.out _ hf
    omega
  have hlt2 : w.heap.size + 1 < w2.heap.size := by have := hb2.size; omega
  have hR2 := (hb2.block (w.heap.size + 1) (by omega)).trans ic.out
  have Mo := (hs3.heap hlt2 hG).trans hR2
  have pU := (hb4.block (w.heap.size + 1) (Nat.lt_of_lt_of_le hlt2 hs3.off.size)).trans Mo
  obtain ⟨st, I1⟩ := KX pU y
  have ow := A8.kept hb4
  have hnf : ¬ dY c t d p v' g' (w.heap.size + 1) := fun hf => (hs3.grew _ (.inr hf)).elim hG (fun h2 => by omega)
  have gu := ow.OV (cz w4 (bU y).toArray) hnf
  have oq := hcs.row (G := w.heap.size + 1) (Nat.le_succ _) (bU y).toArray
  have hfin : Hid (SO B (w4.setRow (w.heap.size + 1) (bU y).toArray) s c t d p v' g' (m + 1000) M2 ∧ CS w (w4.setRow (w.heap.size + 1) (bU y).toArray) c t d p v g v' g' ∧ Below B w (w4.setRow (w.heap.size + 1) (bU y).toArray)) :=
   ⟨h.turn oq gu hB, oq, h.below oq hB⟩
  have hsz : (bU y).toArray.size = 9 := rfl
  clear hs3 hb4 hb2 A8 ow gu hcs oq hW3 hW2 hR2 Mo pU h
  go_wp2_with fail
  exact fB rfl rfl rfl I1 Tryz.underlying39 rfl (by rw [hsz]; kernel_rfl) ⟨v', g', rfl, hfin.out⟩
 ·rw [xH (show ¬ (1 ≤ (toW r).kind ∧ (toW r).kind ≤ 13) from hk), ← Nl, xH (show ¬ (1 ≤ (toW r).kind ∧ (toW r).kind ≤ 13) from hk)]
  obtain ⟨y1, y2, y3, y4, y5, y6, y7, y8, y9⟩ := r
  dsimp only at hk
  obtain ⟨wA, aB⟩ : ∃ wA, wA = (w.alloc (.cells #[.int .i64 y1, .int .i64 y2, .int .i64 y3, .int .i64 y4, .int .i64 y5, .int .i64 y6, .bool y7, .int .i64 y8, .int .i64 y9] 32)).alloc (.cells #[.int .i64 0, .int .i64 0, .int .i64 0, .int .i64 0, .int .i64 0, .int .i64 0, .int .i64 0, .int .i64 0, .int .i64 0] 39) := ⟨_, rfl⟩
  have bC : Below w.heap.size w wA := by rw [aB]; exact ((Below.refl _ _).alloc (Nat.le_refl _) _).alloc (by simp) _
  have hsA : wA.heap.size = w.heap.size + 2 := by rw [aB]; simp
  have ic : wA.heap[w.heap.size + 1]? = some (.cells (bU mY).toArray 39 (0, 0)) := by rw [aB]; exact heap_alloc2_new w _ _
  have dG : wA.heap[w.heap.size]? = some (.cells #[.int .i64 y1, .int .i64 y2, .int .i64 y3, .int .i64 y4, .int .i64 y5, .int .i64 y6, .bool y7, .int .i64 y8, .int .i64 y9] 32 (0, 0)) := by rw [aB]; exact bP (heap_alloc_new w _)
  have r0 : wA.cell? ⟨w.heap.size, 0, none⟩ = some (.int .i64 y1) := by simp [World.cell?, dG]
  have hl := xI (h.kept bC)
  have hi := AJ y1 wA
  have hii : (decide (1 ≤ y1) && decide (y1 ≤ 13)) = false := by
   by_cases c1 : 1 ≤ y1
   ·rw [decide_eq_false (show ¬ y1 ≤ 13 by omega), Bool.and_false]
   ·rw [decide_eq_false c1, Bool.false_and]
  rw [hii] at hi
  have hq := Gt 4 wA
  generalize hy : (⟨4, 0, 0, 0, 0, 0, 0, 0, 0⟩ : Ry) = y at *
  rw [show kY (fF 4, M).1 = y from hy]
  rw [show (encR ⟨y1, y2, y3, y4, y5, y6, y7, y8, y9⟩).toArray = #[.int .i64 y1, .int .i64 y2, .int .i64 y3, .int .i64 y4, .int .i64 y5, .int .i64 y6, .bool y7, .int .i64 y8, .int .i64 y9] from rfl]
  clear hy hii dG
  have zY := uO
  obtain ⟨k9, bW⟩ : ∃ k, k = 9 := ⟨_, rfl⟩
  rw [← bW] at zY
  have lY := jd y
  rw [← bW] at lY
  have hk0 : ¬ k9 = 0 := by omega
  replace bW := Lib.hid bW
  replace ic := Lib.hid ic
  go_enter Tryz.func14, Tryz.ntmps14
  go_wp2_with fail
  rw [← aB]
  replace aB := Lib.hid aB
  go_at_call 34
  refine hl.mono ?_
  clear hl
  rintro e w' ⟨rfl, rfl⟩
  go_wp2_with fail
  go_at_call 48
  refine hi.mono ?_
  clear hi
  rintro e w' ⟨rfl, rfl⟩
  go_wp2_with fail
  go_at_call 47
  refine hq.mono ?_
  clear hq
  rintro e w4 ⟨rfl, hb4⟩
  have H8 : Below w.heap.size w w4 := bC.trans (hb4.mono bC.size)
  have pU := (hb4.block (w.heap.size + 1) (by omega)).trans ic.out
  obtain ⟨st, I1⟩ := KX pU y
  have oq := (CS.of_below (c := c) (t := t) (d := d) (p := p) (v := v) (g := g) H8).row (G := w.heap.size + 1) (Nat.le_succ _) (bU y).toArray
  have hnf : ¬ dY c t d p v g (w.heap.size + 1) := fun hf => by have := h.cw.lt hf; omega
  have gu := (h.cw.kept H8).OV (cz w4 (bU y).toArray) hnf
  have hfin : Hid (SO B (w4.setRow (w.heap.size + 1) (bU y).toArray) s c t d p v g (m + 1000) M ∧ CS w (w4.setRow (w.heap.size + 1) (bU y).toArray) c t d p v g v g ∧ Below B w (w4.setRow (w.heap.size + 1) (bU y).toArray)) :=
   ⟨(h.turn oq gu hB).wider (by omega), oq, h.below oq hB⟩
  have hsz : (bU y).toArray.size = 9 := rfl
  clear hb4 gu oq pU h
  go_wp2_with fail
  exact fB rfl rfl rfl I1 Tryz.underlying39 rfl (by rw [hsz]; kernel_rfl) ⟨v, g, rfl, hfin.out⟩
theorem sJ (h : SO B w s c t d p v g m M) (hB : B ≤ w.heap.size) (i x : Int) (hM : Ok M) (h1 : 1 ≤ M.dr.length) (hll : M.L.length ≤ 190) (hm : m + 1000 ≤ 1000000) (hx : -9223372036854775808 ≤ x ∧ x ≤ 9223372036854775807) :
  Calls Tryz.prog 11 #[.pointer (some ⟨s, 0, none⟩), .agg #[.int .i64 i, .int .i64 x]] w (yZ B w s c t d p v g m (bu M i x).2 (.bool (bu M i x).1)) := by
 obtain ⟨wA, aB⟩ : ∃ wA, wA = w.alloc (.cells #[.int .i64 i, .int .i64 x] 34) := ⟨_, rfl⟩
 have bC : Below w.heap.size w wA := by rw [aB]; exact (Below.refl _ _).alloc (Nat.le_refl _) _
 have dG : wA.heap[w.heap.size]? = some (.cells #[.int .i64 i, .int .i64 x] 34 (0, 0)) := by rw [aB]; exact heap_alloc_new w _
 have r0 : wA.cell? ⟨w.heap.size, 0, none⟩ = some (.int .i64 i) := by simp [World.cell?, dG]
 have r1 : wA.cell? ⟨w.heap.size, 1, none⟩ = some (.int .i64 x) := by simp [World.cell?, dG]
 clear dG
 have hl := xI (h.kept bC)
 have hq := BK i x wA
 have key : ∀ w2 b, bY w2 b (AU i x) → Below w.heap.size w w2 → Calls Tryz.prog 35 #[.pointer (some ⟨s, 0, none⟩), .pointer (some ⟨b, 0, none⟩)] w2 (A7 w2 b c t d p v g m (bu M i x).2 (mE M) (bu M i x).1) :=
  fun w2 b hW hb2 => yT (h.at'.kept hb2) (h.cw.kept hb2) i x hW hM h1 hll hm hx
 replace key := Lib.hid key
 go_enter Tryz.func11, Tryz.ntmps11
 go_wp2_with fail
 rw [← aB]
 replace aB := Lib.hid aB
 go_at_call 34
 refine hl.mono ?_
 clear hl
 rintro e w' ⟨rfl, rfl⟩
 go_wp2_with fail
 go_at_call 36
 refine hq.mono ?_
 clear hq
 rintro e w2 ⟨b, rfl, hW2, hlb, hb2⟩
 have wo : Below w.heap.size w w2 := bC.trans (hb2.mono bC.size)
 have hp := key.out w2 b hW2 wo
 go_wp2_with fail
 go_at_call 35
 refine hp.mono ?_
 clear hp
 rintro e w3 ⟨v', g', R, rfl, A8, hW3, _, hr, hs3⟩
 have Kj := Te hW3
 rw [hr] at Kj
 go_wp2_with fail
 go_at_call 37
 refine Kj.mono ?_
 clear Kj
 rintro e w' ⟨rfl, rfl⟩
 have hcs : CS w w3 c t d p v g v' g' := CS.P8 wo (by have := bC.size; omega) hs3
 have hfin := Lib.hid (And.intro (h.turn hcs A8 hB) (And.intro hcs (h.below hcs hB)))
 clear hs3 hb2 A8 hcs hW3 hW2 h key
 generalize (bu M i x).1 = ok at *
 go_wp2_with fail
 go_ret
 exact ⟨v', g', rfl, hfin.out⟩
end
end Go.Proofs.YtnihdgcfamoplaaGreat

namespace Go.Proofs.YtnihdgcfamoplaaGreat
open Go.RowKit Go.Lib Go.Sort
def qN (x : De) : Prop := R3 x.r ∧ (-9223372036854775808 ≤ x.xi ∧ x.xi ≤ 9223372036854775807) ∧ (-9223372036854775808 ≤ x.xt ∧ x.xt ≤ 9223372036854775807)
section
end
end Go.Proofs.YtnihdgcfamoplaaGreat

namespace Go.Proofs.YtnihdgcfamoplaaGreat
open Go.RowKit Go.Lib Go.Sort
def Tg : Rq := ⟨1, 0, 0, 2, 10, 0, false, 0, 0⟩
def Q5 : Rq := ⟨9, 0, 0, 0, 0, 0, false, 0, 5⟩
def Q6 : Md := (dW (eF 2) (toW Tg)).2
def Q7 : Md := (bu Q6 1 5).2
def Qa : Md := (dW Q7 (toW Q5)).2
theorem VI : (bu Q6 1 5).1 = true := by decide
theorem U0 : gz Qa.L 1 = 0 ∧ (bH Qa.L 1).st = 3 ∧ (bH Qa.L 1).eO = 5 := by decide
theorem RG : Ok Q6 := (Ok.new (by decide)).Fx _
theorem U1 : Ok Q7 := RG.jy _ _
theorem A9 (w : World) : Calls Tryz.prog 9 #[] w fun e w' => e = .returned (.bool true) ∧ Below w.heap.size w w' := by
 have hn := H6 2 w (by decide) (by decide)
 go_enter Tryz.func9, Tryz.ntmps9
 go_wp2_with fail
 go_at_call 8
 refine hn.mono ?_
 clear hn
 rintro e w1 ⟨s, c, t, d, p, v, g, rfl, h1, hb1⟩
 have hq := za h1 hb1.size Tg (Ok.new (by decide)) (by decide) (by decide) (by decide) (by decide)
 rw [show (encR Tg).toArray = #[.int .i64 1, .int .i64 0, .int .i64 0, .int .i64 2, .int .i64 10, .int .i64 0, .bool false, .int .i64 0, .int .i64 0] from rfl] at hq
 replace hq := Lib.hid hq
 go_wp2_with fail
 go_at_call 14
 refine hq.out.mono ?_
 clear hq
 rintro e w2 ⟨v2, g2, rfl, h2, _, hb2⟩
 have wo := hb1.trans hb2
 have hq := sJ (M := Q6) h2 wo.size 1 5 RG (by decide) (by decide) (by decide) (by decide)
 rw [VI] at hq
 replace hq := Lib.hid hq
 go_wp2_with fail
 go_at_call 11
 refine hq.out.mono ?_
 clear hq
 rintro e w3 ⟨v3, g3, rfl, h3, _, hb3⟩
 have Qb := wo.trans hb3
 have hq := za (M := Q7) h3 Qb.size Q5 U1 (by decide) (by decide) (by decide) (by decide)
 rw [show (encR Q5).toArray = #[.int .i64 9, .int .i64 0, .int .i64 0, .int .i64 0, .int .i64 0, .int .i64 0, .bool false, .int .i64 0, .int .i64 5] from rfl] at hq
 replace hq := Lib.hid hq
 go_wp2_with fail
 go_at_call 14
 refine hq.out.mono ?_
 clear hq
 rintro e w4 ⟨v4, g4, rfl, h4, _, hb4⟩
 have H8 := Lib.hid (Qb.trans hb4)
 have k0 := h4.at'.c0
 have k1 := h4.cw.c0
 have hg := gq h4.cw.fe 1
 rw [show (ak (dW Q7 (toW Q5)).2).J = Qa.L from rfl] at hg
 unfold gZ at hg
 rw [U0.1] at hg
 have hj := U0.2
 obtain ⟨j, hjd⟩ : ∃ j, j = bH Qa.L 1 := ⟨_, rfl⟩
 rw [← hjd] at hg hj
 clear hjd
 obtain ⟨j1, j2, j3, j4, j5, j6, j7, j8, j9, j0⟩ := j
 obtain ⟨e6, e7⟩ : j6 = 3 ∧ j7 = 5 := hj
 subst e6 e7
 rw [show (ag (j1, j2, j3, j4, j5, (3 : Int), (5 : Int), j8, j9, j0)).toArray = #[.int .i64 j1, .int .i64 j2, .int .i64 j3, .int .i64 j4, .int .i64 j5, .int .i64 3, .int .i64 5, .int .i64 j8, .int .i64 j9, .int .u64 j0] from rfl] at hg
 clear h1 h2 h3 h4 hb1 hb2 hb3 hb4 wo Qb
 go_wp2_with fail
 go_at_call 33
 refine hg.mono ?_
 clear hg k0 k1
 rintro e w5 ⟨rfl, hg5⟩
 have RH : Hid (Below w.heap.size w w5) := H8.out.trans (hg5.below.mono H8.out.size)
 go_wp2_with fail
 go_ret
 exact ⟨rfl, RH.out.alloc RH.out.size _⟩
section
variable {w : World} {u : Value} {l : List De}
theorem Np (h : aF jg 12 w u l) (n : Int) (hn : n < 1 ∨ 64 < n) : Calls Tryz.prog 16 #[.int .i64 n, u] w fun e w' => e = .returned (.pointer none) ∧ w = w' := by
 have hf := KV h
 have hb := Nn n w hn
 go_enter Tryz.func16, Tryz.ntmps16
 go_wp2_with fail
 go_at_call 7
 refine hf.mono ?_
 rintro e w' ⟨v', rfl, _, rfl⟩
 go_wp2_with fail
 go_at_call 8
 refine hb.mono ?_
 rintro e w' ⟨rfl, rfl⟩
 go_wp2_with fail
 go_ret
 exact ⟨rfl, rfl⟩
theorem Qc (h : aF jg 12 w u l) (hfit : ∀ x ∈ l, qN x) (n : Nat) (h1 : 1 ≤ n) (h2 : n ≤ 64) : Calls Tryz.prog 16 #[.int .i64 n, u] w fun e w' => ∃ s c t d p v g, e = .returned (.pointer (some ⟨s, 0, none⟩)) ∧
  SO w.heap.size w' s c t d p v g 60000 (lU (eF n) (l.take 60)) ∧ Below w.heap.size w w' := by
 have hf := KV h
 have hb := H6 n w h1 h2
 have Ti : ∀ x ∈ l.take 60, qN x := fun x hx => hfit x (List.mem_of_mem_take hx)
 have hlen : (l.take 60).length ≤ 60 := by rw [List.length_take]; omega
 generalize l.take 60 = ds at *
 clear h hfit
 go_enter Tryz.func16, Tryz.ntmps16
 go_wp2_with fail
 go_at_call 7
 refine hf.mono ?_
 clear hf
 rintro e w' ⟨u', rfl, hr, rfl⟩
 go_wp2_with fail
 go_at_call 8
 refine hb.mono ?_
 clear hb
 rintro e w1 ⟨s, c, t, d, p, v1, g1, rfl, hS1, hb1⟩
 replace hr := Lib.hid hr
 obtain ⟨ao, cap, rfl, q1, q2, q3⟩ := hr.out
 clear q1 q3
 go_wp2_with fail
 go_loopw [7] (fun ii wr => ∃ (i : Nat) (v : Value) (g : Nat), i ≤ ds.length ∧ ii = .int .i64 i ∧ Hid (SO w.heap.size wr s c t d p v g (1000 * i) (lU (eF n) (ds.take i))) ∧ Hid (Below w.heap.size w wr)) (fun ii _ => ds.length - (intOf ii).toNat)
 case atStart =>
  exact ⟨0, v1, g1, Nat.zero_le _, rfl, Lib.hid hS1, Lib.hid hb1⟩
 case round =>
  clear hS1 hb1
  obtain ⟨i, v, g, hin, rfl, hC, hbr⟩ := hrel
  obtain ⟨hok, hpl, VJ⟩ := Dl (Ok.new h2) (ds.take i)
  have hle : (ds.take i).length ≤ 60 := by rw [List.length_take]; omega
  have hnl : (eF n).L.length = 0 ∧ (eF n).dr.length = n := ⟨rfl, by simp [eF]⟩
  by_cases hlt : i < ds.length
  ·have b2 : (i : Int) < (ds.length : Int) := by omega
   have wi : IntKind.i64.wrap ((i : Int) + 1) = (i : Int) + 1 := by rw [IntKind.wrap_i64]; omega
   have hrr := hr.out.below hbr.out
   obtain ⟨K6, cap', e0, r1, r2, r3⟩ := hrr
   injection e0 with e1 _ e2
   subst e1 e2
   obtain ⟨B, off, rfl, hB, hcell⟩ := r3 (by omega)
   have hx := fun (j : Nat) (z : Value) (hz : (jg ds[i])[j]? = some z) => hcell i ds[i] j z (List.getElem?_eq_getElem hlt) hz
   have hsn := Ki (eF n) hlt
   generalize hxd : ds[i] = x at *
   have hfx := Ti x (by rw [← hxd]; exact List.getElem_mem hlt)
   obtain ⟨cm, ⟨y1, y2, y3, y4, y5, y6, y7, y8, y9⟩, xi, xt⟩ := x
   have k0 : wr.cell? ⟨B, off + i * 12, none⟩ = some (.bool cm) := hx 0 _ rfl
   have k1 : wr.cell? ⟨B, off + i * 12 + 1, none⟩ = some (.int .i64 y1) := hx 1 _ rfl
   have k2 : wr.cell? ⟨B, off + i * 12 + 1 + 1, none⟩ = some (.int .i64 y2) := (congrArg (fun z => wr.cell? ⟨B, z, none⟩) (show off + i * 12 + 1 + 1 = off + (i * 12 + 2) by omega)).trans (hx 2 _ rfl)
   have k3 : wr.cell? ⟨B, off + i * 12 + 1 + 2, none⟩ = some (.int .i64 y3) := (congrArg (fun z => wr.cell? ⟨B, z, none⟩) (show off + i * 12 + 1 + 2 = off + (i * 12 + 3) by omega)).trans (hx 3 _ rfl)
   have k4 : wr.cell? ⟨B, off + i * 12 + 1 + 3, none⟩ = some (.int .i64 y4) := (congrArg (fun z => wr.cell? ⟨B, z, none⟩) (show off + i * 12 + 1 + 3 = off + (i * 12 + 4) by omega)).trans (hx 4 _ rfl)
   have k5 : wr.cell? ⟨B, off + i * 12 + 1 + 4, none⟩ = some (.int .i64 y5) := (congrArg (fun z => wr.cell? ⟨B, z, none⟩) (show off + i * 12 + 1 + 4 = off + (i * 12 + 5) by omega)).trans (hx 5 _ rfl)
   have k6 : wr.cell? ⟨B, off + i * 12 + 1 + 5, none⟩ = some (.int .i64 y6) := (congrArg (fun z => wr.cell? ⟨B, z, none⟩) (show off + i * 12 + 1 + 5 = off + (i * 12 + 6) by omega)).trans (hx 6 _ rfl)
   have k7 : wr.cell? ⟨B, off + i * 12 + 1 + 6, none⟩ = some (.bool y7) := (congrArg (fun z => wr.cell? ⟨B, z, none⟩) (show off + i * 12 + 1 + 6 = off + (i * 12 + 7) by omega)).trans (hx 7 _ rfl)
   have k8 : wr.cell? ⟨B, off + i * 12 + 1 + 7, none⟩ = some (.int .i64 y8) := (congrArg (fun z => wr.cell? ⟨B, z, none⟩) (show off + i * 12 + 1 + 7 = off + (i * 12 + 8) by omega)).trans (hx 8 _ rfl)
   have k9 : wr.cell? ⟨B, off + i * 12 + 1 + 8, none⟩ = some (.int .i64 y9) := (congrArg (fun z => wr.cell? ⟨B, z, none⟩) (show off + i * 12 + 1 + 8 = off + (i * 12 + 9) by omega)).trans (hx 9 _ rfl)
   have k10 : wr.cell? ⟨B, off + i * 12 + 10, none⟩ = some (.int .i64 xi) := hx 10 _ rfl
   have k11 : wr.cell? ⟨B, off + i * 12 + 10 + 1, none⟩ = some (.int .i64 xt) := hx 11 _ rfl
   clear hx r3 hcell
   obtain ⟨M, hM⟩ : ∃ M, M = lU (eF n) (ds.take i) := ⟨_, rfl⟩
   rw [← hM] at hC hok hpl VJ hsn
   cases cm with
   | false =>
    have hq := za hC.out hbr.out.size ⟨y1, y2, y3, y4, y5, y6, y7, y8, y9⟩ hok (by omega) (by omega) (by omega) hfx.1.node
    rw [show (dW M (toW ⟨y1, y2, y3, y4, y5, y6, y7, y8, y9⟩)).2 = lU (eF n) (ds.take (i + 1)) from hsn.symm, show (encR ⟨y1, y2, y3, y4, y5, y6, y7, y8, y9⟩).toArray = #[.int .i64 y1, .int .i64 y2, .int .i64 y3, .int .i64 y4, .int .i64 y5, .int .i64 y6, .bool y7, .int .i64 y8, .int .i64 y9] from rfl] at hq
    replace hq := Lib.hid hq
    go_wp2_with fail
    go_at_call 14
    refine hq.out.mono ?_
    clear hq k0 k1 k2 k3 k4 k5 k6 k7 k8 k9 k10 k11
    rintro e w3 ⟨v3, g3, rfl, A8, _, hb3⟩
    have Qd := Lib.hid (hbr.out.trans hb3)
    have Qe := Lib.hid (A8.wider (show 1000 * (i : Int) + 1000 ≤ 1000 * ((i + 1 : Nat) : Int) by omega))
    clear A8 hb3
    go_wp2_with fail
    go_roundw
    case rel => exact ⟨i + 1, v3, g3, by omega, by go_num, Qe, Qd⟩
    case measure => simp [intOf]; omega
   | true =>
    have hq := sJ hC.out hbr.out.size xi xt hok (by omega) (by omega) (by omega) hfx.2.2
    rw [show (bu M xi xt).2 = lU (eF n) (ds.take (i + 1)) from hsn.symm] at hq
    replace hq := Lib.hid hq
    go_wp2_with fail
    go_at_call 11
    refine hq.out.mono ?_
    clear hq k0 k1 k2 k3 k4 k5 k6 k7 k8 k9 k10 k11
    rintro e w3 ⟨v3, g3, rfl, A8, _, hb3⟩
    have Qd := Lib.hid (hbr.out.trans hb3)
    have Qe := Lib.hid (A8.wider (show 1000 * (i : Int) + 1000 ≤ 1000 * ((i + 1 : Nat) : Int) by omega))
    clear A8 hb3
    go_wp2_with fail
    go_roundw
    case rel => exact ⟨i + 1, v3, g3, by omega, by go_num, Qe, Qd⟩
    case measure => simp [intOf]; omega
  ·have b2 : ¬ (i : Int) < (ds.length : Int) := by omega
   have hi : i = ds.length := by omega
   subst hi
   rw [List.take_length] at hC
   have hC' := Lib.hid (hC.out.wider (show (1000 * (ds.length : Int)) ≤ 60000 by omega))
   go_wp2_with fail
   go_ret
   exact ⟨s, rfl, ⟨c, t, d, p, v, g, hC'.out⟩, hbr.out⟩
end
end Go.Proofs.YtnihdgcfamoplaaGreat

namespace Go.Proofs.YtnihdgcfamoplaaGreat
open Go.RowKit Go.Lib Go.Sort
section
variable {M : Md}
def Kept (x0 y : Jb) : Prop := y = x0 ∨ (3 ≤ y.st ∧ y.eO = x0.aD)
theorem Kk {x0 y : Jb} {t : Int} (hp : aj x0 = true) (h : Kept x0 y) : Kept x0 (aR t y) := by
 unfold aR
 rcases h with rfl | ⟨h1, h2⟩
 ·have := (aT.1 hp).1
  rw [if_neg (by omega)]
  exact .inl rfl
 ·split
  ·exact .inr ⟨by show (3 : Int) ≤ 6; decide, h2⟩
  ·exact .inr ⟨h1, h2⟩
theorem EP {x0 : Jb} (hp : aj x0 = true) {q : Nat} (n : Nat) : ∀ {M : Md}, q < M.L.length → Kept x0 (M.L.getD q default) → Kept x0 ((startGo n M).L.getD q default) ∧ (startGo n M).L.length = M.L.length := by
 induction n with
 | zero => exact fun _ h => ⟨h, rfl⟩
 | succ n ih =>
  intro M hq h
  unfold startGo
  split
  ·rename_i hf
   rcases jT M.L M.now M.L.length with ⟨h1, _⟩ | ⟨f, h1, h2, h3⟩
   ·have : firstM M < 0 := h1
    omega
   have hfm : (firstM M).toNat = f := by unfold firstM; omega
   rw [hfm]
   have hl : (aV M f).L.length = M.L.length := by show (M.L.set _ _).length = _; rw [List.length_set]
   have hk : Kept x0 ((aV M f).L.getD q default) := by
    show Kept x0 ((M.L.set f (fA M (M.L.getD f default))).getD q default)
    rw [df]
    split
    ·rename_i e
     have e1 : f = q := by omega
     subst e1
     unfold dh at h3
     rw [Bool.and_eq_true, decide_eq_true_iff] at h3
     rcases h with h | ⟨h, _⟩
     ·refine .inr ⟨by show (3 : Int) ≤ 3; decide, ?_⟩
      show M.now = x0.aD
      rw [← h]; exact h3.2.symm
     ·have := (aT.1 h3.1).1
      omega
    ·exact h
   obtain ⟨a, b⟩ := ih (by omega) hk
   exact ⟨a, by omega⟩
  ·exact ih hq h
theorem ER {x0 : Jb} (hp : aj x0 = true) {q : Nat} (hq : q < M.L.length) (h : Kept x0 (M.L.getD q default)) : Kept x0 ((dB M).L.getD q default) ∧ (dB M).L.length = M.L.length := by
 unfold dB
 have hl : (M.L.map (aR M.now)).length = M.L.length := List.length_map ..
 have := EP hp M.L.length (M := { M with L := M.L.map (aR M.now) }) (q := q) (by show q < (M.L.map _).length; omega) (by
  show Kept x0 ((M.L.map (aR M.now)).getD q default)
  have e : (M.L.map (aR M.now)).getD q default = aR M.now (M.L.getD q default) := by
   simp [List.getD_eq_getElem?_getD, hq]
  rw [e]
  exact Kk hp h)
 exact ⟨this.1, this.2.trans hl⟩
theorem ES {x0 : Jb} (hp : aj x0 = true) {q : Nat} (to : Int) (n : Nat) : ∀ {M : Md}, q < M.L.length → Kept x0 (M.L.getD q default) → Kept x0 ((cZ to n M).L.getD q default) := by
 induction n with
 | zero => exact fun _ h => h
 | succ n ih =>
  intro M hq h
  unfold cZ
  split
  ·exact h
  ·obtain ⟨a, b⟩ := ER (M := { M with now := aW M }) hp hq h
   exact ih (by rw [b]; exact hq) a
def KY (M : Md) (r : Rw) (i : Nat) : Prop :=
 ((r.kind = 2 ∨ r.kind = 3) ∧ r.id = (i : Int) + 1) ∨ r.kind = 7 ∨ (r.kind = 1 ∧ M.L.length < (dW M r).2.L.length ∧ aJ ((dW M r).2.L.getD ((dW M r).2.L.length - 1) default) (M.L.getD i default) = true) ∨
  (r.kind = 4 ∧ 1 ≤ r.id ∧ r.id ≤ M.L.length ∧ aJ (M.L.getD (r.id - 1).toNat default) (M.L.getD i default) = true)
theorem Ba {j x : Jb} (h0 : j.id ≠ 0) (h : aJ j x = false) : dH j x = x := by
 unfold dH
 rw [decide_eq_false h0, h]
 simp
theorem Nq {a b x : Jb} (h1 : a.id = b.id) (h2 : a.prio = b.prio) : aJ a x = aJ b x := by
 unfold aJ
 rw [h1, h2]
theorem ou (L : List Jb) (j : Jb) {q : Nat} (hq : q < L.length) : (L.map (dH j)).getD q default = dH j (L.getD q default) := by
 simp [List.getD_eq_getElem?_getD, hq]
theorem Nr (hI : aG M) (r : Rw) {i : Nat} (hi : i < M.L.length) (hp : aj (M.L.getD i default) = true) (hx : ¬ KY M r i) : Kept (M.L.getD i default) ((dW M r).2.L.getD i default) := by
 have hst := (aT.1 hp).1
 unfold KY at hx
 revert hx
 unfold dW
 by_cases hc : M.cl = true
 ·rw [if_pos hc]; exact fun _ => .inl rfl
 rw [if_neg hc]
 by_cases k1 : r.kind = 1
 ·rw [if_pos k1]
  unfold gI
  split
  ·exact fun _ => .inl rfl
  split
  ·intro _
   refine .inl ?_
   show (M.L ++ [aX M r]).getD i default = _
   exact ng hi
  ·intro hx
   have hid : (aX M r).id ≠ 0 := by show (M.L.length : Int) + 1 ≠ 0; omega
   have VK : aj (aX M r) = false := by
    unfold aj
    show (decide _ && decide (0 ≤ (-1 : Int))) = false
    simp
   have hdd : dH (aX M r) (aX M r) = aX M r := by unfold dH; rw [VK]; simp
   have hL : ((M.L ++ [aX M r]).map (dH (aX M r))).length = M.L.length + 1 := by simp
   have hlast : ((M.L ++ [aX M r]).map (dH (aX M r))).getD (((M.L ++ [aX M r]).map (dH (aX M r))).length - 1) default = aX M r := by
    rw [hL, ou _ _ (by simp)]
    rw [show (M.L ++ [aX M r]).getD (M.L.length + 1 - 1) default = aX M r by simp [List.getD_eq_getElem?_getD]]
    exact hdd
   have hna : aJ (aX M r) (M.L.getD i default) = false := by
    cases ha : aJ (aX M r) (M.L.getD i default) with
    | false => rfl
    | true =>
     refine absurd (.inr (.inr (.inl ⟨k1, ?_, ?_⟩))) hx
     ·show M.L.length < ((M.L ++ [aX M r]).map (dH (aX M r))).length
      omega
     ·show aJ (((M.L ++ [aX M r]).map (dH (aX M r))).getD (((M.L ++ [aX M r]).map (dH (aX M r))).length - 1) default) _ = true
      rw [hlast]; exact ha
   refine .inl ?_
   show ((M.L ++ [aX M r]).map (dH (aX M r))).getD i default = _
   rw [ou _ _ (by simp; omega), ng hi]
   exact Ba hid hna
 rw [if_neg k1]
 by_cases k2 : r.kind = 2 ∨ r.kind = 5
 ·rw [if_pos k2]
  unfold ku
  simp only
  split
  ·exact fun _ => .inl rfl
  split
  ·exact fun _ => .inl rfl
  ·rename_i h1 h2
   obtain ⟨g1, g2, g3, g4⟩ := iD (M := M) (id := r.id) (by simpa using h1)
   intro hx
   refine .inl ?_
   show (M.L.set _ _).getD i default = _
   rw [df]
   split
   ·rename_i e
    have e1 : (r.id - 1).toNat = i := by omega
    rw [e1] at g3 g4
    rw [g3] at h2
    exact absurd (.inl ⟨by omega, g4⟩) hx
   ·rfl
 rw [if_neg k2]
 by_cases k3 : r.kind = 3 ∨ r.kind = 4 ∨ r.kind = 6
 ·rw [if_pos k3]
  unfold fE
  simp only
  split
  ·exact fun _ => .inl rfl
  split
  ·exact fun _ => .inl rfl
  rename_i h1 h2
  obtain ⟨g1, g2, g3, g4⟩ := iD (M := M) (id := r.id) (by simpa using h1)
  split
  ·rename_i k4
   intro hx
   rw [g3] at h2 ⊢
   have hne : ¬ (r.id - 1).toNat = i := fun e => by
    rw [e] at h2
    omega
   have zA : (M.L.getD (r.id - 1).toNat default).id = (((r.id - 1).toNat : Nat) : Int) + 1 := hI.ids _ g2
   have ej : ∀ x, aJ (dN r.kind (M.L.getD (r.id - 1).toNat default)) x = aJ (M.L.getD (r.id - 1).toNat default) x := fun x => by
    refine Nq ?_ ?_ <;> (unfold dN; rw [if_neg (by omega), if_pos k4]; rfl)
   have Tj : (dN r.kind (M.L.getD (r.id - 1).toNat default)).id ≠ 0 := by
    have : (dN r.kind (M.L.getD (r.id - 1).toNat default)).id = (M.L.getD (r.id - 1).toNat default).id := by unfold dN; rw [if_neg (by omega), if_pos k4]; rfl
    rw [this, zA]; omega
   have hna : aJ (M.L.getD (r.id - 1).toNat default) (M.L.getD i default) = false := by
    cases ha : aJ (M.L.getD (r.id - 1).toNat default) (M.L.getD i default) with
    | false => rfl
    | true => exact absurd (.inr (.inr (.inr ⟨k4, by omega, by omega, ha⟩))) hx
   refine .inl ?_
   show ((M.L.set _ _).map (dH _)).getD i default = _
   rw [ou _ _ (by rw [List.length_set]; exact hi), df, if_neg (by omega)]
   exact Ba Tj (by rw [ej]; exact hna)
  ·rename_i k4
   intro hx
   rw [g3] at h2 ⊢
   by_cases e : (r.id - 1).toNat = i
   ·rw [e] at g4
    by_cases k6 : r.kind = 6
    ·refine .inl ?_
     show (M.L.set _ _).getD i default = _
     rw [df]
     split
     ·rw [e]; unfold dN; rw [if_neg (by omega), if_neg (by omega)]
     ·rfl
    ·exact absurd (.inl ⟨by omega, g4⟩) hx
   ·refine .inl ?_
    show (M.L.set _ _).getD i default = _
    rw [df, if_neg (by omega)]
 rw [if_neg k3]
 by_cases k7 : r.kind = 7 ∨ r.kind = 8
 ·rw [if_pos k7]
  unfold gF
  split
  ·exact fun _ => .inl rfl
  split
  ·exact fun _ => .inl rfl
  ·intro hx
   have k8 : ¬ r.kind = 7 := fun k => hx (.inr (.inl k))
   refine .inl ?_
   show (fo M _ _).L.getD i default = _
   rw [decide_eq_false k8]
   rfl
 rw [if_neg k7]
 by_cases k9 : r.kind = 9
 ·rw [if_pos k9]
  intro _
  unfold ko
  split
  ·exact .inl rfl
  ·exact ES hp _ _ hi (.inl rfl)
 rw [if_neg k9]
 intro _
 repeat' split
 all_goals exact .inl rfl
theorem BP (hI : aG M) (id x : Int) {i : Nat} (hi : i < M.L.length) (hp : aj (M.L.getD i default) = true) :
  (bu M id x).2.L.getD i default = M.L.getD i default ∨ ((bu M id x).2.L.getD i default = (M.L.getD i default).aI x ∧ M.now < x ∧ x < (M.L.getD i default).aD) ∨
   (((bu M id x).2.L.getD i default).st = 3 ∧ ((bu M id x).2.L.getD i default).eO = M.now ∧ M.now ≤ (M.L.getD i default).aD) := by
 have hpl := (aT.1 hp).2
 unfold bu
 cases hf : fw M id x with
 | false => exact .inl rfl
 | true =>
  simp only [if_true]
  have QW := hf
  unfold fw at hf
  simp only at hf
  split at hf
  ·cases hf
  rename_i hn
  have h2 : (getM M id).2 = true := by
   cases hg : (getM M id).2 with
   | true => rfl
   | false => exact absurd (.inr (.inl hg)) hn
  obtain ⟨g1, g2, g3, g4⟩ := iD h2
  rw [g3] at hn
  by_cases e : (id - 1).toNat = i
  ·rw [e] at hn ⊢
   have c1 : ¬ x < M.now := fun h => hn (.inr (.inr (.inr (.inl h))))
   have c2 : ¬ (0 ≤ (M.L.getD i default).aD ∧ (M.L.getD i default).aD ≤ x) := fun h => hn (.inr (.inr (.inr (.inr (.inr h)))))
   split
   ·rename_i ex
    refine .inr (.inr ?_)
    have eg : (aV M i).L.getD i default = fA M (M.L.getD i default) := by
     show (M.L.set i _).getD i default = _
     rw [df, if_pos (by omega)]
    show ((aV M i).L.getD i default).st = 3 ∧ ((aV M i).L.getD i default).eO = M.now ∧ _
    rw [eg]
    exact ⟨rfl, rfl, by omega⟩
   ·refine .inr (.inl ⟨?_, by omega, by omega⟩)
    show (M.L.set i _).getD i default = _
    rw [df, if_pos (by omega)]
  ·refine .inl ?_
   split
   ·show (M.L.set _ _).getD i default = _
    rw [df, if_neg (by omega)]
   ·show (M.L.set _ _).getD i default = _
    rw [df, if_neg (by omega)]
end
end Go.Proofs.YtnihdgcfamoplaaGreat

namespace Go.Proofs.YtnihdgcfamoplaaGreat
open Go.RowKit Go.Lib Go.Sort
section
variable {M : Md}
def qO (cm : Bool) (kind id : Int) (a : Jb) (was now : List Jb) : Bool :=
 if cm then false
 else if kind = 3 ∨ kind = 2 then decide (id = a.id)
 else if kind = 7 then true
 else if kind = 1 then decide ((was.length : Int) < now.length) && aJ (now.getD (now.length - 1) default) a
 else if kind = 4 then (decide (1 ≤ id) && decide (id ≤ was.length)) && aJ (was.getD (id - 1).toNat default) a
 else false
def wu (a b : Jb) (now : Int) : Bool := ((decide (b.st = 1) && decide (0 ≤ b.aD)) && decide (b.aD ≤ a.aD)) && decide (now < b.aD)
def wy (a b : Jb) (cm : Bool) : Bool := ((decide (0 ≤ b.eO) && decide (b.eO ≤ a.aD)) && decide (3 ≤ b.st)) && (decide (b.eO = a.aD) || cm)
theorem H9 (hI : aG M) (x : De) (hM : Ok (mF M x)) {i : Nat} (hi : i < M.L.length) (hi' : i < (mF M x).L.length) (hp : aj (M.L.getD i default) = true)
  (hx : qO x.ma x.r.kind x.r.id (M.L.getD i default) M.L (mF M x).L = false) :
  wu (M.L.getD i default) ((mF M x).L.getD i default) (mF M x).now = true ∨ wy (M.L.getD i default) ((mF M x).L.getD i default) x.ma = true := by
 obtain ⟨p1, p2⟩ := aT.1 hp
 have hid := hI.ids i hi
 have hm : (mF M x).L.getD i default ∈ (mF M x).L := by
  rw [List.getD_eq_getElem?_getD, List.getElem?_eq_getElem hi']
  exact List.getElem_mem hi'
 have hcalm := hM.calm.plan _ hm
 have jr := hI.mb.now
 obtain ⟨cm, r, xi, xt⟩ := x
 cases cm with
 | true =>
  have hd : mF M ⟨true, r, xi, xt⟩ = (bu M xi xt).2 := rfl
  rw [hd] at hx hM hi' hm hcalm ⊢
  have hk := BP hI xi xt hi hp
  generalize (bu M xi xt).2.L.getD i default = b at *
  generalize (bu M xi xt).2.now = n2 at *
  generalize M.L.getD i default = a at *
  unfold wu wy
  rcases hk with rfl | ⟨rfl, h1, h2⟩ | ⟨h1, h2, h3⟩
  ·left
   rw [decide_eq_true p1, decide_eq_true p2, decide_eq_true (Int.le_refl _), decide_eq_true (show n2 < b.aD by omega)]
   rfl
  ·left
   have e1 : (a.aI xt).st = a.st := rfl
   have e2 : (a.aI xt).aD = xt := rfl
   rw [e1, e2]
   rw [e2] at hcalm
   rw [decide_eq_true p1, decide_eq_true (show 0 ≤ xt by omega), decide_eq_true (show xt ≤ a.aD by omega), decide_eq_true (show n2 < xt by omega)]
   rfl
  ·right
   rw [decide_eq_true (show 0 ≤ b.eO by omega), decide_eq_true (show b.eO ≤ a.aD by omega), decide_eq_true (show 3 ≤ b.st by omega), Bool.or_true]
   rfl
 | false =>
  have hd : mF M ⟨false, r, xi, xt⟩ = (dW M (toW r)).2 := rfl
  rw [hd] at hx hM hi' hm hcalm ⊢
  have hne : ¬ KY M (toW r) i := by
   unfold qO at hx
   rw [if_neg (show ¬ (false = true) from fun h => nomatch h)] at hx
   unfold KY
   intro hc
   have ek : (toW r).kind = r.kind := rfl
   have ei : (toW r).id = r.id := rfl
   rw [ek, ei] at hc
   dsimp only at hx
   rcases hc with ⟨h1, h2⟩ | h1 | ⟨h1, h2, h3⟩ | ⟨h1, h2, h3, h4⟩
   ·rw [if_pos (by omega), decide_eq_true (h2.trans hid.symm)] at hx
    cases hx
   ·rw [if_neg (by omega), if_pos h1] at hx
    cases hx
   ·rw [if_neg (by omega), if_neg (by omega), if_pos h1, decide_eq_true (by omega), h3] at hx
    cases hx
   ·rw [if_neg (by omega), if_neg (by omega), if_neg (by omega), if_pos h1, decide_eq_true h2, decide_eq_true h3, h4] at hx
    cases hx
  have hk := Nr hI (toW r) hi hp hne
  generalize (dW M (toW r)).2.L.getD i default = b at *
  generalize (dW M (toW r)).2.now = n2 at *
  unfold wu wy
  unfold Kept at hk
  generalize M.L.getD i default = a at *
  rcases hk with rfl | ⟨h1, h2⟩
  ·left
   rw [decide_eq_true p1, decide_eq_true p2, decide_eq_true (Int.le_refl _), decide_eq_true (show n2 < b.aD by omega)]
   rfl
  ·right
   rw [decide_eq_true (show 0 ≤ b.eO by omega), decide_eq_true (show b.eO ≤ a.aD by omega), decide_eq_true h1, decide_eq_true h2]
   rfl
end
end Go.Proofs.YtnihdgcfamoplaaGreat

namespace Go.Proofs.YtnihdgcfamoplaaGreat
open Go.ChangeShapes Go.WideShapes Go.ChangeAt Go.RowKit Go.Lib Go.Sort Go.Deep
section
variable {H : Type} {enc : TypeId × Value → H} {w : World} {base : Nat} {v : Value} {d : DataW H} {ps : List MemPlace}
def KZ : List TypeId := [4, 3, 3, 3, 3, 2, 3, 4, 3, 2, 3, 2]
theorem Bb {α : Type} {Bc : α → List Value} {p : α → Prop} : ∀ {l : List (List Value)}, (∀ s ∈ l, ∃ x : α, s = Bc x ∧ p x) → ∃ L : List α, l = L.map Bc ∧ ∀ x ∈ L, p x
 | [], _ => ⟨[], rfl, fun _ h => nomatch h⟩
 | s :: l, h => by
  obtain ⟨x, rfl, hx⟩ := h s List.mem_cons_self
  obtain ⟨L, rfl, hL⟩ := Bb (l := l) fun s hs => h s (List.mem_cons_of_mem _ hs)
  exact ⟨x :: L, rfl, fun y hy => by
   rcases List.mem_cons.1 hy with rfl | hy
   ·exact hx
   ·exact hL y hy⟩
theorem Kl {α : Type} {Bc : α → List Value} {n : Nat} {L : List α} (h : aF id n w v (L.map Bc)) : aF Bc n w v L := by
 obtain ⟨ao, cap, h1, h2, h3, h4⟩ := h
 rw [List.length_map] at h1 h2 h4
 refine ⟨ao, cap, h1, h2, h3, fun hn => ?_⟩
 obtain ⟨b, off, e, hlt, hc⟩ := h4 hn
 exact ⟨b, off, e, hlt, fun i s j u hi hj => hc i (Bc s) j u (by rw [List.getElem?_map, hi]; rfl) hj⟩
theorem Ns (hval : Value.okWide Tryz.prog w .any base 22 v) (hd : DataW.Trod enc Tryz.prog w 0 (fun _ => true) true 22 v d ps) : ∃ l : List De, aF jg 12 w v l ∧ ∀ x ∈ l, qN x := by
 obtain ⟨l, hr, hf⟩ := Lf (n := 3) (ts := KZ) Tryz.underlying22 (by kernel_rfl) (by kernel_rfl) (by kernel_rfl) (by decide) hval hd
 obtain ⟨L, rfl, hL⟩ := Bb (Bc := jg) (p := qN) fun s hs => by
  obtain ⟨hl, hf⟩ := hf s hs
  match s, hl with
  | [a0, a1, a2, a3, a4, a5, a6, a7, a8, a9, VL, VM], _ =>
   obtain ⟨x0, rfl⟩ := qA hf 0 rfl Tryz.underlying4 rfl
   obtain ⟨x1, rfl, b1⟩ := dK hf 1 rfl Tryz.underlying3 rfl
   obtain ⟨x2, rfl, b2⟩ := dK hf 2 rfl Tryz.underlying3 rfl
   obtain ⟨x3, rfl, b3⟩ := dK hf 3 rfl Tryz.underlying3 rfl
   obtain ⟨x4, rfl, b4⟩ := dK hf 4 rfl Tryz.underlying3 rfl
   obtain ⟨x5, rfl, b5⟩ := dK hf 5 rfl Tryz.underlying2 rfl
   obtain ⟨x6, rfl, b6⟩ := dK hf 6 rfl Tryz.underlying3 rfl
   obtain ⟨x7, rfl⟩ := qA hf 7 rfl Tryz.underlying4 rfl
   obtain ⟨x8, rfl, b8⟩ := dK hf 8 rfl Tryz.underlying3 rfl
   obtain ⟨x9, rfl, b9⟩ := dK hf 9 rfl Tryz.underlying2 rfl
   obtain ⟨Eo, rfl, b10⟩ := dK hf 10 rfl Tryz.underlying3 rfl
   obtain ⟨QN, rfl, b11⟩ := dK hf 11 rfl Tryz.underlying2 rfl
   exact ⟨⟨x0, ⟨x1, x2, x3, x4, x5, x6, x7, x8, x9⟩, Eo, QN⟩, rfl, ⟨b1, b2, b3, b4, b5, b6, b8, b9⟩, b10, b11⟩
 exact ⟨L, Kl hr, hL⟩
end
end Go.Proofs.YtnihdgcfamoplaaGreat

namespace Go.Proofs.YtnihdgcfamoplaaGreat
open Go.ChangeShapes Go.WideShapes Go.ChangeAt Go.RowKit Go.Lib Go.Sort Go.Deep
section
variable {H : Type} {enc : TypeId × Value → H} {w : World} {base : Nat} {v : Value} {d : DataW H} {ps : List MemPlace}
theorem Qf (hval : Value.okWide Tryz.prog w .any base 36 v) (hd : DataW.Trod enc Tryz.prog w 0 (fun _ => true) true 36 v d ps) : ∃ x : De, v = .agg (jg x).toArray ∧ qN x := by
 obtain ⟨s, rfl, hl, hf⟩ := NL (n := 3) (ts := KZ) Tryz.underlying36 (by kernel_rfl) (by kernel_rfl) hval hd
 match s, hl with
 | [a0, a1, a2, a3, a4, a5, a6, a7, a8, a9, VL, VM], _ =>
  obtain ⟨x0, rfl⟩ := qA hf 0 rfl Tryz.underlying4 rfl
  obtain ⟨x1, rfl, b1⟩ := dK hf 1 rfl Tryz.underlying3 rfl
  obtain ⟨x2, rfl, b2⟩ := dK hf 2 rfl Tryz.underlying3 rfl
  obtain ⟨x3, rfl, b3⟩ := dK hf 3 rfl Tryz.underlying3 rfl
  obtain ⟨x4, rfl, b4⟩ := dK hf 4 rfl Tryz.underlying3 rfl
  obtain ⟨x5, rfl, b5⟩ := dK hf 5 rfl Tryz.underlying2 rfl
  obtain ⟨x6, rfl, b6⟩ := dK hf 6 rfl Tryz.underlying3 rfl
  obtain ⟨x7, rfl⟩ := qA hf 7 rfl Tryz.underlying4 rfl
  obtain ⟨x8, rfl, b8⟩ := dK hf 8 rfl Tryz.underlying3 rfl
  obtain ⟨x9, rfl, b9⟩ := dK hf 9 rfl Tryz.underlying2 rfl
  obtain ⟨Eo, rfl, b10⟩ := dK hf 10 rfl Tryz.underlying3 rfl
  obtain ⟨QN, rfl, b11⟩ := dK hf 11 rfl Tryz.underlying2 rfl
  exact ⟨⟨x0, ⟨x1, x2, x3, x4, x5, x6, x7, x8, x9⟩, Eo, QN⟩, rfl, ⟨b1, b2, b3, b4, b5, b6, b8, b9⟩, b10, b11⟩
end
end Go.Proofs.YtnihdgcfamoplaaGreat

namespace Go.Proofs.YtnihdgcfamoplaaGreat
open Go.RowKit Go.Lib Go.Sort
def wC (B : Nat) (w : World) (P : World → Prop) : Prop := ∀ w' : World, (∀ k, B ≤ k → k < w.heap.size → w'.heap[k]? = w.heap[k]?) → w.heap.size ≤ w'.heap.size → P w'
section
variable {B : Nat} {w w' : World} {P : World → Prop}
theorem wC.now (h : wC B w P) : P w := h w (fun _ _ _ => rfl) (Nat.le_refl _)
theorem wC.off (h : wC B w P) (hk : ∀ k, B ≤ k → k < w.heap.size → w'.heap[k]? = w.heap[k]?) (hs : w.heap.size ≤ w'.heap.size) : wC B w' P := fun W h1 h2 =>
 h W (fun k a b => (h1 k a (Nat.lt_of_lt_of_le b hs)).trans (hk k a b)) (Nat.le_trans hs h2)
theorem wC.cs {c t d p g g' : Nat} {v v' : Value} (h : wC B w P) (hcs : CS w w' c t d p v g v' g') (hf : ∀ k, dY c t d p v g k → k < B) : wC B w' P :=
 h.off (fun k hB hk => hcs.heap hk fun hf' => absurd (hf k hf') (Nat.not_lt.2 hB)) hcs.off.size
theorem Ia {c t d p g a : Nat} {v : Value} {m : Int} {M : Md} (h : CW w c t d p v g a m (ak M)) (hll : M.L.length ≤ 900) : Calls Tryz.prog 17 #[.pointer (some ⟨t, 0, none⟩)] w fun e w' => ∃ u, e = .returned u ∧ wC w.heap.size w' (fun W => aF ag 10 W u M.L) ∧ Below w.heap.size w w' := by
 refine (Qz h.fe (by show M.L.length ≤ 1000; omega)).mono ?_
 rintro e w' ⟨u, rfl, h1, h2⟩
 exact ⟨u, rfl, fun W hW _ => aF.jh (Ld h1 fun k hk => hW k (h1.lt k hk).1 (h1.lt k hk).2) ax rfl rfl, h2⟩
end
section
end
end Go.Proofs.YtnihdgcfamoplaaGreat

namespace Go.Proofs.YtnihdgcfamoplaaGreat
open Go.RowKit Go.Lib Go.Sort
section
variable {w : World} {u v : Value} {L K : List Jb}
theorem aF.Qg {v : Value} {L : List Jb} {w : World} (h : aF ag 10 w v L) (i : Nat) (hi : i < L.length) : ∃ b off cap, v = .slice (some ⟨b, off, none⟩) L.length cap ∧ L.length ≤ cap ∧ cap ≤ maxLen ∧
  ∀ W, Below w.heap.size w W → ∀ k, k = 10 → Sem.run Tryz.prog (loadCellsFrom ⟨b, off + i * k, none⟩ 0 k #[]) W = .ok (ag (L.getD i default)).toArray W := by
 obtain ⟨b, off, cap, hv, h1, h2, hb, hc⟩ := h.Il i hi
 refine ⟨b, off, cap, hv, h1, h2, fun W hW k hk => ?_⟩
 subst hk
 refine run_loadCellsFrom_list Tryz.prog W _ _ 10 (ax _) fun j u hj => ?_
 rw [Go.WideShapes.add_plain]
 exact (hW.cell (p := ⟨b, off + i * 10 + j, none⟩) hb).trans (hc j u hj)
theorem Ib (hu : aF ag 10 w u L) (hv : aF ag 10 w v K) (y1 : Int) (y2 y3 y4 y5 y6 : Int) (y7 : Bool) (y8 y9 xi xt : Int) (x : Jb) (hL : L.length ≤ 1000) (hK : K.length ≤ 1000) :
  Calls Tryz.prog 24 #[.agg #[.bool true, .int .i64 y1, .int .i64 y2, .int .i64 y3, .int .i64 y4, .int .i64 y5, .int .i64 y6, .bool y7, .int .i64 y8, .int .i64 y9, .int .i64 xi, .int .i64 xt], .agg (ag x).toArray, u, v] w fun e w' => e = .returned (.bool (qO true y1 y2 x L K)) ∧ Below w.heap.size w w' := by
 obtain ⟨wA, aB⟩ : ∃ wA, wA = (w.alloc (.cells #[.bool true, .int .i64 y1, .int .i64 y2, .int .i64 y3, .int .i64 y4, .int .i64 y5, .int .i64 y6, .bool y7, .int .i64 y8, .int .i64 y9, .int .i64 xi, .int .i64 xt] 36)).alloc (.cells (ag x).toArray 63) := ⟨_, rfl⟩
 have bC : Hid (Below w.heap.size w wA) := by show Below _ _ _; rw [aB]; exact ((Below.refl _ _).alloc (Nat.le_refl _) _).alloc (by simp) _
 have dG : wA.heap[w.heap.size]? = some (.cells #[.bool true, .int .i64 y1, .int .i64 y2, .int .i64 y3, .int .i64 y4, .int .i64 y5, .int .i64 y6, .bool y7, .int .i64 y8, .int .i64 y9, .int .i64 xi, .int .i64 xt] 36 (0, 0)) := by rw [aB]; exact bP (heap_alloc_new w _)
 have kG : wA.heap[w.heap.size + 1]? = some (.cells (ag x).toArray 63 (0, 0)) := by rw [aB]; exact heap_alloc2_new w _ _
 have k0 : wA.cell? ⟨w.heap.size, 0, none⟩ = some (.bool true) := by simp [World.cell?, dG]
 have k1 : wA.cell? ⟨w.heap.size, 1, none⟩ = some (.int .i64 y1) := by simp [World.cell?, dG]
 have k2 : wA.cell? ⟨w.heap.size, 2, none⟩ = some (.int .i64 y2) := by simp [World.cell?, dG]
 clear dG kG k1 k2
 go_enter Tryz.func24, Tryz.ntmps24
 go_wp2_with fail
 try rw [← aB]
 replace aB := Lib.hid aB
 go_ret
 exact ⟨rfl, bC.out⟩
theorem Nt (hu : aF ag 10 w u L) (hv : aF ag 10 w v K) (y2 y3 y4 y5 y6 : Int) (y7 : Bool) (y8 y9 xi xt : Int) (x : Jb) (hL : L.length ≤ 1000) (hK : K.length ≤ 1000) :
  Calls Tryz.prog 24 #[.agg #[.bool false, .int .i64 3, .int .i64 y2, .int .i64 y3, .int .i64 y4, .int .i64 y5, .int .i64 y6, .bool y7, .int .i64 y8, .int .i64 y9, .int .i64 xi, .int .i64 xt], .agg (ag x).toArray, u, v] w fun e w' => e = .returned (.bool (qO false 3 y2 x L K)) ∧ Below w.heap.size w w' := by
 obtain ⟨wA, aB⟩ : ∃ wA, wA = (w.alloc (.cells #[.bool false, .int .i64 3, .int .i64 y2, .int .i64 y3, .int .i64 y4, .int .i64 y5, .int .i64 y6, .bool y7, .int .i64 y8, .int .i64 y9, .int .i64 xi, .int .i64 xt] 36)).alloc (.cells (ag x).toArray 63) := ⟨_, rfl⟩
 have bC : Hid (Below w.heap.size w wA) := by show Below _ _ _; rw [aB]; exact ((Below.refl _ _).alloc (Nat.le_refl _) _).alloc (by simp) _
 have dG : wA.heap[w.heap.size]? = some (.cells #[.bool false, .int .i64 3, .int .i64 y2, .int .i64 y3, .int .i64 y4, .int .i64 y5, .int .i64 y6, .bool y7, .int .i64 y8, .int .i64 y9, .int .i64 xi, .int .i64 xt] 36 (0, 0)) := by rw [aB]; exact bP (heap_alloc_new w _)
 have kG : wA.heap[w.heap.size + 1]? = some (.cells (ag x).toArray 63 (0, 0)) := by rw [aB]; exact heap_alloc2_new w _ _
 have k0 : wA.cell? ⟨w.heap.size, 0, none⟩ = some (.bool false) := by simp [World.cell?, dG]
 have k1 : wA.cell? ⟨w.heap.size, 1, none⟩ = some (.int .i64 3) := by simp [World.cell?, dG]
 have k2 : wA.cell? ⟨w.heap.size, 2, none⟩ = some (.int .i64 y2) := by simp [World.cell?, dG]
 have j0 : wA.cell? ⟨w.heap.size + 1, 0, none⟩ = some (.int .i64 x.id) := by simp [World.cell?, kG, ag, Jb.id]
 clear dG kG
 rw [aB] at k0 k1 k2 j0
 go_enter Tryz.func24, Tryz.ntmps24
 go_wp2_with fail
 rw [← aB]
 replace aB := Lib.hid aB
 try go_wp2_with fail
 go_ret
 exact ⟨rfl, bC.out⟩
theorem Ic (hu : aF ag 10 w u L) (hv : aF ag 10 w v K) (y2 y3 y4 y5 y6 : Int) (y7 : Bool) (y8 y9 xi xt : Int) (x : Jb) (hL : L.length ≤ 1000) (hK : K.length ≤ 1000) :
  Calls Tryz.prog 24 #[.agg #[.bool false, .int .i64 2, .int .i64 y2, .int .i64 y3, .int .i64 y4, .int .i64 y5, .int .i64 y6, .bool y7, .int .i64 y8, .int .i64 y9, .int .i64 xi, .int .i64 xt], .agg (ag x).toArray, u, v] w fun e w' => e = .returned (.bool (qO false 2 y2 x L K)) ∧ Below w.heap.size w w' := by
 obtain ⟨wA, aB⟩ : ∃ wA, wA = (w.alloc (.cells #[.bool false, .int .i64 2, .int .i64 y2, .int .i64 y3, .int .i64 y4, .int .i64 y5, .int .i64 y6, .bool y7, .int .i64 y8, .int .i64 y9, .int .i64 xi, .int .i64 xt] 36)).alloc (.cells (ag x).toArray 63) := ⟨_, rfl⟩
 have bC : Hid (Below w.heap.size w wA) := by show Below _ _ _; rw [aB]; exact ((Below.refl _ _).alloc (Nat.le_refl _) _).alloc (by simp) _
 have dG : wA.heap[w.heap.size]? = some (.cells #[.bool false, .int .i64 2, .int .i64 y2, .int .i64 y3, .int .i64 y4, .int .i64 y5, .int .i64 y6, .bool y7, .int .i64 y8, .int .i64 y9, .int .i64 xi, .int .i64 xt] 36 (0, 0)) := by rw [aB]; exact bP (heap_alloc_new w _)
 have kG : wA.heap[w.heap.size + 1]? = some (.cells (ag x).toArray 63 (0, 0)) := by rw [aB]; exact heap_alloc2_new w _ _
 have k0 : wA.cell? ⟨w.heap.size, 0, none⟩ = some (.bool false) := by simp [World.cell?, dG]
 have k1 : wA.cell? ⟨w.heap.size, 1, none⟩ = some (.int .i64 2) := by simp [World.cell?, dG]
 have k2 : wA.cell? ⟨w.heap.size, 2, none⟩ = some (.int .i64 y2) := by simp [World.cell?, dG]
 have j0 : wA.cell? ⟨w.heap.size + 1, 0, none⟩ = some (.int .i64 x.id) := by simp [World.cell?, kG, ag, Jb.id]
 clear dG kG
 rw [aB] at k0 k1 k2 j0
 go_enter Tryz.func24, Tryz.ntmps24
 go_wp2_with fail
 rw [← aB]
 replace aB := Lib.hid aB
 try go_wp2_with fail
 go_ret
 exact ⟨rfl, bC.out⟩
theorem Km (hu : aF ag 10 w u L) (hv : aF ag 10 w v K) (y2 y3 y4 y5 y6 : Int) (y7 : Bool) (y8 y9 xi xt : Int) (x : Jb) (hL : L.length ≤ 1000) (hK : K.length ≤ 1000) :
  Calls Tryz.prog 24 #[.agg #[.bool false, .int .i64 7, .int .i64 y2, .int .i64 y3, .int .i64 y4, .int .i64 y5, .int .i64 y6, .bool y7, .int .i64 y8, .int .i64 y9, .int .i64 xi, .int .i64 xt], .agg (ag x).toArray, u, v] w fun e w' => e = .returned (.bool (qO false 7 y2 x L K)) ∧ Below w.heap.size w w' := by
 obtain ⟨wA, aB⟩ : ∃ wA, wA = (w.alloc (.cells #[.bool false, .int .i64 7, .int .i64 y2, .int .i64 y3, .int .i64 y4, .int .i64 y5, .int .i64 y6, .bool y7, .int .i64 y8, .int .i64 y9, .int .i64 xi, .int .i64 xt] 36)).alloc (.cells (ag x).toArray 63) := ⟨_, rfl⟩
 have bC : Hid (Below w.heap.size w wA) := by show Below _ _ _; rw [aB]; exact ((Below.refl _ _).alloc (Nat.le_refl _) _).alloc (by simp) _
 have dG : wA.heap[w.heap.size]? = some (.cells #[.bool false, .int .i64 7, .int .i64 y2, .int .i64 y3, .int .i64 y4, .int .i64 y5, .int .i64 y6, .bool y7, .int .i64 y8, .int .i64 y9, .int .i64 xi, .int .i64 xt] 36 (0, 0)) := by rw [aB]; exact bP (heap_alloc_new w _)
 have kG : wA.heap[w.heap.size + 1]? = some (.cells (ag x).toArray 63 (0, 0)) := by rw [aB]; exact heap_alloc2_new w _ _
 have k0 : wA.cell? ⟨w.heap.size, 0, none⟩ = some (.bool false) := by simp [World.cell?, dG]
 have k1 : wA.cell? ⟨w.heap.size, 1, none⟩ = some (.int .i64 7) := by simp [World.cell?, dG]
 have k2 : wA.cell? ⟨w.heap.size, 2, none⟩ = some (.int .i64 y2) := by simp [World.cell?, dG]
 clear dG kG k2
 go_enter Tryz.func24, Tryz.ntmps24
 go_wp2_with fail
 rw [← aB]
 replace aB := Lib.hid aB
 try go_wp2_with fail
 go_ret
 exact ⟨rfl, bC.out⟩
theorem Nu (hu : aF ag 10 w u L) (hv : aF ag 10 w v K) (y1 : Int) (y2 y3 y4 y5 y6 : Int) (y7 : Bool) (y8 y9 xi xt : Int) (x : Jb) (hL : L.length ≤ 1000) (hK : K.length ≤ 1000) (n3 : y1 ≠ 3) (n2 : y1 ≠ 2) (n7 : y1 ≠ 7) (n1 : y1 ≠ 1) (n4 : y1 ≠ 4) :
  Calls Tryz.prog 24 #[.agg #[.bool false, .int .i64 y1, .int .i64 y2, .int .i64 y3, .int .i64 y4, .int .i64 y5, .int .i64 y6, .bool y7, .int .i64 y8, .int .i64 y9, .int .i64 xi, .int .i64 xt], .agg (ag x).toArray, u, v] w fun e w' => e = .returned (.bool (qO false y1 y2 x L K)) ∧ Below w.heap.size w w' := by
 obtain ⟨wA, aB⟩ : ∃ wA, wA = (w.alloc (.cells #[.bool false, .int .i64 y1, .int .i64 y2, .int .i64 y3, .int .i64 y4, .int .i64 y5, .int .i64 y6, .bool y7, .int .i64 y8, .int .i64 y9, .int .i64 xi, .int .i64 xt] 36)).alloc (.cells (ag x).toArray 63) := ⟨_, rfl⟩
 have bC : Hid (Below w.heap.size w wA) := by show Below _ _ _; rw [aB]; exact ((Below.refl _ _).alloc (Nat.le_refl _) _).alloc (by simp) _
 have dG : wA.heap[w.heap.size]? = some (.cells #[.bool false, .int .i64 y1, .int .i64 y2, .int .i64 y3, .int .i64 y4, .int .i64 y5, .int .i64 y6, .bool y7, .int .i64 y8, .int .i64 y9, .int .i64 xi, .int .i64 xt] 36 (0, 0)) := by rw [aB]; exact bP (heap_alloc_new w _)
 have kG : wA.heap[w.heap.size + 1]? = some (.cells (ag x).toArray 63 (0, 0)) := by rw [aB]; exact heap_alloc2_new w _ _
 have k0 : wA.cell? ⟨w.heap.size, 0, none⟩ = some (.bool false) := by simp [World.cell?, dG]
 have k1 : wA.cell? ⟨w.heap.size, 1, none⟩ = some (.int .i64 y1) := by simp [World.cell?, dG]
 have k2 : wA.cell? ⟨w.heap.size, 2, none⟩ = some (.int .i64 y2) := by simp [World.cell?, dG]
 have e0 : qO false y1 y2 x L K = false := by
  unfold qO
  rw [if_neg (by decide), if_neg (by omega), if_neg n7, if_neg n1, if_neg n4]
 rw [e0]
 clear dG kG k2
 have t3 : (y1 == 3) = false := by simp [n3]
 have d3 : decide (y1 = 3) = false := decide_eq_false n3
 have t2 : (y1 == 2) = false := by simp [n2]
 have d2 : decide (y1 = 2) = false := decide_eq_false n2
 have t7 : (y1 == 7) = false := by simp [n7]
 have d7 : decide (y1 = 7) = false := decide_eq_false n7
 have t1 : (y1 == 1) = false := by simp [n1]
 have d1 : decide (y1 = 1) = false := decide_eq_false n1
 have t4 : (y1 == 4) = false := by simp [n4]
 have d4 : decide (y1 = 4) = false := decide_eq_false n4
 go_enter Tryz.func24, Tryz.ntmps24
 go_wp2_with fail
 rw [← aB]
 replace aB := Lib.hid aB
 try go_wp2_with fail
 go_ret
 exact ⟨rfl, bC.out⟩
theorem Ie (hu : aF ag 10 w u L) (hv : aF ag 10 w v K) (y2 y3 y4 y5 y6 : Int) (y7 : Bool) (y8 y9 xi xt : Int) (x : Jb) (hL : L.length ≤ 1000) (hK : K.length ≤ 1000) :
  Calls Tryz.prog 24 #[.agg #[.bool false, .int .i64 1, .int .i64 y2, .int .i64 y3, .int .i64 y4, .int .i64 y5, .int .i64 y6, .bool y7, .int .i64 y8, .int .i64 y9, .int .i64 xi, .int .i64 xt], .agg (ag x).toArray, u, v] w fun e w' => e = .returned (.bool (qO false 1 y2 x L K)) ∧ Below w.heap.size w w' := by
 obtain ⟨wA, aB⟩ : ∃ wA, wA = (w.alloc (.cells #[.bool false, .int .i64 1, .int .i64 y2, .int .i64 y3, .int .i64 y4, .int .i64 y5, .int .i64 y6, .bool y7, .int .i64 y8, .int .i64 y9, .int .i64 xi, .int .i64 xt] 36)).alloc (.cells (ag x).toArray 63) := ⟨_, rfl⟩
 have bC : Hid (Below w.heap.size w wA) := by show Below _ _ _; rw [aB]; exact ((Below.refl _ _).alloc (Nat.le_refl _) _).alloc (by simp) _
 have dG : wA.heap[w.heap.size]? = some (.cells #[.bool false, .int .i64 1, .int .i64 y2, .int .i64 y3, .int .i64 y4, .int .i64 y5, .int .i64 y6, .bool y7, .int .i64 y8, .int .i64 y9, .int .i64 xi, .int .i64 xt] 36 (0, 0)) := by rw [aB]; exact bP (heap_alloc_new w _)
 have kG : wA.heap[w.heap.size + 1]? = some (.cells (ag x).toArray 63 (0, 0)) := by rw [aB]; exact heap_alloc2_new w _ _
 have k0 : wA.cell? ⟨w.heap.size, 0, none⟩ = some (.bool false) := by simp [World.cell?, dG]
 have k1 : wA.cell? ⟨w.heap.size, 1, none⟩ = some (.int .i64 1) := by simp [World.cell?, dG]
 have k2 : wA.cell? ⟨w.heap.size, 2, none⟩ = some (.int .i64 y2) := by simp [World.cell?, dG]
 have e0 : qO false 1 y2 x L K = (decide ((L.length : Int) < K.length) && aJ (K.getD (K.length - 1) default) x) := by unfold qO; rfl
 rw [e0]
 obtain ⟨ao, cp, rfl, hu1, hu2, _⟩ := hu
 have Eb : cp ≤ 9223372036854775807 := by unfold maxLen at hu2; omega
 clear dG k2
 by_cases hlk : L.length < K.length
 ·have b1 : (L.length : Int) < (K.length : Int) := by omega
  have d1 : decide ((L.length : Int) < (K.length : Int)) = true := decide_eq_true b1
  obtain ⟨q, hq⟩ : ∃ q, q + 1 = K.length := ⟨K.length - 1, by omega⟩
  have Tk : K.length - 1 = q := by omega
  have b2 : (q : Int) < (K.length : Int) := by omega
  have wk : IntKind.i64.wrap ((K.length : Int) - 1) = (q : Int) := by rw [IntKind.wrap_i64]; omega
  rw [Tk, d1, Bool.true_and]
  have VN := hv.below bC.out
  obtain ⟨b, off, cap, rfl, hv1, hv2, LD⟩ := VN.Qg q (by omega)
  have Q8 : cap ≤ 9223372036854775807 := by unfold maxLen at hv2; omega
  have hah := fun W => BS (K.getD q default) x W
  generalize K.getD q default = y at *
  generalize aJ y x = r at *
  obtain ⟨k10, hk⟩ : ∃ k, k = 10 := ⟨_, rfl⟩
  have zJ : ∀ w, Sem.run Tryz.prog (Go.sizeOf 63) w = .ok k10 w := by rw [hk]; exact Tryz.sizeOf63
  have hk0 : ¬ k10 = 0 := by omega
  have lX := ax x
  rw [← hk] at lX
  replace LD := Lib.hid LD
  replace hah := Lib.hid hah
  replace kG := Lib.hid kG
  replace hk := Lib.hid hk
  generalize BQ : ag x = cX at *
  generalize qY : ag y = cY at *
  replace BQ := Lib.hid BQ
  replace qY := Lib.hid qY
  go_enter Tryz.func24, Tryz.ntmps24
  go_wp2_with fail
  rw [← aB]
  replace aB := Lib.hid aB
  try go_wp2_with fail
  refine Reg2.rd wA 13 67 [[],[ae],[af,af],[af,af,ae],[ae,ae,ae,ae],[ae,ae,ae,ae,ae],[ae,ae,ae,ae,ae,ae],[ae,ae,ae,ae,ae,ae,af],[ae,ae,ae,ae,ae,ae,af,ae],[ae,ae,ae,ae,ae,ae,af,ae,ae],[ae,ae,ae,ae,ae,ae,ae,ae,ae,ae],[ae,ae,ae,ae,ae,ae,ae,ae,ae,ae,ae],[ae,ae,ae,ae,ae,ae,af,af,af,af,af,af]] [0, 1, 0, 1, 0, 0, 0, 0, 1, 0, 0, 1, 1] [.pure, .mU (.int .i64 K.length), .pure, .mU (.int .i64 L.length), .pure, .pure, .pure, .pure, .mU (.int .i64 K.length), .pure, .pure, .mU (.agg cY.toArray), .mU (.agg cX.toArray)] (by kernel_rfl) (by kernel_rfl) rfl rfl ⟨trivial, Reg2.tt, trivial, Reg2.tt, trivial, trivial, trivial, trivial, Reg2.tt, trivial, trivial, Reg2.tt, Reg2.tt, trivial⟩ ⟨rfl, rfl, rfl, Nat.le_refl _, fun _ _ => rfl⟩ ?_
  dsimp only [Reg2.mk, List.zip, List.zipWith, List.take]
  repeat (refine' Reg2.ai _ (by rfl) (fun wz => ?_) ?_; rotate_left; (go_simp; first | rfl | rw [if_neg (by omega)]); simp only [Act.put, xA, xB, xC]; (try simp only [xD]); (try simp only [xE]); (try simp only [id]))
  refine Reg2.pm (fun wz hI hF => ?_) (fun r1 => ?_) (by rfl)
  ·go_wp2_with fail
   first | exact ⟨_, rfl, rfl, Reg2.Ext.refl _⟩ | exact ⟨_, rfl, ⟨(), rfl, trivial⟩, Reg2.Ext.refl _⟩
  simp only [Act.put, xA, xB, xC]; (try simp only [xD]); (try simp only [xE]); (try simp only [id])
  repeat (refine' Reg2.ai _ (by rfl) (fun wz => ?_) ?_; rotate_left; (go_simp; first | rfl | rw [if_neg (by omega)]); simp only [Act.put, xA, xB, xC]; (try simp only [xD]); (try simp only [xE]); (try simp only [id]))
  refine Reg2.pm (fun wz hI hF => ?_) (fun r3 => ?_) (by rfl)
  ·go_wp2_with fail
   first | exact ⟨_, rfl, rfl, Reg2.Ext.refl _⟩ | exact ⟨_, rfl, ⟨(), rfl, trivial⟩, Reg2.Ext.refl _⟩
  simp only [Act.put, xA, xB, xC]; (try simp only [xD]); (try simp only [xE]); (try simp only [id])
  repeat (refine' Reg2.ai _ (by rfl) (fun wz => ?_) ?_; rotate_left; (go_simp; first | rfl | rw [if_neg (by omega)]); simp only [Act.put, xA, xB, xC]; (try simp only [xD]); (try simp only [xE]); (try simp only [id]))
  refine Reg2.pm (fun wz hI hF => ?_) (fun r8 => ?_) (by rfl)
  ·go_wp2_with fail
   first | exact ⟨_, rfl, rfl, Reg2.Ext.refl _⟩ | exact ⟨_, rfl, ⟨(), rfl, trivial⟩, Reg2.Ext.refl _⟩
  simp only [Act.put, xA, xB, xC]; (try simp only [xD]); (try simp only [xE]); (try simp only [id])
  repeat (refine' Reg2.ai _ (by rfl) (fun wz => ?_) ?_; rotate_left; (go_simp; first | rfl | rw [if_neg (by omega)]); simp only [Act.put, xA, xB, xC]; (try simp only [xD]); (try simp only [xE]); (try simp only [id]))
  refine Reg2.pm (fun wz hI hF => ?_) (fun Mt => ?_) (by rfl)
  ·have ld := LD.out wz hI k10 hk.out
   go_wp2_with fail
   first | exact ⟨_, rfl, rfl, Reg2.Ext.refl _⟩ | exact ⟨_, rfl, ⟨(), rfl, trivial⟩, Reg2.Ext.refl _⟩
  simp only [Act.put, xA, xB, xC]; (try simp only [xD]); (try simp only [xE]); (try simp only [id])
  refine Reg2.pm (fun wz hI hF => ?_) (fun tT => ?_) (by rfl)
  ·have ld := eu ((hI.block _ (ay kG.out)).trans kG.out) lX
   go_wp2_with fail
   first | exact ⟨_, rfl, rfl, Reg2.Ext.refl _⟩ | exact ⟨_, rfl, ⟨(), rfl, trivial⟩, Reg2.Ext.refl _⟩
  simp only [Act.put, xA, xB, xC]; (try simp only [xD]); (try simp only [xE]); (try simp only [id])
  refine Reg2.aA ?_
  intro w4 HI4 _ dI
  clear dI
  dsimp only [List.drop]
  have h1 := hah.out w4
  go_wp2_with fail
  go_at_call 61
  refine h1.mono ?_
  clear h1
  rintro e w5 ⟨rfl, hb5⟩
  have hfin := bC.out.trans ((HI4.trans (hb5.mono HI4.size)).mono bC.out.size)
  go_wp2_with fail
  go_ret
  exact ⟨rfl, hfin⟩
 ·have b1 : ¬ (L.length : Int) < (K.length : Int) := by omega
  have d1 : decide ((L.length : Int) < (K.length : Int)) = false := decide_eq_false b1
  rw [d1, Bool.false_and]
  obtain ⟨bo, cq, rfl, hv1, hv2, _⟩ := hv
  have Q8 : cq ≤ 9223372036854775807 := by unfold maxLen at hv2; omega
  clear kG
  go_enter Tryz.func24, Tryz.ntmps24
  go_wp2_with fail
  rw [← aB]
  replace aB := Lib.hid aB
  try go_wp2_with fail
  refine Reg2.rd wA 13 67 [[],[ae],[af,af],[af,af,ae],[ae,ae,ae,ae],[ae,ae,ae,ae,ae],[ae,ae,ae,ae,ae,ae],[ae,ae,ae,ae,ae,ae,af],[ae,ae,ae,ae,ae,ae,af,ae],[ae,ae,ae,ae,ae,ae,af,ae,ae],[ae,ae,ae,ae,ae,ae,ae,ae,ae,ae],[ae,ae,ae,ae,ae,ae,ae,ae,ae,ae,ae],[ae,ae,ae,ae,ae,ae,af,af,af,af,af,af]] [0, 1, 0, 1, 0, 0, 0, 0, 1, 0, 0, 1, 1] [.pure, .mU (.int .i64 K.length), .pure, .mU (.int .i64 L.length), .pure, .pure, .pure, .pure, .mU (.int .i64 K.length), .pure, .pure, .mU (.int .i64 0), .mU (.int .i64 0)] (by kernel_rfl) (by kernel_rfl) rfl rfl ⟨trivial, Reg2.tt, trivial, Reg2.tt, trivial, trivial, trivial, trivial, Reg2.tt, trivial, trivial, Reg2.tt, Reg2.tt, trivial⟩ ⟨rfl, rfl, rfl, Nat.le_refl _, fun _ _ => rfl⟩ ?_
  dsimp only [Reg2.mk, List.zip, List.zipWith, List.take]
  repeat (refine' Reg2.ai _ (by rfl) (fun wz => ?_) ?_; rotate_left; (go_simp; first | rfl | rw [if_neg (by omega)]); simp only [Act.put, xA, xB, xC]; (try simp only [xD]); (try simp only [xE]); (try simp only [id]))
  refine Reg2.pm (fun wz hI hF => ?_) (fun r1 => ?_) (by rfl)
  ·go_wp2_with fail
   first | exact ⟨_, rfl, rfl, Reg2.Ext.refl _⟩ | exact ⟨_, rfl, ⟨(), rfl, trivial⟩, Reg2.Ext.refl _⟩
  simp only [Act.put, xA, xB, xC]; (try simp only [xD]); (try simp only [xE]); (try simp only [id])
  repeat (refine' Reg2.ai _ (by rfl) (fun wz => ?_) ?_; rotate_left; (go_simp; first | rfl | rw [if_neg (by omega)]); simp only [Act.put, xA, xB, xC]; (try simp only [xD]); (try simp only [xE]); (try simp only [id]))
  refine Reg2.pm (fun wz hI hF => ?_) (fun r3 => ?_) (by rfl)
  ·go_wp2_with fail
   first | exact ⟨_, rfl, rfl, Reg2.Ext.refl _⟩ | exact ⟨_, rfl, ⟨(), rfl, trivial⟩, Reg2.Ext.refl _⟩
  simp only [Act.put, xA, xB, xC]; (try simp only [xD]); (try simp only [xE]); (try simp only [id])
  repeat (refine' Reg2.ai _ (by rfl) (fun wz => ?_) ?_; rotate_left; (go_simp; first | rfl | rw [if_neg (by omega)]); simp only [Act.put, xA, xB, xC]; (try simp only [xD]); (try simp only [xE]); (try simp only [id]))
  refine Reg2.aL (by rfl) ?_
  simp only [Act.put, xA, xB, xC]; (try simp only [xD]); (try simp only [xE]); (try simp only [id])
  refine Reg2.aL (by rfl) ?_
  simp only [Act.put, xA, xB, xC]; (try simp only [xD]); (try simp only [xE]); (try simp only [id])
  refine Reg2.aH (by rfl) ?_
  simp only [Act.put, xA, xB, xC]; (try simp only [xD]); (try simp only [xE]); (try simp only [id])
  refine Reg2.aL (by rfl) ?_
  simp only [Act.put, xA, xB, xC]; (try simp only [xD]); (try simp only [xE]); (try simp only [id])
  refine Reg2.aL (by rfl) ?_
  simp only [Act.put, xA, xB, xC]; (try simp only [xD]); (try simp only [xE]); (try simp only [id])
  refine Reg2.aH (by rfl) ?_
  simp only [Act.put, xA, xB, xC]; (try simp only [xD]); (try simp only [xE]); (try simp only [id])
  refine Reg2.aH (by rfl) ?_
  simp only [Act.put, xA, xB, xC]; (try simp only [xD]); (try simp only [xE]); (try simp only [id])
  refine Reg2.aA ?_
  intro w4 HI4 _ dI
  clear dI
  dsimp only [List.drop]
  have hfin := bC.out.trans (HI4.mono bC.out.size)
  go_wp2_with fail
  go_ret
  exact ⟨rfl, hfin⟩
theorem ET (hu : aF ag 10 w u L) (hv : aF ag 10 w v K) (y2 y3 y4 y5 y6 : Int) (y7 : Bool) (y8 y9 xi xt : Int) (x : Jb) (hL : L.length ≤ 1000) (hK : K.length ≤ 1000) :
  Calls Tryz.prog 24 #[.agg #[.bool false, .int .i64 4, .int .i64 y2, .int .i64 y3, .int .i64 y4, .int .i64 y5, .int .i64 y6, .bool y7, .int .i64 y8, .int .i64 y9, .int .i64 xi, .int .i64 xt], .agg (ag x).toArray, u, v] w fun e w' => e = .returned (.bool (qO false 4 y2 x L K)) ∧ Below w.heap.size w w' := by
 obtain ⟨wA, aB⟩ : ∃ wA, wA = (w.alloc (.cells #[.bool false, .int .i64 4, .int .i64 y2, .int .i64 y3, .int .i64 y4, .int .i64 y5, .int .i64 y6, .bool y7, .int .i64 y8, .int .i64 y9, .int .i64 xi, .int .i64 xt] 36)).alloc (.cells (ag x).toArray 63) := ⟨_, rfl⟩
 have bC : Hid (Below w.heap.size w wA) := by show Below _ _ _; rw [aB]; exact ((Below.refl _ _).alloc (Nat.le_refl _) _).alloc (by simp) _
 have dG : wA.heap[w.heap.size]? = some (.cells #[.bool false, .int .i64 4, .int .i64 y2, .int .i64 y3, .int .i64 y4, .int .i64 y5, .int .i64 y6, .bool y7, .int .i64 y8, .int .i64 y9, .int .i64 xi, .int .i64 xt] 36 (0, 0)) := by rw [aB]; exact bP (heap_alloc_new w _)
 have kG : wA.heap[w.heap.size + 1]? = some (.cells (ag x).toArray 63 (0, 0)) := by rw [aB]; exact heap_alloc2_new w _ _
 have k0 : wA.cell? ⟨w.heap.size, 0, none⟩ = some (.bool false) := by simp [World.cell?, dG]
 have k1 : wA.cell? ⟨w.heap.size, 1, none⟩ = some (.int .i64 4) := by simp [World.cell?, dG]
 have k2 : wA.cell? ⟨w.heap.size, 2, none⟩ = some (.int .i64 y2) := by simp [World.cell?, dG]
 have e0 : qO false 4 y2 x L K = ((decide (1 ≤ y2) && decide (y2 ≤ (L.length : Int))) && aJ (L.getD (y2 - 1).toNat default) x) := by unfold qO; rfl
 rw [e0]
 clear hv
 by_cases h1 : 1 ≤ y2
 ·by_cases h2 : y2 ≤ (L.length : Int)
  ·rw [decide_eq_true h1, decide_eq_true h2, Bool.and_self, Bool.true_and]
   obtain ⟨q, rfl⟩ : ∃ q : Nat, y2 = (q : Int) + 1 := ⟨(y2 - 1).toNat, by omega⟩
   have Tk : ((q : Int) + 1 - 1).toNat = q := by omega
   have b2 : (q : Int) < (L.length : Int) := by omega
   have b3 : (q : Int) + 1 ≥ 1 := by omega
   have d1 : decide (1 ≤ (q : Int) + 1) = true := decide_eq_true b3
   have d2 : decide ((q : Int) + 1 ≤ (L.length : Int)) = true := decide_eq_true h2
   have wk : IntKind.i64.wrap ((q : Int) + 1 - 1) = (q : Int) := by rw [IntKind.wrap_i64]; omega
   have WW : IntKind.i64.wrap (q : Int) = (q : Int) := by rw [IntKind.wrap_i64]; omega
   rw [Tk]
   have huA := hu.below bC.out
   obtain ⟨b, off, cap, rfl, hv1, hv2, LD⟩ := huA.Qg q (by omega)
   have Q8 : cap ≤ 9223372036854775807 := by unfold maxLen at hv2; omega
   have hah := fun W => BS (L.getD q default) x W
   generalize L.getD q default = y at *
   generalize aJ y x = r at *
   obtain ⟨k10, hk⟩ : ∃ k, k = 10 := ⟨_, rfl⟩
   have zJ : ∀ w, Sem.run Tryz.prog (Go.sizeOf 63) w = .ok k10 w := by rw [hk]; exact Tryz.sizeOf63
   have hk0 : ¬ k10 = 0 := by omega
   have lX := ax x
   rw [← hk] at lX
   replace LD := Lib.hid LD
   replace hah := Lib.hid hah
   replace kG := Lib.hid kG
   replace dG := Lib.hid dG
   replace hk := Lib.hid hk
   generalize BQ : ag x = cX at *
   generalize qY : ag y = cY at *
   replace BQ := Lib.hid BQ
   replace qY := Lib.hid qY
   clear k2
   go_enter Tryz.func24, Tryz.ntmps24
   go_wp2_with fail
   rw [← aB]
   replace aB := Lib.hid aB
   try go_wp2_with fail
   refine Reg2.rd wA 21 67 [[],[ae],[ae,ae],[ae,ae,ae],[ae,ae,ae,ae],[ae,ae,ae,ae,ae],[ae,ae,ae,ae,ae,ae],[ae,ae,ae,ae,ae,ae,ae],[ae,ae,ae,ae,ae,af,af,af],[ae,ae,ae,ae,ae,af,af,af,ae],[ae,ae,ae,ae,ae,ae,ae,ae,ae,ae],[ae,ae,ae,ae,ae,ae,ae,ae,ae,ae,ae],[ae,ae,ae,ae,ae,ae,ae,ae,ae,ae,ae,ae],[ae,ae,ae,ae,ae,ae,ae,ae,ae,ae,ae,ae,ae],[ae,ae,ae,ae,ae,ae,ae,ae,ae,ae,ae,ae,ae,af],[ae,ae,ae,ae,ae,ae,ae,ae,ae,ae,ae,ae,ae,af,ae],[ae,ae,ae,ae,ae,ae,ae,ae,ae,ae,ae,ae,ae,af,ae,ae],[ae,ae,ae,ae,ae,ae,ae,ae,ae,ae,ae,ae,ae,af,ae,ae,ae],[ae,ae,ae,ae,ae,ae,ae,ae,ae,ae,ae,ae,ae,ae,ae,ae,ae,ae],[ae,ae,ae,ae,ae,ae,ae,ae,ae,ae,ae,ae,ae,ae,ae,ae,ae,ae,ae],[ae,ae,ae,ae,ae,ae,ae,ae,ae,ae,ae,ae,ae,af,af,af,af,af,af,af]] [0, 0, 1, 0, 0, 0, 0, 1, 0, 1, 0, 0, 0, 0, 0, 0, 1, 0, 0, 1, 1] [.pure, .pure, .mU (.int .i64 ((q : Int) + 1)), .pure, .pure, .pure, .pure, .mU (.int .i64 ((q : Int) + 1)), .pure, .mU (.int .i64 L.length), .pure, .pure, .pure, .pure, .pure, .pure, .mU (.int .i64 ((q : Int) + 1)), .pure, .pure, .mU (.agg cY.toArray), .mU (.agg cX.toArray)] (by kernel_rfl) (by kernel_rfl) rfl rfl ⟨trivial, trivial, Reg2.tt, trivial, trivial, trivial, trivial, Reg2.tt, trivial, Reg2.tt, trivial, trivial, trivial, trivial, trivial, trivial, Reg2.tt, trivial, trivial, Reg2.tt, Reg2.tt, trivial⟩ ⟨rfl, rfl, rfl, Nat.le_refl _, fun _ _ => rfl⟩ ?_
   dsimp only [Reg2.mk, List.zip, List.zipWith, List.take]
   repeat (refine' Reg2.ai _ (by rfl) (fun wz => ?_) ?_; rotate_left; (go_simp; first | rfl | rw [if_neg (by omega)]); simp only [Act.put, xA, xB, xC]; (try simp only [xD]); (try simp only [xE]); (try simp only [id]))
   refine Reg2.pm (fun wz hI hF => ?_) (fun r2 => ?_) (by rfl)
   ·have q0 : wz.cell? ⟨w.heap.size, 2, none⟩ = some (.int .i64 ((q : Int) + 1)) := by simp [World.cell?, (hI.block _ (ay dG.out)).trans dG.out]
    go_wp2_with fail
    first | exact ⟨_, rfl, rfl, Reg2.Ext.refl _⟩ | exact ⟨_, rfl, ⟨(), rfl, trivial⟩, Reg2.Ext.refl _⟩
   simp only [Act.put, xA, xB, xC]; (try simp only [xD]); (try simp only [xE]); (try simp only [id])
   repeat (refine' Reg2.ai _ (by rfl) (fun wz => ?_) ?_; rotate_left; (go_simp; first | rfl | rw [if_neg (by omega)]); simp only [Act.put, xA, xB, xC]; (try simp only [xD]); (try simp only [xE]); (try simp only [id]))
   refine Reg2.pm (fun wz hI hF => ?_) (fun r7 => ?_) (by rfl)
   ·have q0 : wz.cell? ⟨w.heap.size, 2, none⟩ = some (.int .i64 ((q : Int) + 1)) := by simp [World.cell?, (hI.block _ (ay dG.out)).trans dG.out]
    go_wp2_with fail
    first | exact ⟨_, rfl, rfl, Reg2.Ext.refl _⟩ | exact ⟨_, rfl, ⟨(), rfl, trivial⟩, Reg2.Ext.refl _⟩
   simp only [Act.put, xA, xB, xC]; (try simp only [xD]); (try simp only [xE]); (try simp only [id])
   repeat (refine' Reg2.ai _ (by rfl) (fun wz => ?_) ?_; rotate_left; (go_simp; first | rfl | rw [if_neg (by omega)]); simp only [Act.put, xA, xB, xC]; (try simp only [xD]); (try simp only [xE]); (try simp only [id]))
   refine Reg2.pm (fun wz hI hF => ?_) (fun r9 => ?_) (by rfl)
   ·go_wp2_with fail
    first | exact ⟨_, rfl, rfl, Reg2.Ext.refl _⟩ | exact ⟨_, rfl, ⟨(), rfl, trivial⟩, Reg2.Ext.refl _⟩
   simp only [Act.put, xA, xB, xC]; (try simp only [xD]); (try simp only [xE]); (try simp only [id])
   repeat (refine' Reg2.ai _ (by rfl) (fun wz => ?_) ?_; rotate_left; (go_simp; first | rfl | rw [if_neg (by omega)]); simp only [Act.put, xA, xB, xC]; (try simp only [xD]); (try simp only [xE]); (try simp only [id]))
   refine Reg2.pm (fun wz hI hF => ?_) (fun r16 => ?_) (by rfl)
   ·have q0 : wz.cell? ⟨w.heap.size, 2, none⟩ = some (.int .i64 ((q : Int) + 1)) := by simp [World.cell?, (hI.block _ (ay dG.out)).trans dG.out]
    go_wp2_with fail
    first | exact ⟨_, rfl, rfl, Reg2.Ext.refl _⟩ | exact ⟨_, rfl, ⟨(), rfl, trivial⟩, Reg2.Ext.refl _⟩
   simp only [Act.put, xA, xB, xC]; (try simp only [xD]); (try simp only [xE]); (try simp only [id])
   repeat (refine' Reg2.ai _ (by rfl) (fun wz => ?_) ?_; rotate_left; (go_simp; first | rfl | rw [if_neg (by omega)]); simp only [Act.put, xA, xB, xC]; (try simp only [xD]); (try simp only [xE]); (try simp only [id]))
   refine Reg2.pm (fun wz hI hF => ?_) (fun SG => ?_) (by rfl)
   ·have ld := LD.out wz hI k10 hk.out
    go_wp2_with fail
    first | exact ⟨_, rfl, rfl, Reg2.Ext.refl _⟩ | exact ⟨_, rfl, ⟨(), rfl, trivial⟩, Reg2.Ext.refl _⟩
   simp only [Act.put, xA, xB, xC]; (try simp only [xD]); (try simp only [xE]); (try simp only [id])
   refine Reg2.pm (fun wz hI hF => ?_) (fun WX => ?_) (by rfl)
   ·have ld := eu ((hI.block _ (ay kG.out)).trans kG.out) lX
    go_wp2_with fail
    first | exact ⟨_, rfl, rfl, Reg2.Ext.refl _⟩ | exact ⟨_, rfl, ⟨(), rfl, trivial⟩, Reg2.Ext.refl _⟩
   simp only [Act.put, xA, xB, xC]; (try simp only [xD]); (try simp only [xE]); (try simp only [id])
   refine Reg2.aA ?_
   intro w4 HI4 _ dI
   clear dI
   dsimp only [List.drop]
   have h1 := hah.out w4
   go_wp2_with fail
   go_at_call 61
   refine h1.mono ?_
   clear h1
   rintro e w5 ⟨rfl, hb5⟩
   have hfin := bC.out.trans ((HI4.trans (hb5.mono HI4.size)).mono bC.out.size)
   go_wp2_with fail
   go_ret
   exact ⟨rfl, hfin⟩
  ·rw [decide_eq_true h1, decide_eq_false h2, Bool.and_false, Bool.false_and]
   have d1 : decide (1 ≤ y2) = true := decide_eq_true h1
   have d2 : decide (y2 ≤ (L.length : Int)) = false := decide_eq_false h2
   obtain ⟨bo, cq, rfl, hv1, hv2, _⟩ := hu
   have Q8 : cq ≤ 9223372036854775807 := by unfold maxLen at hv2; omega
   clear kG k2
   replace dG := Lib.hid dG
   go_enter Tryz.func24, Tryz.ntmps24
   go_wp2_with fail
   rw [← aB]
   replace aB := Lib.hid aB
   try go_wp2_with fail
   refine Reg2.rd wA 21 67 [[],[ae],[ae,ae],[ae,ae,ae],[ae,ae,ae,ae],[ae,ae,ae,ae,ae],[ae,ae,ae,ae,ae,ae],[ae,ae,ae,ae,ae,ae,ae],[ae,ae,ae,ae,ae,af,af,af],[ae,ae,ae,ae,ae,af,af,af,ae],[ae,ae,ae,ae,ae,ae,ae,ae,ae,ae],[ae,ae,ae,ae,ae,ae,ae,ae,ae,ae,ae],[ae,ae,ae,ae,ae,ae,ae,ae,ae,ae,ae,ae],[ae,ae,ae,ae,ae,ae,ae,ae,ae,ae,ae,ae,ae],[ae,ae,ae,ae,ae,ae,ae,ae,ae,ae,ae,ae,ae,af],[ae,ae,ae,ae,ae,ae,ae,ae,ae,ae,ae,ae,ae,af,ae],[ae,ae,ae,ae,ae,ae,ae,ae,ae,ae,ae,ae,ae,af,ae,ae],[ae,ae,ae,ae,ae,ae,ae,ae,ae,ae,ae,ae,ae,af,ae,ae,ae],[ae,ae,ae,ae,ae,ae,ae,ae,ae,ae,ae,ae,ae,ae,ae,ae,ae,ae],[ae,ae,ae,ae,ae,ae,ae,ae,ae,ae,ae,ae,ae,ae,ae,ae,ae,ae,ae],[ae,ae,ae,ae,ae,ae,ae,ae,ae,ae,ae,ae,ae,af,af,af,af,af,af,af]] [0, 0, 1, 0, 0, 0, 0, 1, 0, 1, 0, 0, 0, 0, 0, 0, 1, 0, 0, 1, 1] [.pure, .pure, .mU (.int .i64 y2), .pure, .pure, .pure, .pure, .mU (.int .i64 y2), .pure, .mU (.int .i64 L.length), .pure, .pure, .pure, .pure, .pure, .pure, .mU (.int .i64 y2), .pure, .pure, .mU (.int .i64 0), .mU (.int .i64 0)] (by kernel_rfl) (by kernel_rfl) rfl rfl ⟨trivial, trivial, Reg2.tt, trivial, trivial, trivial, trivial, Reg2.tt, trivial, Reg2.tt, trivial, trivial, trivial, trivial, trivial, trivial, Reg2.tt, trivial, trivial, Reg2.tt, Reg2.tt, trivial⟩ ⟨rfl, rfl, rfl, Nat.le_refl _, fun _ _ => rfl⟩ ?_
   dsimp only [Reg2.mk, List.zip, List.zipWith, List.take]
   repeat (refine' Reg2.ai _ (by rfl) (fun wz => ?_) ?_; rotate_left; (go_simp; first | rfl | rw [if_neg (by omega)]); simp only [Act.put, xA, xB, xC]; (try simp only [xD]); (try simp only [xE]); (try simp only [id]))
   refine Reg2.pm (fun wz hI hF => ?_) (fun r2 => ?_) (by rfl)
   ·have q0 : wz.cell? ⟨w.heap.size, 2, none⟩ = some (.int .i64 y2) := by simp [World.cell?, (hI.block _ (ay dG.out)).trans dG.out]
    go_wp2_with fail
    first | exact ⟨_, rfl, rfl, Reg2.Ext.refl _⟩ | exact ⟨_, rfl, ⟨(), rfl, trivial⟩, Reg2.Ext.refl _⟩
   simp only [Act.put, xA, xB, xC]; (try simp only [xD]); (try simp only [xE]); (try simp only [id])
   repeat (refine' Reg2.ai _ (by rfl) (fun wz => ?_) ?_; rotate_left; (go_simp; first | rfl | rw [if_neg (by omega)]); simp only [Act.put, xA, xB, xC]; (try simp only [xD]); (try simp only [xE]); (try simp only [id]))
   refine Reg2.pm (fun wz hI hF => ?_) (fun r7 => ?_) (by rfl)
   ·have q0 : wz.cell? ⟨w.heap.size, 2, none⟩ = some (.int .i64 y2) := by simp [World.cell?, (hI.block _ (ay dG.out)).trans dG.out]
    go_wp2_with fail
    first | exact ⟨_, rfl, rfl, Reg2.Ext.refl _⟩ | exact ⟨_, rfl, ⟨(), rfl, trivial⟩, Reg2.Ext.refl _⟩
   simp only [Act.put, xA, xB, xC]; (try simp only [xD]); (try simp only [xE]); (try simp only [id])
   repeat (refine' Reg2.ai _ (by rfl) (fun wz => ?_) ?_; rotate_left; (go_simp; first | rfl | rw [if_neg (by omega)]); simp only [Act.put, xA, xB, xC]; (try simp only [xD]); (try simp only [xE]); (try simp only [id]))
   refine Reg2.pm (fun wz hI hF => ?_) (fun r9 => ?_) (by rfl)
   ·go_wp2_with fail
    first | exact ⟨_, rfl, rfl, Reg2.Ext.refl _⟩ | exact ⟨_, rfl, ⟨(), rfl, trivial⟩, Reg2.Ext.refl _⟩
   simp only [Act.put, xA, xB, xC]; (try simp only [xD]); (try simp only [xE]); (try simp only [id])
   repeat (refine' Reg2.ai _ (by rfl) (fun wz => ?_) ?_; rotate_left; (go_simp; first | rfl | rw [if_neg (by omega)]); simp only [Act.put, xA, xB, xC]; (try simp only [xD]); (try simp only [xE]); (try simp only [id]))
   refine Reg2.aL (by rfl) ?_
   simp only [Act.put, xA, xB, xC]; (try simp only [xD]); (try simp only [xE]); (try simp only [id])
   refine Reg2.aL (by rfl) ?_
   simp only [Act.put, xA, xB, xC]; (try simp only [xD]); (try simp only [xE]); (try simp only [id])
   refine Reg2.aL (by rfl) ?_
   simp only [Act.put, xA, xB, xC]; (try simp only [xD]); (try simp only [xE]); (try simp only [id])
   refine Reg2.aH (by rfl) ?_
   simp only [Act.put, xA, xB, xC]; (try simp only [xD]); (try simp only [xE]); (try simp only [id])
   refine Reg2.aL (by rfl) ?_
   simp only [Act.put, xA, xB, xC]; (try simp only [xD]); (try simp only [xE]); (try simp only [id])
   refine Reg2.aL (by rfl) ?_
   simp only [Act.put, xA, xB, xC]; (try simp only [xD]); (try simp only [xE]); (try simp only [id])
   refine Reg2.aH (by rfl) ?_
   simp only [Act.put, xA, xB, xC]; (try simp only [xD]); (try simp only [xE]); (try simp only [id])
   refine Reg2.aH (by rfl) ?_
   simp only [Act.put, xA, xB, xC]; (try simp only [xD]); (try simp only [xE]); (try simp only [id])
   refine Reg2.aA ?_
   intro w4 HI4 _ dI
   clear dI
   dsimp only [List.drop]
   have hfin := bC.out.trans (HI4.mono bC.out.size)
   go_wp2_with fail
   go_ret
   exact ⟨rfl, hfin⟩
 ·rw [decide_eq_false h1, Bool.false_and, Bool.false_and]
  have d1 : decide (1 ≤ y2) = false := decide_eq_false h1
  obtain ⟨bo, cq, rfl, hv1, hv2, _⟩ := hu
  have Q8 : cq ≤ 9223372036854775807 := by unfold maxLen at hv2; omega
  clear kG k2
  replace dG := Lib.hid dG
  go_enter Tryz.func24, Tryz.ntmps24
  go_wp2_with fail
  rw [← aB]
  replace aB := Lib.hid aB
  try go_wp2_with fail
  refine Reg2.rd wA 21 67 [[],[ae],[ae,ae],[ae,ae,ae],[ae,ae,ae,ae],[ae,ae,ae,ae,ae],[ae,ae,ae,ae,ae,ae],[ae,ae,ae,ae,ae,ae,ae],[ae,ae,ae,ae,ae,af,af,af],[ae,ae,ae,ae,ae,af,af,af,ae],[ae,ae,ae,ae,ae,ae,ae,ae,ae,ae],[ae,ae,ae,ae,ae,ae,ae,ae,ae,ae,ae],[ae,ae,ae,ae,ae,ae,ae,ae,ae,ae,ae,ae],[ae,ae,ae,ae,ae,ae,ae,ae,ae,ae,ae,ae,ae],[ae,ae,ae,ae,ae,ae,ae,ae,ae,ae,ae,ae,ae,af],[ae,ae,ae,ae,ae,ae,ae,ae,ae,ae,ae,ae,ae,af,ae],[ae,ae,ae,ae,ae,ae,ae,ae,ae,ae,ae,ae,ae,af,ae,ae],[ae,ae,ae,ae,ae,ae,ae,ae,ae,ae,ae,ae,ae,af,ae,ae,ae],[ae,ae,ae,ae,ae,ae,ae,ae,ae,ae,ae,ae,ae,ae,ae,ae,ae,ae],[ae,ae,ae,ae,ae,ae,ae,ae,ae,ae,ae,ae,ae,ae,ae,ae,ae,ae,ae],[ae,ae,ae,ae,ae,ae,ae,ae,ae,ae,ae,ae,ae,af,af,af,af,af,af,af]] [0, 0, 1, 0, 0, 0, 0, 1, 0, 1, 0, 0, 0, 0, 0, 0, 1, 0, 0, 1, 1] [.pure, .pure, .mU (.int .i64 y2), .pure, .pure, .pure, .pure, .mU (.int .i64 y2), .pure, .mU (.int .i64 L.length), .pure, .pure, .pure, .pure, .pure, .pure, .mU (.int .i64 y2), .pure, .pure, .mU (.int .i64 0), .mU (.int .i64 0)] (by kernel_rfl) (by kernel_rfl) rfl rfl ⟨trivial, trivial, Reg2.tt, trivial, trivial, trivial, trivial, Reg2.tt, trivial, Reg2.tt, trivial, trivial, trivial, trivial, trivial, trivial, Reg2.tt, trivial, trivial, Reg2.tt, Reg2.tt, trivial⟩ ⟨rfl, rfl, rfl, Nat.le_refl _, fun _ _ => rfl⟩ ?_
  dsimp only [Reg2.mk, List.zip, List.zipWith, List.take]
  repeat (refine' Reg2.ai _ (by rfl) (fun wz => ?_) ?_; rotate_left; (go_simp; first | rfl | rw [if_neg (by omega)]); simp only [Act.put, xA, xB, xC]; (try simp only [xD]); (try simp only [xE]); (try simp only [id]))
  refine Reg2.pm (fun wz hI hF => ?_) (fun r2 => ?_) (by rfl)
  ·have q0 : wz.cell? ⟨w.heap.size, 2, none⟩ = some (.int .i64 y2) := by simp [World.cell?, (hI.block _ (ay dG.out)).trans dG.out]
   go_wp2_with fail
   first | exact ⟨_, rfl, rfl, Reg2.Ext.refl _⟩ | exact ⟨_, rfl, ⟨(), rfl, trivial⟩, Reg2.Ext.refl _⟩
  simp only [Act.put, xA, xB, xC]; (try simp only [xD]); (try simp only [xE]); (try simp only [id])
  repeat (refine' Reg2.ai _ (by rfl) (fun wz => ?_) ?_; rotate_left; (go_simp; first | rfl | rw [if_neg (by omega)]); simp only [Act.put, xA, xB, xC]; (try simp only [xD]); (try simp only [xE]); (try simp only [id]))
  refine Reg2.aL (by rfl) ?_
  simp only [Act.put, xA, xB, xC]; (try simp only [xD]); (try simp only [xE]); (try simp only [id])
  refine Reg2.aL (by rfl) ?_
  simp only [Act.put, xA, xB, xC]; (try simp only [xD]); (try simp only [xE]); (try simp only [id])
  refine Reg2.aH (by rfl) ?_
  simp only [Act.put, xA, xB, xC]; (try simp only [xD]); (try simp only [xE]); (try simp only [id])
  refine Reg2.aL (by rfl) ?_
  simp only [Act.put, xA, xB, xC]; (try simp only [xD]); (try simp only [xE]); (try simp only [id])
  refine Reg2.aH (by rfl) ?_
  simp only [Act.put, xA, xB, xC]; (try simp only [xD]); (try simp only [xE]); (try simp only [id])
  refine Reg2.aL (by rfl) ?_
  simp only [Act.put, xA, xB, xC]; (try simp only [xD]); (try simp only [xE]); (try simp only [id])
  repeat (refine' Reg2.ai _ (by rfl) (fun wz => ?_) ?_; rotate_left; (go_simp; first | rfl | rw [if_neg (by omega)]); simp only [Act.put, xA, xB, xC]; (try simp only [xD]); (try simp only [xE]); (try simp only [id]))
  refine Reg2.aL (by rfl) ?_
  simp only [Act.put, xA, xB, xC]; (try simp only [xD]); (try simp only [xE]); (try simp only [id])
  refine Reg2.aL (by rfl) ?_
  simp only [Act.put, xA, xB, xC]; (try simp only [xD]); (try simp only [xE]); (try simp only [id])
  refine Reg2.aL (by rfl) ?_
  simp only [Act.put, xA, xB, xC]; (try simp only [xD]); (try simp only [xE]); (try simp only [id])
  refine Reg2.aH (by rfl) ?_
  simp only [Act.put, xA, xB, xC]; (try simp only [xD]); (try simp only [xE]); (try simp only [id])
  refine Reg2.aL (by rfl) ?_
  simp only [Act.put, xA, xB, xC]; (try simp only [xD]); (try simp only [xE]); (try simp only [id])
  refine Reg2.aL (by rfl) ?_
  simp only [Act.put, xA, xB, xC]; (try simp only [xD]); (try simp only [xE]); (try simp only [id])
  refine Reg2.aH (by rfl) ?_
  simp only [Act.put, xA, xB, xC]; (try simp only [xD]); (try simp only [xE]); (try simp only [id])
  refine Reg2.aH (by rfl) ?_
  simp only [Act.put, xA, xB, xC]; (try simp only [xD]); (try simp only [xE]); (try simp only [id])
  refine Reg2.aA ?_
  intro w4 HI4 _ dI
  clear dI
  dsimp only [List.drop]
  have hfin := bC.out.trans (HI4.mono bC.out.size)
  go_wp2_with fail
  go_ret
  exact ⟨rfl, hfin⟩
theorem Ig (hu : aF ag 10 w u L) (hv : aF ag 10 w v K) (d : De) (x : Jb) (hL : L.length ≤ 1000) (hK : K.length ≤ 1000) :
  Calls Tryz.prog 24 #[.agg (jg d).toArray, .agg (ag x).toArray, u, v] w fun e w' => e = .returned (.bool (qO d.ma d.r.kind d.r.id x L K)) ∧ Below w.heap.size w w' := by
 obtain ⟨cm, ⟨y1, y2, y3, y4, y5, y6, y7, y8, y9⟩, xi, xt⟩ := d
 cases cm with
 | true => exact Ib hu hv y1 y2 y3 y4 y5 y6 y7 y8 y9 xi xt x hL hK
 | false =>
  by_cases h3 : y1 = 3
  ·subst h3; exact Nt hu hv y2 y3 y4 y5 y6 y7 y8 y9 xi xt x hL hK
  by_cases h2 : y1 = 2
  ·subst h2; exact Ic hu hv y2 y3 y4 y5 y6 y7 y8 y9 xi xt x hL hK
  by_cases h7 : y1 = 7
  ·subst h7; exact Km hu hv y2 y3 y4 y5 y6 y7 y8 y9 xi xt x hL hK
  by_cases h1 : y1 = 1
  ·subst h1; exact Ie hu hv y2 y3 y4 y5 y6 y7 y8 y9 xi xt x hL hK
  by_cases h4 : y1 = 4
  ·subst h4; exact ET hu hv y2 y3 y4 y5 y6 y7 y8 y9 xi xt x hL hK
  exact Nu hu hv y1 y2 y3 y4 y5 y6 y7 y8 y9 xi xt x hL hK h3 h2 h7 h1 h4
end
end Go.Proofs.YtnihdgcfamoplaaGreat
