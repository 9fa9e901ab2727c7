/-
 Own words and walks, merged: part 8 of 9.
-/
import Derived.Deep.LoopGhost
import Derived.LaidEql
import Derived.Laws.StructEq
import Derived.Test.YtelnhablglomjaaGreatZw7
set_option maxRecDepth 1000000
set_option maxHeartbeats 8000000
set_option linter.all false
namespace Go.Proofs.YtelnhablglomjaaGreat
open Go.RowKit Go.Lib Go.Sort
structure Bg (a : Nat) (m mx : Int) (R : Wk) (M : Md) : Prop where
 left : R.left = fD 40
 inv : aF M
 calm : Calm M
 cl : M.cl = false
 one : 1 ≤ M.dr.length
 few : M.L.length ≤ 190
 ha : a ≤ 1 + 2 * M.L.length
 hm : m + 1000 ≤ mx
 hmx : mx ≤ 1000000
 ok : R.ok = false
section
variable {L : List Jb} {id : Int} {ok : Jb → Bool} {ch : Jb → Jb} {M : Md}
theorem xz (L : List Jb) (i : Nat) : L[i]! = L.getD i default := by rw [List.getElem!_eq_getElem?_getD, List.getD_eq_getElem?_getD]
theorem uy (h : ¬ (id < 1 ∨ (L.length : Int) < id)) : bO L id = L.getD (id - 1).toNat default := by
 unfold bO
 rw [if_neg (by omega), if_neg (by omega), xz]
theorem yL (h : id < 1 ∨ (L.length : Int) < id) : bM L 0 id ok = 7 := by
 unfold bM
 rw [if_neg (by decide)]
 split
 ·rfl
 ·rw [if_pos (by omega)]
theorem Ce (h : ¬ (id < 1 ∨ (L.length : Int) < id)) (ho : ok (L.getD (id - 1).toNat default) = false) : bM L 0 id ok = 8 := by
 unfold bM
 rw [if_neg (by decide), if_neg (by omega), if_neg (by omega), xz, ho]
 rfl
theorem uW (h : ¬ (id < 1 ∨ (L.length : Int) < id)) (ho : ok (L.getD (id - 1).toNat default) = true) : bM L 0 id ok = 0 := by
 unfold bM
 rw [if_neg (by decide), if_neg (by omega), if_neg (by omega), xz, ho]
 rfl
theorem pJ {e0 : Int} (h : bM L e0 id ok = 0) : bZ L e0 id ok ch = L.set (id - 1).toNat (ch (L.getD (id - 1).toNat default)) := by
 unfold bZ
 rw [if_pos h, xz]
theorem Em (h : id < 1 ∨ (M.L.length : Int) < id) : getM M id = (default, false) := if_pos h
theorem xG (h : ¬ (id < 1 ∨ (M.L.length : Int) < id)) : getM M id = (M.L.getD (id - 1).toNat default, true) := if_neg h
theorem yM {x : Jb} (h : ¬ (id < 1 ∨ (L.length : Int) < id)) : bO (L.set (id - 1).toNat x) id = x := by
 rw [uy (by rw [List.length_set]; exact h), gm, if_pos ⟨rfl, by omega⟩]
theorem wy (r : Rw) (h : r.id < 1 ∨ (M.L.length : Int) < r.id) : fP M r = (fF 7, M) := by
 unfold fP
 rw [Em h]
 exact if_pos rfl
theorem OB (r : Rw) (h : r.id < 1 ∨ (M.L.length : Int) < r.id) : mD M r = (fF 7, M) := by
 unfold mD
 rw [Em h]
 exact if_pos rfl
end
section
variable {a N : Nat} {m mx : Int} {P : Pg} {M M' : Md} {R : Wk} {Q : Nat → Int → Wk → Pg → Prop}
theorem Lb (hl : R.left = fD 40) (hc : M.cl = true) (ha : a ≤ 800) (hm : m ≤ mx) :
 fo 1000 a m R (ah M) (Fin mx M (ma (fF 12)) false) :=
 aX (N := 999) bz (fun _ _ _ _ _ _ _ _ hS => CX hS hc) hl rfl ha hm rfl rfl rfl
theorem Lc (h : Bg a m mx R M) (hq : ¬ (1 ≤ R.ag.kind ∧ R.ag.kind ≤ 13)) :
 fo 1000 a m R (ah M) (Fin mx M (ma (fF 4)) false) :=
 aX (N := 999) bz (fun _ _ _ _ _ _ _ _ hS => I7 hS h.cl hq) h.left rfl (by have := h.ha; have := h.few; omega) (by have := h.hm; omega) rfl rfl rfl
theorem fJ {k k' a' : Nat} {m' : Int} {R' : Wk} {P' : Pg} (hk : ∀ args w, Sem.run Tryz.prog (callFunc k args) w = .ok (.enter k args) w)
 (hp : dY k a m R P (fD k') a' m' R' P')
 (hl : R.left = fD k) (hl' : R'.left = R.left)
 (hn : fo N a' m' { R' with left := fD k' } P' Q) : fo (N + 1) a m R P Q :=
 vZ hl (hl'.trans hl) hk hp hn
theorem CZ (h : Bg a m mx R M) (hk : R.ag.kind = 4) :
 fo 1000 a m R (ah M) (Fin mx (fP M (toW R.ag)).2 (ma (fP M (toW R.ag)).1) false) := by
 have hll := h.few
 have ha := h.ha
 have hm := h.hm
 have hrd : jI R.ag.kind = false := by rw [hk]; rfl
 have jq : ∀ {L : Value} {a' : Nat} {m' : Int} {R' : Wk} {P' : Pg}, dY 86 a m R (ah M) L a' m' R' P' → dY 40 a m R (ah M) L a' m' R' P' := fun hn w b c t d p v g hS => fO hS h.cl (by rw [hk]; decide) hrd (Ou hS hk (hn w b c t d p v g hS))
 by_cases hid : R.ag.id < 1 ∨ (M.L.length : Int) < R.ag.id
 ·rw [wy (toW R.ag) hid]
  exact aX (N := 999) bz (jq (fun _ _ _ _ _ _ _ _ hS => xu hS 7 (by decide) (yL hid))) h.left rfl (by omega) (by omega) rfl rfl rfl
 ·have hi : (R.ag.id - 1).toNat < M.L.length := by omega
  have hmem := aY hi
  have eM := xG (M := M) hid
  by_cases hs : (M.L.getD (R.ag.id - 1).toNat default).st = 2
  ·have hE : bM M.L 0 R.ag.id (fun j : Jb => decide (j.state = 2)) = 0 := uW hid (decide_eq_true hs)
   have hr : dY 86 a m R (ah M) _ _ _ _ _ := fun _ _ _ _ _ _ _ _ hS => IU hS hE
   have eL : bZ (ah M).J 0 R.ag.id (fun j : Jb => decide (j.state = 2)) oV = M.L.set (R.ag.id - 1).toNat ((M.L.getD (R.ag.id - 1).toNat default).setSt 1) := pJ hE
   rw [eL, yM hid] at hr
   generalize hx : M.L.getD (R.ag.id - 1).toNat default = x at *
   have bo := h.inv.one _ hmem
   have bw := h.inv.mb.wid _ hmem
   have bl := h.inv.mb.lim _ hmem
   have bf := h.inv.mb.fin _ hmem
   have bn := h.inv.mb.bQ _ hmem
   have hp : x.aN = -1 := h.inv.rest _ hmem (by omega)
   have hpl : aj (x.setSt 1) = false := by unfold aj; simp [show (x.setSt 1).aN = -1 from hp]
   have hI1 : aF { M with L := M.L.set (R.ag.id - 1).toNat (x.setSt 1) } :=
    h.inv.set (i := (R.ag.id - 1).toNat) (y := x.setSt 1) (h.inv.mb.set _ _ bw bl (by show -1 ≤ x.aN ∧ x.aN ≤ _; omega) bf bn) (by rw [hx]; rfl) ⟨bo.1, bo.2.1, bo.2.2.1, (show (1 : Int) ≤ 1 by omega), (show (1 : Int) ≤ 6 by omega)⟩ (fun _ => hp) (fun e => absurd (show (1 : Int) = 3 from e) (by decide)) (.inl hp) (h.inv.lN.set hi fun n e => by unfold aI at e; simp [Jb.setSt, Jb.st] at e)
     fun t ht => nk h.inv hi (by rw [hx]; exact ⟨fun e => absurd (show (1 : Int) = 3 from e) (by decide), fun e => by omega⟩) (by rw [hx]; rfl) (by rw [hx]; rfl) hpl t ht
   have hP : ({ ah M with J := M.L.set (R.ag.id - 1).toNat (x.setSt 1) } : Pg) = ah { M with L := M.L.set (R.ag.id - 1).toNat (x.setSt 1) } := by
    have h3 : ((x.setSt 1).st = 3) ↔ ((M.L.getD (R.ag.id - 1).toNat default).st = 3) := by rw [hx]; exact ⟨fun e => absurd (show (1 : Int) = 3 from e) (by decide), fun e => by omega⟩
    have e1 : cZ M = cZ { M with L := M.L.set (R.ag.id - 1).toNat (x.setSt 1) } := by
     refine pI (by rw [bD, bD]) fun n hn => ?_
     rw [df, df, pU hi h3 (by rw [hx]; rfl)]
    have e2 : (fun t => ax M t 0) = fun t => ax { M with L := M.L.set (R.ag.id - 1).toNat (x.setSt 1) } t 0 := by
     funext t
     rw [ru hi h3 (by rw [hx]; rfl) (by rw [hx]; rfl), dN hpl, hx, dN (by unfold aj; simp [hp])]
     omega
    show Pg.mk _ _ (cZ M) (fun t => ax M t 0) _ = _
    rw [e1, e2]
    rfl
   rw [hP] at hr
   have e : fP M (toW R.ag) = (nI (x.setSt 1), fu { M with L := M.L.set (R.ag.id - 1).toNat (x.setSt 1) } (x.setSt 1)) := by
    have hj : fw (toW R.ag).kind x = x.setSt 1 := by unfold fw; rw [show (toW R.ag).kind = 4 from hk]; rfl
    unfold fP
    rw [show (toW R.ag).id = R.ag.id from rfl, eM]
    refine (if_neg (fun e => nomatch e)).trans ((if_neg ?_).trans ((if_pos hk).trans ?_))
    ·show ¬ ((R.ag.kind = 3 ∧ x.st ≠ 1) ∨ (R.ag.kind = 4 ∧ x.st ≠ 2))
     omega
    ·show (nI (fw (toW R.ag).kind x), fu { M with L := M.L.set (R.ag.id - 1).toNat (fw (toW R.ag).kind x) } (fw (toW R.ag).kind x)) = _
     rw [hj]
   rw [e]
   refine (fJ (N := 901) (k := 40) (k' := 99) bz (jq hr) h.left rfl ?_).more (show 902 ≤ 1000 by decide)
   have hL : (M.L.set (R.ag.id - 1).toNat (x.setSt 1)).length = M.L.length := List.length_set
   have Xi := Cc (x.setSt 1) (M.L.set (R.ag.id - 1).toNat (x.setSt 1))
   have hidx : x.id = (((R.ag.id - 1).toNat : Nat) : Int) + 1 := by rw [← hx]; exact h.inv.ids _ hi
   have := uw (M := { M with L := M.L.set (R.ag.id - 1).toNat (x.setSt 1) }) (M' := fu { M with L := M.L.set (R.ag.id - 1).toNat (x.setSt 1) } (x.setSt 1)) (R := { ({ R with aB := x.setSt 1, rep := iY (x.setSt 1) } : Wk) with left := fD 99 }) (mx := mx) rfl (by show x.id ≠ 0; omega) h.one (by show (M.L.set (R.ag.id - 1).toNat (x.setSt 1)).length ≤ 900; omega) h.hmx 900 (L := M.L.set (R.ag.id - 1).toNat (x.setSt 1)) rfl (by show hits (x.setSt 1) _ ≤ 900; omega) hI1 rfl (by show a + 2 * hits (x.setSt 1) _ ≤ 800; omega) (by show m + (hits (x.setSt 1) _ : Nat) ≤ mx; omega)
   exact this.ok h.ok
  ·have hE : bM M.L 0 R.ag.id (fun j : Jb => decide (j.state = 2)) = 8 := Ce hid (decide_eq_false hs)
   have e : fP M (toW R.ag) = (fF 8, M) := by
    unfold fP
    rw [show (toW R.ag).id = R.ag.id from rfl, eM]
    exact (if_neg (fun e => nomatch e)).trans (if_pos (.inr ⟨hk, hs⟩))
   rw [e]
   exact aX (N := 999) bz (jq (fun _ _ _ _ _ _ _ _ hS => xu hS 8 (by decide) hE)) h.left rfl (by omega) (by omega) rfl rfl rfl
end
end Go.Proofs.YtelnhablglomjaaGreat

namespace Go.Proofs.YtelnhablglomjaaGreat
open Go.RowKit Go.Lib Go.Sort
section
variable {a N : Nat} {m mx : Int} {P : Pg} {M M' : Md} {R : Wk} {Q : Nat → Int → Wk → Pg → Prop}
theorem En {i : Nat} {y : Jb} (hi : i < M.L.length) (hs : (M.L.getD i default).st ≠ 3) (hy : y.st ≠ 3) (hy2 : y.bQ = (M.L.getD i default).bQ) (hy3 : y.fin = (M.L.getD i default).fin) (hyp : aj y = false)
 (hI : aF M) (hI1 : aF { M with L := M.L.set i y }) (h1 : 1 ≤ M.dr.length) (hll : M.L.length ≤ 900) (ha : a ≤ 700) (hm : m + 1 ≤ mx) (hmx : mx ≤ 1000000)
 (hl : R.left = fD 103) (hj : R.aB = M.L.getD i default) :
 fo (N + 1) a m R { ah M with J := M.L.set i y } (Fin mx { M with L := M.L.set i y } R.rep R.ok) := by
 have hmem := aY hi
 have bo := hI.one _ hmem
 have bw := hI.mb.wid _ hmem
 have bl := hI.mb.lim _ hmem
 have bp := hI.mb.aN _ hmem
 have hst : (y.st = 3) ↔ ((M.L.getD i default).st = 3) := ⟨fun e => absurd e hy, fun e => absurd e hs⟩
 have dK := fA hI h1 hll
 have mf := fA hI1 h1 (by rw [List.length_set]; exact hll)
 have sN : PK { ah M with J := M.L.set i y } := ⟨dK.now, mf.few, mf.st, mf.lim, dK.rQ, dK.f⟩
 have eT : cZ M = cZ { M with L := M.L.set i y } := by
  refine pI (by rw [bD, bD]) fun n hn => ?_
  rw [df, df, pU hi hst hy2]
 have ef : ∀ t, ax { M with L := M.L.set i y } t 0 = ax M t 0 + dM t 0 (M.L.getD i default) := fun t => by
  rw [ru hi hst hy2 hy3, dN hyp]
  omega
 have eP : ∀ F : Int → Int, F = (fun t => ax { M with L := M.L.set i y } t 0) → ({ ah M with J := M.L.set i y, f := F } : Pg) = ah { M with L := M.L.set i y } := fun F hF => by
  show Pg.mk _ _ (cZ M) F _ = _
  rw [eT, hF]
  rfl
 cases hp : aj (M.L.getD i default) with
 | true =>
   have hv : dY 103 a m R { ah M with J := M.L.set i y } _ _ _ _ _ := fun _ _ _ _ _ _ _ _ hS => FR hS sN (by omega) (by omega) (by rw [hj]; exact hp) (by rw [hj]; exact bp.2) (by rw [hj]; exact bl) (by rw [hj]; exact bo.2.2.1) (by rw [hj]; exact bw) (fun t => ax { M with L := M.L.set i y } t 0) (fun t ht => by
    rw [hj]
    have hu := rT hI hi hp t
    rw [iV hi, dN (j := (M.L.getD i default).aH (-1)) (by unfold aj; simp [Jb.aH, Jb.aN])] at hu
    show ax { M with L := M.L.set i y } t 0 = ax M t 0 + had (max (M.L.getD i default).aN M.now) ((M.L.getD i default).aN + (M.L.getD i default).lim) (M.L.getD i default).wid t
    rw [ef]
    omega) (fun t ht => mf.f t ht)
   have e := eP (fun t => ax { M with L := M.L.set i y } t 0) rfl
   rw [e] at hv
   exact aX (a' := a + 2) (m' := m + 1) wu hv hl rfl (by omega) (by omega) rfl rfl rfl
 | false =>
   have hv : dY 103 a m R { ah M with J := M.L.set i y } _ _ _ _ _ := fun _ _ _ _ _ _ _ _ hS => FT hS sN (by omega) (by omega) (by rw [hj]; exact hp) (by rw [hj]; exact hs) (by rw [hj]; exact bp.2) (by rw [hj]; exact bl)
   have e : ({ ah M with J := M.L.set i y } : Pg) = ah { M with L := M.L.set i y } := eP _ (by
    funext t
    rw [ef, dN hp]
    show ax M t 0 = _
    omega)
   have hv2 : dY 103 a m R { ah M with J := M.L.set i y } .nilFunc a m R (ah { M with L := M.L.set i y }) := by rw [← e]; exact hv
   exact aX (a' := a) (m' := m) wu hv2 hl rfl (by omega) (by omega) rfl rfl rfl
theorem Ld (h : Bg a m mx R M) (hk : R.ag.kind = 3) :
 fo 1000 a m R (ah M) (Fin mx (fP M (toW R.ag)).2 (ma (fP M (toW R.ag)).1) false) := by
 have hll := h.few
 have ha := h.ha
 have hm := h.hm
 have hrd : jI R.ag.kind = false := by rw [hk]; rfl
 have jq : ∀ {L : Value} {a' : Nat} {m' : Int} {R' : Wk} {P' : Pg}, dY 85 a m R (ah M) L a' m' R' P' → dY 40 a m R (ah M) L a' m' R' P' := fun hn w b c t d p v g hS => fO hS h.cl (by rw [hk]; decide) hrd (Ot hS hk (hn w b c t d p v g hS))
 by_cases hid : R.ag.id < 1 ∨ (M.L.length : Int) < R.ag.id
 ·rw [wy (toW R.ag) hid]
  exact aX (N := 999) bz (jq (fun _ _ _ _ _ _ _ _ hS => Ec hS 7 (by decide) (yL hid))) h.left rfl (by omega) (by omega) rfl rfl rfl
 ·have hi : (R.ag.id - 1).toNat < M.L.length := by omega
  have eM := xG (M := M) hid
  by_cases hs : (M.L.getD (R.ag.id - 1).toNat default).st = 1
  ·have hE : bM M.L 0 R.ag.id (fun j : Jb => decide (j.state = 1)) = 0 := uW hid (decide_eq_true hs)
   have hr : dY 85 a m R (ah M) _ _ _ _ _ := fun _ _ _ _ _ _ _ _ hS => Rh hS hE
   have eL : bZ (ah M).J 0 R.ag.id (fun j : Jb => decide (j.state = 1)) qc = M.L.set (R.ag.id - 1).toNat (((M.L.getD (R.ag.id - 1).toNat default).setSt 2).aH (-1)) := pJ hE
   rw [eL, yM hid, show bO (ah M).J R.ag.id = M.L.getD (R.ag.id - 1).toNat default from uy hid] at hr
   have e : fP M (toW R.ag) = (nI (((M.L.getD (R.ag.id - 1).toNat default).setSt 2).aH (-1)), { M with L := M.L.set (R.ag.id - 1).toNat (((M.L.getD (R.ag.id - 1).toNat default).setSt 2).aH (-1)) }) := by
    have hj : fw (toW R.ag).kind (M.L.getD (R.ag.id - 1).toNat default) = ((M.L.getD (R.ag.id - 1).toNat default).setSt 2).aH (-1) := by unfold fw; rw [show (toW R.ag).kind = 3 from hk]; rfl
    have hk4 : ¬ (toW R.ag).kind = 4 := by rw [show (toW R.ag).kind = 3 from hk]; decide
    unfold fP
    rw [show (toW R.ag).id = R.ag.id from rfl, eM]
    refine (if_neg (fun e => nomatch e)).trans ((if_neg ?_).trans ((if_neg hk4).trans ?_))
    ·show ¬ ((R.ag.kind = 3 ∧ (M.L.getD (R.ag.id - 1).toNat default).st ≠ 1) ∨ (R.ag.kind = 4 ∧ (M.L.getD (R.ag.id - 1).toNat default).st ≠ 2))
     omega
    ·show (nI (fw (toW R.ag).kind (M.L.getD (R.ag.id - 1).toNat default)), { M with L := M.L.set (R.ag.id - 1).toNat (fw (toW R.ag).kind (M.L.getD (R.ag.id - 1).toNat default)) }) = _
     rw [hj]
   have hI1 := (h.inv.ET h.calm (toW R.ag)).1
   rw [e] at hI1 ⊢
   refine (fJ (N := 1) (k := 40) (k' := 103) bz (jq hr) h.left rfl ?_).more (show 2 ≤ 1000 by decide)
   exact fo.ok (En (N := 0) (mx := mx) (a := a) (m := m) (y := ((M.L.getD (R.ag.id - 1).toNat default).setSt 2).aH (-1)) hi (by rw [hs]; decide) (show (2 : Int) ≠ 3 by decide) rfl rfl (by unfold aj; rw [show (((M.L.getD (R.ag.id - 1).toNat default).setSt 2).aH (-1)).aN = -1 from rfl]; simp) h.inv hI1 h.one (by omega) (by omega) (by omega) h.hmx rfl rfl) h.ok
  ·have hE : bM M.L 0 R.ag.id (fun j : Jb => decide (j.state = 1)) = 8 := Ce hid (decide_eq_false hs)
   have e : fP M (toW R.ag) = (fF 8, M) := by
    unfold fP
    rw [show (toW R.ag).id = R.ag.id from rfl, eM]
    exact (if_neg (fun e => nomatch e)).trans (if_pos (.inl ⟨hk, hs⟩))
   rw [e]
   exact aX (N := 999) bz (jq (fun _ _ _ _ _ _ _ _ hS => Ec hS 8 (by decide) hE)) h.left rfl (by omega) (by omega) rfl rfl rfl
theorem xH (h : Bg a m mx R M) (s : Int) (hk : (R.ag.kind = 2 ∧ s = 5) ∨ (R.ag.kind = 5 ∧ s = 4)) :
 fo 1000 a m R (ah M) (Fin mx (mD M (toW R.ag)).2 (ma (mD M (toW R.ag)).1) false) := by
 have hll := h.few
 have ha := h.ha
 have hm := h.hm
 have ku := h.inv.mb.now
 have dK := fA h.inv h.one (by omega)
 have hrd : jI R.ag.kind = false := by rcases hk with ⟨hk, _⟩ | ⟨hk, _⟩ <;> (rw [hk]; rfl)
 have jq : ∀ {L : Value} {a' : Nat} {m' : Int} {R' : Wk} {P' : Pg}, (∀ (w : World) (b c t d p : Nat) (v : Value) (g : Nat), SW w b c t d p v g a m R (ah M) → Calls Tryz.prog 84 #[.pointer (some ⟨b, 0, none⟩), .pointer (some ⟨c, 0, none⟩), .int .i64 s] w (ay w b c t d p v g a' m' L R' P')) → dY 40 a m R (ah M) L a' m' R' P' := fun hn w b c t d p v g hS => by
  rcases hk with ⟨hk, rfl⟩ | ⟨hk, rfl⟩
  ·exact fO hS h.cl (by rw [hk]; decide) hrd (Oo hS hk (hn w b c t d p v g hS))
  ·exact fO hS h.cl (by rw [hk]; decide) hrd (Oq hS hk (hn w b c t d p v g hS))
 have Vq : bC s M.now = 0 := by unfold bC; (repeat' split) <;> omega
 by_cases hid : R.ag.id < 1 ∨ (M.L.length : Int) < R.ag.id
 ·rw [OB (toW R.ag) hid]
  exact aX (N := 999) bz (jq (fun _ _ _ _ _ _ _ _ hS => zC hS dK s 7 (by decide) (by rw [show (ah M).now = M.now from rfl, Vq]; exact yL hid))) h.left rfl (by omega) (by omega) rfl rfl rfl
 ·have hi : (R.ag.id - 1).toNat < M.L.length := by omega
  have hmem := aY hi
  have bo := h.inv.one _ hmem
  have eM := xG (M := M) hid
  by_cases hs : eU s (M.L.getD (R.ag.id - 1).toNat default) = true
  ·have hE : bM (ah M).J (bC s (ah M).now) R.ag.id (eU s) = 0 := by rw [show (ah M).now = M.now from rfl, Vq]; exact uW hid hs
   have hr : ∀ (w : World) (b c t d p : Nat) (v : Value) (g : Nat), SW w b c t d p v g a m R (ah M) → Calls Tryz.prog 84 #[.pointer (some ⟨b, 0, none⟩), .pointer (some ⟨c, 0, none⟩), .int .i64 s] w (ay w b c t d p v g _ _ _ _ _) := fun _ _ _ _ _ _ _ _ hS => KP hS dK s hE
   obtain ⟨y, OC⟩ : ∃ y, y = iK M R.ag.kind (M.L.getD (R.ag.id - 1).toNat default) := ⟨_, rfl⟩
   have hyj : bR s M.now (M.L.getD (R.ag.id - 1).toNat default) = y := by
    rw [OC]
    unfold iK bR
    have es : (if R.ag.kind = 5 then (4 : Int) else 5) = s := by split <;> omega
    rw [es]
    by_cases e3 : (M.L.getD (R.ag.id - 1).toNat default).st = 3
    ·rw [if_pos e3, if_pos (show (M.L.getD (R.ag.id - 1).toNat default).2.2.2.2.2.1 = 3 from e3)]; rfl
    ·rw [if_neg e3, if_neg (show ¬ (M.L.getD (R.ag.id - 1).toNat default).2.2.2.2.2.1 = 3 from e3)]; rfl
   have eL : bZ (ah M).J (bC s (ah M).now) R.ag.id (eU s) (bR s (ah M).now) = M.L.set (R.ag.id - 1).toNat y := (pJ hE).trans (by rw [← hyj]; rfl)
   rw [eL, yM hid, show bO (ah M).J R.ag.id = M.L.getD (R.ag.id - 1).toNat default from uy hid] at hr
   have hok : ¬ (3 < (M.L.getD (R.ag.id - 1).toNat default).st ∨ (R.ag.kind = 5 ∧ (M.L.getD (R.ag.id - 1).toNat default).st ≠ 3)) := by
    unfold eU at hs
    rw [Bool.or_eq_true, Bool.and_eq_true, decide_eq_true_iff, decide_eq_true_iff, decide_eq_true_iff] at hs
    have : (M.L.getD (R.ag.id - 1).toNat default).state = (M.L.getD (R.ag.id - 1).toNat default).st := rfl
    omega
   have e : mD M (toW R.ag) = (nI y, { M with L := M.L.set (R.ag.id - 1).toNat y }) := by
    unfold mD
    rw [show (toW R.ag).id = R.ag.id from rfl, eM]
    refine (if_neg (fun e => nomatch e)).trans ((if_neg hok).trans ?_)
    rw [OC]
    rfl
   have hI1 := (h.inv.LF h.calm (toW R.ag)).1
   rw [e] at hI1 ⊢
   have hy3 : y.st ≠ 3 := by
    rw [OC]
    show (if R.ag.kind = 5 then (4 : Int) else 5) ≠ 3
    split <;> omega
   have hyp : aj y = false := by
    unfold aj
    rw [show y.aN = -1 by rw [OC]; rfl]
    simp
   have Vr : y.bQ = (M.L.getD (R.ag.id - 1).toNat default).bQ := by rw [OC]; unfold iK; split <;> rfl
   refine (fJ (N := 2) (k := 40) (k' := 101) bz (jq hr) h.left rfl ?_).more (show 3 ≤ 1000 by decide)
   clear OC hyj
   have mf := fA hI1 h.one (by rw [List.length_set]; omega)
   by_cases h3 : (M.L.getD (R.ag.id - 1).toNat default).st = 3
   ·have hrn := h.inv.runs _ hmem h3
    have LG := h.inv.mb.bQ _ hmem
    have hfin := h.inv.mb.fin _ hmem
    have hlt := h.calm.runs _ hmem h3
    have hg := fun (w : World) (b c t d p : Nat) (v : Value) (g : Nat) (hS' : SW w b c t d p v g a m { ({ R with aB := M.L.getD (R.ag.id - 1).toNat default, rep := iY y } : Wk) with left := fD 101 } { ah M with J := M.L.set (R.ag.id - 1).toNat y }) => NT hS' ⟨dK.now, mf.few, mf.st, mf.lim, dK.rQ, dK.f⟩ h3 LG
    obtain ⟨n, hn⟩ : ∃ n : Int, n = ((List.range M.dr.length).countP (fun k => cK (M.L.getD (R.ag.id - 1).toNat default).bQ.toNat k && !(M.dr.getD k false)) : Nat) := ⟨_, rfl⟩
    have hn2 : 0 ≤ n ∧ n ≤ 64 := by
     have h4 := List.countP_le_length (p := fun k => cK (M.L.getD (R.ag.id - 1).toNat default).bQ.toNat k && !(M.dr.getD k false)) (l := List.range M.dr.length)
     rw [List.length_range] at h4
     have := h.inv.mb.nn
     omega
    refine fJ (N := 1) (k := 101) (k' := 103) (a' := a) (m' := m)
     (R' := { ({ ({ R with aB := M.L.getD (R.ag.id - 1).toNat default, rep := iY y } : Wk) with left := fD 101 } : Wk) with idle := n }) (P' := { ah M with J := M.L.set (R.ag.id - 1).toNat y, T := cZ { M with L := M.L.set (R.ag.id - 1).toNat y } })
     I9 (fun w b c t d p v g hS' => (hg w b c t d p v g hS').mono fun e w' hp => ?_) rfl rfl ?_
    ·obtain ⟨n', x', T', h5, h6⟩ := hp
     obtain ⟨h7, _, h8⟩ := DZ h.inv hi h3 hy3 h5
     rw [← hn] at h7
     subst h7 h8
     exact h6
    ·have hv : dY 103 a m { ({ ({ ({ R with aB := M.L.getD (R.ag.id - 1).toNat default, rep := iY y } : Wk) with left := fD 101 } : Wk) with idle := n } : Wk) with left := fD 103 } { ah M with J := M.L.set (R.ag.id - 1).toNat y, T := cZ { M with L := M.L.set (R.ag.id - 1).toNat y } } _ _ _ _ _ := fun _ _ _ _ _ _ _ _ hS2 => II hS2 ⟨dK.now, mf.few, mf.st, mf.lim, mf.rQ, dK.f⟩ (by omega) (by have := h.hmx; omega) h3 (h.inv.mb.aN _ hmem).2 (h.inv.mb.lim _ hmem) ⟨hlt, hfin.2⟩ (by show -64 ≤ n ∧ n ≤ 64; omega) (fun t => ax { M with L := M.L.set (R.ag.id - 1).toNat y } t 0) (fun t ht => by
      have hf := rz h.inv.lN hi h3 hy3 hyp t 0
      show ax { M with L := M.L.set (R.ag.id - 1).toNat y } t 0 = ax M t 0 + had (max M.now M.now) (M.L.getD (R.ag.id - 1).toNat default).fin n t
      have ht' : M.now ≤ t := ht
      unfold had
      by_cases c1 : t < (M.L.getD (R.ag.id - 1).toNat default).fin
      ·rw [if_pos c1] at hf
       rw [if_pos ⟨by omega, .inl c1⟩, hf, hn]
      ·rw [if_neg c1] at hf
       rw [if_neg (by omega), hf]
       rfl) (fun t ht => mf.f t ht)
     exact aX (N := 0) wu hv rfl rfl (by omega) (by omega) rfl rfl h.ok
   ·refine fJ (N := 1) (k := 101) (k' := 103) I9 (fun w b c t d p v g (hS' : SW w b c t d p v g a m { ({ R with aB := M.L.getD (R.ag.id - 1).toNat default, rep := iY y } : Wk) with left := fD 101 } { ah M with J := M.L.set (R.ag.id - 1).toNat y }) => QZ hS' h3) rfl rfl ?_
    have Yd : y.fin = (M.L.getD (R.ag.id - 1).toNat default).fin := by
     have : y = bR s M.now (M.L.getD (R.ag.id - 1).toNat default) := by
      have := congrArg (fun l : List Jb => l.getD (R.ag.id - 1).toNat default) eL
      rw [show bZ (ah M).J (bC s (ah M).now) R.ag.id (eU s) (bR s (ah M).now) = M.L.set (R.ag.id - 1).toNat (bR s M.now (M.L.getD (R.ag.id - 1).toNat default)) from pJ hE] at this
      simp only [gm] at this
      rw [if_pos ⟨trivial, hi⟩, if_pos ⟨trivial, hi⟩] at this
      exact this.symm
     rw [this]
     show (if (M.L.getD (R.ag.id - 1).toNat default).2.2.2.2.2.1 = 3 then M.now else _) = _
     rw [if_neg (show ¬ (M.L.getD (R.ag.id - 1).toNat default).2.2.2.2.2.1 = 3 from h3)]
     rfl
    exact fo.ok (En (N := 0) (mx := mx) (a := a) (m := m) (y := y) hi h3 hy3 Vr Yd hyp h.inv hI1 h.one (by omega) (by omega) (by omega) h.hmx rfl rfl) h.ok
  ·rw [Bool.not_eq_true] at hs
   have hE : bM M.L (bC s M.now) R.ag.id (eU s) = 8 := by rw [Vq]; exact Ce hid hs
   have hno : 3 < (M.L.getD (R.ag.id - 1).toNat default).st ∨ (R.ag.kind = 5 ∧ (M.L.getD (R.ag.id - 1).toNat default).st ≠ 3) := by
    unfold eU at hs
    rw [Bool.or_eq_false_iff, Bool.and_eq_false_iff, decide_eq_false_iff_not, decide_eq_false_iff_not, decide_eq_false_iff_not] at hs
    have : (M.L.getD (R.ag.id - 1).toNat default).state = (M.L.getD (R.ag.id - 1).toNat default).st := rfl
    omega
   have e : mD M (toW R.ag) = (fF 8, M) := by
    unfold mD
    rw [show (toW R.ag).id = R.ag.id from rfl, eM]
    exact (if_neg (fun e => nomatch e)).trans (if_pos hno)
   rw [e]
   exact aX (N := 999) bz (jq (fun _ _ _ _ _ _ _ _ hS => zC hS dK s 8 (by decide) hE)) h.left rfl (by omega) (by omega) rfl rfl rfl
end
end Go.Proofs.YtelnhablglomjaaGreat

namespace Go.Proofs.YtelnhablglomjaaGreat
open Go.RowKit Go.Lib Go.Sort
section
variable {w : World} {b c t d p g a N : Nat} {v : Value} {m mx : Int} {P : Pg} {M M' : Md} {R : Wk} {Q : Nat → Int → Wk → Pg → Prop}
theorem Rz {k : Nat} (hk : k < 64) (L : List Jb) : (holderL L k < 0 ∧ kP L k = iq) ∨ ∃ i : Nat, holderL L k = i ∧ i < L.length ∧ kP L k = L.getD i default ∧ (L.getD i default).st = 3 := by
 have e : (fun j : Jb => decide (j.state ∈ [(3 : Int)]) && Eb (k : Int) j) = aI k := by
  funext j
  unfold aI Eb
  rw [oq hk, kX]
  have : (j.state ∈ [(3 : Int)]) ↔ (j.st = 3) := List.mem_singleton
  rw [decide_eq_decide.2 this]
 have e2 : kP L (k : Int) = match L.findIdx? (aI k) with | some i => L.getD i default | none => iq := by
  unfold kP
  rw [e]
  cases L.findIdx? (aI k) <;> rfl
 rcases fB L k with h | ⟨i, h, hi, h2⟩
 ·refine .inl ⟨h, ?_⟩
  rw [e2]
  unfold holderL at h
  cases hf : L.findIdx? (aI k) with
  | none => rfl
  | some i => rw [hf] at h; simp only at h; omega
 ·refine .inr ⟨i, h, hi, ?_, by unfold aI at h2; simp at h2; exact h2.1⟩
  rw [e2]
  unfold holderL at h
  cases hf : L.findIdx? (aI k) with
  | none => rw [hf] at h; simp only at h; omega
  | some q =>
    rw [hf] at h
    simp only at h
    have : q = i := by omega
    subst this
    rfl
theorem wD {k : Nat} {bb : Bool} (hk : k < M.dr.length) (hb : M.dr.getD k false = !bb) (hI : aF M) (hC : ∀ j ∈ M.L, j.st = 3 → M.now < j.fin) (h1 : 1 ≤ M.dr.length) (hll : M.L.length ≤ 900)
 (hI' : aF { M with dr := M.dr.set k bb }) (hn : R.ag.node = k) (ha : a ≤ 800) (hm : m ≤ 1000000) {by' : Int} (hby : by' = if bb then -1 else 1)
 (h : SW w b c t d p v g a m R { ah M with T := cZ { M with dr := M.dr.set k bb } }) :
 Calls Tryz.prog 107 #[.pointer (some ⟨b, 0, none⟩), .pointer (some ⟨c, 0, none⟩), .int .i64 0, .int .i64 by'] w
  (ay w b c t d p v g (a + 2) (m + 1) .nilFunc { R with rep := ⟨0, (k : Int), aR { M with dr := M.dr.set k bb } k, 0, 0, 0, 0, 0, 0⟩ } (ah { M with dr := M.dr.set k bb })) := by
 have hnn := hI.mb.nn
 have ku := hI.mb.now
 have dK := fA hI h1 hll
 have mf := fA hI' (by show 1 ≤ (M.dr.set k bb).length; rw [List.length_set]; exact h1) hll
 have hX : (max (gY (ah M) (k : Int)) M.now < 1152921504606846976) ∧ ∀ u, M.now ≤ u → ((decide (holderL M.L k < 0) || decide ((M.L.getD (holderL M.L k).toNat default).fin ≤ u)) = decide (max (gY (ah M) (k : Int)) M.now ≤ u)) := by
  rcases Rz (show k < 64 by omega) M.L with ⟨g1, g2⟩ | ⟨i, g1, hi, g2, g3⟩
  ·have e : gY (ah M) (k : Int) = M.now := by
    unfold gY
    rw [show (ah M).J = M.L from rfl, g2]
    rfl
   rw [e]
   refine ⟨by omega, fun u hu => ?_⟩
   rw [decide_eq_true g1, Bool.true_or]
   exact (decide_eq_true (by omega)).symm
  ·have hf := hC _ (aY hi) g3
   have hf2 := hI.mb.fin _ (aY hi)
   have e : gY (ah M) (k : Int) = max (M.L.getD i default).fin (M.now + 1) := by
    unfold gY
    rw [show (ah M).J = M.L from rfl, g2, if_pos g3]
    rfl
   rw [e, g1, Int.toNat_natCast]
   refine ⟨by omega, fun u hu => ?_⟩
   rw [decide_eq_false (show ¬ ((i : Int) < 0) by omega), Bool.false_or]
   exact decide_eq_decide.2 (by omega)
 have Ye : qg (cZ { M with dr := M.dr.set k bb }) (k : Int) = aR { M with dr := M.dr.set k bb } k := by
  unfold qg
  rw [if_pos ⟨by omega, by rw [bD]; show (k : Int) < ((M.dr.set k bb).length : Nat); rw [List.length_set]; omega⟩, Int.toNat_natCast, df]
 have hv := KQ (by' := by') h ⟨dK.now, dK.few, dK.st, dK.lim, mf.rQ, dK.f⟩ ha hm hI.mb.bQ (by omega) (by rw [hby]; split <;> omega) (fun u => ax { M with dr := M.dr.set k bb } u 0) (fun u hu => by
  have hu' : M.now ≤ u := hu
  have hd := wQ hk bb u 0
  have hx := hX.2 u hu'
  rw [hn]
  show ax { M with dr := M.dr.set k bb } u 0 = ax M u 0 + had (max (gY (ah M) (k : Int)) M.now) 1152921504606846976 by' u
  have hnf : bT M u k = (!(M.dr.getD k false) && decide (max (gY (ah M) (k : Int)) M.now ≤ u)) := by rw [← hx]; rfl
  have hh : had (max (gY (ah M) (k : Int)) M.now) 1152921504606846976 by' u = if max (gY (ah M) (k : Int)) M.now ≤ u then by' else 0 := by unfold had; simp
  rw [hd, hnf, hx, hb, hh, hby]
  by_cases c1 : max (gY (ah M) (k : Int)) M.now ≤ u
  ·rw [decide_eq_true c1, if_pos c1]
   cases bb <;> simp <;> omega
  ·rw [decide_eq_false c1, if_neg c1]
   cases bb <;> simp) (fun u hu => mf.f u hu) (by
  rw [hn]
  have : gY { ah M with T := cZ { M with dr := M.dr.set k bb } } (k : Int) = gY (ah M) (k : Int) := rfl
  rw [this]
  omega)
 rw [hn, show ({ ah M with T := cZ { M with dr := M.dr.set k bb } } : Pg).T = cZ { M with dr := M.dr.set k bb } from rfl, Ye] at hv
 exact hv
theorem drain_eq {n : Nat} (h : dU lG M.L = none) : fE M n true = { M with dr := M.dr.set n true } := by
 unfold fE
 rw [if_pos rfl, rE h]
theorem wE {k : Nat} (hk : k < M.dr.length) {bb : Bool} (hb : M.dr.getD k false = !bb) : mW (cZ M) (k : Int) bb 0 (cZ { M with dr := M.dr.set k bb }) := by
 have hd : bb = decide ((cZ M).getD (k : Int).toNat 0 < 3) := by
  rw [Int.toNat_natCast, df, eQ hk, hb]
  cases bb <;> (by_cases h1 : 0 ≤ holderL M.L k <;> simp [h1])
 have hc : mW (cZ M) (k : Int) bb 0 ((cZ M).set (k : Int).toNat (kz ((cZ M).getD (k : Int).toNat 0))) :=
  ⟨fun h => absurd h (by rw [bD]; omega), fun _ _ h => absurd hd h, fun _ _ _ => ⟨rfl, rfl⟩⟩
 have e := (Ik hk hb hc).2
 rw [e] at hc
 exact hc
theorem F7 (h : Bg a m mx R M) (hk : R.ag.kind = 8) (hnd : -9223372036854775808 ≤ R.ag.node ∧ R.ag.node ≤ 9223372036854775807) :
 fo 1000 a m R (ah M) (Fin mx (ik M (toW R.ag)).2 (ma (ik M (toW R.ag)).1) false) := by
 have hll := h.few
 have ha := h.ha
 have hm := h.hm
 have hmx := h.hmx
 have dK := fA h.inv h.one (by omega)
 have hrd : jI R.ag.kind = false := by rw [hk]; rfl
 have jq : ∀ {L : Value} {a' : Nat} {m' : Int} {R' : Wk} {P' : Pg}, dY 88 a m R (ah M) L a' m' R' P' → dY 40 a m R (ah M) L a' m' R' P' := fun hn w b c t d p v g hS => fO hS h.cl (by rw [hk]; decide) hrd (Ow hS hk (hn w b c t d p v g hS))
 have hd7 : decide ((toW R.ag).kind = 7) = false := decide_eq_false (by rw [show (toW R.ag).kind = 8 from hk]; decide)
 by_cases ho : R.ag.node < 0 ∨ (M.dr.length : Int) ≤ R.ag.node
 ·have e : ik M (toW R.ag) = (fF 11, M) := if_pos ho
  have hT : mW (cZ M) R.ag.node false 11 (cZ M) := ⟨fun _ => ⟨rfl, rfl⟩, fun h1 h2 => by rw [bD] at h2; omega, fun h1 h2 => by rw [bD] at h2; omega⟩
  rw [e]
  refine aX (N := 999) (a' := a) (m' := m) (R' := { R with rep := kC 11, ok := false }) bz (jq (fun _ _ _ _ _ _ _ _ hS => resume_fn (P' := ah M) hS dK hnd hT fun W v1 g1 hW => ?_)) h.left rfl (by omega) (by omega) rfl rfl rfl
  exact Ed hW 11 1 (by decide)
 ·obtain ⟨k, hkk⟩ := Int.eq_ofNat_of_zero_le (show 0 ≤ R.ag.node by omega)
  have hk2 : k < M.dr.length := by omega
  cases hdr : M.dr.getD k false with
  | false =>
    have e : ik M (toW R.ag) = (fF 8, M) := by
     unfold ik
     refine (if_neg ho).trans (if_pos ?_)
     rw [hd7, show (toW R.ag).node = R.ag.node from rfl, hkk, Int.toNat_natCast, hdr]
    have hs : (cZ M).getD R.ag.node.toNat 0 < 3 := by
     rw [hkk, Int.toNat_natCast, df, eQ hk2, hdr]
     split <;> simp
    have hT : mW (cZ M) R.ag.node false 8 (cZ M) := ⟨fun h1 => by rw [bD] at h1; omega, fun _ _ _ => ⟨rfl, rfl⟩, fun _ _ h3 => by rw [decide_eq_true hs] at h3; cases h3⟩
    rw [e]
    refine aX (N := 999) (a' := a) (m' := m) (R' := { R with rep := kC 8, ok := false }) bz (jq (fun _ _ _ _ _ _ _ _ hS => resume_fn (P' := ah M) hS dK hnd hT fun W v1 g1 hW => ?_)) h.left rfl (by omega) (by omega) rfl rfl rfl
    exact Ed hW 8 1 (by decide)
  | true =>
    have e : ik M (toW R.ag) = ((0, (k : Int), aR { M with dr := M.dr.set k false } (k : Int), 0, 0, 0, 0, 0, 0), { M with dr := M.dr.set k false }) := by
     unfold ik
     refine (if_neg ho).trans ((if_neg ?_).trans ?_)
     ·rw [hd7, show (toW R.ag).node = R.ag.node from rfl, hkk, Int.toNat_natCast, hdr]
      exact fun e => nomatch e
     ·rw [hd7, show (toW R.ag).node = R.ag.node from rfl, hkk, Int.toNat_natCast]
      rfl
    have hI' := (h.inv.JD h.calm (toW R.ag)).1
    rw [e] at hI' ⊢
    have hT := wE hk2 (bb := false) hdr
    rw [← hkk] at hT
    refine aX (N := 999) bz (jq (fun _ _ _ _ _ _ _ _ hS => resume_fn hS dK hnd hT fun W v1 g1 hW => wD (bb := false) (by' := 1) hk2 hdr h.inv h.calm.runs h.one (by omega) hI' hkk (by omega) (by omega) rfl hW)) h.left rfl (by omega) (by omega) rfl rfl h.ok
theorem Jc {k : Nat} (hl : R.left = fD 106) (hkk : R.ag.node = k) (hk : k < M.dr.length) (hdr : M.dr.getD k false = false) (h1 : 1 ≤ M.dr.length) (hll : M.L.length ≤ 900) (hmx : mx ≤ 1000000) (hI' : aF (fE M k true)) (q : Nat) :
 ∀ {L : List Jb} {a : Nat} {m : Int}, L.length = M.L.length → hits lG L ≤ q → aF { M with L := L } → (∀ j ∈ L, j.st = 3 → M.now < j.fin) → fu { M with L := L } lG = fu M lG → a + 2 * hits lG L + 2 ≤ 800 → m + hits lG L + 1 ≤ mx →
  fo (q + 1) a m R (ah { M with L := L }) (Fin mx (fE M k true) ⟨0, (k : Int), aR (fE M k true) k, 0, 0, 0, 0, 0, 0⟩ R.ok) := by
 have last : ∀ {L : List Jb} {a : Nat} {m : Int} (q : Nat), L.length = M.L.length → dU lG L = none → aF { M with L := L } → (∀ j ∈ L, j.st = 3 → M.now < j.fin) → fu { M with L := L } lG = fu M lG → a + 2 ≤ 800 → m + 1 ≤ mx →
  fo (q + 1) a m R (ah { M with L := L }) (Fin mx (fE M k true) ⟨0, (k : Int), aR (fE M k true) k, 0, 0, 0, 0, 0, 0⟩ R.ok) := by
  intro L a m q hL ho hI hC hM ha hm
  have eD : fE M k true = { M with L := L, dr := M.dr.set k true } := by
   have h2 := rE (M := { M with L := L }) ho
   rw [h2] at hM
   unfold fE
   rw [if_pos rfl, ← hM]
  rw [eD] at hI' ⊢
  have hT := wE (M := { M with L := L }) (k := k) hk (bb := true) hdr
  rw [← hkk] at hT
  refine aX (N := q) El (fun _ _ _ _ _ _ _ _ hS => zG (M := { M with L := L }) hS (fA hI h1 (by show L.length ≤ 900; omega)) rfl hI h1 (by show L.length ≤ 900; omega) (by omega) (by omega) ho (by have := hI.mb.nn; have : M.dr.length ≤ 64 := this; omega) hT fun W v1 g1 hW => wD (M := { M with L := L }) (bb := true) (by' := -1) hk hdr hI hC h1 (by show L.length ≤ 900; omega) hI' hkk (by omega) (by omega) rfl hW) hl rfl (by omega) (by omega) rfl rfl rfl
 induction q with
 | zero =>
   intro L a m hL hq hI hC hM ha hm
   cases ho : dU lG L with
   | none => exact last 0 hL ho hI hC hM (by omega) (by omega)
   | some i =>
     have := (jB (L := L) ho).2.2.2.2
     omega
 | succ q ih =>
   intro L a m hL hq hI hC hM ha hm
   cases ho : dU lG L with
   | none => exact last (q + 1) hL ho hI hC hM (by omega) (by omega)
   | some i =>
     obtain ⟨hi, _, _, _, hh⟩ := jB ho
     refine fJ (k := 106) (k' := 106) El (fun _ _ _ _ _ _ _ _ hS => zH (M := { M with L := L }) hS hI h1 (by show L.length ≤ 900; omega) (by omega) (by omega) ho) hl rfl ?_
     rw [← hl]
     refine ih (L := L.set i ((L.getD i default).aH (-1))) (by rw [List.length_set]; exact hL) (by omega) (hI.wT hi) (fun j hj => ?_) ((vI (M := { M with L := L }) ho).trans hM) (by omega) (by omega)
     rcases List.mem_or_eq_of_mem_set hj with h2 | rfl
     ·exact hC j h2
     ·exact fun hs => hC (L.getD i default) (aY hi) hs
theorem Jd (h : Bg a m mx R M) (hk : R.ag.kind = 7) (hnd : -9223372036854775808 ≤ R.ag.node ∧ R.ag.node ≤ 9223372036854775807) :
 fo 1000 a m R (ah M) (Fin mx (ik M (toW R.ag)).2 (ma (ik M (toW R.ag)).1) false) := by
 have hll := h.few
 have ha := h.ha
 have hm := h.hm
 have hmx := h.hmx
 have dK := fA h.inv h.one (by omega)
 have hrd : jI R.ag.kind = false := by rw [hk]; rfl
 have jq : ∀ {L : Value} {a' : Nat} {m' : Int} {R' : Wk} {P' : Pg}, dY 87 a m R (ah M) L a' m' R' P' → dY 40 a m R (ah M) L a' m' R' P' := fun hn w b c t d p v g hS => fO hS h.cl (by rw [hk]; decide) hrd (Ov hS hk (hn w b c t d p v g hS))
 have hd7 : decide ((toW R.ag).kind = 7) = true := decide_eq_true hk
 by_cases ho : R.ag.node < 0 ∨ (M.dr.length : Int) ≤ R.ag.node
 ·have e : ik M (toW R.ag) = (fF 11, M) := if_pos ho
  rw [e]
  exact aX (N := 999) bz (jq (fun _ _ _ _ _ _ _ _ hS => Ei hS dK hnd 11 (.inl ⟨by
   unfold qg
   rw [if_neg (by rw [show (ah M).T = cZ M from rfl, bD]; omega)], rfl⟩))) h.left rfl (by omega) (by omega) rfl rfl rfl
 ·obtain ⟨k, hkk⟩ := Int.eq_ofNat_of_zero_le (show 0 ≤ R.ag.node by omega)
  have hk2 : k < M.dr.length := by omega
  have est : qg (ah M).T R.ag.node = aR M (k : Int) := by
   unfold qg
   rw [if_pos ⟨by omega, by rw [show (ah M).T = cZ M from rfl, bD]; omega⟩, hkk, Int.toNat_natCast]
   exact df k
  cases hdr : M.dr.getD k false with
  | true =>
    have e : ik M (toW R.ag) = (fF 8, M) := by
     unfold ik
     refine (if_neg ho).trans (if_pos ?_)
     rw [hd7, show (toW R.ag).node = R.ag.node from rfl, hkk, Int.toNat_natCast, hdr]
    rw [e]
    exact aX (N := 999) bz (jq (fun _ _ _ _ _ _ _ _ hS => Ei hS dK hnd 8 (.inr ⟨by
     rw [est, eQ hk2, hdr]
     split <;> simp, rfl⟩))) h.left rfl (by omega) (by omega) rfl rfl rfl
  | false =>
    have e : ik M (toW R.ag) = ((0, (k : Int), aR (fE M k true) (k : Int), 0, 0, 0, 0, 0, 0), fE M k true) := by
     unfold ik
     refine (if_neg ho).trans ((if_neg ?_).trans ?_)
     ·rw [hd7, show (toW R.ag).node = R.ag.node from rfl, hkk, Int.toNat_natCast, hdr]
      exact fun e => nomatch e
     ·rw [hd7, show (toW R.ag).node = R.ag.node from rfl, hkk, Int.toNat_natCast]
    have hI' := (h.inv.JD h.calm (toW R.ag)).1
    rw [e] at hI' ⊢
    have hst : qg (ah M).T R.ag.node = 1 ∨ qg (ah M).T R.ag.node = 2 := by
     rw [est, eQ hk2, hdr]
     split <;> simp
    have Xi := Cc lG M.L
    cases hz : dU lG M.L with
    | none =>
      have eD := drain_eq (n := k) hz
      have hI2 : aF { M with dr := M.dr.set k true } := by rw [← eD]; exact hI'
      have hT := wE hk2 (bb := true) hdr
      rw [← hkk] at hT
      show fo 1000 a m R (ah M) (Fin mx (fE M k true) ⟨0, (k : Int), aR (fE M k true) k, 0, 0, 0, 0, 0, 0⟩ false)
      rw [eD]
      refine aX (N := 999) bz (jq (fun _ _ _ _ _ _ _ _ hS => Eh hS dK hnd hst fun W hW => zG hW dK rfl h.inv h.one (by omega) (by omega) (by omega) hz hnd hT fun W2 v1 g1 hW2 => wD (bb := true) (by' := -1) hk2 hdr h.inv h.calm.runs h.one (by omega) hI2 hkk (by omega) (by omega) rfl hW2)) h.left rfl (by omega) (by omega) rfl rfl h.ok
    | some i =>
      obtain ⟨hi, _, _, _, hh⟩ := jB hz
      refine (fJ (N := 901) (k := 40) (k' := 106) bz (jq (fun _ _ _ _ _ _ _ _ hS => Eh hS dK hnd hst fun W hW => zH hW h.inv h.one (by omega) (by omega) (by omega) hz)) h.left rfl ?_).more (show 902 ≤ 1000 by decide)
      refine fo.ok (Jc (M := M) (R := { R with left := fD 106 }) (mx := mx) (k := k) rfl hkk hk2 hdr h.one (by omega) hmx hI' 900 (L := M.L.set i ((M.L.getD i default).aH (-1))) (by rw [List.length_set]) (by omega) (h.inv.wT hi) (fun j hj => by
       rcases List.mem_or_eq_of_mem_set hj with h2 | rfl
       ·exact h.calm.runs j h2
       ·exact fun hs => h.calm.runs (M.L.getD i default) (aY hi) hs) (vI hz) (by omega) (by omega)) h.ok
end
end Go.Proofs.YtelnhablglomjaaGreat

namespace Go.Proofs.YtelnhablglomjaaGreat
open Go.RowKit Go.Lib Go.Sort
section
variable {M : Md}
theorem Early.set (h : Early M) {i : Nat} {y : Jb} (hy : y.st ≤ 2 → y.fin = -1) : Early { M with L := M.L.set i y } := fun j hj => by
 rcases List.mem_or_eq_of_mem_set hj with h1 | rfl
 ·exact h j h1
 ·exact hy
theorem Early.map (h : Early M) {f : Jb → Jb} (hf : ∀ j : Jb, (j.st ≤ 2 → j.fin = -1) → ((f j).st ≤ 2 → (f j).fin = -1)) : Early { M with L := M.L.map f } := fun j hj => by
 obtain ⟨x, hx, rfl⟩ := List.mem_map.1 hj
 exact hf x (h x hx)
theorem Early.drop (h : Early M) (j : Jb) : Early (fu M j) := h.map fun x hx => by
 unfold gN
 split
 ·exact hx
 ·exact hx
theorem Early.begin (h : Early M) (i : Nat) : Early (aW M i) := h.set fun hs => absurd hs (show ¬ (3 : Int) ≤ 2 by decide)
theorem Early.starts (n : Nat) (h : Early M) : Early (startGo n M) := by
 induction n generalizing M with
 | zero => exact h
 | succ n ih =>
   unfold startGo
   split
   ·exact ih (h.begin _)
   ·exact ih h
theorem Early.rD (h : Early M) : Early (dL M) := by
 refine Early.starts _ (h.map fun x hx => ?_)
 unfold aT
 split
 ·exact fun hs => absurd hs (show ¬ (6 : Int) ≤ 2 by decide)
 ·exact hx
theorem Early.dE (to : Int) (n : Nat) (h : Early M) : Early (dE to n M) := by
 induction n generalizing M with
 | zero => exact h
 | succ n ih =>
   unfold Proofs.YtelnhablglomjaaGreat.dE
   split
   ·exact h
   ·refine ih (Early.rD ?_)
    exact h
theorem Early.JF (h : Early M) (r : Rw) : Early (fC M r).2 := by
 have same : Early { M with cl := true } := h
 unfold fC
 repeat' split
 all_goals first | exact h | exact same | skip
 ·unfold jL
  have ha : Early { M with L := M.L ++ [dw M r] } := fun j hj => by
   rcases List.mem_append.1 hj with h1 | h1
   ·exact h j h1
   ·rw [List.mem_singleton] at h1; subst h1; exact fun _ => rfl
  repeat' split
  ·exact h
  ·exact ha
  ·exact ha.drop _
 ·unfold mD
  simp only
  repeat' split
  ·exact h
  ·exact h
  ·refine h.set fun hs => ?_
   have e : (iK M r.kind (getM M r.id).1).st = if r.kind = 5 then 4 else 5 := rfl
   rw [e] at hs
   split at hs <;> omega
 ·unfold fP
  simp only
  have hx : ((getM M r.id).2 = false) ∨ (getM M r.id).1 ∈ M.L := by
   cases hg : (getM M r.id).2 with
   | false => exact .inl rfl
   | true => exact .inr (kW hg).1
  by_cases h1 : (getM M r.id).2 = false
  ·rw [if_pos h1]; exact h
  ·rw [if_neg h1]
   have hm := hx.resolve_left h1
   have hx1 := h _ hm
   split
   ·exact h
   ·rename_i h2
    have hy : (fw r.kind (getM M r.id).1).st ≤ 2 → (fw r.kind (getM M r.id).1).fin = -1 := by
     unfold fw
     split
     ·rename_i h3
      exact fun _ => hx1 (by by_cases e : (getM M r.id).1.st = 1 <;> omega)
     ·split
      ·rename_i h3
       exact fun _ => hx1 (by by_cases e : (getM M r.id).1.st = 2 <;> omega)
      ·exact hx1
    split
    ·exact (h.set hy).drop _
    ·exact h.set hy
 ·unfold ik
  repeat' split
  ·exact h
  ·exact h
  ·unfold fE
   split
   ·exact h.drop lG
   ·exact h
 ·unfold mJ
  split
  ·exact h
  ·exact h.dE _ _
theorem Early.kG (h : Early M) (id t : Int) : Early (cO M id t).2 := by
 unfold cO
 split
 ·rename_i hf
  split
  ·exact h.begin _
  ·by_cases hi : (id - 1).toNat < M.L.length
   ·refine h.set fun hs => ?_
    exact h (M.L.getD (id - 1).toNat default) (aY hi) hs
   ·show Early { M with L := M.L.set (id - 1).toNat _ }
    rw [List.set_eq_of_length_le (by omega)]
    exact h
 ·exact h
theorem Le (n : Nat) : Early (dI n) := fun _ hj => nomatch hj
theorem OD (f : Nat → Bool) (n j : Nat) (h : ∀ k, n ≤ k → f k = false) : aO f (n + j) = aO f n := by
 induction j with
 | zero => rfl
 | succ j ih =>
   show aO f (n + j) + (if f (n + j) = true then 1 else 0) = _
   rw [h (n + j) (by omega), ih]
   simp
theorem uz (h : aF M) (f : Nat → Bool) (x y : Int) (hf : ∀ k, f k = (decide (aR M k = x) || decide (aR M k = y))) (hx : x ≠ 0) (hy : y ≠ 0) : ((aO f 64 : Nat) : Int) = lH M x y := by
 have hn := h.mb.nn
 have hc := OD f M.dr.length (64 - M.dr.length) fun k hk => by
  rw [hf, iB (by omega), decide_eq_false (fun e => hx e.symm), decide_eq_false (fun e => hy e.symm)]
  rfl
 rw [show M.dr.length + (64 - M.dr.length) = 64 by omega] at hc
 rw [hc, rR]
 unfold lH
 rw [show f = fun k : Nat => decide (aR M k = x) || decide (aR M k = y) from funext hf]
end
section
variable {w : World} {b c t d p g a N : Nat} {v : Value} {m mx : Int} {P : Pg} {M M' : Md} {R : Wk} {Q : Nat → Int → Wk → Pg → Prop}
theorem Lf (h : Bg a m mx R M) (hk : R.ag.kind = 6 ∨ R.ag.kind = 10 ∨ R.ag.kind = 11 ∨ R.ag.kind = 12) :
 fo 1000 a m R (ah M) (Fin mx (fC M (toW R.ag)).2 (ma (fC M (toW R.ag)).1) false) := by
 have hll := h.few
 have ha := h.ha
 have hm := h.hm
 have hmx := h.hmx
 have hcl : ¬ M.cl = true := by rw [h.cl]; decide
 have dK := fA h.inv h.one (by omega)
 have hrd : jI R.ag.kind = true := by rcases hk with e | e | e | e <;> (rw [e]; rfl)
 have jq : ∀ {L : Value} {a' : Nat} {m' : Int} {R' : Wk} {P' : Pg}, dY 70 a m R (ah M) L a' m' R' P' → dY 40 a m R (ah M) L a' m' R' P' := fun hn w b c t d p v g hS => zK hS h.cl (by omega) hrd (hn w b c t d p v g hS)
 rcases hk with hk | hk | hk | hk
 ·by_cases hid : R.ag.id < 1 ∨ (M.L.length : Int) < R.ag.id
  ·have e : fC M (toW R.ag) = (fF 7, M) := by
    unfold fC
    rw [if_neg hcl, show (toW R.ag).kind = 6 from hk]
    exact wy (toW R.ag) hid
   have hg : gI M.L R.ag.id = 7 := by unfold gI; (repeat' split) <;> omega
   rw [e]
   exact aX (N := 999) bz (jq (fun _ _ _ _ _ _ _ _ hS => zZ hS hk 7 (by decide) hg)) h.left rfl (by omega) (by omega) rfl rfl rfl
  ·have hg : gI M.L R.ag.id = 0 := by unfold gI; (repeat' split) <;> omega
   have hi : (R.ag.id - 1).toNat < M.L.length := by omega
   have e : fC M (toW R.ag) = (nI (M.L.getD (R.ag.id - 1).toNat default), M) := by
    unfold fC
    rw [if_neg hcl, show (toW R.ag).kind = 6 from hk]
    show fP M (toW R.ag) = _
    unfold fP
    rw [show (toW R.ag).id = R.ag.id from rfl, xG hid, show (toW R.ag).kind = 6 from hk]
    show (nI (M.L.getD (R.ag.id - 1).toNat default), ({ M with L := M.L.set (R.ag.id - 1).toNat (M.L.getD (R.ag.id - 1).toNat default) } : Md)) = _
    have : M.L.set (R.ag.id - 1).toNat (M.L.getD (R.ag.id - 1).toNat default) = M.L := by
     simp only [List.getD, List.getElem?_eq_getElem hi, Option.getD_some, List.set_getElem_self]
    rw [this]
   have hr : dY 70 a m R (ah M) _ _ _ _ _ := fun _ _ _ _ _ _ _ _ hS => BU hS hk hg
   rw [show bO (ah M).J R.ag.id = M.L.getD (R.ag.id - 1).toNat default from uy hid] at hr
   rw [e]
   exact aX (N := 999) bz (jq hr) h.left rfl (by omega) (by omega) rfl rfl h.ok
 ·have e : fC M (toW R.ag) = (((0, 0, 0, 0, 0, 0, (lH M 1 1 : Int), (lH M 2 3 : Int), (lH M 4 4 : Int)) : Rl), M) := by
   unfold fC
   rw [if_neg hcl, show (toW R.ag).kind = 10 from hk]
   rfl
  have hr : dY 70 a m R (ah M) _ _ _ _ _ := fun _ _ _ _ _ _ _ _ hS => K7 hS dK hk
  rw [show (ah M).T = cZ M from rfl, uz h.inv (ib (cZ M)) 1 1 (fun k => by rw [uR, Bool.or_self]) (by decide) (by decide),
   uz h.inv (bW (cZ M)) 2 3 (fun k => by unfold bW; rw [df]) (by decide) (by decide),
   uz h.inv (fun i => bX (cZ M) i && !bW (cZ M) i) 4 4 (fun k => by
    unfold bX bW
    rw [df]
    generalize aR M k = s
    by_cases h2 : s = 2
    ·subst h2; rfl
    ·by_cases h3 : s = 3
     ·subst h3; rfl
     ·rw [decide_eq_false h2, decide_eq_false h3]; simp) (by decide) (by decide)] at hr
  rw [e]
  exact aX (N := 999) bz (jq hr) h.left rfl (by omega) (by omega) rfl rfl h.ok
 ·have e : fC M (toW R.ag) = (((0, 0, 0, 0, 0, 0, (nO M 1 : Int), (nO M 2 : Int), (nO M 3 : Int)) : Rl), M) := by
   unfold fC
   rw [if_neg hcl, show (toW R.ag).kind = 11 from hk]
   rfl
  rw [e]
  exact aX (N := 999) bz (jq (fun _ _ _ _ _ _ _ _ hS => K8 hS dK hk)) h.left rfl (by omega) (by omega) rfl rfl h.ok
 ·have e : fC M (toW R.ag) = ((0, 0, 0, M.now, 0, 0, ax M M.now 0, 0, 0), M) := by
   unfold fC
   rw [if_neg hcl, show (toW R.ag).kind = 12 from hk]
   rfl
  rw [e]
  exact aX (N := 999) bz (jq (fun _ _ _ _ _ _ _ _ hS => zI hS (by omega) hk)) h.left rfl (by omega) (by omega) rfl rfl h.ok
theorem Lg (h : Bg a m mx R M) (hk : R.ag.kind = 13) (hrep : R.rep = nU) :
 fo 1000 a m R (ah M) (Fin mx { M with cl := true } (ma (fF 0)) false) := by
 have hll := h.few
 have ha := h.ha
 have hm := h.hm
 have hrd : jI R.ag.kind = false := by rw [hk]; rfl
 exact aX (N := 999) bz (fun _ _ _ _ _ _ _ _ hS => fO hS h.cl (by rw [hk]; decide) hrd (K9 hS hk)) h.left rfl (by omega) (by omega) rfl hrep h.ok
theorem C8 (to : Int) (hto : to ≤ 1099511627776) (hl : R.left = fD 110) (tH : R.target = to) (hmx : mx ≤ 1000000) (n : Nat) :
 ∀ {M : Md} {a : Nat} {m : Int}, aF M → Calm M → Early M → 1 ≤ M.dr.length → M.L.length ≤ 900 → M.now ≤ to → mr M < n → a ≤ 800 → m + n ≤ mx →
  fo n a m R (ah M) (Fin mx { dE to n M with now := to } ⟨0, 0, 0, to, 0, 0, ax (dE to n M) to 0, 0, 0⟩ R.ok) := by
 induction n with
 | zero =>
   intro M a m hI hC hE h1 hll hnt hn
   have := (mO nJ 2 M.L fun j _ => oL j).1
   unfold mr at hn
   omega
 | succ n ih =>
   intro M a m hI hC hE h1 hll hnt hn ha hm
   by_cases hx : aS M < 0 ∨ to < aS M
   ·have e : dE to (n + 1) M = M := if_pos hx
    rw [e]
    have hf : dY 110 a m R (ah M) _ _ _ _ _ := fun _ _ _ _ _ _ _ _ hS => vw hS hI hE h1 hll ha (by omega) (by rw [tH]; exact hx) (by rw [tH]; exact ⟨hnt, hto⟩)
    rw [tH] at hf
    exact aX (N := n) zN hf hl rfl (by omega) (by omega) rfl rfl rfl
   ·have e : dE to (n + 1) M = dE to n (dL { M with now := aS M }) := if_neg hx
    rw [e]
    obtain ⟨a1, a2, a3⟩ := hI.step hC (by omega) (by omega)
    obtain ⟨b1, b2, b3, b4⟩ := a2.rD
    have hkp := nR a2.mb
    have hf : dY 110 a m R (ah M) _ _ _ _ _ := fun _ _ _ _ _ _ _ _ hS => zD hS hI hC hE h1 hll ha (by omega) (by rw [tH]; omega) (by rw [tH]; exact hto)
    refine fJ (k := 110) (k' := 110) zN hf hl rfl ?_
    rw [← hl]
    refine ih b1 b2 (Early.rD hE) (by rw [hkp.2.2.2.1]; exact h1) (by rw [hkp.2.1]; exact hll) (by rw [hkp.2.2.1]; show aS M ≤ to; omega) ?_ ha (by omega)
    have := b4 a3
    have e2 : mr { M with now := aS M } = mr M := rfl
    omega
theorem Lh (h : Bg a m mx R M) (hE : Early M) (hk : R.ag.kind = 9) :
 fo 1000 a m R (ah M) (Fin mx (mJ M R.ag.till).2 (ma (mJ M R.ag.till).1) false) := by
 have hll := h.few
 have ha := h.ha
 have hm := h.hm
 have hmx := h.hmx
 have ku := h.inv.mb.now
 have dK := fA h.inv h.one (by omega)
 have hrd : jI R.ag.kind = false := by rw [hk]; rfl
 have jq : ∀ {L : Value} {a' : Nat} {m' : Int} {R' : Wk} {P' : Pg}, dY 89 a m R (ah M) L a' m' R' P' → dY 40 a m R (ah M) L a' m' R' P' := fun hn w b c t d p v g hS => fO hS h.cl (by rw [hk]; decide) hrd (Ox hS hk (hn w b c t d p v g hS))
 by_cases hlow : R.ag.till < 1
 ·have e : mJ M R.ag.till = (fF 10, M) := if_pos (.inl hlow)
  rw [e]
  exact aX (N := 999) bz (jq (fun _ _ _ _ _ _ _ _ hS => Ol hS dK hlow)) h.left rfl (by omega) (by omega) rfl rfl rfl
 ·by_cases hhi : 1099511627776 - M.now < R.ag.till
  ·have e : mJ M R.ag.till = (fF 10, M) := if_pos (.inr hhi)
   rw [e]
   exact aX (N := 999) bz (jq (fun _ _ _ _ _ _ _ _ hS => K6 hS dK hlow hhi)) h.left rfl (by omega) (by omega) rfl rfl rfl
  ·have hev := (mO nJ 2 M.L fun j _ => oL j).2
   have Xj : mr M < (2 * M.L.length + 1 : Nat) := by unfold mr; omega
   have e : mJ M R.ag.till = ((0, 0, 0, M.now + R.ag.till, 0, 0, ax (pO M (M.now + R.ag.till)) (M.now + R.ag.till) 0, 0, 0), pO M (M.now + R.ag.till)) := if_neg (by omega)
   rw [e]
   obtain ⟨to, hto⟩ : ∃ to, to = M.now + R.ag.till := ⟨_, rfl⟩
   rw [← hto]
   unfold pO
   obtain ⟨n, hn⟩ : ∃ n, n = 2 * M.L.length := ⟨_, rfl⟩
   rw [← hn] at Xj ⊢
   by_cases hx : aS M < 0 ∨ to < aS M
   ·have e : dE to (n + 1) M = M := if_pos hx
    rw [e]
    refine aX (N := 999) (a' := a) (m' := m + 1) (R' := { R with target := to, rep := ⟨0, 0, 0, to, 0, 0, ax M to 0, 0, 0⟩ }) bz (jq (fun _ _ _ _ _ _ _ _ hS => I6 (P' := ah { M with now := to }) hS dK hlow hhi fun W hW => ?_)) h.left rfl (by omega) (by omega) rfl rfl h.ok
    rw [show (ah M).now + R.ag.till = to from hto.symm] at hW
    exact vw hW h.inv hE h.one (by omega) (by omega) (by omega) hx ⟨by show M.now ≤ to; omega, by show to ≤ _; omega⟩
   ·have e : dE to (n + 1) M = dE to n (dL { M with now := aS M }) := if_neg hx
    rw [e]
    obtain ⟨a1, a2, a3⟩ := h.inv.step h.calm (by omega) (by omega)
    obtain ⟨b1, b2, b3, b4⟩ := a2.rD
    have hkp := nR a2.mb
    refine (fJ (N := n) (k := 40) (k' := 110) (a' := a) (m' := m + 1) (R' := { R with target := to }) (P' := ah (dL { M with now := aS M })) bz (jq (fun _ _ _ _ _ _ _ _ hS => I6 hS dK hlow hhi fun W hW => ?_)) h.left rfl ?_).more (show n + 1 ≤ 1000 by omega)
    ·rw [show (ah M).now + R.ag.till = to from hto.symm] at hW
     exact zD hW h.inv h.calm hE h.one (by omega) (by omega) (by omega) ⟨by omega, by show aS M ≤ to; omega⟩ (by show to ≤ _; omega)
    ·refine fo.ok (C8 (R := { ({ R with target := to } : Wk) with left := fD 110 }) (mx := mx) to (by omega) rfl rfl hmx n b1 b2 (Early.rD hE) (by rw [hkp.2.2.2.1]; exact h.one) (by rw [hkp.2.1]; show M.L.length ≤ 900; omega) (by rw [hkp.2.2.1]; show aS M ≤ to; omega) (by
      have := b4 a3
      have e2 : mr { M with now := aS M } = mr M := rfl
      omega) (by omega) (by omega)) h.ok
end
end Go.Proofs.YtelnhablglomjaaGreat

namespace Go.Proofs.YtelnhablglomjaaGreat
open Go.RowKit Go.Lib Go.Sort
section
variable {M : Md}
theorem Je (hI : aF M) {id t : Int} (hf : fH M id t = true) : ∃ i : Nat, id = (i : Int) + 1 ∧ i < M.L.length ∧ (M.L.getD i default).st = 1 ∧ M.now ≤ t ∧ t ≤ 1099511627776 ∧ M.cl = false ∧
 ∀ u, t ≤ u → u < t + (M.L.getD i default).lim → (M.L.getD i default).wid ≤ ax M u ((i : Int) + 1) := by
 have hn := hI.mb.now
 unfold fH at hf
 simp only at hf
 split at hf
 ·cases hf
 rename_i hq
 have hg : (getM M id).2 = true := by cases e : (getM M id).2 <;> simp_all
 obtain ⟨hm, hi, he, hid⟩ := kW hg
 rw [he] at hm hq hf
 have hs : (M.L.getD (id - 1).toNat default).st = 1 := by
  by_cases e : (M.L.getD (id - 1).toNat default).st = 1
  ·exact e
  ·exact absurd (.inr (.inr (.inl e))) hq
 have ht : M.now ≤ t ∧ t ≤ 1099511627776 := by omega
 have hcl : M.cl = false := by
  cases e : M.cl with
  | false => rfl
  | true => exact absurd (.inl e) hq
 have GH := hI.ids _ hi
 have hroom := fun u => xU hn.1 ht.1 hf u
 rw [GH] at hroom
 exact ⟨(id - 1).toNat, hid, hi, hs, ht.1, ht.2, hcl, hroom⟩
theorem Cf (hI : aF M) {i : Nat} (hi : i < M.L.length) (hroom : ∀ u, M.now ≤ u → u < M.now + (M.L.getD i default).lim → (M.L.getD i default).wid ≤ ax M u ((i : Int) + 1)) : (M.L.getD i default).wid ≤ aK M M.now M.dr.length := by
 have bo := hI.one _ (aY hi)
 have h0 := hroom M.now (Int.le_refl _) (by omega)
 have ht0 := ni (L := M.L) (fun j hj => hI.mb.wid j hj) M.now ((i : Int) + 1)
 unfold ax at h0
 omega
theorem F8 (hI : aF M) (hC : Calm M) {i : Nat} (hi : i < M.L.length) (hs : (M.L.getD i default).st = 1) {t : Int} (ht : M.now ≤ t ∧ t ≤ 1099511627776)
 (hroom : ∀ u, t ≤ u → u < t + (M.L.getD i default).lim → (M.L.getD i default).wid ≤ ax M u ((i : Int) + 1)) (u : Int) (hu : M.now ≤ u) :
 ax (if t = M.now then aW M i else { M with L := M.L.set i ((M.L.getD i default).aH t) }) u 0 = ax M u ((i : Int) + 1) + had (max t M.now) (t + (M.L.getD i default).lim) (-(M.L.getD i default).wid) u := by
 have hm := aY hi
 have bo := hI.one _ hm
 have bl := hI.mb.lim _ hm
 have hn := hI.mb.now
 have hid := hI.ids i hi
 rw [mM hi hI.ids]
 have hh : had (max t M.now) (t + (M.L.getD i default).lim) (-(M.L.getD i default).wid) u = if t ≤ u ∧ u < t + (M.L.getD i default).lim then -(M.L.getD i default).wid else 0 := by
  unfold had
  have e1 : max t M.now = t := by omega
  rw [e1]
  by_cases c : t ≤ u ∧ u < t + (M.L.getD i default).lim
  ·rw [if_pos c, if_pos ⟨c.1, .inl c.2⟩]
  ·rw [if_neg c, if_neg (by omega)]
 rw [hh]
 by_cases e : t = M.now
 ·subst e
  rw [if_pos rfl, ry hi (by omega)]
  have hlow := (hI.begin hC.runs hi hs (Cf hI hi hroom) fun v h1 h2 => by
   have := hroom v h1 h2
   rw [mM hi hI.ids] at this
   exact this).2
  rw [hlow]
  split <;> split <;> omega
 ·rw [if_neg e, iV hi]
  have hpl : aj ((M.L.getD i default).aH t) = true := by
   unfold aj
   rw [Bool.and_eq_true]
   exact ⟨decide_eq_true hs, decide_eq_true (show 0 ≤ t by omega)⟩
  have hc2 := mK (t := u) (but := 0) hpl (show (M.L.getD i default).id ≠ 0 by rw [hid]; omega)
  rw [hc2]
  show ax M u 0 + dM u 0 (M.L.getD i default) - (if t ≤ u ∧ u < t + (M.L.getD i default).lim then (M.L.getD i default).wid else 0) = _
  split <;> omega
end
section
variable {w : World} {b c t d p g a N : Nat} {v : Value} {m mx : Int} {P : Pg} {M M' : Md} {R : Wk} {Q : Nat → Int → Wk → Pg → Prop}
def mg (M : Md) : Ry := if M.cl then kC 12 else nU
theorem F9 (hl : R.left = fD 74) (hI : aF M) (hC : Calm M) (h1 : 1 ≤ M.dr.length) (hll : M.L.length ≤ 190) (ha : a ≤ 1 + 2 * M.L.length) (hm : m + 1000 ≤ mx) (hmx : mx ≤ 1000000)
 (ho : R.ok = false) (hrep : R.rep = nU) (hxt : -9223372036854775808 ≤ R.dP ∧ R.dP ≤ 9223372036854775807) :
 fo 1000 a m R (ah M) (Fin mx (cO M R.lC R.dP).2 (mg M) (cO M R.lC R.dP).1) := by
 cases hf : fH M R.lC R.dP with
 | false =>
   have e : cO M R.lC R.dP = (false, M) := if_neg (by rw [hf]; decide)
   rw [e]
   cases hcl : M.cl with
   | true => exact aX (N := 999) yK (fun _ _ _ _ _ _ _ _ hS => CV hS hcl) hl rfl (by omega) (by omega) rfl (by unfold mg; rw [hcl]; rfl) rfl
   | false => exact aX (N := 999) yK (fun _ _ _ _ _ _ _ _ hS => Oh hS hI h1 (by omega) (by omega) hxt hcl hf) hl rfl (by omega) (by omega) rfl (by unfold mg; rw [hcl]; exact hrep) ho
 | true =>
   obtain ⟨i, hid, hi, hs, ht1, ht2, hcl, hroom⟩ := Je hI hf
   have Mh : (R.lC - 1).toNat = i := by omega
   have hmem := aY hi
   have bo := hI.one _ hmem
   have bl := hI.mb.lim _ hmem
   have bw := hI.mb.wid _ hmem
   have bp := hI.mb.aN _ hmem
   have GH := hI.ids i hi
   have ku := hI.mb.now
   have dK := fA hI h1 (by omega)
   have e : cO M R.lC R.dP = (true, if R.dP = M.now then aW M i else { M with L := M.L.set i ((M.L.getD i default).aH R.dP) }) := by
    unfold cO
    rw [if_pos hf, Mh]
    split <;> rfl
   have hI' := (hI.kG hC R.lC R.dP).1
   rw [e] at hI' ⊢
   have hfree := F8 hI hC hi hs ⟨ht1, ht2⟩ hroom
   have hdr : (if R.dP = M.now then aW M i else { M with L := M.L.set i ((M.L.getD i default).aH R.dP) }).dr.length = M.dr.length := by split <;> rfl
   have RA : (if R.dP = M.now then aW M i else { M with L := M.L.set i ((M.L.getD i default).aH R.dP) }).now = M.now := by split <;> rfl
   have Um : nU = mg M := by unfold mg; rw [hcl]; rfl
   have Yf : bO M.L R.lC = M.L.getD i default := by rw [uy (by omega), Mh]
   have hck : dY 74 a m R (ah M) _ _ _ _ _ := fun _ _ _ _ _ _ _ _ hS => K4 hS hI h1 (by omega) (by omega) hxt hcl hf
   rw [Yf] at hck
   have yY : ∀ u, ax M u ((i : Int) + 1) = ax M u 0 + dM u 0 (M.L.getD i default) := fun u => mM hi hI.ids u
   have mf : PK { ah M with f := fun u => ax M u ((i : Int) + 1) } := ⟨dK.now, dK.few, dK.st, dK.lim, dK.rQ, fun u hu => ⟨Cy hI hi u hu, (EH hI.mb u _).2⟩⟩
   obtain ⟨M1, hM1⟩ : ∃ M1, M1 = (if R.dP = M.now then aW M i else { M with L := M.L.set i ((M.L.getD i default).aH R.dP) }) := ⟨_, rfl⟩
   rw [← hM1] at hI' hfree hdr RA ⊢
   have hrange : ∀ u, M.now ≤ u → 0 ≤ ax M1 u 0 ∧ ax M1 u 0 ≤ 64 := fun u hu => vU hI' u (by rw [RA]; exact hu)
   have Xk : PK { ah M with f := fun u => ax M1 u 0 } := ⟨dK.now, dK.few, dK.st, dK.lim, dK.rQ, fun u hu => hrange u hu⟩
   refine (fJ (N := 3) (k := 74) (k' := 91) yK hck hl rfl ?_).more (show 4 ≤ 1000 by decide)
   have cont : ∀ (a2 : Nat) (m2 : Int), a2 ≤ 700 → m2 + 10 ≤ mx →
    fo 2 a2 m2 { R with aB := M.L.getD i default, ok := true, left := fD 115 } { ah M with f := fun u => ax M u ((i : Int) + 1) } (Fin mx M1 (mg M) true) := by
    intro a2 m2 ha2 hm2
    have hen : dY 115 a2 m2 { R with aB := M.L.getD i default, ok := true, left := fD 115 } { ah M with f := fun u => ax M u ((i : Int) + 1) } _ _ _ _ _ := fun _ _ _ _ _ _ _ _ hS2 => Og hS2 mf (by omega) (by omega) hs ⟨by show 0 ≤ R.dP; omega, by show R.dP ≤ 1099511627776; omega⟩ ⟨bo.2.2.1, bl.2⟩ bw (fun u => ax M1 u 0) (fun u hu => hfree u hu) (fun u hu => hrange u hu)
    refine fJ (N := 1) (k := 115) (k' := 145) OA hen rfl rfl ?_
    by_cases hx : R.dP = M.now
    ·have hidle : (M.L.getD i default).wid ≤ ((List.range M.dr.length).countP fun n : Nat => decide (aR M n = 1) : Nat) := by
      rw [← IM hC.runs]
      exact Cf hI hi (by rw [← hx]; exact hroom)
     have hT := IP hI hi (by omega) hidle
     have hset := fun (w : World) (b c t d p : Nat) (v : Value) (g : Nat) (BZ : SW w b c t d p v g (a2 + 2) (m2 + 1) { R with aB := (M.L.getD i default).aH R.dP, ok := true, left := fD 145 } { ah M with f := fun u => ax M1 u 0 }) => I4 BZ Xk hx (by show -9223372036854775808 ≤ (M.L.getD i default).wid ∧ (M.L.getD i default).wid ≤ _; omega) hT
     rw [if_pos hx] at hM1
     have hbs : bZ (ah M).J (gq (ah M).now) (M.L.getD i default).id (fun j : Jb => decide (j.state = 1)) (lU (ah M).now (iJ M (M.L.getD i default).wid : Int)) = (aW M i).L := zB hI hi hs
     have hP : ({ ah M with f := fun u => ax M1 u 0, T := cZ (aW M i), J := (aW M i).L } : Pg) = ah M1 := by rw [hM1]; rfl
     refine aX (N := 0) (a' := a2 + 2) (m' := m2 + 1) Cb (fun w b c t d p v g BZ => (hset w b c t d p v g BZ).mono fun e w' hp => ?_) rfl rfl (by omega) (by omega) rfl (hrep.trans Um) rfl
     rw [← hP, ← hbs]
     exact hp
    ·have hset := fun (w : World) (b c t d p : Nat) (v : Value) (g : Nat) (BZ : SW w b c t d p v g (a2 + 2) (m2 + 1) { R with aB := (M.L.getD i default).aH R.dP, ok := true, left := fD 145 } { ah M with f := fun u => ax M1 u 0 }) => CU BZ hx
     rw [if_neg hx] at hM1
     have M0 : gV R.dP = 0 := by unfold gV; rw [if_neg (by omega), if_neg (by omega)]
     have hbs : bZ (ah M).J (gV R.dP) R.lC (fun j : Jb => decide (j.state = 1)) (kQ R.dP) = M.L.set i ((M.L.getD i default).aH R.dP) := by
      rw [M0]
      have := uW (ok := fun j : Jb => decide (j.state = 1)) (L := M.L) (id := R.lC) (by omega) (by rw [Mh]; exact decide_eq_true hs)
      have h2 := pJ (ch := kQ R.dP) this
      rw [Mh] at h2
      exact h2
     have hT1 : cZ M = cZ M1 := by
      rw [hM1]
      refine pI (by rw [bD, bD]) fun n hn => ?_
      rw [df, df, pU (y := (M.L.getD i default).aH R.dP) hi Iff.rfl rfl]
     have hP : ({ ah M with f := fun u => ax M1 u 0, J := M.L.set i ((M.L.getD i default).aH R.dP) } : Pg) = ah M1 := by
      show Pg.mk M.now _ (cZ M) _ M.cl = _
      rw [hT1, hM1]
      rfl
     refine aX (N := 0) (a' := a2 + 2) (m' := m2 + 1) Cb (fun w b c t d p v g BZ => (hset w b c t d p v g BZ).mono fun e w' hp => ?_) rfl rfl (by omega) (by omega) rfl (hrep.trans Um) rfl
     rw [← hP, ← hbs]
     exact hp
   cases hpl : aj (M.L.getD i default) with
   | true =>
     have hlv : dY 91 a m { R with aB := M.L.getD i default, ok := true, left := fD 91 } (ah M) _ _ _ _ _ := fun _ _ _ _ _ _ _ _ hS1 => IZ hS1 dK (by omega) (by omega) hpl bp.2 bl bo.2.2.1 bw (fun u => ax M u ((i : Int) + 1)) (fun u hu => by
      have hun := rT hI hi hpl u
      rw [iV hi, dN (j := (M.L.getD i default).aH (-1)) (by unfold aj; simp [Jb.aH, Jb.aN])] at hun
      show ax M u ((i : Int) + 1) = ax M u 0 + had (max (M.L.getD i default).aN M.now) ((M.L.getD i default).aN + (M.L.getD i default).lim) (M.L.getD i default).wid u
      rw [yY]
      omega) (fun u hu => mf.f u hu)
     refine fJ (N := 2) (k := 91) (k' := 115) Ej hlv rfl rfl ?_
     exact cont _ _ (by omega) (by omega)
   | false =>
     have hlv : dY 91 a m { R with aB := M.L.getD i default, ok := true, left := fD 91 } (ah M) _ _ _ _ _ := fun _ _ _ _ _ _ _ _ hS1 => I1 hS1 hpl bp.2 bl
     refine fJ (N := 2) (k := 91) (k' := 115) Ej hlv rfl rfl ?_
     have hP : ah M = { ah M with f := fun u => ax M u ((i : Int) + 1) } := by
      have : (fun u => ax M u ((i : Int) + 1)) = fun u => ax M u 0 := by
       funext u
       rw [yY, dN hpl]
       omega
      rw [this]
      rfl
     rw [hP]
     exact cont _ _ (by omega) (by omega)
theorem RB (hl : R.left = fD 40) (hI : aF M) (hC : Calm M) (hE : Early M) (h1 : 1 ≤ M.dr.length) (hll : M.L.length ≤ 190) (ha : a ≤ 1 + 2 * M.L.length) (hm : m + 1000 ≤ mx) (hmx : mx ≤ 1000000)
 (ho : R.ok = false) (hrep : R.rep = nU) (hnd : -9223372036854775808 ≤ R.ag.node ∧ R.ag.node ≤ 9223372036854775807) :
 fo 1000 a m R (ah M) (Fin mx (fC M (toW R.ag)).2 (ma (fC M (toW R.ag)).1) false) := by
 cases hcl : M.cl with
 | true =>
   have e : fC M (toW R.ag) = (fF 12, M) := if_pos hcl
   rw [e]
   exact Lb hl hcl (by omega) (by omega)
 | false =>
   have hcn : ¬ M.cl = true := by rw [hcl]; decide
   have hB : Bg a m mx R M := ⟨hl, hI, hC, hcl, h1, hll, ha, hm, hmx, ho⟩
   have hkr : ∀ r : Rw, fC M r = if r.kind = 1 then jL M r
    else if r.kind = 2 ∨ r.kind = 5 then mD M r
    else if r.kind = 3 ∨ r.kind = 4 ∨ r.kind = 6 then fP M r
    else if r.kind = 7 ∨ r.kind = 8 then ik M r
    else if r.kind = 9 then mJ M r.by'
    else if r.kind = 10 then ((0, 0, 0, 0, 0, 0, lH M 1 1, lH M 2 3, lH M 4 4), M)
    else if r.kind = 11 then ((0, 0, 0, 0, 0, 0, nO M 1, nO M 2, nO M 3), M)
    else if r.kind = 12 then ((0, 0, 0, M.now, 0, 0, ax M M.now 0, 0, 0), M)
    else if r.kind = 13 then (fF 0, { M with cl := true })
    else (fF 4, M) := fun r => if_neg hcn
   by_cases hrd : R.ag.kind = 6 ∨ R.ag.kind = 10 ∨ R.ag.kind = 11 ∨ R.ag.kind = 12
   ·exact Lf hB hrd
   rw [hkr]
   have ek : (toW R.ag).kind = R.ag.kind := rfl
   rw [ek]
   by_cases k1 : R.ag.kind = 1
   ·rw [if_pos k1]; exact F6 hl hI hcl h1 hll ha hm hmx k1 ho
   rw [if_neg k1]
   by_cases k25 : R.ag.kind = 2 ∨ R.ag.kind = 5
   ·rw [if_pos k25]
    rcases k25 with k | k
    ·exact xH hB 5 (.inl ⟨k, rfl⟩)
    ·exact xH hB 4 (.inr ⟨k, rfl⟩)
   rw [if_neg k25]
   by_cases Vs : R.ag.kind = 3 ∨ R.ag.kind = 4 ∨ R.ag.kind = 6
   ·rw [if_pos Vs]
    rcases Vs with k | k | k
    ·exact Ld hB k
    ·exact CZ hB k
    ·exact absurd (.inl k) hrd
   rw [if_neg Vs]
   by_cases Jf : R.ag.kind = 7 ∨ R.ag.kind = 8
   ·rw [if_pos Jf]
    rcases Jf with k | k
    ·exact Jd hB k hnd
    ·exact F7 hB k hnd
   rw [if_neg Jf]
   by_cases k9 : R.ag.kind = 9
   ·rw [if_pos k9]; exact Lh hB hE k9
   rw [if_neg k9, if_neg (by omega), if_neg (by omega), if_neg (by omega)]
   by_cases k13 : R.ag.kind = 13
   ·rw [if_pos k13]; exact Lg hB k13 hrep
   rw [if_neg k13]
   exact Lc hB (by omega)
end
end Go.Proofs.YtelnhablglomjaaGreat

namespace Go.Proofs.YtelnhablglomjaaGreat
open Go.RowKit Go.Lib Go.Sort
section
variable {M : Md}
theorem Mi {r : Rw} (h : r.kind = 1) : fC M r = if M.cl = true then (fF 12, M) else jL M r := by
 unfold fC
 by_cases hc : M.cl = true
 ·rw [if_pos hc, if_pos hc]
 ·rw [if_neg hc, if_neg hc, if_pos h]
theorem RD {r : Rw} (h : (r.kind = 2 ∨ r.kind = 5)) : fC M r = if M.cl = true then (fF 12, M) else mD M r := by
 unfold fC
 by_cases hc : M.cl = true
 ·rw [if_pos hc, if_pos hc]
 ·rw [if_neg hc, if_neg hc, if_neg (show ¬ r.kind = 1 by omega), if_pos h]
theorem Mj {r : Rw} (h : (r.kind = 3 ∨ r.kind = 4 ∨ r.kind = 6)) : fC M r = if M.cl = true then (fF 12, M) else fP M r := by
 unfold fC
 by_cases hc : M.cl = true
 ·rw [if_pos hc, if_pos hc]
 ·rw [if_neg hc, if_neg hc, if_neg (show ¬ r.kind = 1 by omega), if_neg (show ¬ (r.kind = 2 ∨ r.kind = 5) by omega), if_pos h]
theorem RF {r : Rw} (h : (r.kind = 7 ∨ r.kind = 8)) : fC M r = if M.cl = true then (fF 12, M) else ik M r := by
 unfold fC
 by_cases hc : M.cl = true
 ·rw [if_pos hc, if_pos hc]
 ·rw [if_neg hc, if_neg hc, if_neg (show ¬ r.kind = 1 by omega), if_neg (show ¬ (r.kind = 2 ∨ r.kind = 5) by omega), if_neg (show ¬ (r.kind = 3 ∨ r.kind = 4 ∨ r.kind = 6) by omega), if_pos h]
theorem Mk {r : Rw} (h : r.kind = 9) : fC M r = if M.cl = true then (fF 12, M) else mJ M r.by' := by
 unfold fC
 by_cases hc : M.cl = true
 ·rw [if_pos hc, if_pos hc]
 ·rw [if_neg hc, if_neg hc, if_neg (show ¬ r.kind = 1 by omega), if_neg (show ¬ (r.kind = 2 ∨ r.kind = 5) by omega), if_neg (show ¬ (r.kind = 3 ∨ r.kind = 4 ∨ r.kind = 6) by omega), if_neg (show ¬ (r.kind = 7 ∨ r.kind = 8) by omega), if_pos h]
theorem RG {r r' : Rw} (h : r.kind = r'.kind) (h2 : ¬ (1 ≤ r.kind ∧ r.kind ≤ 9)) : fC M r = fC M r' := by
 unfold fC
 rw [h] at h2 ⊢
 by_cases hc : M.cl = true
 ·rw [if_pos hc, if_pos hc]
 ·have n1 : ¬ r'.kind = 1 := by omega
  have n2 : ¬ (r'.kind = 2 ∨ r'.kind = 5) := by omega
  have n3 : ¬ (r'.kind = 3 ∨ r'.kind = 4 ∨ r'.kind = 6) := by omega
  have n4 : ¬ (r'.kind = 7 ∨ r'.kind = 8) := by omega
  have n5 : ¬ r'.kind = 9 := by omega
  simp only [if_neg hc, if_neg n1, if_neg n2, if_neg n3, if_neg n4, if_neg n5]
theorem OE (M : Md) (r : Rq) : fC M (toW (gu r)) = fC M (toW r) := by
 unfold gu
 by_cases k1 : r.kind = 1
 ·rw [if_pos k1, Mi (r := toW r) k1, Mi (r := toW ⟨r.kind, 0, r.user, r.width, r.limit, r.prio, r.held, 0, 0⟩) k1]
  rfl
 rw [if_neg k1]
 by_cases k2 : r.kind = 2 ∨ r.kind = 3 ∨ r.kind = 4 ∨ r.kind = 5 ∨ r.kind = 6
 ·rw [if_pos k2]
  by_cases k25 : r.kind = 2 ∨ r.kind = 5
  ·rw [RD (r := toW r) k25, RD (r := toW ⟨r.kind, r.id, 0, 0, 0, 0, false, 0, 0⟩) k25]
   rfl
  ·have Un : r.kind = 3 ∨ r.kind = 4 ∨ r.kind = 6 := by omega
   rw [Mj (r := toW r) Un, Mj (r := toW ⟨r.kind, r.id, 0, 0, 0, 0, false, 0, 0⟩) Un]
   rfl
 rw [if_neg k2]
 by_cases Jf : r.kind = 7 ∨ r.kind = 8
 ·rw [if_pos Jf, RF (r := toW r) Jf, RF (r := toW ⟨r.kind, 0, 0, 0, 0, 0, false, r.node, 0⟩) Jf]
  rfl
 rw [if_neg Jf]
 by_cases k9 : r.kind = 9
 ·rw [if_pos k9, Mk (r := toW r) k9, Mk (r := toW ⟨r.kind, 0, 0, 0, 0, 0, false, 0, r.till⟩) k9]
  rfl
 rw [if_neg k9]
 exact RG rfl (by show ¬ (1 ≤ r.kind ∧ r.kind ≤ 9); omega)
theorem Jg (r : Rq) (h : -9223372036854775808 ≤ r.node ∧ r.node ≤ 9223372036854775807) : -9223372036854775808 ≤ (gu r).node ∧ (gu r).node ≤ 9223372036854775807 := by
 have z : -9223372036854775808 ≤ (0 : Int) ∧ (0 : Int) ≤ 9223372036854775807 := by decide
 unfold gu
 repeat' split
 all_goals first | exact z | exact h
structure Ok (M : Md) : Prop where
 inv : aF M
 calm : Calm M
 early : Early M
theorem Ok.new {n : Nat} (h : n ≤ 64) : Ok (dI n) := ⟨(GK h).1, (GK h).2, Le n⟩
theorem Ok.JF (h : Ok M) (r : Rw) : Ok (fC M r).2 := ⟨(h.inv.JF h.calm r).1, (h.inv.JF h.calm r).2, h.early.JF r⟩
theorem Ok.kG (h : Ok M) (id t : Int) : Ok (cO M id t).2 := ⟨(h.inv.kG h.calm id t).1, (h.inv.kG h.calm id t).2, h.early.kG id t⟩
end
section
variable {w : World} {b c t d p g : Nat} {v : Value} {m : Int} {M : Md}
theorem Jh (r : Rq) (hM : Ok M) (h1 : 1 ≤ M.dr.length) (hll : M.L.length ≤ 190) (hm : m + 1000 ≤ 1000000) (hnd : -9223372036854775808 ≤ r.node ∧ r.node ≤ 9223372036854775807) :
 fo 1000 (1 + 2 * M.L.length) m (jy r) (ah M) (Fin (m + 1000) (fC M (toW r)).2 (ma (fC M (toW r)).1) false) := by
 have hg := RB (a := 1 + 2 * M.L.length) (m := m) (mx := m + 1000) (R := jy r) rfl hM.inv hM.calm hM.early h1 hll (Nat.le_refl _) (Int.le_refl _) hm rfl rfl (Jg r hnd)
 rw [show (jy r).ag = gu r from rfl, OE] at hg
 exact hg
theorem Ga (i x : Int) (hM : Ok M) (h1 : 1 ≤ M.dr.length) (hll : M.L.length ≤ 190) (hm : m + 1000 ≤ 1000000) (hx : -9223372036854775808 ≤ x ∧ x ≤ 9223372036854775807) :
 fo 1000 (1 + 2 * M.L.length) m (zL i x) (ah M) (Fin (m + 1000) (cO M i x).2 (mg M) (cO M i x).1) :=
 F9 (a := 1 + 2 * M.L.length) (m := m) (mx := m + 1000) (R := zL i x) rfl hM.inv hM.calm h1 hll (Nat.le_refl _) (Int.le_refl _) hm rfl rfl hx
end
end Go.Proofs.YtelnhablglomjaaGreat

namespace Go.Proofs.YtelnhablglomjaaGreat
open Go.RowKit Go.Lib Go.Sort
section
variable {w : World} {b c t d p g a : Nat} {v : Value} {m : Int} {M : Md} {R : Wk}
theorem Eo (h : bK w b R) : Calls Tryz.prog 20 #[.pointer (some ⟨b, 0, none⟩)] w fun e w' => e = .returned (.agg (bV R.rep).toArray) ∧ Below w.heap.size w w' := by
 obtain ⟨y1, y2, y3, y4, y5, y6, y7, y8, y9, hy⟩ : ∃ y1 y2 y3 y4 y5 y6 y7 y8 y9, R.rep = ⟨y1, y2, y3, y4, y5, y6, y7, y8, y9⟩ := ⟨_, _, _, _, _, _, _, _, _, rfl⟩
 have h' : ∀ o, bK (w.alloc o) b R := fun o => (((Below.refl w.heap.size w).alloc (Nat.le_refl _) o).block b h.lt).trans h
 have c24 : ∀ o, (w.alloc o).cell? ⟨b, 24, none⟩ = some (.int .i64 y1) := fun o => (h' o).at 24 (.int .i64 y1) (by show some (Value.int .i64 R.rep.1) = _; rw [hy])
 have Y5 : ∀ o, (w.alloc o).cell? ⟨b, 25, none⟩ = some (.int .i64 y2) := fun o => (h' o).at 25 (.int .i64 y2) (by show some (Value.int .i64 R.rep.2) = _; rw [hy])
 have Y6 : ∀ o, (w.alloc o).cell? ⟨b, 26, none⟩ = some (.int .i64 y3) := fun o => (h' o).at 26 (.int .i64 y3) (by show some (Value.int .i64 R.rep.3) = _; rw [hy])
 have Y7 : ∀ o, (w.alloc o).cell? ⟨b, 27, none⟩ = some (.int .i64 y4) := fun o => (h' o).at 27 (.int .i64 y4) (by show some (Value.int .i64 R.rep.4) = _; rw [hy])
 have c28 : ∀ o, (w.alloc o).cell? ⟨b, 28, none⟩ = some (.int .i64 y5) := fun o => (h' o).at 28 (.int .i64 y5) (by show some (Value.int .i64 R.rep.5) = _; rw [hy])
 have Y8 : ∀ o, (w.alloc o).cell? ⟨b, 29, none⟩ = some (.int .i64 y6) := fun o => (h' o).at 29 (.int .i64 y6) (by show some (Value.int .i64 R.rep.6) = _; rw [hy])
 have Y9 : ∀ o, (w.alloc o).cell? ⟨b, 30, none⟩ = some (.int .i64 y7) := fun o => (h' o).at 30 (.int .i64 y7) (by show some (Value.int .i64 R.rep.7) = _; rw [hy])
 have c31 : ∀ o, (w.alloc o).cell? ⟨b, 31, none⟩ = some (.int .i64 y8) := fun o => (h' o).at 31 (.int .i64 y8) (by show some (Value.int .i64 R.rep.8) = _; rw [hy])
 have c32 : ∀ o, (w.alloc o).cell? ⟨b, 32, none⟩ = some (.int .i64 y9) := fun o => (h' o).at 32 (.int .i64 y9) (by show some (Value.int .i64 R.rep.9) = _; rw [hy])
 rw [hy]
 clear h h' hy
 go_enter Tryz.func20, Tryz.ntmps20
 go_wp2_with fail
 refine bH rfl rfl rfl (heap_alloc_new w _) Tryz.underlying53 rfl (by kernel_rfl) ⟨rfl, ?_⟩
 exact (Below.refl _ _).alloc (Nat.le_refl _) _
theorem Vt (h : bK w b R) : Calls Tryz.prog 58 #[.pointer (some ⟨b, 0, none⟩)] w fun e w' => e = .returned (.bool R.ok) ∧ w = w' := by
 have XT := h.at 33 (.bool R.ok) rfl
 clear h
 generalize R.ok = o at *
 go_enter Tryz.func58, Tryz.ntmps58
 go_wp2_with fail
 go_ret
 exact ⟨rfl, rfl⟩
end
end Go.Proofs.YtelnhablglomjaaGreat

namespace Go.Proofs.YtelnhablglomjaaGreat
open Go.RowKit Go.Lib
def mh (k : Int) : Bool := decide (k = 1) || decide (k = 3) || decide (k = 4) || decide (k = 2) || decide (k = 5) || decide (k = 7) || decide (k = 8) || decide (k = 9) || decide (k = 6) || decide (k = 11)
def mo (k : Int) : Bool := decide (k = 2) || decide (k = 5) || decide (k = 7) || decide (k = 8) || decide (k = 9) || decide (k = 10)
def mq (k : Int) : Bool := decide (k = 1) || decide (k = 3) || decide (k = 4) || decide (k = 2) || decide (k = 5) || decide (k = 7) || decide (k = 8) || decide (k = 9) || decide (k = 12)
theorem rZ (k : Int) (w : World) : Calls Tryz.prog 13 #[.int .i64 k] w fun e w' => e = .returned (bI (mh k) (mo k) (mq k)) ∧ Below w.heap.size w w' := by
 by_cases h1 : k = 1; · subst h1; exact OZ w
 by_cases h3 : k = 3; · subst h3; exact O0 w
 by_cases h4 : k = 4; · subst h4; exact O1 w
 by_cases h2 : k = 2; · subst h2; exact O4 w
 by_cases h5 : k = 5; · subst h5; exact O5 w
 by_cases h7 : k = 7; · subst h7; exact O6 w
 by_cases h8 : k = 8; · subst h8; exact O7 w
 by_cases h9 : k = 9; · subst h9; exact O8 w
 by_cases h6 : k = 6; · subst h6; exact O3 w
 by_cases h11 : k = 11; · subst h11; exact Mw w
 by_cases h10 : k = 10; · subst h10; exact Mx w
 by_cases h12 : k = 12; · subst h12; exact MC w
 have h := ME k w h1 h3 h4 h2 h5 h7 h8 h9 h6 h11 h10 h12
 rw [show mh k = false by simp [mh, *], show mo k = false by simp [mo, *], show mq k = false by simp [mq, *]]
 exact h
def qU (w : World) (o h : Nat) (r : Rq) : Prop := w.heap[o]? = some (.cells (Value.pointer (some ⟨h, 0, none⟩) :: encR r).toArray 47 (0, 0))
section
variable {w w' : World} {o h : Nat} {r : Rq} {H : Hd}
theorem qU.lt (q : qU w o h r) : o < w.heap.size := aD q
theorem qU.c0 (q : qU w o h r) : w.cell? ⟨o, 0, none⟩ = some (.pointer (some ⟨h, 0, none⟩)) := by simp [World.cell?, show w.heap[o]? = _ from q]
theorem nX (q : qU w o h r) (qh : bB w h H) : Calls Tryz.prog 14 #[.pointer (some ⟨o, 0, none⟩)] w fun e w' => e = .returned (.bool (H.st == 5)) ∧ w = w' := by
 have c0 := q.c0
 have hs := kV qh
 clear q qh
 go_enter Tryz.func14, Tryz.ntmps14
 go_wp2_with (go_at_call 27; go_must (refine hs.mono ?_); rintro e w' ⟨rfl, rfl⟩)
 go_ret
 exact ⟨rfl, rfl⟩
theorem OG (x y z : Bool) (w : World) : Calls Tryz.prog 17 #[bI x y z] w fun e w' => e = .returned (.int .i64 (2 * Da x y z + 2)) ∧ Below w.heap.size w w' := by
 have hb1 : Below w.heap.size w (w.alloc (.cells #[.bool x, .bool y, .bool z] 42)) := (Below.refl _ _).alloc (Nat.le_refl _) _
 have hl := Sa x y z (w.alloc (.cells #[.bool x, .bool y, .bool z] 42))
 have hr : 0 ≤ Da x y z ∧ Da x y z ≤ 3 := by cases x <;> cases y <;> cases z <;> decide
 generalize Da x y z = n at *
 have w1 : IntKind.i64.wrap (2 * n) = 2 * n := IntWalk.i64_in _ (by omega)
 have w2 : IntKind.i64.wrap (2 * n + 2) = 2 * n + 2 := IntWalk.i64_in _ (by omega)
 unfold bI at *
 replace hb1 := Lib.hid hb1
 go_enter Tryz.func17, Tryz.ntmps17
 go_wp2_with (go_at_call 18; go_must (refine hl.mono ?_); rintro e w' ⟨rfl, hb⟩)
 go_ret
 exact ⟨rfl, hb1.out.trans (hb.mono hb1.out.size)⟩
def kR (b : Nat) (who : Int) (r : Rq) : Hd := wO b who (mh r.kind) (mo r.kind) (mq r.kind)
theorem Ep (r : Rq) (who : Int) (w : World) : Calls Tryz.prog 9 #[.agg (encR r).toArray, .int .i64 who] w fun e w' => ∃ o h b, e = .returned (.pointer (some ⟨o, 0, none⟩)) ∧ qU w' o h (gu r) ∧ bB w' h (kR b who r) ∧ bK w' b (jy r) ∧ w.heap.size ≤ o ∧ w.heap.size ≤ h ∧ w.heap.size ≤ b ∧ Below w.heap.size w w' := by
 have zR := jZ
 have lR := gK r
 obtain ⟨k9, bP⟩ : ∃ k, k = 9 := ⟨_, rfl⟩
 rw [← bP] at zR lR
 have hk0 : ¬ k9 = 0 := by omega
 replace bP := Lib.hid bP
 obtain ⟨wA, aJ⟩ : ∃ wA, wA = w.alloc (.cells (encR r).toArray 24) := ⟨_, rfl⟩
 have bN : Hid (Below w.heap.size w wA) := by show Below _ _ _; rw [aJ]; exact (Below.refl _ _).alloc (Nat.le_refl _) _
 have nW : wA.heap[w.heap.size]? = some (.cells (encR r).toArray 24 (0, 0)) := by rw [aJ]; exact heap_alloc_new w _
 have hlA : Hid (w.heap.size < wA.heap.size) := aD nW
 have hz := Lib.hid nW
 have hld : Hid (∀ W, Below wA.heap.size wA W → Sem.run Tryz.prog (loadCellsFrom ⟨w.heap.size, 0, none⟩ 0 k9 #[]) W = .ok (encR r).toArray W) := fun W hW => eZ ((hW.block _ hlA.out).trans hz.out) lR
 have hki : Hid (∀ W, Below wA.heap.size wA W → W.cell? ⟨w.heap.size, 0, none⟩ = some (.int .i64 r.kind)) := fun W hW => je ((hW.block _ hlA.out).trans hz.out) 0 _ rfl
 clear nW lR
 obtain ⟨cR, hcR⟩ : ∃ cR, cR = encR r := ⟨_, rfl⟩
 have Xl := Lib.hid (zM r)
 have U1 := Lib.hid (D8 r)
 rw [← hcR] at hld Xl U1 aJ ⊢
 replace hcR := Lib.hid hcR
 go_enter Tryz.func9, Tryz.ntmps9
 go_wp2_with fail
 rw [← aJ]
 replace aJ := Lib.hid aJ
 refine Reg2.sJ 8 16 [[],[ae],[af,af],[af,af,af],[af,af,af,ae],[ae,ae,af,ae,ae],[ae,ae,ae,ae,ae,ae],[af,af,af,af,af,af,af]] [1, 1, 0, 0, 1, 1, 1, 1]
  [.mU (.agg cR.toArray), .minor Nat 0 (fun q => .pointer (some ⟨q, 0, none⟩)) (fun q W => wA.heap.size ≤ q ∧ bK W q (jy r)), .pure, .pure, .mU (.int .i64 r.kind), .mU (bI (mh r.kind) (mo r.kind) (mq r.kind)), .minor Nat 0 (fun q => .pointer (some ⟨q, 0, none⟩)) (fun q W => wA.heap.size ≤ q ∧ ∃ b, wA.heap.size ≤ b ∧ bK W b (jy r) ∧ bB W q (kR b who r)), .mU (.agg cR.toArray)]
  (fun W => Below wA.heap.size wA W) (fun _ _ => True) (fun a b => Below a.heap.size a b) (by kernel_rfl) (by kernel_rfl) rfl rfl (fun vs a b h hs => trivial) ?_ ?_ ?_ ?_ ?_ ?_
 ·intro a b he hb; exact hb.trans (Below.mono he hb.size)
 ·intro a b he hb; exact hb.trans (Below.mono he hb.size)
 ·have k1 : ∀ (x : Nat) (a b : World), Below a.heap.size a b → (wA.heap.size ≤ x ∧ bK a x (jy r)) → wA.heap.size ≤ x ∧ bK b x (jy r) := fun x a b he h => ⟨h.1, (he.block _ h.2.lt).trans h.2⟩
  have k2 : ∀ (x : Nat) (a b : World), Below a.heap.size a b → (wA.heap.size ≤ x ∧ ∃ b, wA.heap.size ≤ b ∧ bK a b (jy r) ∧ bB a x (kR b who r)) → wA.heap.size ≤ x ∧ ∃ c, wA.heap.size ≤ c ∧ bK b c (jy r) ∧ bB b x (kR c who r) := fun x a b he h => by
   obtain ⟨h1, c, h2, h3, h4⟩ := h
   exact ⟨h1, c, h2, (he.block _ h3.lt).trans h3, (he.block _ h4.lt).trans h4⟩
  exact ⟨⟨fun _ _ _ _ _ => trivial, fun _ _ _ _ _ => trivial⟩, ⟨k1, k1⟩, trivial, trivial, ⟨fun _ _ _ _ _ => trivial, fun _ _ _ _ _ => trivial⟩, ⟨fun _ _ _ _ _ => trivial, fun _ _ _ _ _ => trivial⟩, ⟨k2, k2⟩, ⟨fun _ _ _ _ _ => trivial, fun _ _ _ _ _ => trivial⟩, trivial⟩
 ·exact ⟨rfl, rfl, rfl, Nat.le_refl _, fun _ _ => rfl⟩
 ·trivial
 dsimp only [Reg2.mk, List.zip, List.zipWith, List.take]
 refine Reg2.pm (fun wz hI hF => ?_) (fun r0 => ?_) (by rfl)
 ·have d0 := hld.out wz hI
  go_wp2_with fail
  first | exact ⟨_, rfl, rfl, Reg2.Ext.refl _⟩ | exact ⟨_, rfl, ⟨(), rfl, trivial⟩, Reg2.Ext.refl _⟩
 simp only [Act.put, xA, xB, xC, xD, xE, id]
 refine Reg2.pm (fun wz hI hF => ?_) (fun r1 => ?_) (by rfl)
 ·have hc := Xl.out wz
  go_wp2_with fail
  go_at_call 10
  refine hc.mono ?_
  clear hc
  rintro e w2 ⟨b, rfl, hW, hlo, hb⟩
  have hlo2 := hI.size
  go_wp2_with fail
  exact ⟨_, rfl, ⟨b, rfl, by omega, hW⟩, hb⟩
 simp only [Act.put, xA, xB, xC, xD, xE, id]
 repeat ((first
  | (refine' Reg2.ak _ (by rfl) (fun wz => ?_) ?_; rotate_left; (go_simp; first | rfl | rw [if_neg (by omega)]))
  | (refine Reg2.az (by rfl) (fun wz hI hF => ?_) (fun _ => ?_)
     ·unfold Reg2.One
      have d0 := hki.out wz hI
      go_wp2_with fail
      first | exact ⟨_, rfl, rfl, Reg2.Ext.refl _⟩ | exact ⟨_, rfl, ⟨(), rfl, trivial⟩, Reg2.Ext.refl _⟩)); simp only [Act.put, xA, xB, xC, xD, xE, id])
 refine Reg2.pm (fun wz hI hF => ?_) (fun r5 => ?_) (by rfl)
 ·have hc := rZ r.kind wz
  go_wp2_with fail
  go_at_call 13
  refine hc.mono ?_
  clear hc
  rintro e w2 ⟨rfl, hb⟩
  go_wp2_with fail
  first | exact ⟨_, rfl, rfl, hb⟩ | exact ⟨_, rfl, ⟨(), rfl, trivial⟩, hb⟩
 simp only [Act.put, xA, xB, xC, xD, xE, id]
 refine Reg2.pm (fun wz hI hF => ?_) (fun r6 => ?_) (by rfl)
 ·have hW1 := hF.2.1.2
  have hl1 := hF.2.1.1
  have hc := Gv r1 who (mh r.kind) (mo r.kind) (mq r.kind) wz
  replace hW1 := Lib.hid hW1
  clear hF
  go_wp2_with fail
  go_at_call 39
  refine hc.mono ?_
  clear hc
  rintro e w2 ⟨b, rfl, hH, hlo, hb⟩
  have hlo2 := hI.size
  have hW2 : bK w2 r1 (jy r) := (hb.block _ hW1.out.lt).trans hW1.out
  go_wp2_with fail
  exact ⟨_, rfl, ⟨b, rfl, by omega, r1, hl1, hW2, hH⟩, hb⟩
 simp only [Act.put, xA, xB, xC, xD, xE, id]
 refine Reg2.pm (fun wz hI hF => ?_) (fun r7 => ?_) (by rfl)
 ·have d0 := hld.out wz hI
  go_wp2_with fail
  first | exact ⟨_, rfl, rfl, Reg2.Ext.refl _⟩ | exact ⟨_, rfl, ⟨(), rfl, trivial⟩, Reg2.Ext.refl _⟩
 simp only [Act.put, xA, xB, xC, xD, xE, id]
 refine Reg2.aA ?_
 intro w1 HI _ HF
 obtain ⟨Za, b, hlb, Ty, hH6⟩ := HF.2.2.2.2.2.2.1
 clear HF hki r0 r5 r7
 dsimp only [List.drop]
 have hc := U1.out w1
 replace Ty := Lib.hid Ty
 replace hH6 := Lib.hid hH6
 go_wp2_with fail
 go_at_call 22
 refine hc.mono ?_
 clear hc
 rintro e w2 ⟨rfl, hb2⟩
 obtain ⟨y1, y2, y3, y4, y5, y6, y7, y8, y9, hy⟩ : ∃ y1 y2 y3 y4 y5 y6 y7 y8 y9, gu r = ⟨y1, y2, y3, y4, y5, y6, y7, y8, y9⟩ := ⟨_, _, _, _, _, _, _, _, _, rfl⟩
 obtain ⟨w3, hw3⟩ : ∃ w3, w3 = w2.alloc (.cells (Value.pointer (some ⟨r6, 0, none⟩) :: encR (gu r)).toArray 47) := ⟨_, rfl⟩
 have hb3 : Below w2.heap.size w2 w3 := by rw [hw3]; exact (Below.refl _ _).alloc (Nat.le_refl _) _
 have hO3 : qU w3 w2.heap.size r6 (gu r) := by show _ = _; rw [hw3]; exact heap_alloc_new w2 _
 have hH3 : bB w3 r6 (kR b who r) := hH6.out.below ((hb2.trans (hb3.mono hb2.size))) hH6.out.lt
 have hW3 : bK w3 b (jy r) := ((hb2.trans (hb3.mono hb2.size)).block _ Ty.out.lt).trans Ty.out
 have hbw : Below w.heap.size w w3 := bN.out.trans ((HI.trans ((hb2.trans (hb3.mono hb2.size)).mono HI.size)).mono bN.out.size)
 have hlo : w.heap.size ≤ w2.heap.size := Nat.le_trans bN.out.size (Nat.le_trans HI.size hb2.size)
 have hs := bN.out.size
 rw [show (Value.pointer (some ⟨r6, 0, none⟩) :: encR (gu r)).toArray = #[.pointer (some ⟨r6, 0, none⟩), .int .i64 y1, .int .i64 y2, .int .i64 y3, .int .i64 y4, .int .i64 y5, .int .i64 y6, .bool y7, .int .i64 y8, .int .i64 y9] by rw [hy]; rfl] at hw3
 rw [hy, show (encR ⟨y1, y2, y3, y4, y5, y6, y7, y8, y9⟩).toArray = #[.int .i64 y1, .int .i64 y2, .int .i64 y3, .int .i64 y4, .int .i64 y5, .int .i64 y6, .bool y7, .int .i64 y8, .int .i64 y9] from rfl]
 rw [hy] at hO3
 replace hy := Lib.hid hy
 replace hO3 := Lib.hid hO3
 replace hH3 := Lib.hid hH3
 replace hW3 := Lib.hid hW3
 replace hbw := Lib.hid hbw
 clear hb2 hb3 HI hld
 obtain rfl := bP.out
 go_wp2_with fail
 rw [← hw3]
 go_ret
 exact ⟨w2.heap.size, r6, b, rfl, by rw [hy.out]; exact hO3.out, hH3.out, hW3.out, hlo, by omega, by omega, hbw.out⟩
end
end Go.Proofs.YtelnhablglomjaaGreat

namespace Go.Proofs.YtelnhablglomjaaGreat
open Go.RowKit Go.Lib Go.Sort
theorem CW.Li {w w1 : World} {c t d p g a : Nat} {v : Value} {m : Int} {P : Pg} (h : CW w c t d p v g a m P) (blk : ∀ k, dR c t d p v g k → w1.heap[k]? = w.heap[k]?) : CW w1 c t d p v g a m P := by
 obtain ⟨S, aL, ⟨cap, hp1, hp2⟩, hrest⟩ := h.mG
 refine ⟨(blk c (.inl rfl)).trans h.cell, ⟨(blk t (.inr (.inl rfl))).trans h.eO.cell, bA h.eO.own fun k hk => blk k (.inr (.inr (.inr (.inr (.inl hk)))))⟩, (blk d (.inr (.inr (.inl rfl)))).trans h.nodes, S, aL, ⟨cap, (blk p (.inr (.inr (.inr (.inl rfl))))).trans hp1, bA hp2 fun k hk => ?_⟩, hrest⟩
 have e : k = g := by simpa [Value.ownBlock] using hk.symm
 exact blk k (.inr (.inr (.inr (.inr (.inr e)))))
def hK (b : Nat) : Nat → Hd
 | 0 => ⟨b, 1, false, false, true, 0, 2⟩
 | 1 => ⟨b, 1, false, false, true, 1, 3⟩
 | 2 => ⟨b, 1, false, false, true, 3, 2⟩
 | 3 => ⟨b, 1, false, false, true, 4, -1⟩
 | _ => ⟨b, 1, false, false, true, 5, -1⟩
def lK : Nat → Lk
 | 0 => ⟨0, 0, 0, 0⟩
 | 1 => ⟨0, 0, 1, 1⟩
 | 2 => ⟨0, 0, 1, 1⟩
 | _ => ⟨0, 0, 0, 1⟩
def rC : Rq := ⟨12, 0, 0, 0, 0, 0, false, 0, 0⟩
def wC : Wk := { jy rC with rep := ⟨0, 0, 0, 0, 0, 0, 3, 0, 0⟩, left := .nilFunc }
structure Tz (B : Nat) (W : World) (b c t d p : Nat) (v : Value) (g s h o k : Nat) : Prop where
 hd : bB W h (hK b k)
 lk : bS 32 W s (lK k)
 op : qU W o h rC
 core : k ≤ 1 → SW W b c t d p v g 1 0 (jy rC) (ah (dI 3))
 wk : 2 ≤ k → bK W b wC
structure Geo (B b c t d p : Nat) (v : Value) (g s h o : Nat) : Prop where
 lo : ∀ k, dR c t d p v g k → B ≤ k ∧ k < s
 gs : B ≤ s
 gh : s < h
 go : s < o
 gb : s < b
 Xm : h ≠ o
 Vu : h ≠ b
 Vv : o ≠ b
section
variable {B b c t d p g s h o k : Nat} {v : Value} {W : World}
theorem RH : (⟨0, 0, 0, (ah (dI 3)).now, 0, 0, (ah (dI 3)).f (ah (dI 3)).now, 0, 0⟩ : Ry) = ⟨0, 0, 0, 0, 0, 0, 3, 0, 0⟩ := by
 have h : (ah (dI 3)).f (ah (dI 3)).now = 3 := Ca 3 _
 rw [h]; rfl
theorem OH (G : Geo B b c t d p v g s h o) (C : Tz B W b c t d p v g s h o k) (hk : k < 4) (hB : B ≤ W.heap.size) :
 Calls Tryz.prog 16 #[.pointer (some ⟨h, 0, none⟩), .pointer (some ⟨c, 0, none⟩), .pointer (some ⟨s, 0, none⟩)] W fun e w' => e = .returned (.bool (k == 1)) ∧ Tz B w' b c t d p v g s h o (k + 1) ∧ Below B W w' := by
 have hne : h ≠ s := by have := G.gh; omega
 have gh := G.gh
 have go := G.go
 have gb := G.gb
 have gs := G.gs
 have Xm := G.Xm
 have Vu := G.Vu
 have Vv := G.Vv
 have hq : k = 0 ∨ k = 1 ∨ k = 2 ∨ k = 3 := by omega
 rcases hq with rfl | rfl | rfl | rfl
 ·refine (tq C.hd rfl C.lk (by decide) (show (0 : Int) ≤ 2 ∧ (2 : Int) ≤ 3 by decide) hne).mono ?_
  rintro e w' ⟨rfl, h1, h2, h3⟩
  have hS := C.core (by decide)
  refine ⟨rfl, ⟨h1, h2, (h3.block o C.op.lt (by omega)).trans C.op, fun _ => ⟨(h3.block b hS.wk.lt (by omega)).trans hS.wk, hS.cw.Li fun k hk => h3.block k (hS.cw.lt hk) (by have := (G.lo k hk).2; omega)⟩, fun h => by omega⟩, h3.below (fun k hk => by omega) hB⟩
 ·have hS := C.core (by decide)
  have hst := BM hS (k := 40) (l := true) (L := .nilFunc) rfl rfl (.inl ⟨rfl, rfl⟩) FO (zK hS rfl (by decide) rfl (zI hS (by decide) rfl))
  refine (tu C.hd (.inl rfl) (Q := fun w' => bK w' b wC ∧ bS 32 w' s (lK 2) ∧ qU w' o h rC ∧ bu (jl b c t d p v g) W w') true (hst.mono ?_)).mono ?_
  ·rintro e w' ⟨rfl, v', g', hS', hW'⟩
   have nf : ∀ q, s ≤ q → q ≠ b → ¬ jl b c t d p v g q := fun q h1 h2 h3 => h3.elim h2 fun h3 => by have := (G.lo q h3).2; omega
   refine ⟨rfl, ⟨?_, (hW'.heap C.lk.lt (nf s (Nat.le_refl _) (by omega))).trans C.lk, (hW'.heap C.op.lt (nf o (by omega) Vv)).trans C.op, hW'.off⟩, (hW'.heap C.hd.lt (nf h (by omega) Vu)).trans C.hd⟩
   have := hS'.wk
   rw [RH] at this
   exact this
  ·rintro e w' ⟨rfl, w1, ⟨h1, h2, h3, h4⟩, h5, h6⟩
   refine ⟨rfl, ⟨h5, (h6.block s h2.lt (by omega)).trans h2, (h6.block o h3.lt (by omega)).trans h3, fun h => by omega, fun _ => (h6.block b h1.lt (by omega)).trans h1⟩, (h4.below (fun k hk => hk.elim (fun e => by omega) fun hk => (G.lo k hk).1) hB).trans (h6.below (fun k hk => by omega) (Nat.le_trans hB h4.size))⟩
 ·refine (yU C.hd rfl C.lk (show (0 : Int) ≤ 2 ∧ (2 : Int) ≤ 3 by decide) hne).mono ?_
  rintro e w' ⟨rfl, h1, h2, h3⟩
  have hS := C.wk (by decide)
  exact ⟨rfl, ⟨h1, h2, (h3.block o C.op.lt (by omega)).trans C.op, fun h => by omega, fun _ => (h3.block b hS.lt (by omega)).trans hS⟩, h3.below (fun k hk => by omega) hB⟩
 ·refine (yV C.hd rfl _).mono ?_
  rintro e w' ⟨rfl, h1, h3⟩
  have hS := C.wk (by decide)
  exact ⟨rfl, ⟨h1, (h3.block s C.lk.lt (by omega)).trans C.lk, (h3.block o C.op.lt (by omega)).trans C.op, fun h => by omega, fun _ => (h3.block b hS.lt (by omega)).trans hS⟩, h3.below (fun k hk => by omega) hB⟩
theorem si (w : World) : Calls Tryz.prog 7 #[] w fun e w' => e = .returned (.bool true) ∧ Below w.heap.size w w' := by
 have hc := I8 3 w (by decide) (by decide)
 go_enter Tryz.func7, Tryz.ntmps7
 go_wp2_with fail
 go_at_call 35
 refine hc.mono ?_
 clear hc
 rintro e w1 ⟨c, t, d, p, v, g, rfl, sM, hb1⟩
 have hlt1 : Hid (∀ k, dR c t d p v g k → k < w1.heap.size) := fun k hk => sM.cw.lt hk
 obtain ⟨w2, hw2⟩ : ∃ w2, w2 = w1.alloc (.cells #[.int .i64 0, .int .i64 0, .int .i64 0, .int .i64 0] 32) := ⟨_, rfl⟩
 have hb2 : Below w1.heap.size w1 w2 := by rw [hw2]; exact (Below.refl _ _).alloc (Nat.le_refl _) _
 have hL2 : bS 32 w2 w1.heap.size (lK 0) := by rw [hw2]; exact heap_alloc_new w1 _
 obtain ⟨s, hs⟩ : ∃ s, s = w1.heap.size := ⟨_, rfl⟩
 have hC2 := Lib.hid (sM.cw.kept hb2)
 have hlo := Lib.hid sM.lo
 have hbw : Hid (Below w.heap.size w w2) := hb1.trans (hb2.mono hb1.size)
 have hss : Hid (w.heap.size ≤ s ∧ s < w2.heap.size) := ⟨by rw [hs]; exact hb1.size, by rw [hs]; exact hL2.lt⟩
 have hn := Ep rC 1 w2
 rw [show (encR rC).toArray = #[.int .i64 12, .int .i64 0, .int .i64 0, .int .i64 0, .int .i64 0, .int .i64 0, .bool false, .int .i64 0, .int .i64 0] from rfl] at hn
 rw [← hs] at hL2 hlt1
 replace hL2 := Lib.hid hL2
 clear hb2 hb1 sM
 go_wp2_with fail
 rw [← hw2, ← hs]
 replace hw2 := Lib.hid hw2
 replace hs := Lib.hid hs
 go_at_call 9
 refine hn.mono ?_
 clear hn
 rintro e w3 ⟨o, h, b, rfl, hO, hH, hW, lo, lh, lb, hb3⟩
 have G : Geo w.heap.size b c t d p v g s h o := by
  have h1 := hss.out
  refine ⟨fun k hk => ⟨hlo.out k hk, hlt1.out k hk⟩, h1.1, by omega, by omega, by omega, ?_, ?_, ?_⟩
  ·exact Put.aG hH hO (by decide)
  ·exact Put.aG hH hW (by decide)
  ·exact Put.aG hO hW (by decide)
 have C0 : Hid (Tz w.heap.size w3 b c t d p v g s h o 0) := ⟨hH, hL2.out.below hb3 hss.out.2, hO, fun _ => ⟨hW, hC2.out.kept hb3⟩, fun h => by omega⟩
 replace G := Lib.hid G
 have hb0 : Hid (Below w.heap.size w w3) := hbw.out.trans (hb3.mono hbw.out.size)
 clear hO hH hW lo lh lb hb3
 go_wp2_with fail
 go_loopw [5, 6] (fun tt ii wr => ∃ k : Nat, k ≤ 4 ∧ ii = .int .i64 k ∧ tt = .int .i64 (if k ≤ 1 then 0 else 1) ∧ Hid (Tz w.heap.size wr b c t d p v g s h o k) ∧ Hid (Below w.heap.size w wr)) (fun _ ii _ => 4 - (intOf ii).toNat)
 case atStart => exact ⟨0, by decide, rfl, rfl, C0, hb0⟩
 case round =>
  obtain ⟨k, hk, rfl, rfl, hC, hbr⟩ := hrel
  by_cases h4 : k < 4
  ·have b4 : (k : Int) < 4 := by omega
   have wk : IntKind.i64.wrap ((k : Int) + 1) = (k : Int) + 1 := IntWalk.i64_in _ (by omega)
   have hst := OH G.out hC.out h4 hbr.out.size
   have hf := nX hC.out.op hC.out.hd
   have hs5 : ((hK b k).st == 5) = false := by
    have : k = 0 ∨ k = 1 ∨ k = 2 ∨ k = 3 := by omega
    rcases this with rfl | rfl | rfl | rfl <;> rfl
   rw [hs5] at hf
   have c0 := hC.out.op.c0
   by_cases h1 : k = 1
   ·subst h1
    go_wp2_with (first | (go_at_call 14; go_must (refine hf.mono ?_); rintro e w' ⟨rfl, rfl⟩) | (go_at_call 16; go_must (refine hst.mono ?_); rintro e w' ⟨rfl, hz⟩; replace hz := Lib.hid hz))
    go_roundw
    case rel => exact ⟨2, by decide, by go_num, by go_num, hz.out.1, hbr.out.trans hz.out.2⟩
    case measure => simp [intOf]
   ·have e1 : (k == 1) = false := by simp [h1]
    rw [e1] at hst
    have e2 : (if k + 1 ≤ 1 then (0 : Int) else 1) = if k ≤ 1 then 0 else 1 := by
     by_cases hk0 : k = 0
     ·subst hk0; rfl
     ·rw [if_neg (by omega), if_neg (by omega)]
    replace e2 := Lib.hid e2
    generalize (if k ≤ 1 then (0 : Int) else 1) = tn at *
    go_wp2_with (first | (go_at_call 14; go_must (refine hf.mono ?_); rintro e w' ⟨rfl, rfl⟩) | (go_at_call 16; go_must (refine hst.mono ?_); rintro e w' ⟨rfl, hz⟩; replace hz := Lib.hid hz))
    go_roundw
    case rel => exact ⟨k + 1, by omega, by go_num, by rw [e2.out], hz.out.1, hbr.out.trans hz.out.2⟩
    case measure => simp [intOf]; omega
  ·obtain rfl : k = 4 := by omega
   have hf := nX hC.out.op hC.out.hd
   rw [show ((hK b 4).st == 5) = true from rfl] at hf
   have c0 := hC.out.op.c0
   have d0 := hC.out.hd.c0
   have hr := Eo (hC.out.wk (by decide))
   have e1 : ∀ W, Sem.run Tryz.prog (Instr.field 53 (.agg #[.int .i64 0, .int .i64 0, .int .i64 0, .int .i64 0, .int .i64 0, .int .i64 0, .int .i64 3, .int .i64 0, .int .i64 0]) 6) W = .ok (.int .i64 3) W := fun W => by kernel_rfl
   rw [show (bV wC.rep).toArray = #[.int .i64 0, .int .i64 0, .int .i64 0, .int .i64 0, .int .i64 0, .int .i64 0, .int .i64 3, .int .i64 0, .int .i64 0] from rfl] at hr
   go_wp2_with (first
    | (go_at_call 14; go_must (refine hf.mono ?_); rintro e w' ⟨rfl, rfl⟩)
    | (go_at_call 20; go_must (refine hr.mono ?_); rintro e w4 ⟨rfl, hb4⟩
       have hi := Pj (hC.out.lk.below hb4 hC.out.lk.lt)
       rw [show (lK 4).free = true from rfl] at hi
       have hnd := rZ 12 w4)
    | (go_at_call 19; go_must (refine hi.mono ?_); rintro e w' ⟨rfl, rfl⟩)
    | (go_at_call 13; go_must (refine hnd.mono ?_); rintro e w5 ⟨rfl, hb5⟩
       have hsp := OG (mh 12) (mo 12) (mq 12) w5)
    | (go_at_call 17; go_must (refine hsp.mono ?_); rintro e w6 ⟨rfl, hb6⟩))
   go_ret
   exact ⟨rfl, hbr.out.trans ((hb4.trans ((hb5.trans (hb6.mono hb5.size)).mono hb4.size)).mono hbr.out.size)⟩
end
end Go.Proofs.YtelnhablglomjaaGreat

namespace Go.Proofs.YtelnhablglomjaaGreat
def Hd.lane (H : Hd) (j : Int) : Bool := if j = 0 then H.x else if j = 1 then H.y else H.z
def Hd.has (H : Hd) (j : Int) : Bool := H.lane j && (if H.st = 0 then decide (j < H.lk) else if H.st = 3 then decide (j ≤ H.lk) else decide (H.st = 1 ∨ H.st = 2))
structure dG (H : Hd) (l o : Lk) : Prop where
 who : 0 < H.who
 a : l.a = if H.has 0 = true then H.who else o.a
 b : l.b = if H.has 1 = true then H.who else o.b
 c : l.c = if H.has 2 = true then H.who else o.c
 na : o.a ≠ H.who
 nb : o.b ≠ H.who
 nc : o.c ≠ H.who
 fa : H.has 0 = true → o.a = 0
 fb : H.has 1 = true → o.b = 0
 fc : H.has 2 = true → o.c = 0
 st : (H.st = 0 ∧ (H.lk = 0 ∧ H.x = true ∨ H.lk = 1 ∧ H.y = true ∨ H.lk = 2 ∧ H.z = true)) ∨ H.st = 1 ∨ H.st = 2 ∨ (H.st = 3 ∧ (H.lk = 0 ∧ H.x = true ∨ H.lk = 1 ∧ H.y = true ∨ H.lk = 2 ∧ H.z = true)) ∨ H.st = 4 ∨ H.st = 5
section
variable {H : Hd} {l o : Lk}
theorem dG.Vw (h : dG H l o) (h0 : H.st = 0 ∨ H.st = 3) : 0 ≤ H.lk ∧ H.lk ≤ 2 := by
 have := h.st
 omega
theorem dG.own (h : dG H l o) (h0 : H.st = 0) : l.own H.lk = o.own H.lk := by
 obtain ⟨wk, who, x, y, z, st, lk⟩ := H
 obtain ⟨h1, a, b, c, na, nb, nc, fa, fb, fc, hs⟩ := h
 simp only [Hd.has, Hd.lane] at *
 subst h0
 rcases hs with ⟨_, ⟨rfl, rfl⟩ | ⟨rfl, rfl⟩ | ⟨rfl, rfl⟩⟩ | hs | hs | ⟨hs, _⟩ | hs | hs <;> simp_all [Lk.own]
theorem dG.take (h : dG H l o) (h0 : H.st = 0) (hf : o.own H.lk = 0) : l.kF H.lk H.who = 0 ∧ dG (H.want (H.lk + 1)) (l.kT H.lk H.who) o := by
 have ho := h.own h0
 obtain ⟨wk, who, x, y, z, st, lk⟩ := H
 obtain ⟨la, lb, lc, ln⟩ := l
 obtain ⟨h1, a, b, c, na, nb, nc, fa, fb, fc, hs⟩ := h
 have hl : gM lk who = false := by
  unfold gM wG
  simp only at hs h1 h0
  have : (0 ≤ lk ∧ lk < 3) := by omega
  simp [this, h1]
 have e0 : Lk.kF ⟨la, lb, lc, ln⟩ lk who = 0 := by
  unfold Lk.kF
  simp only at *
  rw [hl, if_neg (by decide), ho, hf, if_pos rfl, if_neg]
  subst h0
  simp only [Hd.has, Hd.lane] at *
  rcases hs with ⟨_, ⟨rfl, rfl⟩ | ⟨rfl, rfl⟩ | ⟨rfl, rfl⟩⟩ | hs | hs | ⟨hs, _⟩ | hs | hs <;> simp_all [Lk.own, Lk.later]
 refine ⟨e0, ?_⟩
 unfold Lk.kT
 simp only at *
 rw [e0, if_pos rfl]
 subst h0
 simp only [Hd.has, Hd.lane] at *
 rcases hs with ⟨_, ⟨rfl, rfl⟩ | ⟨rfl, rfl⟩ | ⟨rfl, rfl⟩⟩ | hs | hs | ⟨hs, _⟩ | hs | hs <;> (try (simp at hs; done))
 ·cases y <;> cases z <;> constructor <;> simp_all [Hd.want, dF, Hd.has, Hd.lane, Lk.put, Lk.own]
 ·cases x <;> cases z <;> constructor <;> simp_all [Hd.want, dF, Hd.has, Hd.lane, Lk.put, Lk.own]
 ·cases x <;> cases y <;> constructor <;> simp_all [Hd.want, dF, Hd.has, Hd.lane, Lk.put, Lk.own]
theorem dG.stays (h : dG H l o) (h0 : H.st = 0) (hf : o.own H.lk ≠ 0) : l.kF H.lk H.who ≠ 0 := by
 have ho := h.own h0
 unfold Lk.kF
 rw [ho, if_neg hf]
 split
 ·decide
 ·split <;> decide
theorem dG.part (h : dG H l o) (h2 : H.st = 1 ∨ H.st = 2) (dn : Bool) : dG (H.part dn) l o := by
 obtain ⟨wk, who, x, y, z, st, lk⟩ := H
 obtain ⟨h1, a, b, c, na, nb, nc, fa, fb, fc, hs⟩ := h
 simp only [Hd.has, Hd.lane] at *
 clear hs
 rcases h2 with rfl | rfl <;> cases dn <;> cases x <;> cases y <;> cases z <;> constructor <;> simp_all [Hd.part, Hd.yield, iZ, Hd.has, Hd.lane]
theorem dG.give (h : dG H l o) (h3 : H.st = 3) : l.iL H.lk H.who = 0 ∧ dG H.give (l.ic H.lk H.who) o := by
 obtain ⟨wk, who, x, y, z, st, lk⟩ := H
 obtain ⟨la, lb, lc, ln⟩ := l
 obtain ⟨h1, a, b, c, na, nb, nc, fa, fb, fc, hs⟩ := h
 simp only [Hd.has, Hd.lane] at *
 subst h3
 rcases hs with ⟨hs, _⟩ | hs | hs | ⟨_, ⟨rfl, rfl⟩ | ⟨rfl, rfl⟩ | ⟨rfl, rfl⟩⟩ | hs | hs <;> (try (simp at hs; done))
 ·have e0 : Lk.iL ⟨la, lb, lc, ln⟩ 0 who = 0 := by simp_all [Lk.iL, gM, wG, Lk.own]
  refine ⟨e0, ?_⟩
  unfold Lk.ic
  rw [e0, if_pos rfl]
  clear e0
  cases y <;> cases z <;> constructor <;> simp_all [Hd.give, Hd.yield, iZ, Hd.has, Hd.lane, Lk.put]
 ·have e0 : Lk.iL ⟨la, lb, lc, ln⟩ 1 who = 0 := by simp_all [Lk.iL, gM, wG, Lk.own]
  refine ⟨e0, ?_⟩
  unfold Lk.ic
  rw [e0, if_pos rfl]
  clear e0
  cases x <;> cases z <;> constructor <;> simp_all [Hd.give, Hd.yield, iZ, Hd.has, Hd.lane, Lk.put]
 ·have e0 : Lk.iL ⟨la, lb, lc, ln⟩ 2 who = 0 := by simp_all [Lk.iL, gM, wG, Lk.own]
  refine ⟨e0, ?_⟩
  unfold Lk.ic
  rw [e0, if_pos rfl]
  clear e0
  cases x <;> cases y <;> constructor <;> simp_all [Hd.give, Hd.yield, iZ, Hd.has, Hd.lane, Lk.put]
theorem dG.tell (h : dG H l o) (h4 : H.st = 4) : dG { H with st := 5 } l o := by
 obtain ⟨wk, who, x, y, z, st, lk⟩ := H
 obtain ⟨h1, a, b, c, na, nb, nc, fa, fb, fc, hs⟩ := h
 simp only [Hd.has, Hd.lane] at *
 subst h4
 constructor <;> simp_all [Hd.has, Hd.lane]
theorem dG.new (wk : Nat) {who : Int} (x y z : Bool) (hw : 0 < who) (ha : o.a ≠ who) (hb : o.b ≠ who) (hc : o.c ≠ who) : dG (wO wk who x y z) o o := by
 cases x <;> cases y <;> cases z <;> constructor <;> simp_all [wO, Hd.want, dF, Hd.has, Hd.lane]
end
end Go.Proofs.YtelnhablglomjaaGreat

namespace Go.Proofs.YtelnhablglomjaaGreat
def Hd.up (H : Hd) : Nat := (H.x && decide (H.lk ≤ 0)).toNat + (H.y && decide (H.lk ≤ 1)).toNat + (H.z && decide (H.lk ≤ 2)).toNat
def Hd.dn (H : Hd) : Nat := (H.x && decide (0 ≤ H.lk)).toNat + (H.y && decide (1 ≤ H.lk)).toNat + (H.z && decide (2 ≤ H.lk)).toNat
def Hd.len (H : Hd) : Nat := H.x.toNat + H.y.toNat + H.z.toNat
def Hd.rem (H : Hd) (K : Nat) : Nat := if H.st = 0 then H.up + K + H.len + 1 else if H.st = 1 ∨ H.st = 2 then K + H.len + 1 else if H.st = 3 then H.dn + 1 else if H.st = 4 then 1 else 0
def Hd.fr (H : Hd) (o : Lk) : Prop := H.st ≠ 0 → (H.x = true → o.a = 0) ∧ (H.y = true → o.b = 0) ∧ (H.z = true → o.c = 0)
section
variable {H : Hd} {l o : Lk}
theorem dG.RI (h : dG H l o) (h0 : H.st = 0) (hf : o.own H.lk = 0) : (H.want (H.lk + 1)).fr o := by
 have h2 := (h.take h0 hf).2
 obtain ⟨wk, who, x, y, z, st, lk⟩ := H
 have fa := h2.fa
 have fb := h2.fb
 have fc := h2.fc
 have hs := h.st
 simp only [Hd.has, Hd.lane, Hd.want, Hd.fr] at *
 subst h0
 clear h h2
 rcases hs with ⟨_, ⟨rfl, rfl⟩ | ⟨rfl, rfl⟩ | ⟨rfl, rfl⟩⟩ | hs | hs | ⟨hs, _⟩ | hs | hs <;> (try (simp at hs; done))
 ·cases y <;> cases z <;> simp_all [dF, Lk.own]
 ·cases x <;> cases z <;> simp_all [dF, Lk.own]
 ·cases x <;> cases y <;> simp_all [dF, Lk.own]
theorem dG.OI (h : dG H l o) (h0 : H.st = 0) (K : Nat) : (H.want (H.lk + 1)).rem K + 1 = H.rem K := by
 obtain ⟨wk, who, x, y, z, st, lk⟩ := H
 have hs := h.st
 clear h
 simp only at hs h0
 subst h0
 rcases hs with ⟨_, ⟨rfl, rfl⟩ | ⟨rfl, rfl⟩ | ⟨rfl, rfl⟩⟩ | hs | hs | ⟨hs, _⟩ | hs | hs <;> (try (simp at hs; done))
 ·cases y <;> cases z <;> simp [Hd.want, dF, Hd.rem, Hd.up, Hd.len] <;> omega
 ·cases x <;> cases z <;> simp [Hd.want, dF, Hd.rem, Hd.up, Hd.len] <;> omega
 ·cases x <;> cases y <;> simp [Hd.want, dF, Hd.rem, Hd.up, Hd.len] <;> omega
theorem Hd.OJ (h1 : H.st = 1 ∨ H.st = 2) (K : Nat) : (H.part false).rem K + 1 = H.rem (K + 1) := by
 obtain ⟨wk, who, x, y, z, st, lk⟩ := H
 simp only at h1
 rcases h1 with rfl | rfl <;> simp [Hd.part, Hd.rem, Hd.len] <;> omega
theorem Hd.OL (h1 : H.st = 1 ∨ H.st = 2) (K : Nat) : (H.part true).rem K + 1 = H.rem 1 := by
 obtain ⟨wk, who, x, y, z, st, lk⟩ := H
 simp only at h1
 rcases h1 with rfl | rfl <;> cases x <;> cases y <;> cases z <;> simp [Hd.part, Hd.yield, iZ, Hd.rem, Hd.len, Hd.dn]
theorem dG.OM (h : dG H l o) (h3 : H.st = 3) (K : Nat) : H.give.rem K + 1 = H.rem K := by
 obtain ⟨wk, who, x, y, z, st, lk⟩ := H
 have hs := h.st
 clear h
 simp only at hs h3
 subst h3
 rcases hs with ⟨hs, _⟩ | hs | hs | ⟨_, ⟨rfl, rfl⟩ | ⟨rfl, rfl⟩ | ⟨rfl, rfl⟩⟩ | hs | hs <;> (try (simp at hs; done))
 ·cases y <;> cases z <;> simp [Hd.give, Hd.yield, iZ, Hd.rem, Hd.dn, Hd.len]
 ·cases x <;> cases z <;> simp [Hd.give, Hd.yield, iZ, Hd.rem, Hd.dn, Hd.len]
 ·cases x <;> cases y <;> simp [Hd.give, Hd.yield, iZ, Hd.rem, Hd.dn, Hd.len]
theorem Hd.OO (h4 : H.st = 4) (K : Nat) : ({ H with st := 5 } : Hd).rem K + 1 = H.rem K := by
 simp [Hd.rem, h4]
theorem Hd.RJ (wk : Nat) (who : Int) (x y z : Bool) (K : Nat) : (wO wk who x y z).rem K = 2 * (wO wk who x y z).len + K + 1 := by
 cases x <;> cases y <;> cases z <;> simp [wO, Hd.want, dF, Hd.rem, Hd.up, Hd.len] <;> omega
theorem Hd.Ji {o : Lk} (h : H.fr o) (h1 : H.st = 1 ∨ H.st = 2) (dn : Bool) : (H.part dn).fr o := by
 have h2 := h (by omega)
 intro _
 cases dn <;> exact h2
theorem Hd.RL {o : Lk} (h : H.fr o) (h3 : H.st = 3) : H.give.fr o := fun _ => h (by omega)
theorem Hd.RN {o : Lk} (h : H.fr o) (h4 : H.st = 4) : ({ H with st := 5 } : Hd).fr o := fun _ => h (by omega)
theorem Hd.Vx (H : Hd) : H.up ≤ 3 := by
 unfold Hd.up
 have h : ∀ b : Bool, b.toNat ≤ 1 := fun b => by cases b <;> decide
 have := h (H.x && decide (H.lk ≤ 0))
 have := h (H.y && decide (H.lk ≤ 1))
 have := h (H.z && decide (H.lk ≤ 2))
 omega
theorem Hd.TA (H : Hd) : H.len ≤ 3 := by
 unfold Hd.len
 have h : ∀ b : Bool, b.toNat ≤ 1 := fun b => by cases b <;> decide
 have := h H.x
 have := h H.y
 have := h H.z
 omega
theorem Hd.TB (wk : Nat) (who : Int) (x y z : Bool) (o : Lk) : (wO wk who x y z).fr o := by
 cases x <;> cases y <;> cases z <;> simp [wO, Hd.want, dF, Hd.fr]
end
end Go.Proofs.YtelnhablglomjaaGreat

namespace Go.Proofs.YtelnhablglomjaaGreat
open Go.RowKit Go.Lib Go.Sort
theorem SW.Li {w w1 : World} {b c t d p g a : Nat} {v : Value} {m : Int} {R : Wk} {P : Pg} (h : SW w b c t d p v g a m R P) (blk : ∀ k, jl b c t d p v g k → w1.heap[k]? = w.heap[k]?) : SW w1 b c t d p v g a m R P :=
 ⟨(blk b (.inl rfl)).trans h.wk, h.cw.Li fun k hk => blk k (.inr hk)⟩
structure Sd where
 v : Value
 g : Nat
 a : Nat
 m : Int
 R : Wk
 P : Pg
structure Rn (B : Nat) (W : World) (o h s b c t d p : Nat) (S0 S : Sd) (H : Hd) (l u : Lk) (rc : Rq) (K : Nat) (Q : Nat → Int → Wk → Pg → Prop) : Prop where
 op : qU W o h rc
 hd : bB W h H
 wk : H.wk = b
 lk : bS 32 W s l
 ln : 0 ≤ l.n ∧ (H.st = 0 → l.n + H.up ≤ 10)
 lock : dG H l u
 fr : H.fr u
 sw : SW W b c t d p S.v S.g S.a S.m S.R S.P
 run : H.st ≤ 2 → Run K S.a S.m S.R S.P Q
 done : 3 ≤ H.st → Q S.a S.m S.R S.P
 bg : H.st ≤ 1 → S = S0
 lo : ∀ k, jl b c t d p S.v S.g k → B ≤ k
 lo2 : B ≤ h ∧ B ≤ s
section
variable {B o h s b c t d p K : Nat} {W W' : World} {S0 S : Sd} {H : Hd} {l u : Lk} {rc : Rq} {Q : Nat → Int → Wk → Pg → Prop}
theorem Rn.nh (X : Rn B W o h s b c t d p S0 S H l u rc K Q) : ¬ jl b c t d p S.v S.g h := by
 rintro (e | hf)
 ·exact Put.aG X.hd X.sw.wk (by decide) e
 ·exact X.sw.cw.other X.hd (by decide) hf
theorem Rn.ns (X : Rn B W o h s b c t d p S0 S H l u rc K Q) : ¬ jl b c t d p S.v S.g s := by
 rintro (e | hf)
 ·exact Put.aG X.lk X.sw.wk (by decide) e
 ·exact X.sw.cw.other X.lk (by decide) hf
theorem Rn.no (X : Rn B W o h s b c t d p S0 S H l u rc K Q) : ¬ jl b c t d p S.v S.g o := by
 rintro (e | hf)
 ·exact Put.aG X.op X.sw.wk (by decide) e
 ·exact X.sw.cw.other X.op (by decide) hf
theorem Rn.hs (X : Rn B W o h s b c t d p S0 S H l u rc K Q) : h ≠ s := Put.aG X.hd X.lk (by decide)
theorem Rn.oh (X : Rn B W o h s b c t d p S0 S H l u rc K Q) : o ≠ h ∧ o ≠ s := ⟨Put.aG X.op X.hd (by decide), Put.aG X.op X.lk (by decide)⟩
theorem Rn.kept (X : Rn B W o h s b c t d p S0 S H l u rc K Q) (hb : Below W.heap.size W W') : Rn B W' o h s b c t d p S0 S H l u rc K Q :=
 ⟨(hb.block _ X.op.lt).trans X.op, X.hd.below hb X.hd.lt, X.wk, X.lk.below hb X.lk.lt, X.ln, X.lock, X.fr, X.sw.kept hb, X.run, X.done, X.bg, X.lo, X.lo2⟩
theorem Rn.turn {H' : Hd} {l' : Lk} (X : Rn B W o h s b c t d p S0 S H l u rc K Q) (hH : bB W' h H') (hl : bS 32 W' s l') (ho : bu (fun k => k = h ∨ k = s) W W') (hw : H'.wk = H.wk) (hn : 0 ≤ l'.n ∧ (H'.st = 0 → l'.n + H'.up ≤ 10)) (hL : dG H' l' u) (hf : H'.fr u)
 (h1 : H'.st ≤ 2 → H.st ≤ 2) (h2 : 3 ≤ H'.st → 3 ≤ H.st) (h3 : H'.st ≤ 1 → H.st ≤ 1) : Rn B W' o h s b c t d p S0 S H' l' u rc K Q :=
 ⟨(ho.block _ X.op.lt (by have := X.oh; omega)).trans X.op, hH, hw.trans X.wk, hl, hn, hL, hf,
   X.sw.Li fun k hk => ho.block k (X.sw.lt hk) (fun e => e.elim (fun e => X.nh (e ▸ hk)) (fun e => X.ns (e ▸ hk))), fun h => X.run (h1 h), fun h => X.done (h2 h), fun h => X.bg (h3 h), X.lo, X.lo2⟩
def TC (B : Nat) (W : World) (o h s b c t d p : Nat) (S0 S : Sd) (H : Hd) (u : Lk) (rc : Rq) (K : Nat) (Q : Nat → Int → Wk → Pg → Prop) (e : Ending) (W' : World) : Prop :=
 e = .returned (.bool (H.st == 1)) ∧ Below B W W' ∧ (H.st = 0 → bu (fun k => k = h ∨ k = s) W W') ∧ bu (fun k => jl b c t d p S.v S.g k ∨ k = h ∨ k = s) W W' ∧ ∃ S' H' l' K', Rn B W' o h s b c t d p S0 S' H' l' u rc K' Q ∧ H'.rem K' + 1 = H.rem K ∧ H.st ≤ H'.st ∧ (1 ≤ H.st → 2 ≤ H'.st) ∧ H'.who = H.who ∧ H'.x = H.x ∧ H'.y = H.y ∧ H'.z = H.z
theorem Jj (H : Hd) (k : Int) : (H.want k).st = 0 ∨ (H.want k).st = 1 := by unfold Hd.want; simp only; split <;> simp
theorem Er (H : Hd) (k : Int) : (H.yield k).st = 3 ∨ (H.yield k).st = 4 := by unfold Hd.yield; simp only; split <;> simp
theorem RO {l : Lk} {k who : Int} (h : l.kF k who = 0) : (l.kT k who).n = l.n + 1 := by unfold Lk.kT; rw [if_pos h]
theorem TD (l : Lk) (k who : Int) : (l.ic k who).n = l.n := by unfold Lk.ic; split <;> rfl
theorem RP (X : Rn B W o h s b c t d p S0 S H l u rc K Q) (h5 : H.st ≠ 5) (hf : H.st = 0 → u.own H.lk = 0) (hB : B ≤ W.heap.size) :
 Calls Tryz.prog 16 #[.pointer (some ⟨h, 0, none⟩), .pointer (some ⟨c, 0, none⟩), .pointer (some ⟨s, 0, none⟩)] W (TC B W o h s b c t d p S0 S H u rc K Q) := by
 have hl2 := X.lo2
 have hne := X.hs
 by_cases h0 : H.st = 0
 ·obtain ⟨e0, hL⟩ := X.lock.take h0 (hf h0)
  have hk := X.lock.Vw (.inl h0)
  have hn := X.ln.2 h0
  have hn0 := X.ln.1
  have e1 : H.take l = H.want (H.lk + 1) := by unfold Hd.take; rw [if_pos e0]
  have hr := X.lock.OI h0 K
  refine (tq X.hd h0 X.lk ⟨hn0, by omega⟩ (by omega) hne).mono ?_
  rintro e w' ⟨rfl, q1, q2, q3⟩
  rw [e1] at q1
  have hs := Jj H (H.lk + 1)
  refine ⟨by rw [h0]; rfl, q3.below (fun k hk => by omega) hB, fun _ => q3, (bu.refl _ W).trans q3 fun k hk => .inl (.inr hk), S, H.want (H.lk + 1), l.kT H.lk H.who, K, X.turn q1 q2 q3 rfl ⟨by rw [RO e0]; omega, fun h' => ?_⟩ hL (X.lock.RI h0 (hf h0)) (fun _ => by omega) (fun h => by omega) (fun _ => by omega), hr, by omega, fun h => by omega, rfl, rfl, rfl, rfl⟩
  rw [RO e0]
  unfold Hd.rem at hr
  rw [if_pos h', if_pos h0] at hr
  have : (H.want (H.lk + 1)).len = H.len := rfl
  omega
 by_cases h12 : H.st = 1 ∨ H.st = 2
 ·have hr := X.run (by omega)
  cases K with
  | zero => exact hr.elim
  | succ K =>
    obtain ⟨a', m', R', P', ⟨rfl, ho, hq⟩ | ⟨ho, hq⟩⟩ := hr
    ·refine (tu X.hd h12 (Q := fun w' => ∃ v' g', SW w' b c t d p v' g' a' m' R' P' ∧ WS W w' b c t d p S.v S.g v' g' ∧ bB w' h H) true ?_).mono ?_
     ·rw [X.wk]
      refine (ho W b c t d p S.v S.g X.sw).mono ?_
      rintro e w' ⟨rfl, v', g', h1, h2⟩
      have h3 := (h2.heap X.hd.lt X.nh).trans X.hd
      exact ⟨rfl, ⟨v', g', h1, h2, h3⟩, h3⟩
     ·rintro e w' ⟨rfl, w1, ⟨v', g', h1, h2, h3⟩, h4, h6⟩
      have hn1 : ¬ jl b c t d p v' g' h := by
       rintro (e | hf)
       ·exact Put.aG h3 h1.wk (by decide) e
       ·exact h1.cw.other h3 (by decide) hf
      have hy := Er H 3
      have hp : (H.part true).st = 3 ∨ (H.part true).st = 4 := hy
      have ho1 : qU w1 o h rc := (h2.heap X.op.lt X.no).trans X.op
      have hl1 : bS 32 w1 s l := (h2.heap X.lk.lt X.ns).trans X.lk
      refine ⟨rfl, (h2.below X.lo hB).trans (h6.below (fun k hk => by omega) (Nat.le_trans hB h2.off.size)), fun h => by omega, ((bu.refl _ W).trans h2.off fun k hk => .inl (.inl hk)).trans h6 fun k hk => .inl (.inr (.inl hk)), ⟨v', g', a', m', R', P'⟩, H.part true, l, 0, ⟨(h6.block _ ho1.lt (by have := X.oh; omega)).trans ho1, h4, X.wk, (h6.block _ hl1.lt (by omega)).trans hl1, ⟨X.ln.1, fun h => by omega⟩, X.lock.part h12 true, Hd.Ji X.fr h12 true,
       h1.Li fun k hk => h6.block k (h1.lt hk) (fun e => hn1 (e ▸ hk)), fun h => by omega, fun _ => hq, fun h => by omega, h2.lo X.lo hB, hl2⟩, Hd.OL h12 0, by omega, fun _ => by omega, rfl, rfl, rfl, rfl⟩
    ·refine (tu X.hd h12 (Q := fun w' => ∃ v' g', SW w' b c t d p v' g' a' m' R' P' ∧ WS W w' b c t d p S.v S.g v' g' ∧ bB w' h H) false ?_).mono ?_
     ·rw [X.wk]
      refine (ho W b c t d p S.v S.g X.sw).mono ?_
      rintro e w' ⟨rfl, v', g', h1, h2⟩
      have h3 := (h2.heap X.hd.lt X.nh).trans X.hd
      exact ⟨rfl, ⟨v', g', h1, h2, h3⟩, h3⟩
     ·rintro e w' ⟨rfl, w1, ⟨v', g', h1, h2, h3⟩, h4, h6⟩
      have hn1 : ¬ jl b c t d p v' g' h := by
       rintro (e | hf)
       ·exact Put.aG h3 h1.wk (by decide) e
       ·exact h1.cw.other h3 (by decide) hf
      have hp : (H.part false).st = 2 := rfl
      have ho1 : qU w1 o h rc := (h2.heap X.op.lt X.no).trans X.op
      have hl1 : bS 32 w1 s l := (h2.heap X.lk.lt X.ns).trans X.lk
      refine ⟨rfl, (h2.below X.lo hB).trans (h6.below (fun k hk => by omega) (Nat.le_trans hB h2.off.size)), fun h => by omega, ((bu.refl _ W).trans h2.off fun k hk => .inl (.inl hk)).trans h6 fun k hk => .inl (.inr (.inl hk)), ⟨v', g', a', m', R', P'⟩, H.part false, l, K, ⟨(h6.block _ ho1.lt (by have := X.oh; omega)).trans ho1, h4, X.wk, (h6.block _ hl1.lt (by omega)).trans hl1, ⟨X.ln.1, fun h => by omega⟩, X.lock.part h12 false, Hd.Ji X.fr h12 false,
       h1.Li fun k hk => h6.block k (h1.lt hk) (fun e => hn1 (e ▸ hk)), fun _ => hq, fun h => by omega, fun h => by omega, h2.lo X.lo hB, hl2⟩, Hd.OJ h12 K, by omega, fun _ => by omega, rfl, rfl, rfl, rfl⟩
 by_cases h3 : H.st = 3
 ·have hk := X.lock.Vw (.inr h3)
  obtain ⟨_, hL⟩ := X.lock.give h3
  refine (yU X.hd h3 X.lk (by omega) hne).mono ?_
  rintro e w' ⟨rfl, q1, q2, q3⟩
  have hs : H.give.st = 3 ∨ H.give.st = 4 := Er H H.lk
  exact ⟨by rw [h3]; rfl, q3.below (fun k hk => by omega) hB, fun h => by omega, (bu.refl _ W).trans q3 fun k hk => .inl (.inr hk), S, H.give, l.ic H.lk H.who, K, X.turn q1 q2 q3 rfl ⟨by rw [TD]; exact X.ln.1, fun h => by omega⟩ hL (Hd.RL X.fr h3) (fun h => by omega) (fun _ => by omega) (fun h => by omega), X.lock.OM h3 K, by omega, fun _ => by omega, rfl, rfl, rfl, rfl⟩
 have h4 : H.st = 4 := by have := X.lock.st; omega
 refine (yV X.hd h4 _).mono ?_
 rintro e w' ⟨rfl, q1, q3⟩
 exact ⟨by rw [h4]; rfl, q3.below (fun k hk => by omega) hB, fun h => by omega, (bu.refl _ W).trans q3 fun k hk => .inl (.inr (.inl hk)), S, { H with st := 5 }, l, K, X.turn q1 ((q3.block s X.lk.lt (fun e => hne e.symm)).trans X.lk) ((bu.refl _ W).trans q3 fun k hk => .inl (.inl hk)) rfl ⟨X.ln.1, fun h => absurd (show (5 : Int) = 0 from h) (by decide)⟩ (X.lock.tell h4) (Hd.RN X.fr h4) (fun h => absurd (show (5 : Int) ≤ 2 from h) (by decide)) (fun _ => by omega) (fun h => absurd (show (5 : Int) ≤ 1 from h) (by decide)), Hd.OO h4 K, show H.st ≤ (5 : Int) by omega, fun _ => show (2 : Int) ≤ 5 by decide, rfl, rfl, rfl, rfl⟩
theorem RQ (X : Rn B W o h s b c t d p S0 S H l u rc K Q) (h0 : H.st = 0) (hf : u.own H.lk ≠ 0) :
 Calls Tryz.prog 16 #[.pointer (some ⟨h, 0, none⟩), .pointer (some ⟨c, 0, none⟩), .pointer (some ⟨s, 0, none⟩)] W fun e W' => e = .returned (.bool false) ∧ Rn B W' o h s b c t d p S0 S H l u rc K Q ∧ bu (fun k => k = h ∨ k = s) W W' := by
 have e0 := X.lock.stays h0 hf
 have hk := X.lock.Vw (.inl h0)
 have hn := X.ln.2 h0
 refine (tq X.hd h0 X.lk ⟨X.ln.1, by omega⟩ (by omega) X.hs).mono ?_
 rintro e w' ⟨rfl, q1, q2, q3⟩
 have e1 : H.take l = H := by unfold Hd.take; rw [if_neg e0]
 have e2 : l.kT H.lk H.who = l := by unfold Lk.kT; rw [if_neg e0]
 rw [e1] at q1
 rw [e2] at q2
 exact ⟨rfl, X.turn q1 q2 q3 rfl X.ln X.lock X.fr id id id, q3⟩
theorem Rn.waits (X : Rn B W o h s b c t d p S0 S H l u rc K Q) : xR H l = (decide (H.st = 0) && !decide (u.own H.lk = 0)) := by
 unfold xR
 by_cases h0 : H.st = 0
 ·rw [X.lock.own h0]
 ·rw [decide_eq_false h0]; rfl
end
end Go.Proofs.YtelnhablglomjaaGreat

namespace Go.Proofs.YtelnhablglomjaaGreat
open Go.RowKit Go.Lib Go.Sort
structure De where
 Ml : Bool
 r : Rq
 xi : Int
 xt : Int
def sj (x : De) : List Value := .bool x.Ml :: (encR x.r ++ [.int .i64 x.xi, .int .i64 x.xt])
section
variable {w : World} {v : Value} {l : List De}
theorem Mm (h : aC sj 12 w v l) : Calls Tryz.prog 31 #[v] w fun e w' => ∃ v', e = .returned v' ∧ aC sj 12 w v' (l.take 60) ∧ w = w' := by
 have hr := h
 obtain ⟨ao, cap, rfl, h1, h2, h3⟩ := h
 by_cases hn : 60 < l.length
 ·have d1 : decide ((60 : Int) < (l.length : Int)) = true := decide_eq_true (by omega)
  have hcut := hr.cut (n := 60) (by omega)
  go_enter Tryz.func31, Tryz.ntmps31
  go_wp2_with fail
  go_ret
  exact ⟨_, rfl, hcut, rfl⟩
 ·have d1 : decide ((60 : Int) < (l.length : Int)) = false := decide_eq_false (by omega)
  have e : l.take 60 = l := List.take_of_length_le (by omega)
  rw [e]
  go_enter Tryz.func31, Tryz.ntmps31
  go_wp2_with fail
  go_ret
  exact ⟨_, rfl, hr, rfl⟩
end
end Go.Proofs.YtelnhablglomjaaGreat

namespace Go.Proofs.YtelnhablglomjaaGreat
open Go.RowKit Go.Lib Go.Sort
section
variable {M : Md}
theorem yN (M : Md) (j : Jb) : (fu M j).L.length = M.L.length ∧ (fu M j).dr = M.dr := ⟨by show (M.L.map _).length = _; rw [List.length_map], rfl⟩
theorem TE (hI : aF M) (r : Rw) : (fC M r).2.L.length ≤ M.L.length + 1 ∧ (fC M r).2.dr.length = M.dr.length := by
 unfold fC
 by_cases hc : M.cl = true
 ·rw [if_pos hc]; exact ⟨Nat.le_succ _, rfl⟩
 rw [if_neg hc]
 by_cases k1 : r.kind = 1
 ·rw [if_pos k1]
  unfold jL
  split
  ·exact ⟨Nat.le_succ _, rfl⟩
  split
  ·exact ⟨by show (M.L ++ [_]).length ≤ _; simp, rfl⟩
  ·refine ⟨?_, rfl⟩
   rw [(yN _ _).1]
   show (M.L ++ [_]).length ≤ _
   simp
 rw [if_neg k1]
 by_cases k2 : r.kind = 2 ∨ r.kind = 5
 ·rw [if_pos k2]
  unfold mD
  simp only
  split
  ·exact ⟨Nat.le_succ _, rfl⟩
  split
  ·exact ⟨Nat.le_succ _, rfl⟩
  ·exact ⟨by show (M.L.set _ _).length ≤ _; rw [List.length_set]; omega, rfl⟩
 rw [if_neg k2]
 by_cases k3 : r.kind = 3 ∨ r.kind = 4 ∨ r.kind = 6
 ·rw [if_pos k3]
  unfold fP
  simp only
  split
  ·exact ⟨Nat.le_succ _, rfl⟩
  split
  ·exact ⟨Nat.le_succ _, rfl⟩
  split
  ·refine ⟨?_, rfl⟩
   rw [(yN _ _).1]
   show (M.L.set _ _).length ≤ _
   rw [List.length_set]; omega
  ·exact ⟨by show (M.L.set _ _).length ≤ _; rw [List.length_set]; omega, rfl⟩
 rw [if_neg k3]
 by_cases k7 : r.kind = 7 ∨ r.kind = 8
 ·rw [if_pos k7]
  unfold ik
  split
  ·exact ⟨Nat.le_succ _, rfl⟩
  split
  ·exact ⟨Nat.le_succ _, rfl⟩
  ·unfold fE
   split
   ·exact ⟨by show (fu M lG).L.length ≤ _; rw [(yN _ _).1]; omega, by show (M.dr.set _ _).length = _; rw [List.length_set]⟩
   ·exact ⟨Nat.le_succ _, by show (M.dr.set _ _).length = _; rw [List.length_set]⟩
 rw [if_neg k7]
 by_cases k9 : r.kind = 9
 ·rw [if_pos k9]
  unfold mJ
  split
  ·exact ⟨Nat.le_succ _, rfl⟩
  ·have hn := hI.mb.now
   have hk := ES (M.now + r.by') (2 * M.L.length + 1) hI.mb (by omega)
   exact ⟨by show (dE _ _ M).L.length ≤ _; rw [hk.2.1]; omega, by show (dE _ _ M).dr.length = _; rw [hk.2.2.1]⟩
 rw [if_neg k9]
 repeat' split
 all_goals exact ⟨Nat.le_succ _, rfl⟩
theorem Jk (M : Md) (id t : Int) : (cO M id t).2.L.length = M.L.length ∧ (cO M id t).2.dr = M.dr := by
 unfold cO
 split
 ·split
  ·exact ⟨by show (M.L.set _ _).length = _; rw [List.length_set], rfl⟩
  ·exact ⟨by show (M.L.set _ _).length = _; rw [List.length_set], rfl⟩
 ·exact ⟨rfl, rfl⟩
def Gb (M : Md) (x : De) : Md := if x.Ml then (cO M x.xi x.xt).2 else (fC M (toW x.r)).2
def mY (M : Md) (l : List De) : Md := l.foldl Gb M
theorem Ok.de (h : Ok M) (x : De) : Ok (Gb M x) := by
 unfold Gb
 split
 ·exact h.kG _ _
 ·exact h.JF _
theorem TF (h : Ok M) (x : De) : (Gb M x).L.length ≤ M.L.length + 1 ∧ (Gb M x).dr.length = M.dr.length := by
 unfold Gb
 split
 ·have := Jk M x.xi x.xt
  exact ⟨by rw [this.1]; omega, by rw [this.2]⟩
 ·exact TE h.inv _
theorem Es (h : Ok M) (l : List De) : Ok (mY M l) ∧ (mY M l).L.length ≤ M.L.length + l.length ∧ (mY M l).dr.length = M.dr.length := by
 unfold mY
 induction l generalizing M with
 | nil => exact ⟨h, Nat.le_refl _, rfl⟩
 | cons x l ih =>
   obtain ⟨h1, h2, h3⟩ := ih (h.de x)
   have := TF h x
   exact ⟨h1, by show (l.foldl Gb (Gb M x)).L.length ≤ M.L.length + (l.length + 1); omega, h3.trans this.2⟩
theorem Lj (M : Md) {l : List De} {i : Nat} (hi : i < l.length) : mY M (l.take (i + 1)) = Gb (mY M (l.take i)) l[i] := by
 unfold mY
 rw [List.take_succ_eq_append_getElem hi, List.foldl_append]
 rfl
end
end Go.Proofs.YtelnhablglomjaaGreat

namespace Go.Proofs.YtelnhablglomjaaGreat
open Go.RowKit Go.Lib Go.Sort
section
variable {M : Md}
def Et (M : Md) (r : Rw) : Rl × Md := if 1 ≤ r.kind ∧ r.kind ≤ 13 then fC M r else (fF 4, M)
theorem Jl {r : Rw} (h : 1 ≤ r.kind ∧ r.kind ≤ 13) : Et M r = fC M r := by unfold Et; rw [if_pos h]
theorem yO {r : Rw} (h : ¬ (1 ≤ r.kind ∧ r.kind ≤ 13)) : Et M r = (fF 4, M) := by unfold Et; rw [if_neg h]
theorem OP (M : Md) (r : Rw) : (Et M r).2 = (fC M r).2 := by
 by_cases h : 1 ≤ r.kind ∧ r.kind ≤ 13
 ·rw [Jl h]
 ·rw [yO h]
  unfold fC
  rw [if_neg (show ¬ r.kind = 1 by omega), if_neg (show ¬ (r.kind = 2 ∨ r.kind = 5) by omega), if_neg (show ¬ (r.kind = 3 ∨ r.kind = 4 ∨ r.kind = 6) by omega), if_neg (show ¬ (r.kind = 7 ∨ r.kind = 8) by omega), if_neg (show ¬ r.kind = 9 by omega), if_neg (show ¬ r.kind = 10 by omega), if_neg (show ¬ r.kind = 11 by omega), if_neg (show ¬ r.kind = 12 by omega), if_neg (show ¬ r.kind = 13 by omega)]
  split <;> rfl
end
def kv (w : World) (s c : Nat) : Prop := w.heap[s]? = some (.cells #[.pointer (some ⟨c, 0, none⟩)] 40 (0, 0))
theorem kv.lt {w : World} {s c : Nat} (h : kv w s c) : s < w.heap.size := aD h
theorem kv.c0 {w : World} {s c : Nat} (h : kv w s c) : w.cell? ⟨s, 0, none⟩ = some (.pointer (some ⟨c, 0, none⟩)) := by simp [World.cell?, show w.heap[s]? = _ from h]
theorem kv.kept {w w' : World} {s c : Nat} (h : kv w s c) (hb : Below w.heap.size w w') : kv w' s c := (hb.block s h.lt).trans h
theorem kv.far {w w' : World} {s c : Nat} (h : kv w s c) (hf : Xh w w') : kv w' s c := hf s _ _ _ (by decide) (by decide) h
structure SO (B : Nat) (w : World) (s c t d p : Nat) (v : Value) (g : Nat) (m : Int) (M : Md) : Prop where
 at' : kv w s c
 Vy : B ≤ s
 cw : CW w c t d p v g (1 + 2 * M.L.length) m (ah M)
 lo : ∀ k, dR c t d p v g k → B ≤ k
section
variable {w w' w1 : World} {B s c t d p g g' : Nat} {v v' : Value} {m m' : Int} {M M' : Md}
theorem SO.apart (h : SO B w s c t d p v g m M) : ¬ dR c t d p v g s := h.cw.other h.at' (by decide)
theorem SO.kept (h : SO B w s c t d p v g m M) (hb : Below w.heap.size w w') : SO B w' s c t d p v g m M := ⟨h.at'.kept hb, h.Vy, h.cw.kept hb, h.lo⟩
theorem SO.wider (h : SO B w s c t d p v g m M) (hm : m ≤ m') : SO B w s c t d p v g m' M := ⟨h.at', h.Vy, h.cw.wider (Nat.le_refl _) hm, h.lo⟩
theorem SO.turn (h : SO B w s c t d p v g m M) (hs : CS w w' c t d p v g v' g') (hC : CW w' c t d p v' g' (1 + 2 * M'.L.length) m' (ah M')) (hB : B ≤ w.heap.size) : SO B w' s c t d p v' g' m' M' :=
 ⟨(hs.heap h.at'.lt h.apart).trans h.at', h.Vy, hC, hs.lo h.lo hB⟩
theorem SO.below (h : SO B w s c t d p v g m M) (hs : CS w w' c t d p v g v' g') (hB : B ≤ w.heap.size) : Below B w w' := hs.below h.lo hB
theorem CS.RS {b : Nat} (hb : Below w.heap.size w w1) (hlo : w.heap.size ≤ b) (hs : WS w1 w' b c t d p v g v' g') : CS w w' c t d p v g v' g' := by
 refine ⟨⟨hs.off.os.trans hb.os, hs.off.tape.trans hb.tape, hs.off.output.trans hb.output, Nat.le_trans hb.size hs.off.size, fun k hk hf => ?_⟩, fun k hk => ?_⟩
 ·refine (hs.heap (Nat.lt_of_lt_of_le hk hb.size) ?_).trans (hb.block k hk)
  rintro (rfl | h2)
  ·omega
  ·exact hf h2
 ·rcases hs.grew k (.inr hk) with (rfl | h2) | h2
  ·exact .inr hlo
  ·exact .inl h2
  ·exact .inr (Nat.le_trans hb.size h2)
end
section
variable {w : World} {B s c t d p g : Nat} {v : Value} {m : Int} {M : Md}
theorem yP (h : SO B w s c t d p v g m M) : Calls Tryz.prog 36 #[.pointer (some ⟨s, 0, none⟩)] w fun e w' => e = .returned (.bool false) ∧ w = w' := by
 have c0 := h.at'.c0
 have hn := l9 h.cw
 go_enter Tryz.func36, Tryz.ntmps36
 go_wp2_with fail
 go_at_call 41
 refine hn.mono ?_
 clear hn
 rintro e w' ⟨rfl, rfl⟩
 go_wp2_with fail
 go_ret
 exact ⟨rfl, rfl⟩
theorem RU (c : Nat) (w : World) : Calls Tryz.prog 37 #[.pointer (some ⟨c, 0, none⟩)] w fun e w' => e = .returned (.pointer (some ⟨w.heap.size, 0, none⟩)) ∧ kv w' w.heap.size c ∧ Below w.heap.size w w' := by
 go_enter Tryz.func37, Tryz.ntmps37
 go_wp2_with fail
 go_ret
 exact ⟨rfl, heap_alloc_new w _, (Below.refl _ _).alloc (Nat.le_refl _) _⟩
theorem OQ (n : Int) (w : World) (h : n < 1 ∨ 64 < n) : Calls Tryz.prog 32 #[.int .i64 n] w fun e w' => e = .returned (.tuple #[.pointer none, .int .i64 1]) ∧ w = w' := by
 have hn := Oz n w h
 go_enter Tryz.func32, Tryz.ntmps32
 go_wp2_with (go_at_call 35; go_must (refine hn.mono ?_); rintro e w' ⟨rfl, rfl⟩)
 go_ret2
 exact ⟨rfl, rfl⟩
theorem RX (n : Nat) (w : World) (h1 : 1 ≤ n) (h2 : n ≤ 64) : Calls Tryz.prog 32 #[.int .i64 n] w fun e w' => ∃ s c t d p v g, e = .returned (.tuple #[.pointer (some ⟨s, 0, none⟩), .int .i64 0]) ∧ SO w.heap.size w' s c t d p v g 0 (dI n) ∧ Below w.heap.size w w' := by
 have hn := I8 n w h1 h2
 go_enter Tryz.func32, Tryz.ntmps32
 go_wp2_with fail
 go_at_call 35
 refine hn.mono ?_
 clear hn
 rintro e w1 ⟨c, t, d, p, v, g, rfl, ⟨sM, hlo1⟩, hb1⟩
 have ho := RU c w1
 go_wp2_with fail
 go_at_call 37
 refine ho.mono ?_
 clear ho
 rintro e w2 ⟨rfl, hS2, hb2⟩
 go_wp2_with fail
 go_ret2
 exact ⟨w1.heap.size, c, t, d, p, v, g, rfl, ⟨hS2, hb1.size, sM.kept hb2, hlo1⟩, hb1.trans (hb2.mono hb1.size)⟩
end
section
variable {w w0 : World} {B s b c t d p g N : Nat} {v : Value} {m : Int} {M : Md} {Q : Nat → Int → Wk → Pg → Prop}
theorem Jm {a : Nat} {R : Wk} {P : Pg} (hs : kv w s c) (h : SW w b c t d p v g a m R P) (hr : Run N a m R P Q) : Calls Tryz.prog 56 #[.pointer (some ⟨s, 0, none⟩), .pointer (some ⟨b, 0, none⟩)] w fun e w' => e = .returned (.pointer (some ⟨b, 0, none⟩)) ∧
 ∃ v' g' a' m' R' P', SW w' b c t d p v' g' a' m' R' P' ∧ Q a' m' R' P' ∧ WS w w' b c t d p v g v' g' := by
 go_enter Tryz.func56, Tryz.ntmps56
 go_wp2_with fail
 go_loopg [] N (fun k wr => Hid (kv wr s c) ∧ Hid (∃ v1 g1 a1 m1 R1 P1, SW wr b c t d p v1 g1 a1 m1 R1 P1 ∧ Run k a1 m1 R1 P1 Q ∧ WS w wr b c t d p v g v1 g1))
 case atStart => exact ⟨Lib.hid hs, v, g, a, m, R, P, h, hr, WS.refl w⟩
 case round =>
  clear h hr hs
  obtain ⟨h1, h2⟩ := hrel
  obtain ⟨v1, g1, a1, m1, R1, P1, hS, hr, hw⟩ := h2.out
  clear h2
  cases gk with
  | zero => exact hr.elim
  | succ K =>
    have c0 := h1.out.c0
    have hx : Hid (∀ w' v2 g2, WS wr w' b c t d p v1 g1 v2 g2 → kv w' s c) := fun w' v2 g2 h => h1.out.far (hS.far h)
    obtain ⟨a2, m2, R2, P2, ⟨rfl, ho, hq⟩ | ⟨ho, hq⟩⟩ := hr
    ·have hc := ho wr b c t d p v1 g1 hS
     replace hq := Lib.hid hq
     replace hw := Lib.hid hw
     clear ho hS
     go_wp2_with fail
     go_at_call 12
     refine hc.mono ?_
     clear hc
     rintro e w' ⟨rfl, v2, g2, hS2, hw2⟩
     replace hS2 := Lib.hid hS2
     replace hw2 := Lib.hid hw2
     go_wp2_with fail
     go_ret
     exact ⟨rfl, v2, g2, a2, m2, R2, P2, hS2.out, hq.out, hw.out.trans hw2.out⟩
    ·have hc := ho wr b c t d p v1 g1 hS
     replace hq := Lib.hid hq
     replace hw := Lib.hid hw
     clear ho hS
     go_wp2_with fail
     go_at_call 12
     refine hc.mono ?_
     clear hc
     rintro e w' ⟨rfl, v2, g2, hS2, hw2⟩
     have h3 := Lib.hid (hx.out w' v2 g2 hw2)
     replace hS2 := Lib.hid hS2
     replace hw2 := Lib.hid hw2
     go_wp2_with fail
     go_roundg K
     case measure => omega
     case rel => exact ⟨h3, v2, g2, a2, m2, R2, P2, hS2.out, hq.out, hw.out.trans hw2.out⟩
def Cg (w : World) (b c t d p : Nat) (v : Value) (g : Nat) (m : Int) (M' : Md) (y : Ry) (ok : Bool) (e : Ending) (w' : World) : Prop :=
 ∃ (v' : Value) (g' : Nat) (R : Wk), e = .returned (.pointer (some ⟨b, 0, none⟩)) ∧ CW w' c t d p v' g' (1 + 2 * M'.L.length) (m + 1000) (ah M') ∧ bK w' b R ∧ R.rep = y ∧ R.ok = ok ∧ WS w w' b c t d p v g v' g'
theorem xI {a : Nat} {R : Wk} {P : Pg} {M' : Md} {y : Ry} {ok : Bool} (hs : kv w s c) (hS : SW w b c t d p v g a m R P) (h : fo 1000 a m R P (Fin (m + 1000) M' y ok)) (hI : aF M') :
 Calls Tryz.prog 56 #[.pointer (some ⟨s, 0, none⟩), .pointer (some ⟨b, 0, none⟩)] w (Cg w b c t d p v g m M' y ok) := by
 obtain ⟨K, _, hr⟩ := h
 refine (Jm hs hS hr).mono ?_
 rintro e w' ⟨rfl, v', g', a, m', R, P, hS, ⟨rfl, ha, hm, hl, hr, ho⟩, hw⟩
 exact ⟨v', g', R, rfl, (hS.cw.Rx hI).wider (Nat.le_refl _) hm, hS.wk, hr, ho, hw⟩
theorem C9 (hs : kv w s c) (h : CW w c t d p v g (1 + 2 * M.L.length) m (ah M)) (r : Rq) (hb : bK w b (jy r)) (hM : Ok M) (h1 : 1 ≤ M.dr.length) (hll : M.L.length ≤ 190) (hm : m + 1000 ≤ 1000000) (hnd : -9223372036854775808 ≤ r.node ∧ r.node ≤ 9223372036854775807) :
 Calls Tryz.prog 56 #[.pointer (some ⟨s, 0, none⟩), .pointer (some ⟨b, 0, none⟩)] w (Cg w b c t d p v g m (fC M (toW r)).2 (ma (fC M (toW r)).1) false) :=
 xI hs ⟨hb, h⟩ (Jh r hM h1 hll hm hnd) (hM.JF _).inv
theorem z8 (hs : kv w s c) (h : CW w c t d p v g (1 + 2 * M.L.length) m (ah M)) (i x : Int) (hb : bK w b (zL i x)) (hM : Ok M) (h1 : 1 ≤ M.dr.length) (hll : M.L.length ≤ 190) (hm : m + 1000 ≤ 1000000) (hx : -9223372036854775808 ≤ x ∧ x ≤ 9223372036854775807) :
 Calls Tryz.prog 56 #[.pointer (some ⟨s, 0, none⟩), .pointer (some ⟨b, 0, none⟩)] w (Cg w b c t d p v g m (cO M i x).2 (mg M) (cO M i x).1) :=
 xI hs ⟨hb, h⟩ (Ga i x hM h1 hll hm hx) (hM.kG i x).inv
theorem Mo {w : World} {G : Nat} {z : Ry} (hb : w.heap[G]? = some (.cells (bV z).toArray 53 (0, 0))) (y : Ry) :
 Sem.run Tryz.prog (storeCells ⟨G, 0, none⟩ (bV y) 0) w = .ok () (w.setRow G (bV y).toArray) ∧ (w.setRow G (bV y).toArray).heap[G]? = some (.cells (bV y).toArray 53 (0, 0)) := by
 have hst := run_storeCells_at Tryz.prog G 0 53 (bV y) 0 (bV z).toArray w hb (by simp [jF]) (yC y)
 simp only [Nat.add_zero] at hst
 have e : (((bV z).toArray.toList.take 0 ++ bV y ++ (bV z).toArray.toList.drop (0 + (bV y).length)).toArray) = (bV y).toArray := by simp [jF]
 rw [e] at hst
 exact ⟨hst, setRow_heap w G _ _ _ _ hb⟩
theorem CS.row {w w' : World} {c t d p g g' G : Nat} {v v' : Value} (h : CS w w' c t d p v g v' g') (hG : w.heap.size ≤ G) (cs : Array Value) : CS w (w'.setRow G cs) c t d p v g v' g' :=
 ⟨⟨h.off.os, h.off.tape, h.off.output, by simp; exact h.off.size, fun k hk hf => (setRow_other w' G k cs (by omega)).trans (h.off.block k hk hf)⟩, h.grew⟩
theorem CS.later {w w1 w' : World} {c t d p g g' : Nat} {v v' : Value} (h : CS w w1 c t d p v g v' g') (hb : Below w1.heap.size w1 w') : CS w w' c t d p v g v' g' := h.trans (CS.of_below hb)
def Mq (B : Nat) (w : World) (s c t d p : Nat) (v : Value) (g : Nat) (m : Int) (M' : Md) (r : Value) (e : Ending) (w' : World) : Prop :=
 ∃ (v' : Value) (g' : Nat), e = .returned r ∧ SO B w' s c t d p v' g' (m + 1000) M' ∧ CS w w' c t d p v g v' g' ∧ Below B w w'
theorem TG (h : SO B w s c t d p v g m M) (hB : B ≤ w.heap.size) (r : Rq) (hM : Ok M) (h1 : 1 ≤ M.dr.length) (hll : M.L.length ≤ 190) (hm : m + 1000 ≤ 1000000) (hnd : -9223372036854775808 ≤ r.node ∧ r.node ≤ 9223372036854775807) :
 Calls Tryz.prog 34 #[.pointer (some ⟨s, 0, none⟩), .agg (encR r).toArray] w (Mq B w s c t d p v g m (fC M (toW r)).2 (.agg (bV (ma (Et M (toW r)).1)).toArray)) := by
 by_cases hk : 1 ≤ r.kind ∧ r.kind ≤ 13
 ·rw [Jl (show 1 ≤ (toW r).kind ∧ (toW r).kind ≤ 13 from hk)]
  have key : ∀ w2 b, bK w2 b (jy r) → Below w.heap.size w w2 → Calls Tryz.prog 56 #[.pointer (some ⟨s, 0, none⟩), .pointer (some ⟨b, 0, none⟩)] w2 (Cg w2 b c t d p v g m (fC M (toW r)).2 (ma (fC M (toW r)).1) false) :=
   fun w2 b hW hb2 => C9 (h.at'.kept hb2) (h.cw.kept hb2) r hW hM h1 hll hm hnd
  have hf0 : ∀ k, dR c t d p v g k → k < w.heap.size := fun k => h.cw.lt
  generalize ma (fC M (toW r)).1 = y at *
  generalize (fC M (toW r)).2 = M2 at *
  obtain ⟨y1, y2, y3, y4, y5, y6, y7, y8, y9⟩ := r
  obtain ⟨wA, aJ⟩ : ∃ wA, wA = (w.alloc (.cells #[.int .i64 y1, .int .i64 y2, .int .i64 y3, .int .i64 y4, .int .i64 y5, .int .i64 y6, .bool y7, .int .i64 y8, .int .i64 y9] 24)).alloc (.cells #[.int .i64 0, .int .i64 0, .int .i64 0, .int .i64 0, .int .i64 0, .int .i64 0, .int .i64 0, .int .i64 0, .int .i64 0] 53) := ⟨_, rfl⟩
  have bN : Below w.heap.size w wA := by rw [aJ]; exact ((Below.refl _ _).alloc (Nat.le_refl _) _).alloc (by simp) _
  have hsA : wA.heap.size = w.heap.size + 2 := by rw [aJ]; simp
  have jr : wA.heap[w.heap.size + 1]? = some (.cells (bV nU).toArray 53 (0, 0)) := by rw [aJ]; exact heap_alloc2_new w _ _
  have uA : wA.heap[w.heap.size]? = some (.cells #[.int .i64 y1, .int .i64 y2, .int .i64 y3, .int .i64 y4, .int .i64 y5, .int .i64 y6, .bool y7, .int .i64 y8, .int .i64 y9] 24 (0, 0)) := by rw [aJ]; exact dW (heap_alloc_new w _)
  have hl := yP (h.kept bN)
  have hi := Ag y1 wA
  dsimp only at hk
  rw [decide_eq_true hk.1, decide_eq_true hk.2] at hi
  have hq := zM ⟨y1, y2, y3, y4, y5, y6, y7, y8, y9⟩ wA
  rw [show (encR ⟨y1, y2, y3, y4, y5, y6, y7, y8, y9⟩).toArray = #[.int .i64 y1, .int .i64 y2, .int .i64 y3, .int .i64 y4, .int .i64 y5, .int .i64 y6, .bool y7, .int .i64 y8, .int .i64 y9] from rfl] at hq ⊢
  have r0 : wA.cell? ⟨w.heap.size, 0, none⟩ = some (.int .i64 y1) := by simp [World.cell?, uA]
  have r1 : wA.cell? ⟨w.heap.size, 1, none⟩ = some (.int .i64 y2) := by simp [World.cell?, uA]
  have r2 : wA.cell? ⟨w.heap.size, 2, none⟩ = some (.int .i64 y3) := by simp [World.cell?, uA]
  have r3 : wA.cell? ⟨w.heap.size, 3, none⟩ = some (.int .i64 y4) := by simp [World.cell?, uA]
  have r4 : wA.cell? ⟨w.heap.size, 4, none⟩ = some (.int .i64 y5) := by simp [World.cell?, uA]
  have r5 : wA.cell? ⟨w.heap.size, 5, none⟩ = some (.int .i64 y6) := by simp [World.cell?, uA]
  have r6 : wA.cell? ⟨w.heap.size, 6, none⟩ = some (.bool y7) := by simp [World.cell?, uA]
  have r7 : wA.cell? ⟨w.heap.size, 7, none⟩ = some (.int .i64 y8) := by simp [World.cell?, uA]
  have r8 : wA.cell? ⟨w.heap.size, 8, none⟩ = some (.int .i64 y9) := by simp [World.cell?, uA]
  clear uA
  have zY := vT
  obtain ⟨k9, bP⟩ : ∃ k, k = 9 := ⟨_, rfl⟩
  rw [← bP] at zY
  have lY := jF y
  rw [← bP] at lY
  have hk0 : ¬ k9 = 0 := by omega
  replace bP := Lib.hid bP
  replace key := Lib.hid key
  replace hf0 := Lib.hid hf0
  replace jr := Lib.hid jr
  go_enter Tryz.func34, Tryz.ntmps34
  go_wp2_with fail
  rw [← aJ]
  replace aJ := Lib.hid aJ
  go_at_call 36
  refine hl.mono ?_
  clear hl
  rintro e w' ⟨rfl, rfl⟩
  go_wp2_with fail
  go_at_call 60
  refine hi.mono ?_
  clear hi
  rintro e w' ⟨rfl, rfl⟩
  go_wp2_with fail
  go_at_call 10
  refine hq.mono ?_
  clear hq
  rintro e w2 ⟨b, rfl, hW2, hlb, hb2⟩
  have xJ : Below w.heap.size w w2 := bN.trans (hb2.mono bN.size)
  have hp := key.out w2 b hW2 xJ
  go_wp2_with fail
  go_at_call 56
  refine hp.mono ?_
  clear hp
  rintro e w3 ⟨v', g', R, rfl, Ch, hW3, hr, _, hs3⟩
  have Ll := Eo hW3
  rw [hr] at Ll
  go_wp2_with fail
  go_at_call 20
  refine Ll.mono ?_
  clear Ll
  rintro e w4 ⟨rfl, hb4⟩
  have hcs : CS w w4 c t d p v g v' g' := (CS.RS xJ (by omega) hs3).later hb4
  have hG : ¬ jl b c t d p v g (w.heap.size + 1) := by
   rintro (e | hf)
   ·omega
   ·have := hf0.out _ hf
    omega
  have hlt2 : w.heap.size + 1 < w2.heap.size := by have := hb2.size; omega
  have hR2 := (hb2.block (w.heap.size + 1) (by omega)).trans jr.out
  have NK := (hs3.heap hlt2 hG).trans hR2
  have qI := (hb4.block (w.heap.size + 1) (Nat.lt_of_lt_of_le hlt2 hs3.off.size)).trans NK
  obtain ⟨st, J4⟩ := Mo qI y
  have pM := Ch.kept hb4
  have hnf : ¬ dR c t d p v' g' (w.heap.size + 1) := fun hf => (hs3.grew _ (.inr hf)).elim hG (fun h2 => by omega)
  have gz := pM.QI (cu w4 (bV y).toArray) hnf
  have xK := hcs.row (G := w.heap.size + 1) (Nat.le_succ _) (bV y).toArray
  have hfin : Hid (SO B (w4.setRow (w.heap.size + 1) (bV y).toArray) s c t d p v' g' (m + 1000) M2 ∧ CS w (w4.setRow (w.heap.size + 1) (bV y).toArray) c t d p v g v' g' ∧ Below B w (w4.setRow (w.heap.size + 1) (bV y).toArray)) :=
   ⟨h.turn xK gz hB, xK, h.below xK hB⟩
  have hsz : (bV y).toArray.size = 9 := rfl
  clear hs3 hb4 hb2 Ch pM gz hcs xK hW3 hW2 hR2 NK qI h
  go_wp2_with fail
  exact bH rfl rfl rfl J4 Tryz.underlying53 rfl (by rw [hsz]; kernel_rfl) ⟨v', g', rfl, hfin.out⟩
 ·rw [yO (show ¬ (1 ≤ (toW r).kind ∧ (toW r).kind ≤ 13) from hk), ← OP, yO (show ¬ (1 ≤ (toW r).kind ∧ (toW r).kind ≤ 13) from hk)]
  obtain ⟨y1, y2, y3, y4, y5, y6, y7, y8, y9⟩ := r
  dsimp only at hk
  obtain ⟨wA, aJ⟩ : ∃ wA, wA = (w.alloc (.cells #[.int .i64 y1, .int .i64 y2, .int .i64 y3, .int .i64 y4, .int .i64 y5, .int .i64 y6, .bool y7, .int .i64 y8, .int .i64 y9] 24)).alloc (.cells #[.int .i64 0, .int .i64 0, .int .i64 0, .int .i64 0, .int .i64 0, .int .i64 0, .int .i64 0, .int .i64 0, .int .i64 0] 53) := ⟨_, rfl⟩
  have bN : Below w.heap.size w wA := by rw [aJ]; exact ((Below.refl _ _).alloc (Nat.le_refl _) _).alloc (by simp) _
  have hsA : wA.heap.size = w.heap.size + 2 := by rw [aJ]; simp
  have jr : wA.heap[w.heap.size + 1]? = some (.cells (bV nU).toArray 53 (0, 0)) := by rw [aJ]; exact heap_alloc2_new w _ _
  have uA : wA.heap[w.heap.size]? = some (.cells #[.int .i64 y1, .int .i64 y2, .int .i64 y3, .int .i64 y4, .int .i64 y5, .int .i64 y6, .bool y7, .int .i64 y8, .int .i64 y9] 24 (0, 0)) := by rw [aJ]; exact dW (heap_alloc_new w _)
  have r0 : wA.cell? ⟨w.heap.size, 0, none⟩ = some (.int .i64 y1) := by simp [World.cell?, uA]
  have hl := yP (h.kept bN)
  have hi := Ag y1 wA
  have hii : (decide (1 ≤ y1) && decide (y1 ≤ 13)) = false := by
   by_cases c1 : 1 ≤ y1
   ·rw [decide_eq_false (show ¬ y1 ≤ 13 by omega), Bool.and_false]
   ·rw [decide_eq_false c1, Bool.false_and]
  rw [hii] at hi
  have hq := Il 4 wA
  generalize hy : (⟨4, 0, 0, 0, 0, 0, 0, 0, 0⟩ : Ry) = y at *
  rw [show ma (fF 4, M).1 = y from hy]
  rw [show (encR ⟨y1, y2, y3, y4, y5, y6, y7, y8, y9⟩).toArray = #[.int .i64 y1, .int .i64 y2, .int .i64 y3, .int .i64 y4, .int .i64 y5, .int .i64 y6, .bool y7, .int .i64 y8, .int .i64 y9] from rfl]
  clear hy hii uA
  have zY := vT
  obtain ⟨k9, bP⟩ : ∃ k, k = 9 := ⟨_, rfl⟩
  rw [← bP] at zY
  have lY := jF y
  rw [← bP] at lY
  have hk0 : ¬ k9 = 0 := by omega
  replace bP := Lib.hid bP
  replace jr := Lib.hid jr
  go_enter Tryz.func34, Tryz.ntmps34
  go_wp2_with fail
  rw [← aJ]
  replace aJ := Lib.hid aJ
  go_at_call 36
  refine hl.mono ?_
  clear hl
  rintro e w' ⟨rfl, rfl⟩
  go_wp2_with fail
  go_at_call 60
  refine hi.mono ?_
  clear hi
  rintro e w' ⟨rfl, rfl⟩
  go_wp2_with fail
  go_at_call 59
  refine hq.mono ?_
  clear hq
  rintro e w4 ⟨rfl, hb4⟩
  have Eu : Below w.heap.size w w4 := bN.trans (hb4.mono bN.size)
  have qI := (hb4.block (w.heap.size + 1) (by omega)).trans jr.out
  obtain ⟨st, J4⟩ := Mo qI y
  have xK := (CS.of_below (c := c) (t := t) (d := d) (p := p) (v := v) (g := g) Eu).row (G := w.heap.size + 1) (Nat.le_succ _) (bV y).toArray
  have hnf : ¬ dR c t d p v g (w.heap.size + 1) := fun hf => by have := h.cw.lt hf; omega
  have gz := (h.cw.kept Eu).QI (cu w4 (bV y).toArray) hnf
  have hfin : Hid (SO B (w4.setRow (w.heap.size + 1) (bV y).toArray) s c t d p v g (m + 1000) M ∧ CS w (w4.setRow (w.heap.size + 1) (bV y).toArray) c t d p v g v g ∧ Below B w (w4.setRow (w.heap.size + 1) (bV y).toArray)) :=
   ⟨(h.turn xK gz hB).wider (by omega), xK, h.below xK hB⟩
  have hsz : (bV y).toArray.size = 9 := rfl
  clear hb4 gz xK qI h
  go_wp2_with fail
  exact bH rfl rfl rfl J4 Tryz.underlying53 rfl (by rw [hsz]; kernel_rfl) ⟨v, g, rfl, hfin.out⟩
theorem Jn (h : SO B w s c t d p v g m M) (hB : B ≤ w.heap.size) (i x : Int) (hM : Ok M) (h1 : 1 ≤ M.dr.length) (hll : M.L.length ≤ 190) (hm : m + 1000 ≤ 1000000) (hx : -9223372036854775808 ≤ x ∧ x ≤ 9223372036854775807) :
 Calls Tryz.prog 33 #[.pointer (some ⟨s, 0, none⟩), .agg #[.int .i64 i, .int .i64 x]] w (Mq B w s c t d p v g m (cO M i x).2 (.bool (cO M i x).1)) := by
 obtain ⟨wA, aJ⟩ : ∃ wA, wA = w.alloc (.cells #[.int .i64 i, .int .i64 x] 77) := ⟨_, rfl⟩
 have bN : Below w.heap.size w wA := by rw [aJ]; exact (Below.refl _ _).alloc (Nat.le_refl _) _
 have uA : wA.heap[w.heap.size]? = some (.cells #[.int .i64 i, .int .i64 x] 77 (0, 0)) := by rw [aJ]; exact heap_alloc_new w _
 have r0 : wA.cell? ⟨w.heap.size, 0, none⟩ = some (.int .i64 i) := by simp [World.cell?, uA]
 have r1 : wA.cell? ⟨w.heap.size, 1, none⟩ = some (.int .i64 x) := by simp [World.cell?, uA]
 clear uA
 have hl := yP (h.kept bN)
 have hq := CY i x wA
 have key : ∀ w2 b, bK w2 b (zL i x) → Below w.heap.size w w2 → Calls Tryz.prog 56 #[.pointer (some ⟨s, 0, none⟩), .pointer (some ⟨b, 0, none⟩)] w2 (Cg w2 b c t d p v g m (cO M i x).2 (mg M) (cO M i x).1) :=
  fun w2 b hW hb2 => z8 (h.at'.kept hb2) (h.cw.kept hb2) i x hW hM h1 hll hm hx
 replace key := Lib.hid key
 go_enter Tryz.func33, Tryz.ntmps33
 go_wp2_with fail
 rw [← aJ]
 replace aJ := Lib.hid aJ
 go_at_call 36
 refine hl.mono ?_
 clear hl
 rintro e w' ⟨rfl, rfl⟩
 go_wp2_with fail
 go_at_call 57
 refine hq.mono ?_
 clear hq
 rintro e w2 ⟨b, rfl, hW2, hlb, hb2⟩
 have xJ : Below w.heap.size w w2 := bN.trans (hb2.mono bN.size)
 have hp := key.out w2 b hW2 xJ
 go_wp2_with fail
 go_at_call 56
 refine hp.mono ?_
 clear hp
 rintro e w3 ⟨v', g', R, rfl, Ch, hW3, _, hr, hs3⟩
 have Ll := Vt hW3
 rw [hr] at Ll
 go_wp2_with fail
 go_at_call 58
 refine Ll.mono ?_
 clear Ll
 rintro e w' ⟨rfl, rfl⟩
 have hcs : CS w w3 c t d p v g v' g' := CS.RS xJ (by have := bN.size; omega) hs3
 have hfin := Lib.hid (And.intro (h.turn hcs Ch hB) (And.intro hcs (h.below hcs hB)))
 clear hs3 hb2 Ch hcs hW3 hW2 h key
 generalize (cO M i x).1 = ok at *
 go_wp2_with fail
 go_ret
 exact ⟨v', g', rfl, hfin.out⟩
end
end Go.Proofs.YtelnhablglomjaaGreat

namespace Go.Proofs.YtelnhablglomjaaGreat
open Go.RowKit Go.Lib Go.Sort
def yQ (x : De) : Prop := Fb x.r ∧ (-9223372036854775808 ≤ x.xi ∧ x.xi ≤ 9223372036854775807) ∧ (-9223372036854775808 ≤ x.xt ∧ x.xt ≤ 9223372036854775807)
section
end
end Go.Proofs.YtelnhablglomjaaGreat

namespace Go.Proofs.YtelnhablglomjaaGreat
open Go.RowKit Go.Lib Go.Sort
section
variable {w : World} {u : Value} {l : List De}
theorem OT (h : aC sj 12 w u l) (n : Int) (hn : n < 1 ∨ 64 < n) : Calls Tryz.prog 6 #[.int .i64 n, u] w fun e w' => e = .returned (.pointer none) ∧ w = w' := by
 have hf := Mm h
 have hb := OQ n w hn
 go_enter Tryz.func6, Tryz.ntmps6
 go_wp2_with fail
 go_at_call 31
 refine hf.mono ?_
 rintro e w' ⟨v', rfl, _, rfl⟩
 go_wp2_with fail
 go_at_call 32
 refine hb.mono ?_
 rintro e w' ⟨rfl, rfl⟩
 go_wp2_with fail
 go_ret
 exact ⟨rfl, rfl⟩
theorem RY (h : aC sj 12 w u l) (hfit : ∀ x ∈ l, yQ x) (n : Nat) (h1 : 1 ≤ n) (h2 : n ≤ 64) : Calls Tryz.prog 6 #[.int .i64 n, u] w fun e w' => ∃ s c t d p v g, e = .returned (.pointer (some ⟨s, 0, none⟩)) ∧
 SO w.heap.size w' s c t d p v g 60000 (mY (dI n) (l.take 60)) ∧ Below w.heap.size w w' := by
 have hf := Mm h
 have hb := RX n w h1 h2
 have Vz : ∀ x ∈ l.take 60, yQ x := fun x hx => hfit x (List.mem_of_mem_take hx)
 have hlen : (l.take 60).length ≤ 60 := by rw [List.length_take]; omega
 generalize l.take 60 = ds at *
 clear h hfit
 go_enter Tryz.func6, Tryz.ntmps6
 go_wp2_with fail
 go_at_call 31
 refine hf.mono ?_
 clear hf
 rintro e w' ⟨u', rfl, hr, rfl⟩
 go_wp2_with fail
 go_at_call 32
 refine hb.mono ?_
 clear hb
 rintro e w1 ⟨s, c, t, d, p, v1, g1, rfl, hS1, hb1⟩
 replace hr := Lib.hid hr
 obtain ⟨ao, cap, rfl, q1, q2, q3⟩ := hr.out
 clear q1 q3
 go_wp2_with fail
 go_loopw [7] (fun ii wr => ∃ (i : Nat) (v : Value) (g : Nat), i ≤ ds.length ∧ ii = .int .i64 i ∧ Hid (SO w.heap.size wr s c t d p v g (1000 * i) (mY (dI n) (ds.take i))) ∧ Hid (Below w.heap.size w wr)) (fun ii _ => ds.length - (intOf ii).toNat)
 case atStart =>
  exact ⟨0, v1, g1, Nat.zero_le _, rfl, Lib.hid hS1, Lib.hid hb1⟩
 case round =>
  clear hS1 hb1
  obtain ⟨i, v, g, hin, rfl, hC, hbr⟩ := hrel
  obtain ⟨hok, hpl, Yg⟩ := Es (Ok.new h2) (ds.take i)
  have hle : (ds.take i).length ≤ 60 := by rw [List.length_take]; omega
  have hnl : (dI n).L.length = 0 ∧ (dI n).dr.length = n := ⟨rfl, by simp [dI]⟩
  by_cases hlt : i < ds.length
  ·have b2 : (i : Int) < (ds.length : Int) := by omega
   have wi : IntKind.i64.wrap ((i : Int) + 1) = (i : Int) + 1 := by rw [IntKind.wrap_i64]; omega
   have hrr := hr.out.below hbr.out
   obtain ⟨Mv, cap', e0, r1, r2, r3⟩ := hrr
   injection e0 with e1 _ e2
   subst e1 e2
   obtain ⟨B, off, rfl, hB, hcell⟩ := r3 (by omega)
   have hx := fun (j : Nat) (z : Value) (hz : (sj ds[i])[j]? = some z) => hcell i ds[i] j z (List.getElem?_eq_getElem hlt) hz
   have hsn := Lj (dI n) hlt
   generalize hxd : ds[i] = x at *
   have hfx := Vz x (by rw [← hxd]; exact List.getElem_mem hlt)
   obtain ⟨cm, ⟨y1, y2, y3, y4, y5, y6, y7, y8, y9⟩, xi, xt⟩ := x
   have k0 : wr.cell? ⟨B, off + i * 12, none⟩ = some (.bool cm) := hx 0 _ rfl
   have k1 : wr.cell? ⟨B, off + i * 12 + 1, none⟩ = some (.int .i64 y1) := hx 1 _ rfl
   have k2 : wr.cell? ⟨B, off + i * 12 + 1 + 1, none⟩ = some (.int .i64 y2) := (congrArg (fun z => wr.cell? ⟨B, z, none⟩) (show off + i * 12 + 1 + 1 = off + (i * 12 + 2) by omega)).trans (hx 2 _ rfl)
   have k3 : wr.cell? ⟨B, off + i * 12 + 1 + 2, none⟩ = some (.int .i64 y3) := (congrArg (fun z => wr.cell? ⟨B, z, none⟩) (show off + i * 12 + 1 + 2 = off + (i * 12 + 3) by omega)).trans (hx 3 _ rfl)
   have k4 : wr.cell? ⟨B, off + i * 12 + 1 + 3, none⟩ = some (.int .i64 y4) := (congrArg (fun z => wr.cell? ⟨B, z, none⟩) (show off + i * 12 + 1 + 3 = off + (i * 12 + 4) by omega)).trans (hx 4 _ rfl)
   have k5 : wr.cell? ⟨B, off + i * 12 + 1 + 4, none⟩ = some (.int .i64 y5) := (congrArg (fun z => wr.cell? ⟨B, z, none⟩) (show off + i * 12 + 1 + 4 = off + (i * 12 + 5) by omega)).trans (hx 5 _ rfl)
   have k6 : wr.cell? ⟨B, off + i * 12 + 1 + 5, none⟩ = some (.int .i64 y6) := (congrArg (fun z => wr.cell? ⟨B, z, none⟩) (show off + i * 12 + 1 + 5 = off + (i * 12 + 6) by omega)).trans (hx 6 _ rfl)
   have k7 : wr.cell? ⟨B, off + i * 12 + 1 + 6, none⟩ = some (.bool y7) := (congrArg (fun z => wr.cell? ⟨B, z, none⟩) (show off + i * 12 + 1 + 6 = off + (i * 12 + 7) by omega)).trans (hx 7 _ rfl)
   have k8 : wr.cell? ⟨B, off + i * 12 + 1 + 7, none⟩ = some (.int .i64 y8) := (congrArg (fun z => wr.cell? ⟨B, z, none⟩) (show off + i * 12 + 1 + 7 = off + (i * 12 + 8) by omega)).trans (hx 8 _ rfl)
   have k9 : wr.cell? ⟨B, off + i * 12 + 1 + 8, none⟩ = some (.int .i64 y9) := (congrArg (fun z => wr.cell? ⟨B, z, none⟩) (show off + i * 12 + 1 + 8 = off + (i * 12 + 9) by omega)).trans (hx 9 _ rfl)
   have k10 : wr.cell? ⟨B, off + i * 12 + 10, none⟩ = some (.int .i64 xi) := hx 10 _ rfl
   have k11 : wr.cell? ⟨B, off + i * 12 + 10 + 1, none⟩ = some (.int .i64 xt) := hx 11 _ rfl
   clear hx r3 hcell
   obtain ⟨M, hM⟩ : ∃ M, M = mY (dI n) (ds.take i) := ⟨_, rfl⟩
   rw [← hM] at hC hok hpl Yg hsn
   cases cm with
   | false =>
     have hq := TG hC.out hbr.out.size ⟨y1, y2, y3, y4, y5, y6, y7, y8, y9⟩ hok (by omega) (by omega) (by omega) hfx.1.node
     rw [show (fC M (toW ⟨y1, y2, y3, y4, y5, y6, y7, y8, y9⟩)).2 = mY (dI n) (ds.take (i + 1)) from hsn.symm, show (encR ⟨y1, y2, y3, y4, y5, y6, y7, y8, y9⟩).toArray = #[.int .i64 y1, .int .i64 y2, .int .i64 y3, .int .i64 y4, .int .i64 y5, .int .i64 y6, .bool y7, .int .i64 y8, .int .i64 y9] from rfl] at hq
     replace hq := Lib.hid hq
     go_wp2_with fail
     go_at_call 34
     refine hq.out.mono ?_
     clear hq k0 k1 k2 k3 k4 k5 k6 k7 k8 k9 k10 k11
     rintro e w3 ⟨v3, g3, rfl, Ch, _, hb3⟩
     have RZ := Lib.hid (hbr.out.trans hb3)
     have R3 := Lib.hid (Ch.wider (show 1000 * (i : Int) + 1000 ≤ 1000 * ((i + 1 : Nat) : Int) by omega))
     clear Ch hb3
     go_wp2_with fail
     go_roundw
     case rel => exact ⟨i + 1, v3, g3, by omega, by go_num, R3, RZ⟩
     case measure => simp [intOf]; omega
   | true =>
     have hq := Jn hC.out hbr.out.size xi xt hok (by omega) (by omega) (by omega) hfx.2.2
     rw [show (cO M xi xt).2 = mY (dI n) (ds.take (i + 1)) from hsn.symm] at hq
     replace hq := Lib.hid hq
     go_wp2_with fail
     go_at_call 33
     refine hq.out.mono ?_
     clear hq k0 k1 k2 k3 k4 k5 k6 k7 k8 k9 k10 k11
     rintro e w3 ⟨v3, g3, rfl, Ch, _, hb3⟩
     have RZ := Lib.hid (hbr.out.trans hb3)
     have R3 := Lib.hid (Ch.wider (show 1000 * (i : Int) + 1000 ≤ 1000 * ((i + 1 : Nat) : Int) by omega))
     clear Ch hb3
     go_wp2_with fail
     go_roundw
     case rel => exact ⟨i + 1, v3, g3, by omega, by go_num, R3, RZ⟩
     case measure => simp [intOf]; omega
  ·have b2 : ¬ (i : Int) < (ds.length : Int) := by omega
   have hi : i = ds.length := by omega
   subst hi
   rw [List.take_length] at hC
   have hC' := Lib.hid (hC.out.wider (show (1000 * (ds.length : Int)) ≤ 60000 by omega))
   go_wp2_with fail
   go_ret
   exact ⟨s, rfl, ⟨c, t, d, p, v, g, hC'.out⟩, hbr.out⟩
end
end Go.Proofs.YtelnhablglomjaaGreat

namespace Go.Proofs.YtelnhablglomjaaGreat
open Go.RowKit Go.Lib
theorem Lm {L K : List Jb} {i : Nat} (h1 : i < L.length) (h2 : i < K.length) (he : L.take i = K.take i) (hx : L.getD i default = K.getD i default) : L.take (i + 1) = K.take (i + 1) := by
 rw [List.take_succ_eq_append_getElem h1, List.take_succ_eq_append_getElem h2, he]
 rw [List.getD, List.getElem?_eq_getElem h1, List.getD, List.getElem?_eq_getElem h2] at hx
 simp only [Option.getD_some] at hx
 rw [hx]
section
variable {w w' : World} {u v : Value} {L K : List Jb}
theorem Gc (hu : aC ai 10 w u L) (hv : aC ai 10 w v K) (hL : L.length ≤ 100000) : Calls Tryz.prog 23 #[u, v] w fun e w' => e = .returned (.bool (decide (L = K))) ∧ Below w.heap.size w w' := by
 have hU := Lib.hid hu
 have hV := Lib.hid hv
 obtain ⟨ao, cap, rfl, h1, h2⟩ := hu.shape
 obtain ⟨bo, Zb, rfl, h3, h4⟩ := hv.shape
 obtain ⟨n, hn⟩ : ∃ n, n = L.length := ⟨_, rfl⟩
 obtain ⟨m, hm⟩ : ∃ m, m = K.length := ⟨_, rfl⟩
 rw [← hn] at h1 hL ⊢
 rw [← hm] at h3 ⊢
 clear hu hv
 by_cases hnm : n = m
 ·subst hnm
  replace hn := Lib.hid hn
  replace hm := Lib.hid hm
  go_enter Tryz.func23, Tryz.ntmps23
  go_wp2_with fail
  go_loopw [5] (fun ii wr => ∃ i : Nat, i ≤ n ∧ ii = .int .i64 i ∧ Hid (L.take i = K.take i) ∧ Hid (Below w.heap.size w wr)) (fun ii _ => n - (intOf ii).toNat)
  case atStart => exact ⟨0, Nat.zero_le _, rfl, by show _ = _; simp, Below.refl _ _⟩
  case round =>
   obtain ⟨i, hi, rfl, hsm, hbw⟩ := hrel
   by_cases hlt : i < n
   ·have b2 : (i : Int) < (n : Int) := by omega
    have b0 : (0 : Int) ≤ (i : Int) := by omega
    have wi : IntKind.i64.wrap ((i : Int) + 1) = (i : Int) + 1 := by rw [IntKind.wrap_i64]; omega
    have hi1 : i < L.length := by rw [← hn.out]; exact hlt
    have hi2 : i < K.length := by rw [← hm.out]; exact hlt
    obtain ⟨b, off, cp, hv5, _, _, hbl, hc⟩ := (hU.out.below hbw.out).Pp i hi1
    obtain ⟨d, Yx, cp2, hv6, _, _, hdl, hd⟩ := (hV.out.below hbw.out).Pp i hi2
    rw [← hn.out] at hv5
    rw [← hm.out] at hv6
    cases hv5
    cases hv6
    have hmore := Lm hi1 hi2 hsm.out
    have hless : L.getD i default ≠ K.getD i default → ¬ L = K := fun h e => h (by rw [e])
    generalize L.getD i default = x at *
    generalize K.getD i default = y at *
    obtain ⟨x1, x2, x3, x4, x5, x6, x7, x8, x9, x0⟩ := x
    obtain ⟨y1, y2, y3, y4, y5, y6, y7, y8, y9, y0⟩ := y
    have a0 := hc 0 _ rfl
    have a1 := hc 1 _ rfl
    have a2 := hc 2 _ rfl
    have a3 := hc 3 _ rfl
    have a4 := hc 4 _ rfl
    have a5 := hc 5 _ rfl
    have a6 := hc 6 _ rfl
    have a7 := hc 7 _ rfl
    have a8 := hc 8 _ rfl
    have a9 := hc 9 _ rfl
    rw [Nat.add_zero] at a0
    have e0 := hd 0 _ rfl
    have e1 := hd 1 _ rfl
    have e2 := hd 2 _ rfl
    have e3 := hd 3 _ rfl
    have e4 := hd 4 _ rfl
    have e5 := hd 5 _ rfl
    have e6 := hd 6 _ rfl
    have e7 := hd 7 _ rfl
    have e8 := hd 8 _ rfl
    have e9 := hd 9 _ rfl
    rw [Nat.add_zero] at e0
    have hq := fun W => Pn (x1, x2, x3, x4, x5, x6, x7, x8, x9, x0) (y1, y2, y3, y4, y5, y6, y7, y8, y9, y0) W
    rw [uD, uD] at hq
    clear hc hd
    by_cases hxy : (x1, x2, x3, x4, x5, x6, x7, x8, x9, x0) = (y1, y2, y3, y4, y5, y6, y7, y8, y9, y0)
    ·rw [decide_eq_true hxy, Bool.not_true] at hq
     have hm1 : Hid (L.take (i + 1) = K.take (i + 1)) := hmore hxy
     have hbd : Hid (Below w.heap.size w wr.drew) := hbw.out.drew
     clear hmore hless hxy
     go_wp2_with fail
     go_region
     all_goals (try go_wp2_with fail)
     exact ⟨⟨i + 1, by omega, by go_num, hm1, hbd⟩, by simp [intOf]; omega⟩
    ·rw [decide_eq_false hxy, Bool.not_false] at hq
     have hf : Hid (decide (L = K) = false) := decide_eq_false (hless hxy)
     have hbd : Hid (Below w.heap.size w wr.drew) := hbw.out.drew
     clear hmore hless hxy
     go_wp2_with fail
     go_region
     all_goals (try go_wp2_with fail)
     go_ret
     exact ⟨by rw [hf.out]; rfl, hbd.out⟩
   ·obtain rfl : i = n := by omega
    have b2 : ¬ (i : Int) < (i : Int) := by omega
    have hf : Hid (decide (L = K) = true) := by
     refine decide_eq_true ?_
     have h := hsm.out
     rw [hn.out, List.take_length] at h
     rw [h, ← hn.out, hm.out, List.take_length]
    go_wp2_with fail
    go_ret
    exact ⟨by rw [hf.out]; rfl, hbw.out⟩
 ·have dn : ((n : Int) != (m : Int)) = true := by simp; omega
  have hf : Hid (decide (L = K) = false) := decide_eq_false fun e => hnm (by rw [hn, hm, e])
  replace hn := Lib.hid hn
  replace hm := Lib.hid hm
  clear hnm
  go_enter Tryz.func23, Tryz.ntmps23
  go_wp2_with fail
  go_ret
  exact ⟨by rw [hf.out]; rfl, Below.refl _ _⟩
end
section
end
section
end
end Go.Proofs.YtelnhablglomjaaGreat

namespace Go.Proofs.YtelnhablglomjaaGreat
open Go.ChangeShapes Go.WideShapes Go.ChangeAt Go.RowKit Go.Lib Go.Sort Go.Deep
section
variable {H : Type} {enc : TypeId × Value → H} {w : World} {base : Nat} {v : Value} {d : DataW H} {ps : List MemPlace}
def TH : List TypeId := [4, 3, 3, 3, 3, 2, 3, 4, 3, 2, 3, 2]
theorem Ci {α : Type} {Cj : α → List Value} {p : α → Prop} : ∀ {l : List (List Value)}, (∀ s ∈ l, ∃ x : α, s = Cj x ∧ p x) → ∃ L : List α, l = L.map Cj ∧ ∀ x ∈ L, p x
 | [], _ => ⟨[], rfl, fun _ h => nomatch h⟩
 | s :: l, h => by
   obtain ⟨x, rfl, hx⟩ := h s List.mem_cons_self
   obtain ⟨L, rfl, hL⟩ := Ci (l := l) fun s hs => h s (List.mem_cons_of_mem _ hs)
   exact ⟨x :: L, rfl, fun y hy => by
    rcases List.mem_cons.1 hy with rfl | hy
    ·exact hx
    ·exact hL y hy⟩
theorem Lp {α : Type} {Cj : α → List Value} {n : Nat} {L : List α} (h : aC id n w v (L.map Cj)) : aC Cj n w v L := by
 obtain ⟨ao, cap, h1, h2, h3, h4⟩ := h
 rw [List.length_map] at h1 h2 h4
 refine ⟨ao, cap, h1, h2, h3, fun hn => ?_⟩
 obtain ⟨b, off, e, hlt, hc⟩ := h4 hn
 exact ⟨b, off, e, hlt, fun i s j u hi hj => hc i (Cj s) j u (by rw [List.getElem?_map, hi]; rfl) hj⟩
theorem OU (hval : Value.okWide Tryz.prog w .any base 22 v) (hd : DataW.Trod enc Tryz.prog w 0 (fun _ => true) true 22 v d ps) : ∃ l : List De, aC sj 12 w v l ∧ ∀ x ∈ l, yQ x := by
 obtain ⟨l, hr, hf⟩ := MR (n := 3) (ts := TH) Tryz.underlying22 (by kernel_rfl) (by kernel_rfl) (by kernel_rfl) (by decide) hval hd
 obtain ⟨L, rfl, hL⟩ := Ci (Cj := sj) (p := yQ) fun s hs => by
  obtain ⟨hl, hf⟩ := hf s hs
  match s, hl with
  | [a0, a1, a2, a3, a4, a5, a6, a7, a8, a9, Zc, Zd], _ =>
    obtain ⟨x0, rfl⟩ := vJ hf 0 rfl Tryz.underlying4 rfl
    obtain ⟨x1, rfl, b1⟩ := eu hf 1 rfl Tryz.underlying3 rfl
    obtain ⟨x2, rfl, b2⟩ := eu hf 2 rfl Tryz.underlying3 rfl
    obtain ⟨x3, rfl, b3⟩ := eu hf 3 rfl Tryz.underlying3 rfl
    obtain ⟨x4, rfl, b4⟩ := eu hf 4 rfl Tryz.underlying3 rfl
    obtain ⟨x5, rfl, b5⟩ := eu hf 5 rfl Tryz.underlying2 rfl
    obtain ⟨x6, rfl, b6⟩ := eu hf 6 rfl Tryz.underlying3 rfl
    obtain ⟨x7, rfl⟩ := vJ hf 7 rfl Tryz.underlying4 rfl
    obtain ⟨x8, rfl, b8⟩ := eu hf 8 rfl Tryz.underlying3 rfl
    obtain ⟨x9, rfl, b9⟩ := eu hf 9 rfl Tryz.underlying2 rfl
    obtain ⟨Km, rfl, b10⟩ := eu hf 10 rfl Tryz.underlying3 rfl
    obtain ⟨Wl, rfl, b11⟩ := eu hf 11 rfl Tryz.underlying2 rfl
    exact ⟨⟨x0, ⟨x1, x2, x3, x4, x5, x6, x7, x8, x9⟩, Km, Wl⟩, rfl, ⟨b1, b2, b3, b4, b5, b6, b8, b9⟩, b10, b11⟩
 exact ⟨L, Lp hr, hL⟩
end
end Go.Proofs.YtelnhablglomjaaGreat

namespace Go.Proofs.YtelnhablglomjaaGreat
open Go.RowKit Go.Lib Go.Sort
def qV (B : Nat) (w : World) (P : World → Prop) : Prop := ∀ w' : World, (∀ k, B ≤ k → k < w.heap.size → w'.heap[k]? = w.heap[k]?) → w.heap.size ≤ w'.heap.size → P w'
section
variable {B : Nat} {w w' : World} {P : World → Prop}
theorem qV.now (h : qV B w P) : P w := h w (fun _ _ _ => rfl) (Nat.le_refl _)
theorem qV.off (h : qV B w P) (hk : ∀ k, B ≤ k → k < w.heap.size → w'.heap[k]? = w.heap[k]?) (hs : w.heap.size ≤ w'.heap.size) : qV B w' P := fun W h1 h2 =>
 h W (fun k a b => (h1 k a (Nat.lt_of_lt_of_le b hs)).trans (hk k a b)) (Nat.le_trans hs h2)
theorem qV.kept (h : qV B w P) (hb : Below w.heap.size w w') : qV B w' P := h.off (fun k _ hk => hb.block k hk) hb.size
theorem Jo {c t d p g a : Nat} {v : Value} {m : Int} {M : Md} (h : CW w c t d p v g a m (ah M)) (hll : M.L.length ≤ 900) : Calls Tryz.prog 24 #[.pointer (some ⟨t, 0, none⟩)] w fun e w' => ∃ u, e = .returned u ∧ qV w.heap.size w' (fun W => aC ai 10 W u M.L) ∧ Below w.heap.size w w' := by
 refine (SH h.eO (by show M.L.length ≤ 1000; omega)).mono ?_
 rintro e w' ⟨u, rfl, h1, h2⟩
 exact ⟨u, rfl, fun W hW _ => aC.jH (MP h1 fun k hk => hW k (h1.lt k hk).1 (h1.lt k hk).2) au rfl rfl, h2⟩
end
section
end
end Go.Proofs.YtelnhablglomjaaGreat
