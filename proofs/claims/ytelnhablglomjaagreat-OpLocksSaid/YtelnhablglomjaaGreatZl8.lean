/-
 Own words and walks, merged: part 8 of 9.
-/
import Derived.Deep.LoopGhost
import Derived.LaidEql
import Derived.Laws.StructEq
import Derived.Test.YtelnhablglomjaaGreatZl7
set_option maxRecDepth 1000000
set_option maxHeartbeats 8000000
set_option linter.all false
namespace Go.Proofs.YtelnhablglomjaaGreat
open Go.RowKit Go.Lib Go.Sort
structure Bg (a : Nat) (m mx : Int) (R : Wk) (M : Md) : Prop where
 left : R.left = fE 40
 inv : aF M
 calm : Calm M
 cl : M.cl = false
 one : 1 ≤ M.dr.length
 few : M.L.length ≤ 190
 ha : a ≤ 1 + 2 * M.L.length
 hm : m + 1000 ≤ mx
 hmx : mx ≤ 1000000
 ok : R.ok = false
section
variable {L : List Jb} {id : Int} {ok : Jb → Bool} {ch : Jb → Jb} {M : Md}
theorem xG (L : List Jb) (i : Nat) : L[i]! = L.getD i default := by rw [List.getElem!_eq_getElem?_getD, List.getD_eq_getElem?_getD]
theorem uk (h : ¬ (id < 1 ∨ (L.length : Int) < id)) : bN L id = L.getD (id - 1).toNat default := by
 unfold bN
 rw [if_neg (by omega), if_neg (by omega), xG]
theorem yG (h : id < 1 ∨ (L.length : Int) < id) : bM L 0 id ok = 7 := by
 unfold bM
 rw [if_neg (by decide)]
 split
 ·rfl
 ·rw [if_pos (by omega)]
theorem Cg (h : ¬ (id < 1 ∨ (L.length : Int) < id)) (ho : ok (L.getD (id - 1).toNat default) = false) : bM L 0 id ok = 8 := by
 unfold bM
 rw [if_neg (by decide), if_neg (by omega), if_neg (by omega), xG, ho]
 rfl
theorem uQ (h : ¬ (id < 1 ∨ (L.length : Int) < id)) (ho : ok (L.getD (id - 1).toNat default) = true) : bM L 0 id ok = 0 := by
 unfold bM
 rw [if_neg (by decide), if_neg (by omega), if_neg (by omega), xG, ho]
 rfl
theorem pz {e0 : Int} (h : bM L e0 id ok = 0) : cu L e0 id ok ch = L.set (id - 1).toNat (ch (L.getD (id - 1).toNat default)) := by
 unfold cu
 rw [if_pos h, xG]
theorem Er (h : id < 1 ∨ (M.L.length : Int) < id) : getM M id = (default, false) := if_pos h
theorem xH (h : ¬ (id < 1 ∨ (M.L.length : Int) < id)) : getM M id = (M.L.getD (id - 1).toNat default, true) := if_neg h
theorem yH {x : Jb} (h : ¬ (id < 1 ∨ (L.length : Int) < id)) : bN (L.set (id - 1).toNat x) id = x := by
 rw [uk (by rw [List.length_set]; exact h), gm, if_pos ⟨rfl, by omega⟩]
theorem vZ (r : Rw) (h : r.id < 1 ∨ (M.L.length : Int) < r.id) : fP M r = (fG 7, M) := by
 unfold fP
 rw [Er h]
 exact if_pos rfl
theorem Oz (r : Rw) (h : r.id < 1 ∨ (M.L.length : Int) < r.id) : mh M r = (fG 7, M) := by
 unfold mh
 rw [Er h]
 exact if_pos rfl
end
section
variable {a N : Nat} {m mx : Int} {P : Pg} {M M' : Md} {R : Wk} {Q : Nat → Int → Wk → Pg → Prop}
theorem Lf (hl : R.left = fE 40) (hc : M.cl = true) (ha : a ≤ 800) (hm : m ≤ mx) :
 fo 1000 a m R (ah M) (Fin mx M (lZ (fG 12)) false) :=
 aX (N := 999) bu (fun _ _ _ _ _ _ _ _ hS => CY hS hc) hl rfl ha hm rfl rfl rfl
theorem Lg (h : Bg a m mx R M) (hq : ¬ (1 ≤ R.ag.kind ∧ R.ag.kind ≤ 13)) :
 fo 1000 a m R (ah M) (Fin mx M (lZ (fG 4)) false) :=
 aX (N := 999) bu (fun _ _ _ _ _ _ _ _ hS => Jc hS h.cl hq) h.left rfl (by have := h.ha; have := h.few; omega) (by have := h.hm; omega) rfl rfl rfl
theorem fK {k k' a' : Nat} {m' : Int} {R' : Wk} {P' : Pg} (hk : ∀ args w, Sem.run Tryz.prog (callFunc k args) w = .ok (.enter k args) w)
 (hp : dY k a m R P (fE k') a' m' R' P')
 (hl : R.left = fE k) (hl' : R'.left = R.left)
 (hn : fo N a' m' { R' with left := fE k' } P' Q) : fo (N + 1) a m R P Q :=
 vW hl (hl'.trans hl) hk hp hn
theorem C8 (h : Bg a m mx R M) (hk : R.ag.kind = 4) :
 fo 1000 a m R (ah M) (Fin mx (fP M (toW R.ag)).2 (lZ (fP M (toW R.ag)).1) false) := by
 have hll := h.few
 have ha := h.ha
 have hm := h.hm
 have hrd : jG R.ag.kind = false := by rw [hk]; rfl
 have jo : ∀ {L : Value} {a' : Nat} {m' : Int} {R' : Wk} {P' : Pg}, dY 86 a m R (ah M) L a' m' R' P' → dY 40 a m R (ah M) L a' m' R' P' := fun hn w b c t d p v g hS => fO hS h.cl (by rw [hk]; decide) hrd (Oq hS hk (hn w b c t d p v g hS))
 by_cases hid : R.ag.id < 1 ∨ (M.L.length : Int) < R.ag.id
 ·rw [vZ (toW R.ag) hid]
  exact aX (N := 999) bu (jo (fun _ _ _ _ _ _ _ _ hS => xu hS 7 (by decide) (yG hid))) h.left rfl (by omega) (by omega) rfl rfl rfl
 ·have hi : (R.ag.id - 1).toNat < M.L.length := by omega
  have hmem := aY hi
  have eM := xH (M := M) hid
  by_cases hs : (M.L.getD (R.ag.id - 1).toNat default).st = 2
  ·have hE : bM M.L 0 R.ag.id (fun j : Jb => decide (j.state = 2)) = 0 := uQ hid (decide_eq_true hs)
   have hr : dY 86 a m R (ah M) _ _ _ _ _ := fun _ _ _ _ _ _ _ _ hS => IY hS hE
   have eL : cu (ah M).J 0 R.ag.id (fun j : Jb => decide (j.state = 2)) oN = M.L.set (R.ag.id - 1).toNat ((M.L.getD (R.ag.id - 1).toNat default).setSt 1) := pz hE
   rw [eL, yH hid] at hr
   generalize hx : M.L.getD (R.ag.id - 1).toNat default = x at *
   have bo := h.inv.one _ hmem
   have bw := h.inv.mb.wid _ hmem
   have bl := h.inv.mb.lim _ hmem
   have bf := h.inv.mb.fin _ hmem
   have bn := h.inv.mb.bP _ hmem
   have hp : x.aN = -1 := h.inv.rest _ hmem (by omega)
   have hpl : aj (x.setSt 1) = false := by unfold aj; simp [show (x.setSt 1).aN = -1 from hp]
   have hI1 : aF { M with L := M.L.set (R.ag.id - 1).toNat (x.setSt 1) } :=
    h.inv.set (i := (R.ag.id - 1).toNat) (y := x.setSt 1) (h.inv.mb.set _ _ bw bl (by show -1 ≤ x.aN ∧ x.aN ≤ _; omega) bf bn) (by rw [hx]; rfl) ⟨bo.1, bo.2.1, bo.2.2.1, (show (1 : Int) ≤ 1 by omega), (show (1 : Int) ≤ 6 by omega)⟩ (fun _ => hp) (fun e => absurd (show (1 : Int) = 3 from e) (by decide)) (.inl hp) (h.inv.lF.set hi fun n e => by unfold aH at e; simp [Jb.setSt, Jb.st] at e)
     fun t ht => mX h.inv hi (by rw [hx]; exact ⟨fun e => absurd (show (1 : Int) = 3 from e) (by decide), fun e => by omega⟩) (by rw [hx]; rfl) (by rw [hx]; rfl) hpl t ht
   have hP : ({ ah M with J := M.L.set (R.ag.id - 1).toNat (x.setSt 1) } : Pg) = ah { M with L := M.L.set (R.ag.id - 1).toNat (x.setSt 1) } := by
    have h3 : ((x.setSt 1).st = 3) ↔ ((M.L.getD (R.ag.id - 1).toNat default).st = 3) := by rw [hx]; exact ⟨fun e => absurd (show (1 : Int) = 3 from e) (by decide), fun e => by omega⟩
    have e1 : cZ M = cZ { M with L := M.L.set (R.ag.id - 1).toNat (x.setSt 1) } := by
     refine pq (by rw [bC, bC]) fun n hn => ?_
     rw [df, df, pK hi h3 (by rw [hx]; rfl)]
    have e2 : (fun t => ax M t 0) = fun t => ax { M with L := M.L.set (R.ag.id - 1).toNat (x.setSt 1) } t 0 := by
     funext t
     rw [qW hi h3 (by rw [hx]; rfl) (by rw [hx]; rfl), dN hpl, hx, dN (by unfold aj; simp [hp])]
     omega
    show Pg.mk _ _ (cZ M) (fun t => ax M t 0) _ = _
    rw [e1, e2]
    rfl
   rw [hP] at hr
   have e : fP M (toW R.ag) = (nD (x.setSt 1), fu { M with L := M.L.set (R.ag.id - 1).toNat (x.setSt 1) } (x.setSt 1)) := by
    have hj : fw (toW R.ag).kind x = x.setSt 1 := by unfold fw; rw [show (toW R.ag).kind = 4 from hk]; rfl
    unfold fP
    rw [show (toW R.ag).id = R.ag.id from rfl, eM]
    refine (if_neg (fun e => nomatch e)).trans ((if_neg ?_).trans ((if_pos hk).trans ?_))
    ·show ¬ ((R.ag.kind = 3 ∧ x.st ≠ 1) ∨ (R.ag.kind = 4 ∧ x.st ≠ 2))
     omega
    ·show (nD (fw (toW R.ag).kind x), fu { M with L := M.L.set (R.ag.id - 1).toNat (fw (toW R.ag).kind x) } (fw (toW R.ag).kind x)) = _
     rw [hj]
   rw [e]
   refine (fK (N := 901) (k := 40) (k' := 99) bu (jo hr) h.left rfl ?_).more (show 902 ≤ 1000 by decide)
   have hL : (M.L.set (R.ag.id - 1).toNat (x.setSt 1)).length = M.L.length := List.length_set
   have Xt := Cf (x.setSt 1) (M.L.set (R.ag.id - 1).toNat (x.setSt 1))
   have hidx : x.id = (((R.ag.id - 1).toNat : Nat) : Int) + 1 := by rw [← hx]; exact h.inv.ids _ hi
   have := ui (M := { M with L := M.L.set (R.ag.id - 1).toNat (x.setSt 1) }) (M' := fu { M with L := M.L.set (R.ag.id - 1).toNat (x.setSt 1) } (x.setSt 1)) (R := { ({ R with aB := x.setSt 1, rep := iV (x.setSt 1) } : Wk) with left := fE 99 }) (mx := mx) rfl (by show x.id ≠ 0; omega) h.one (by show (M.L.set (R.ag.id - 1).toNat (x.setSt 1)).length ≤ 900; omega) h.hmx 900 (L := M.L.set (R.ag.id - 1).toNat (x.setSt 1)) rfl (by show hits (x.setSt 1) _ ≤ 900; omega) hI1 rfl (by show a + 2 * hits (x.setSt 1) _ ≤ 800; omega) (by show m + (hits (x.setSt 1) _ : Nat) ≤ mx; omega)
   exact this.ok h.ok
  ·have hE : bM M.L 0 R.ag.id (fun j : Jb => decide (j.state = 2)) = 8 := Cg hid (decide_eq_false hs)
   have e : fP M (toW R.ag) = (fG 8, M) := by
    unfold fP
    rw [show (toW R.ag).id = R.ag.id from rfl, eM]
    exact (if_neg (fun e => nomatch e)).trans (if_pos (.inr ⟨hk, hs⟩))
   rw [e]
   exact aX (N := 999) bu (jo (fun _ _ _ _ _ _ _ _ hS => xu hS 8 (by decide) hE)) h.left rfl (by omega) (by omega) rfl rfl rfl
end
end Go.Proofs.YtelnhablglomjaaGreat

namespace Go.Proofs.YtelnhablglomjaaGreat
open Go.RowKit Go.Lib Go.Sort
section
variable {a N : Nat} {m mx : Int} {P : Pg} {M M' : Md} {R : Wk} {Q : Nat → Int → Wk → Pg → Prop}
theorem Es {i : Nat} {y : Jb} (hi : i < M.L.length) (hs : (M.L.getD i default).st ≠ 3) (hy : y.st ≠ 3) (hy2 : y.bP = (M.L.getD i default).bP) (hy3 : y.fin = (M.L.getD i default).fin) (hyp : aj y = false)
 (hI : aF M) (hI1 : aF { M with L := M.L.set i y }) (h1 : 1 ≤ M.dr.length) (hll : M.L.length ≤ 900) (ha : a ≤ 700) (hm : m + 1 ≤ mx) (hmx : mx ≤ 1000000)
 (hl : R.left = fE 103) (hj : R.aB = M.L.getD i default) :
 fo (N + 1) a m R { ah M with J := M.L.set i y } (Fin mx { M with L := M.L.set i y } R.rep R.ok) := by
 have hmem := aY hi
 have bo := hI.one _ hmem
 have bw := hI.mb.wid _ hmem
 have bl := hI.mb.lim _ hmem
 have bp := hI.mb.aN _ hmem
 have hst : (y.st = 3) ↔ ((M.L.getD i default).st = 3) := ⟨fun e => absurd e hy, fun e => absurd e hs⟩
 have dK := fB hI h1 hll
 have l8 := fB hI1 h1 (by rw [List.length_set]; exact hll)
 have sG : PK { ah M with J := M.L.set i y } := ⟨dK.now, l8.few, l8.st, l8.lim, dK.rH, dK.f⟩
 have eT : cZ M = cZ { M with L := M.L.set i y } := by
  refine pq (by rw [bC, bC]) fun n hn => ?_
  rw [df, df, pK hi hst hy2]
 have ef : ∀ t, ax { M with L := M.L.set i y } t 0 = ax M t 0 + dM t 0 (M.L.getD i default) := fun t => by
  rw [qW hi hst hy2 hy3, dN hyp]
  omega
 have eP : ∀ F : Int → Int, F = (fun t => ax { M with L := M.L.set i y } t 0) → ({ ah M with J := M.L.set i y, f := F } : Pg) = ah { M with L := M.L.set i y } := fun F hF => by
  show Pg.mk _ _ (cZ M) F _ = _
  rw [eT, hF]
  rfl
 cases hp : aj (M.L.getD i default) with
 | true =>
   have hv : dY 103 a m R { ah M with J := M.L.set i y } _ _ _ _ _ := fun _ _ _ _ _ _ _ _ hS => FV hS sG (by omega) (by omega) (by rw [hj]; exact hp) (by rw [hj]; exact bp.2) (by rw [hj]; exact bl) (by rw [hj]; exact bo.2.2.1) (by rw [hj]; exact bw) (fun t => ax { M with L := M.L.set i y } t 0) (fun t ht => by
    rw [hj]
    have hu := rM hI hi hp t
    rw [iR hi, dN (j := (M.L.getD i default).aG (-1)) (by unfold aj; simp [Jb.aG, Jb.aN])] at hu
    show ax { M with L := M.L.set i y } t 0 = ax M t 0 + had (max (M.L.getD i default).aN M.now) ((M.L.getD i default).aN + (M.L.getD i default).lim) (M.L.getD i default).wid t
    rw [ef]
    omega) (fun t ht => l8.f t ht)
   have e := eP (fun t => ax { M with L := M.L.set i y } t 0) rfl
   rw [e] at hv
   exact aX (a' := a + 2) (m' := m + 1) vY hv hl rfl (by omega) (by omega) rfl rfl rfl
 | false =>
   have hv : dY 103 a m R { ah M with J := M.L.set i y } _ _ _ _ _ := fun _ _ _ _ _ _ _ _ hS => FW hS sG (by omega) (by omega) (by rw [hj]; exact hp) (by rw [hj]; exact hs) (by rw [hj]; exact bp.2) (by rw [hj]; exact bl)
   have e : ({ ah M with J := M.L.set i y } : Pg) = ah { M with L := M.L.set i y } := eP _ (by
    funext t
    rw [ef, dN hp]
    show ax M t 0 = _
    omega)
   have hv2 : dY 103 a m R { ah M with J := M.L.set i y } .nilFunc a m R (ah { M with L := M.L.set i y }) := by rw [← e]; exact hv
   exact aX (a' := a) (m' := m) vY hv2 hl rfl (by omega) (by omega) rfl rfl rfl
theorem Lh (h : Bg a m mx R M) (hk : R.ag.kind = 3) :
 fo 1000 a m R (ah M) (Fin mx (fP M (toW R.ag)).2 (lZ (fP M (toW R.ag)).1) false) := by
 have hll := h.few
 have ha := h.ha
 have hm := h.hm
 have hrd : jG R.ag.kind = false := by rw [hk]; rfl
 have jo : ∀ {L : Value} {a' : Nat} {m' : Int} {R' : Wk} {P' : Pg}, dY 85 a m R (ah M) L a' m' R' P' → dY 40 a m R (ah M) L a' m' R' P' := fun hn w b c t d p v g hS => fO hS h.cl (by rw [hk]; decide) hrd (Oo hS hk (hn w b c t d p v g hS))
 by_cases hid : R.ag.id < 1 ∨ (M.L.length : Int) < R.ag.id
 ·rw [vZ (toW R.ag) hid]
  exact aX (N := 999) bu (jo (fun _ _ _ _ _ _ _ _ hS => Eg hS 7 (by decide) (yG hid))) h.left rfl (by omega) (by omega) rfl rfl rfl
 ·have hi : (R.ag.id - 1).toNat < M.L.length := by omega
  have eM := xH (M := M) hid
  by_cases hs : (M.L.getD (R.ag.id - 1).toNat default).st = 1
  ·have hE : bM M.L 0 R.ag.id (fun j : Jb => decide (j.state = 1)) = 0 := uQ hid (decide_eq_true hs)
   have hr : dY 85 a m R (ah M) _ _ _ _ _ := fun _ _ _ _ _ _ _ _ hS => Rj hS hE
   have eL : cu (ah M).J 0 R.ag.id (fun j : Jb => decide (j.state = 1)) pY = M.L.set (R.ag.id - 1).toNat (((M.L.getD (R.ag.id - 1).toNat default).setSt 2).aG (-1)) := pz hE
   rw [eL, yH hid, show bN (ah M).J R.ag.id = M.L.getD (R.ag.id - 1).toNat default from uk hid] at hr
   have e : fP M (toW R.ag) = (nD (((M.L.getD (R.ag.id - 1).toNat default).setSt 2).aG (-1)), { M with L := M.L.set (R.ag.id - 1).toNat (((M.L.getD (R.ag.id - 1).toNat default).setSt 2).aG (-1)) }) := by
    have hj : fw (toW R.ag).kind (M.L.getD (R.ag.id - 1).toNat default) = ((M.L.getD (R.ag.id - 1).toNat default).setSt 2).aG (-1) := by unfold fw; rw [show (toW R.ag).kind = 3 from hk]; rfl
    have hk4 : ¬ (toW R.ag).kind = 4 := by rw [show (toW R.ag).kind = 3 from hk]; decide
    unfold fP
    rw [show (toW R.ag).id = R.ag.id from rfl, eM]
    refine (if_neg (fun e => nomatch e)).trans ((if_neg ?_).trans ((if_neg hk4).trans ?_))
    ·show ¬ ((R.ag.kind = 3 ∧ (M.L.getD (R.ag.id - 1).toNat default).st ≠ 1) ∨ (R.ag.kind = 4 ∧ (M.L.getD (R.ag.id - 1).toNat default).st ≠ 2))
     omega
    ·show (nD (fw (toW R.ag).kind (M.L.getD (R.ag.id - 1).toNat default)), { M with L := M.L.set (R.ag.id - 1).toNat (fw (toW R.ag).kind (M.L.getD (R.ag.id - 1).toNat default)) }) = _
     rw [hj]
   have hI1 := (h.inv.EX h.calm (toW R.ag)).1
   rw [e] at hI1 ⊢
   refine (fK (N := 1) (k := 40) (k' := 103) bu (jo hr) h.left rfl ?_).more (show 2 ≤ 1000 by decide)
   exact fo.ok (Es (N := 0) (mx := mx) (a := a) (m := m) (y := ((M.L.getD (R.ag.id - 1).toNat default).setSt 2).aG (-1)) hi (by rw [hs]; decide) (show (2 : Int) ≠ 3 by decide) rfl rfl (by unfold aj; rw [show (((M.L.getD (R.ag.id - 1).toNat default).setSt 2).aG (-1)).aN = -1 from rfl]; simp) h.inv hI1 h.one (by omega) (by omega) (by omega) h.hmx rfl rfl) h.ok
  ·have hE : bM M.L 0 R.ag.id (fun j : Jb => decide (j.state = 1)) = 8 := Cg hid (decide_eq_false hs)
   have e : fP M (toW R.ag) = (fG 8, M) := by
    unfold fP
    rw [show (toW R.ag).id = R.ag.id from rfl, eM]
    exact (if_neg (fun e => nomatch e)).trans (if_pos (.inl ⟨hk, hs⟩))
   rw [e]
   exact aX (N := 999) bu (jo (fun _ _ _ _ _ _ _ _ hS => Eg hS 8 (by decide) hE)) h.left rfl (by omega) (by omega) rfl rfl rfl
theorem xI (h : Bg a m mx R M) (s : Int) (hk : (R.ag.kind = 2 ∧ s = 5) ∨ (R.ag.kind = 5 ∧ s = 4)) :
 fo 1000 a m R (ah M) (Fin mx (mh M (toW R.ag)).2 (lZ (mh M (toW R.ag)).1) false) := by
 have hll := h.few
 have ha := h.ha
 have hm := h.hm
 have ku := h.inv.mb.now
 have dK := fB h.inv h.one (by omega)
 have hrd : jG R.ag.kind = false := by rcases hk with ⟨hk, _⟩ | ⟨hk, _⟩ <;> (rw [hk]; rfl)
 have jo : ∀ {L : Value} {a' : Nat} {m' : Int} {R' : Wk} {P' : Pg}, (∀ (w : World) (b c t d p : Nat) (v : Value) (g : Nat), SW w b c t d p v g a m R (ah M) → Calls Tryz.prog 84 #[.pointer (some ⟨b, 0, none⟩), .pointer (some ⟨c, 0, none⟩), .int .i64 s] w (ay w b c t d p v g a' m' L R' P')) → dY 40 a m R (ah M) L a' m' R' P' := fun hn w b c t d p v g hS => by
  rcases hk with ⟨hk, rfl⟩ | ⟨hk, rfl⟩
  ·exact fO hS h.cl (by rw [hk]; decide) hrd (Ol hS hk (hn w b c t d p v g hS))
  ·exact fO hS h.cl (by rw [hk]; decide) hrd (Om hS hk (hn w b c t d p v g hS))
 have Vy : bB s M.now = 0 := by unfold bB; (repeat' split) <;> omega
 by_cases hid : R.ag.id < 1 ∨ (M.L.length : Int) < R.ag.id
 ·rw [Oz (toW R.ag) hid]
  exact aX (N := 999) bu (jo (fun _ _ _ _ _ _ _ _ hS => zz hS dK s 7 (by decide) (by rw [show (ah M).now = M.now from rfl, Vy]; exact yG hid))) h.left rfl (by omega) (by omega) rfl rfl rfl
 ·have hi : (R.ag.id - 1).toNat < M.L.length := by omega
  have hmem := aY hi
  have bo := h.inv.one _ hmem
  have eM := xH (M := M) hid
  by_cases hs : eX s (M.L.getD (R.ag.id - 1).toNat default) = true
  ·have hE : bM (ah M).J (bB s (ah M).now) R.ag.id (eX s) = 0 := by rw [show (ah M).now = M.now from rfl, Vy]; exact uQ hid hs
   have hr : ∀ (w : World) (b c t d p : Nat) (v : Value) (g : Nat), SW w b c t d p v g a m R (ah M) → Calls Tryz.prog 84 #[.pointer (some ⟨b, 0, none⟩), .pointer (some ⟨c, 0, none⟩), .int .i64 s] w (ay w b c t d p v g _ _ _ _ _) := fun _ _ _ _ _ _ _ _ hS => KS hS dK s hE
   obtain ⟨y, OA⟩ : ∃ y, y = iJ M R.ag.kind (M.L.getD (R.ag.id - 1).toNat default) := ⟨_, rfl⟩
   have hyj : bQ s M.now (M.L.getD (R.ag.id - 1).toNat default) = y := by
    rw [OA]
    unfold iJ bQ
    have es : (if R.ag.kind = 5 then (4 : Int) else 5) = s := by split <;> omega
    rw [es]
    by_cases e3 : (M.L.getD (R.ag.id - 1).toNat default).st = 3
    ·rw [if_pos e3, if_pos (show (M.L.getD (R.ag.id - 1).toNat default).2.2.2.2.2.1 = 3 from e3)]; rfl
    ·rw [if_neg e3, if_neg (show ¬ (M.L.getD (R.ag.id - 1).toNat default).2.2.2.2.2.1 = 3 from e3)]; rfl
   have eL : cu (ah M).J (bB s (ah M).now) R.ag.id (eX s) (bQ s (ah M).now) = M.L.set (R.ag.id - 1).toNat y := (pz hE).trans (by rw [← hyj]; rfl)
   rw [eL, yH hid, show bN (ah M).J R.ag.id = M.L.getD (R.ag.id - 1).toNat default from uk hid] at hr
   have hok : ¬ (3 < (M.L.getD (R.ag.id - 1).toNat default).st ∨ (R.ag.kind = 5 ∧ (M.L.getD (R.ag.id - 1).toNat default).st ≠ 3)) := by
    unfold eX at hs
    rw [Bool.or_eq_true, Bool.and_eq_true, decide_eq_true_iff, decide_eq_true_iff, decide_eq_true_iff] at hs
    have : (M.L.getD (R.ag.id - 1).toNat default).state = (M.L.getD (R.ag.id - 1).toNat default).st := rfl
    omega
   have e : mh M (toW R.ag) = (nD y, { M with L := M.L.set (R.ag.id - 1).toNat y }) := by
    unfold mh
    rw [show (toW R.ag).id = R.ag.id from rfl, eM]
    refine (if_neg (fun e => nomatch e)).trans ((if_neg hok).trans ?_)
    rw [OA]
    rfl
   have hI1 := (h.inv.LB h.calm (toW R.ag)).1
   rw [e] at hI1 ⊢
   have hy3 : y.st ≠ 3 := by
    rw [OA]
    show (if R.ag.kind = 5 then (4 : Int) else 5) ≠ 3
    split <;> omega
   have hyp : aj y = false := by
    unfold aj
    rw [show y.aN = -1 by rw [OA]; rfl]
    simp
   have Vz : y.bP = (M.L.getD (R.ag.id - 1).toNat default).bP := by rw [OA]; unfold iJ; split <;> rfl
   refine (fK (N := 2) (k := 40) (k' := 101) bu (jo hr) h.left rfl ?_).more (show 3 ≤ 1000 by decide)
   clear OA hyj
   have l8 := fB hI1 h.one (by rw [List.length_set]; omega)
   by_cases h3 : (M.L.getD (R.ag.id - 1).toNat default).st = 3
   ·have hrn := h.inv.runs _ hmem h3
    have LC := h.inv.mb.bP _ hmem
    have hfin := h.inv.mb.fin _ hmem
    have hlt := h.calm.runs _ hmem h3
    have hg := fun (w : World) (b c t d p : Nat) (v : Value) (g : Nat) (hS' : SW w b c t d p v g a m { ({ R with aB := M.L.getD (R.ag.id - 1).toNat default, rep := iV y } : Wk) with left := fE 101 } { ah M with J := M.L.set (R.ag.id - 1).toNat y }) => NQ hS' ⟨dK.now, l8.few, l8.st, l8.lim, dK.rH, dK.f⟩ h3 LC
    obtain ⟨n, hn⟩ : ∃ n : Int, n = ((List.range M.dr.length).countP (fun k => cK (M.L.getD (R.ag.id - 1).toNat default).bP.toNat k && !(M.dr.getD k false)) : Nat) := ⟨_, rfl⟩
    have hn2 : 0 ≤ n ∧ n ≤ 64 := by
     have h4 := List.countP_le_length (p := fun k => cK (M.L.getD (R.ag.id - 1).toNat default).bP.toNat k && !(M.dr.getD k false)) (l := List.range M.dr.length)
     rw [List.length_range] at h4
     have := h.inv.mb.nn
     omega
    refine fK (N := 1) (k := 101) (k' := 103) (a' := a) (m' := m)
     (R' := { ({ ({ R with aB := M.L.getD (R.ag.id - 1).toNat default, rep := iV y } : Wk) with left := fE 101 } : Wk) with idle := n }) (P' := { ah M with J := M.L.set (R.ag.id - 1).toNat y, T := cZ { M with L := M.L.set (R.ag.id - 1).toNat y } })
     Je (fun w b c t d p v g hS' => (hg w b c t d p v g hS').mono fun e w' hp => ?_) rfl rfl ?_
    ·obtain ⟨n', x', T', h5, h6⟩ := hp
     obtain ⟨h7, _, h8⟩ := D8 h.inv hi h3 hy3 h5
     rw [← hn] at h7
     subst h7 h8
     exact h6
    ·have hv : dY 103 a m { ({ ({ ({ R with aB := M.L.getD (R.ag.id - 1).toNat default, rep := iV y } : Wk) with left := fE 101 } : Wk) with idle := n } : Wk) with left := fE 103 } { ah M with J := M.L.set (R.ag.id - 1).toNat y, T := cZ { M with L := M.L.set (R.ag.id - 1).toNat y } } _ _ _ _ _ := fun _ _ _ _ _ _ _ _ hS2 => IM hS2 ⟨dK.now, l8.few, l8.st, l8.lim, l8.rH, dK.f⟩ (by omega) (by have := h.hmx; omega) h3 (h.inv.mb.aN _ hmem).2 (h.inv.mb.lim _ hmem) ⟨hlt, hfin.2⟩ (by show -64 ≤ n ∧ n ≤ 64; omega) (fun t => ax { M with L := M.L.set (R.ag.id - 1).toNat y } t 0) (fun t ht => by
      have hf := qY h.inv.lF hi h3 hy3 hyp t 0
      show ax { M with L := M.L.set (R.ag.id - 1).toNat y } t 0 = ax M t 0 + had (max M.now M.now) (M.L.getD (R.ag.id - 1).toNat default).fin n t
      have ht' : M.now ≤ t := ht
      unfold had
      by_cases c1 : t < (M.L.getD (R.ag.id - 1).toNat default).fin
      ·rw [if_pos c1] at hf
       rw [if_pos ⟨by omega, .inl c1⟩, hf, hn]
      ·rw [if_neg c1] at hf
       rw [if_neg (by omega), hf]
       rfl) (fun t ht => l8.f t ht)
     exact aX (N := 0) vY hv rfl rfl (by omega) (by omega) rfl rfl h.ok
   ·refine fK (N := 1) (k := 101) (k' := 103) Je (fun w b c t d p v g (hS' : SW w b c t d p v g a m { ({ R with aB := M.L.getD (R.ag.id - 1).toNat default, rep := iV y } : Wk) with left := fE 101 } { ah M with J := M.L.set (R.ag.id - 1).toNat y }) => Q0 hS' h3) rfl rfl ?_
    have Ym : y.fin = (M.L.getD (R.ag.id - 1).toNat default).fin := by
     have : y = bQ s M.now (M.L.getD (R.ag.id - 1).toNat default) := by
      have := congrArg (fun l : List Jb => l.getD (R.ag.id - 1).toNat default) eL
      rw [show cu (ah M).J (bB s (ah M).now) R.ag.id (eX s) (bQ s (ah M).now) = M.L.set (R.ag.id - 1).toNat (bQ s M.now (M.L.getD (R.ag.id - 1).toNat default)) from pz hE] at this
      simp only [gm] at this
      rw [if_pos ⟨trivial, hi⟩, if_pos ⟨trivial, hi⟩] at this
      exact this.symm
     rw [this]
     show (if (M.L.getD (R.ag.id - 1).toNat default).2.2.2.2.2.1 = 3 then M.now else _) = _
     rw [if_neg (show ¬ (M.L.getD (R.ag.id - 1).toNat default).2.2.2.2.2.1 = 3 from h3)]
     rfl
    exact fo.ok (Es (N := 0) (mx := mx) (a := a) (m := m) (y := y) hi h3 hy3 Vz Ym hyp h.inv hI1 h.one (by omega) (by omega) (by omega) h.hmx rfl rfl) h.ok
  ·rw [Bool.not_eq_true] at hs
   have hE : bM M.L (bB s M.now) R.ag.id (eX s) = 8 := by rw [Vy]; exact Cg hid hs
   have hno : 3 < (M.L.getD (R.ag.id - 1).toNat default).st ∨ (R.ag.kind = 5 ∧ (M.L.getD (R.ag.id - 1).toNat default).st ≠ 3) := by
    unfold eX at hs
    rw [Bool.or_eq_false_iff, Bool.and_eq_false_iff, decide_eq_false_iff_not, decide_eq_false_iff_not, decide_eq_false_iff_not] at hs
    have : (M.L.getD (R.ag.id - 1).toNat default).state = (M.L.getD (R.ag.id - 1).toNat default).st := rfl
    omega
   have e : mh M (toW R.ag) = (fG 8, M) := by
    unfold mh
    rw [show (toW R.ag).id = R.ag.id from rfl, eM]
    exact (if_neg (fun e => nomatch e)).trans (if_pos hno)
   rw [e]
   exact aX (N := 999) bu (jo (fun _ _ _ _ _ _ _ _ hS => zz hS dK s 8 (by decide) hE)) h.left rfl (by omega) (by omega) rfl rfl rfl
end
end Go.Proofs.YtelnhablglomjaaGreat

namespace Go.Proofs.YtelnhablglomjaaGreat
open Go.RowKit Go.Lib Go.Sort
section
variable {w : World} {b c t d p g a N : Nat} {v : Value} {m mx : Int} {P : Pg} {M M' : Md} {R : Wk} {Q : Nat → Int → Wk → Pg → Prop}
theorem RD {k : Nat} (hk : k < 64) (L : List Jb) : (holderL L k < 0 ∧ kL L k = il) ∨ ∃ i : Nat, holderL L k = i ∧ i < L.length ∧ kL L k = L.getD i default ∧ (L.getD i default).st = 3 := by
 have e : (fun j : Jb => decide (j.state ∈ [(3 : Int)]) && Ef (k : Int) j) = aH k := by
  funext j
  unfold aH Ef
  rw [nY hk, kR]
  have : (j.state ∈ [(3 : Int)]) ↔ (j.st = 3) := List.mem_singleton
  rw [decide_eq_decide.2 this]
 have e2 : kL L (k : Int) = match L.findIdx? (aH k) with | some i => L.getD i default | none => il := by
  unfold kL
  rw [e]
  cases L.findIdx? (aH k) <;> rfl
 rcases fC L k with h | ⟨i, h, hi, h2⟩
 ·refine .inl ⟨h, ?_⟩
  rw [e2]
  unfold holderL at h
  cases hf : L.findIdx? (aH k) with
  | none => rfl
  | some i => rw [hf] at h; simp only at h; omega
 ·refine .inr ⟨i, h, hi, ?_, by unfold aH at h2; simp at h2; exact h2.1⟩
  rw [e2]
  unfold holderL at h
  cases hf : L.findIdx? (aH k) with
  | none => rw [hf] at h; simp only at h; omega
  | some q =>
    rw [hf] at h
    simp only at h
    have : q = i := by omega
    subst this
    rfl
theorem wu {k : Nat} {bb : Bool} (hk : k < M.dr.length) (hb : M.dr.getD k false = !bb) (hI : aF M) (hC : ∀ j ∈ M.L, j.st = 3 → M.now < j.fin) (h1 : 1 ≤ M.dr.length) (hll : M.L.length ≤ 900)
 (hI' : aF { M with dr := M.dr.set k bb }) (hn : R.ag.node = k) (ha : a ≤ 800) (hm : m ≤ 1000000) {by' : Int} (hby : by' = if bb then -1 else 1)
 (h : SW w b c t d p v g a m R { ah M with T := cZ { M with dr := M.dr.set k bb } }) :
 Calls Tryz.prog 107 #[.pointer (some ⟨b, 0, none⟩), .pointer (some ⟨c, 0, none⟩), .int .i64 0, .int .i64 by'] w
  (ay w b c t d p v g (a + 2) (m + 1) .nilFunc { R with rep := ⟨0, (k : Int), aR { M with dr := M.dr.set k bb } k, 0, 0, 0, 0, 0, 0⟩ } (ah { M with dr := M.dr.set k bb })) := by
 have hnn := hI.mb.nn
 have ku := hI.mb.now
 have dK := fB hI h1 hll
 have l8 := fB hI' (by show 1 ≤ (M.dr.set k bb).length; rw [List.length_set]; exact h1) hll
 have hX : (max (gX (ah M) (k : Int)) M.now < 1152921504606846976) ∧ ∀ u, M.now ≤ u → ((decide (holderL M.L k < 0) || decide ((M.L.getD (holderL M.L k).toNat default).fin ≤ u)) = decide (max (gX (ah M) (k : Int)) M.now ≤ u)) := by
  rcases RD (show k < 64 by omega) M.L with ⟨g1, g2⟩ | ⟨i, g1, hi, g2, g3⟩
  ·have e : gX (ah M) (k : Int) = M.now := by
    unfold gX
    rw [show (ah M).J = M.L from rfl, g2]
    rfl
   rw [e]
   refine ⟨by omega, fun u hu => ?_⟩
   rw [decide_eq_true g1, Bool.true_or]
   exact (decide_eq_true (by omega)).symm
  ·have hf := hC _ (aY hi) g3
   have hf2 := hI.mb.fin _ (aY hi)
   have e : gX (ah M) (k : Int) = max (M.L.getD i default).fin (M.now + 1) := by
    unfold gX
    rw [show (ah M).J = M.L from rfl, g2, if_pos g3]
    rfl
   rw [e, g1, Int.toNat_natCast]
   refine ⟨by omega, fun u hu => ?_⟩
   rw [decide_eq_false (show ¬ ((i : Int) < 0) by omega), Bool.false_or]
   exact decide_eq_decide.2 (by omega)
 have Yn : qa (cZ { M with dr := M.dr.set k bb }) (k : Int) = aR { M with dr := M.dr.set k bb } k := by
  unfold qa
  rw [if_pos ⟨by omega, by rw [bC]; show (k : Int) < ((M.dr.set k bb).length : Nat); rw [List.length_set]; omega⟩, Int.toNat_natCast, df]
 have hv := KT (by' := by') h ⟨dK.now, dK.few, dK.st, dK.lim, l8.rH, dK.f⟩ ha hm hI.mb.bP (by omega) (by rw [hby]; split <;> omega) (fun u => ax { M with dr := M.dr.set k bb } u 0) (fun u hu => by
  have hu' : M.now ≤ u := hu
  have hd := wR hk bb u 0
  have hx := hX.2 u hu'
  rw [hn]
  show ax { M with dr := M.dr.set k bb } u 0 = ax M u 0 + had (max (gX (ah M) (k : Int)) M.now) 1152921504606846976 by' u
  have hnf : bS M u k = (!(M.dr.getD k false) && decide (max (gX (ah M) (k : Int)) M.now ≤ u)) := by rw [← hx]; rfl
  have hh : had (max (gX (ah M) (k : Int)) M.now) 1152921504606846976 by' u = if max (gX (ah M) (k : Int)) M.now ≤ u then by' else 0 := by unfold had; simp
  rw [hd, hnf, hx, hb, hh, hby]
  by_cases c1 : max (gX (ah M) (k : Int)) M.now ≤ u
  ·rw [decide_eq_true c1, if_pos c1]
   cases bb <;> simp <;> omega
  ·rw [decide_eq_false c1, if_neg c1]
   cases bb <;> simp) (fun u hu => l8.f u hu) (by
  rw [hn]
  have : gX { ah M with T := cZ { M with dr := M.dr.set k bb } } (k : Int) = gX (ah M) (k : Int) := rfl
  rw [this]
  omega)
 rw [hn, show ({ ah M with T := cZ { M with dr := M.dr.set k bb } } : Pg).T = cZ { M with dr := M.dr.set k bb } from rfl, Yn] at hv
 exact hv
theorem drain_eq {n : Nat} (h : dS lq M.L = none) : fF M n true = { M with dr := M.dr.set n true } := by
 unfold fF
 rw [if_pos rfl, ru h]
theorem wy {k : Nat} (hk : k < M.dr.length) {bb : Bool} (hb : M.dr.getD k false = !bb) : mO (cZ M) (k : Int) bb 0 (cZ { M with dr := M.dr.set k bb }) := by
 have hd : bb = decide ((cZ M).getD (k : Int).toNat 0 < 3) := by
  rw [Int.toNat_natCast, df, eU hk, hb]
  cases bb <;> (by_cases h1 : 0 ≤ holderL M.L k <;> simp [h1])
 have hc : mO (cZ M) (k : Int) bb 0 ((cZ M).set (k : Int).toNat (ky ((cZ M).getD (k : Int).toNat 0))) :=
  ⟨fun h => absurd h (by rw [bC]; omega), fun _ _ h => absurd hd h, fun _ _ _ => ⟨rfl, rfl⟩⟩
 have e := (Io hk hb hc).2
 rw [e] at hc
 exact hc
theorem F9 (h : Bg a m mx R M) (hk : R.ag.kind = 8) (hnd : -9223372036854775808 ≤ R.ag.node ∧ R.ag.node ≤ 9223372036854775807) :
 fo 1000 a m R (ah M) (Fin mx (ic M (toW R.ag)).2 (lZ (ic M (toW R.ag)).1) false) := by
 have hll := h.few
 have ha := h.ha
 have hm := h.hm
 have hmx := h.hmx
 have dK := fB h.inv h.one (by omega)
 have hrd : jG R.ag.kind = false := by rw [hk]; rfl
 have jo : ∀ {L : Value} {a' : Nat} {m' : Int} {R' : Wk} {P' : Pg}, dY 88 a m R (ah M) L a' m' R' P' → dY 40 a m R (ah M) L a' m' R' P' := fun hn w b c t d p v g hS => fO hS h.cl (by rw [hk]; decide) hrd (Ou hS hk (hn w b c t d p v g hS))
 have hd7 : decide ((toW R.ag).kind = 7) = false := decide_eq_false (by rw [show (toW R.ag).kind = 8 from hk]; decide)
 by_cases ho : R.ag.node < 0 ∨ (M.dr.length : Int) ≤ R.ag.node
 ·have e : ic M (toW R.ag) = (fG 11, M) := if_pos ho
  have hT : mO (cZ M) R.ag.node false 11 (cZ M) := ⟨fun _ => ⟨rfl, rfl⟩, fun h1 h2 => by rw [bC] at h2; omega, fun h1 h2 => by rw [bC] at h2; omega⟩
  rw [e]
  refine aX (N := 999) (a' := a) (m' := m) (R' := { R with rep := kz 11, ok := false }) bu (jo (fun _ _ _ _ _ _ _ _ hS => resume_fn (P' := ah M) hS dK hnd hT fun W v1 g1 hW => ?_)) h.left rfl (by omega) (by omega) rfl rfl rfl
  exact Eh hW 11 1 (by decide)
 ·obtain ⟨k, hkk⟩ := Int.eq_ofNat_of_zero_le (show 0 ≤ R.ag.node by omega)
  have hk2 : k < M.dr.length := by omega
  cases hdr : M.dr.getD k false with
  | false =>
    have e : ic M (toW R.ag) = (fG 8, M) := by
     unfold ic
     refine (if_neg ho).trans (if_pos ?_)
     rw [hd7, show (toW R.ag).node = R.ag.node from rfl, hkk, Int.toNat_natCast, hdr]
    have hs : (cZ M).getD R.ag.node.toNat 0 < 3 := by
     rw [hkk, Int.toNat_natCast, df, eU hk2, hdr]
     split <;> simp
    have hT : mO (cZ M) R.ag.node false 8 (cZ M) := ⟨fun h1 => by rw [bC] at h1; omega, fun _ _ _ => ⟨rfl, rfl⟩, fun _ _ h3 => by rw [decide_eq_true hs] at h3; cases h3⟩
    rw [e]
    refine aX (N := 999) (a' := a) (m' := m) (R' := { R with rep := kz 8, ok := false }) bu (jo (fun _ _ _ _ _ _ _ _ hS => resume_fn (P' := ah M) hS dK hnd hT fun W v1 g1 hW => ?_)) h.left rfl (by omega) (by omega) rfl rfl rfl
    exact Eh hW 8 1 (by decide)
  | true =>
    have e : ic M (toW R.ag) = ((0, (k : Int), aR { M with dr := M.dr.set k false } (k : Int), 0, 0, 0, 0, 0, 0), { M with dr := M.dr.set k false }) := by
     unfold ic
     refine (if_neg ho).trans ((if_neg ?_).trans ?_)
     ·rw [hd7, show (toW R.ag).node = R.ag.node from rfl, hkk, Int.toNat_natCast, hdr]
      exact fun e => nomatch e
     ·rw [hd7, show (toW R.ag).node = R.ag.node from rfl, hkk, Int.toNat_natCast]
      rfl
    have hI' := (h.inv.JG h.calm (toW R.ag)).1
    rw [e] at hI' ⊢
    have hT := wy hk2 (bb := false) hdr
    rw [← hkk] at hT
    refine aX (N := 999) bu (jo (fun _ _ _ _ _ _ _ _ hS => resume_fn hS dK hnd hT fun W v1 g1 hW => wu (bb := false) (by' := 1) hk2 hdr h.inv h.calm.runs h.one (by omega) hI' hkk (by omega) (by omega) rfl hW)) h.left rfl (by omega) (by omega) rfl rfl h.ok
theorem Jf {k : Nat} (hl : R.left = fE 106) (hkk : R.ag.node = k) (hk : k < M.dr.length) (hdr : M.dr.getD k false = false) (h1 : 1 ≤ M.dr.length) (hll : M.L.length ≤ 900) (hmx : mx ≤ 1000000) (hI' : aF (fF M k true)) (q : Nat) :
 ∀ {L : List Jb} {a : Nat} {m : Int}, L.length = M.L.length → hits lq L ≤ q → aF { M with L := L } → (∀ j ∈ L, j.st = 3 → M.now < j.fin) → fu { M with L := L } lq = fu M lq → a + 2 * hits lq L + 2 ≤ 800 → m + hits lq L + 1 ≤ mx →
  fo (q + 1) a m R (ah { M with L := L }) (Fin mx (fF M k true) ⟨0, (k : Int), aR (fF M k true) k, 0, 0, 0, 0, 0, 0⟩ R.ok) := by
 have last : ∀ {L : List Jb} {a : Nat} {m : Int} (q : Nat), L.length = M.L.length → dS lq L = none → aF { M with L := L } → (∀ j ∈ L, j.st = 3 → M.now < j.fin) → fu { M with L := L } lq = fu M lq → a + 2 ≤ 800 → m + 1 ≤ mx →
  fo (q + 1) a m R (ah { M with L := L }) (Fin mx (fF M k true) ⟨0, (k : Int), aR (fF M k true) k, 0, 0, 0, 0, 0, 0⟩ R.ok) := by
  intro L a m q hL ho hI hC hM ha hm
  have eD : fF M k true = { M with L := L, dr := M.dr.set k true } := by
   have h2 := ru (M := { M with L := L }) ho
   rw [h2] at hM
   unfold fF
   rw [if_pos rfl, ← hM]
  rw [eD] at hI' ⊢
  have hT := wy (M := { M with L := L }) (k := k) hk (bb := true) hdr
  rw [← hkk] at hT
  refine aX (N := q) Ep (fun _ _ _ _ _ _ _ _ hS => zB (M := { M with L := L }) hS (fB hI h1 (by show L.length ≤ 900; omega)) rfl hI h1 (by show L.length ≤ 900; omega) (by omega) (by omega) ho (by have := hI.mb.nn; have : M.dr.length ≤ 64 := this; omega) hT fun W v1 g1 hW => wu (M := { M with L := L }) (bb := true) (by' := -1) hk hdr hI hC h1 (by show L.length ≤ 900; omega) hI' hkk (by omega) (by omega) rfl hW) hl rfl (by omega) (by omega) rfl rfl rfl
 induction q with
 | zero =>
   intro L a m hL hq hI hC hM ha hm
   cases ho : dS lq L with
   | none => exact last 0 hL ho hI hC hM (by omega) (by omega)
   | some i =>
     have := (jy (L := L) ho).2.2.2.2
     omega
 | succ q ih =>
   intro L a m hL hq hI hC hM ha hm
   cases ho : dS lq L with
   | none => exact last (q + 1) hL ho hI hC hM (by omega) (by omega)
   | some i =>
     obtain ⟨hi, _, _, _, hh⟩ := jy ho
     refine fK (k := 106) (k' := 106) Ep (fun _ _ _ _ _ _ _ _ hS => zC (M := { M with L := L }) hS hI h1 (by show L.length ≤ 900; omega) (by omega) (by omega) ho) hl rfl ?_
     rw [← hl]
     refine ih (L := L.set i ((L.getD i default).aG (-1))) (by rw [List.length_set]; exact hL) (by omega) (hI.wU hi) (fun j hj => ?_) ((vG (M := { M with L := L }) ho).trans hM) (by omega) (by omega)
     rcases List.mem_or_eq_of_mem_set hj with h2 | rfl
     ·exact hC j h2
     ·exact fun hs => hC (L.getD i default) (aY hi) hs
theorem Jg (h : Bg a m mx R M) (hk : R.ag.kind = 7) (hnd : -9223372036854775808 ≤ R.ag.node ∧ R.ag.node ≤ 9223372036854775807) :
 fo 1000 a m R (ah M) (Fin mx (ic M (toW R.ag)).2 (lZ (ic M (toW R.ag)).1) false) := by
 have hll := h.few
 have ha := h.ha
 have hm := h.hm
 have hmx := h.hmx
 have dK := fB h.inv h.one (by omega)
 have hrd : jG R.ag.kind = false := by rw [hk]; rfl
 have jo : ∀ {L : Value} {a' : Nat} {m' : Int} {R' : Wk} {P' : Pg}, dY 87 a m R (ah M) L a' m' R' P' → dY 40 a m R (ah M) L a' m' R' P' := fun hn w b c t d p v g hS => fO hS h.cl (by rw [hk]; decide) hrd (Ot hS hk (hn w b c t d p v g hS))
 have hd7 : decide ((toW R.ag).kind = 7) = true := decide_eq_true hk
 by_cases ho : R.ag.node < 0 ∨ (M.dr.length : Int) ≤ R.ag.node
 ·have e : ic M (toW R.ag) = (fG 11, M) := if_pos ho
  rw [e]
  exact aX (N := 999) bu (jo (fun _ _ _ _ _ _ _ _ hS => En hS dK hnd 11 (.inl ⟨by
   unfold qa
   rw [if_neg (by rw [show (ah M).T = cZ M from rfl, bC]; omega)], rfl⟩))) h.left rfl (by omega) (by omega) rfl rfl rfl
 ·obtain ⟨k, hkk⟩ := Int.eq_ofNat_of_zero_le (show 0 ≤ R.ag.node by omega)
  have hk2 : k < M.dr.length := by omega
  have est : qa (ah M).T R.ag.node = aR M (k : Int) := by
   unfold qa
   rw [if_pos ⟨by omega, by rw [show (ah M).T = cZ M from rfl, bC]; omega⟩, hkk, Int.toNat_natCast]
   exact df k
  cases hdr : M.dr.getD k false with
  | true =>
    have e : ic M (toW R.ag) = (fG 8, M) := by
     unfold ic
     refine (if_neg ho).trans (if_pos ?_)
     rw [hd7, show (toW R.ag).node = R.ag.node from rfl, hkk, Int.toNat_natCast, hdr]
    rw [e]
    exact aX (N := 999) bu (jo (fun _ _ _ _ _ _ _ _ hS => En hS dK hnd 8 (.inr ⟨by
     rw [est, eU hk2, hdr]
     split <;> simp, rfl⟩))) h.left rfl (by omega) (by omega) rfl rfl rfl
  | false =>
    have e : ic M (toW R.ag) = ((0, (k : Int), aR (fF M k true) (k : Int), 0, 0, 0, 0, 0, 0), fF M k true) := by
     unfold ic
     refine (if_neg ho).trans ((if_neg ?_).trans ?_)
     ·rw [hd7, show (toW R.ag).node = R.ag.node from rfl, hkk, Int.toNat_natCast, hdr]
      exact fun e => nomatch e
     ·rw [hd7, show (toW R.ag).node = R.ag.node from rfl, hkk, Int.toNat_natCast]
    have hI' := (h.inv.JG h.calm (toW R.ag)).1
    rw [e] at hI' ⊢
    have hst : qa (ah M).T R.ag.node = 1 ∨ qa (ah M).T R.ag.node = 2 := by
     rw [est, eU hk2, hdr]
     split <;> simp
    have Xt := Cf lq M.L
    cases hz : dS lq M.L with
    | none =>
      have eD := drain_eq (n := k) hz
      have hI2 : aF { M with dr := M.dr.set k true } := by rw [← eD]; exact hI'
      have hT := wy hk2 (bb := true) hdr
      rw [← hkk] at hT
      show fo 1000 a m R (ah M) (Fin mx (fF M k true) ⟨0, (k : Int), aR (fF M k true) k, 0, 0, 0, 0, 0, 0⟩ false)
      rw [eD]
      refine aX (N := 999) bu (jo (fun _ _ _ _ _ _ _ _ hS => Em hS dK hnd hst fun W hW => zB hW dK rfl h.inv h.one (by omega) (by omega) (by omega) hz hnd hT fun W2 v1 g1 hW2 => wu (bb := true) (by' := -1) hk2 hdr h.inv h.calm.runs h.one (by omega) hI2 hkk (by omega) (by omega) rfl hW2)) h.left rfl (by omega) (by omega) rfl rfl h.ok
    | some i =>
      obtain ⟨hi, _, _, _, hh⟩ := jy hz
      refine (fK (N := 901) (k := 40) (k' := 106) bu (jo (fun _ _ _ _ _ _ _ _ hS => Em hS dK hnd hst fun W hW => zC hW h.inv h.one (by omega) (by omega) (by omega) hz)) h.left rfl ?_).more (show 902 ≤ 1000 by decide)
      refine fo.ok (Jf (M := M) (R := { R with left := fE 106 }) (mx := mx) (k := k) rfl hkk hk2 hdr h.one (by omega) hmx hI' 900 (L := M.L.set i ((M.L.getD i default).aG (-1))) (by rw [List.length_set]) (by omega) (h.inv.wU hi) (fun j hj => by
       rcases List.mem_or_eq_of_mem_set hj with h2 | rfl
       ·exact h.calm.runs j h2
       ·exact fun hs => h.calm.runs (M.L.getD i default) (aY hi) hs) (vG hz) (by omega) (by omega)) h.ok
end
end Go.Proofs.YtelnhablglomjaaGreat

namespace Go.Proofs.YtelnhablglomjaaGreat
open Go.RowKit Go.Lib Go.Sort
section
variable {M : Md}
theorem Early.set (h : Early M) {i : Nat} {y : Jb} (hy : y.st ≤ 2 → y.fin = -1) : Early { M with L := M.L.set i y } := fun j hj => by
 rcases List.mem_or_eq_of_mem_set hj with h1 | rfl
 ·exact h j h1
 ·exact hy
theorem Early.map (h : Early M) {f : Jb → Jb} (hf : ∀ j : Jb, (j.st ≤ 2 → j.fin = -1) → ((f j).st ≤ 2 → (f j).fin = -1)) : Early { M with L := M.L.map f } := fun j hj => by
 obtain ⟨x, hx, rfl⟩ := List.mem_map.1 hj
 exact hf x (h x hx)
theorem Early.drop (h : Early M) (j : Jb) : Early (fu M j) := h.map fun x hx => by
 unfold gK
 split
 ·exact hx
 ·exact hx
theorem Early.begin (h : Early M) (i : Nat) : Early (aW M i) := h.set fun hs => absurd hs (show ¬ (3 : Int) ≤ 2 by decide)
theorem Early.starts (n : Nat) (h : Early M) : Early (startGo n M) := by
 induction n generalizing M with
 | zero => exact h
 | succ n ih =>
   unfold startGo
   split
   ·exact ih (h.begin _)
   ·exact ih h
theorem Early.rq (h : Early M) : Early (dL M) := by
 refine Early.starts _ (h.map fun x hx => ?_)
 unfold aT
 split
 ·exact fun hs => absurd hs (show ¬ (6 : Int) ≤ 2 by decide)
 ·exact hx
theorem Early.dF (to : Int) (n : Nat) (h : Early M) : Early (dF to n M) := by
 induction n generalizing M with
 | zero => exact h
 | succ n ih =>
   unfold Proofs.YtelnhablglomjaaGreat.dF
   split
   ·exact h
   ·refine ih (Early.rq ?_)
    exact h
theorem Early.JI (h : Early M) (r : Rw) : Early (fD M r).2 := by
 have same : Early { M with cl := true } := h
 unfold fD
 repeat' split
 all_goals first | exact h | exact same | skip
 ·unfold jJ
  have ha : Early { M with L := M.L ++ [dw M r] } := fun j hj => by
   rcases List.mem_append.1 hj with h1 | h1
   ·exact h j h1
   ·rw [List.mem_singleton] at h1; subst h1; exact fun _ => rfl
  repeat' split
  ·exact h
  ·exact ha
  ·exact ha.drop _
 ·unfold mh
  simp only
  repeat' split
  ·exact h
  ·exact h
  ·refine h.set fun hs => ?_
   have e : (iJ M r.kind (getM M r.id).1).st = if r.kind = 5 then 4 else 5 := rfl
   rw [e] at hs
   split at hs <;> omega
 ·unfold fP
  simp only
  have hx : ((getM M r.id).2 = false) ∨ (getM M r.id).1 ∈ M.L := by
   cases hg : (getM M r.id).2 with
   | false => exact .inl rfl
   | true => exact .inr (kQ hg).1
  by_cases h1 : (getM M r.id).2 = false
  ·rw [if_pos h1]; exact h
  ·rw [if_neg h1]
   have hm := hx.resolve_left h1
   have hx1 := h _ hm
   split
   ·exact h
   ·rename_i h2
    have hy : (fw r.kind (getM M r.id).1).st ≤ 2 → (fw r.kind (getM M r.id).1).fin = -1 := by
     unfold fw
     split
     ·rename_i h3
      exact fun _ => hx1 (by by_cases e : (getM M r.id).1.st = 1 <;> omega)
     ·split
      ·rename_i h3
       exact fun _ => hx1 (by by_cases e : (getM M r.id).1.st = 2 <;> omega)
      ·exact hx1
    split
    ·exact (h.set hy).drop _
    ·exact h.set hy
 ·unfold ic
  repeat' split
  ·exact h
  ·exact h
  ·unfold fF
   split
   ·exact h.drop lq
   ·exact h
 ·unfold mE
  split
  ·exact h
  ·exact h.dF _ _
theorem Early.kE (h : Early M) (id t : Int) : Early (cO M id t).2 := by
 unfold cO
 split
 ·rename_i hf
  split
  ·exact h.begin _
  ·by_cases hi : (id - 1).toNat < M.L.length
   ·refine h.set fun hs => ?_
    exact h (M.L.getD (id - 1).toNat default) (aY hi) hs
   ·show Early { M with L := M.L.set (id - 1).toNat _ }
    rw [List.set_eq_of_length_le (by omega)]
    exact h
 ·exact h
theorem Li (n : Nat) : Early (dI n) := fun _ hj => nomatch hj
theorem OB (f : Nat → Bool) (n j : Nat) (h : ∀ k, n ≤ k → f k = false) : aO f (n + j) = aO f n := by
 induction j with
 | zero => rfl
 | succ j ih =>
   show aO f (n + j) + (if f (n + j) = true then 1 else 0) = _
   rw [h (n + j) (by omega), ih]
   simp
theorem um (h : aF M) (f : Nat → Bool) (x y : Int) (hf : ∀ k, f k = (decide (aR M k = x) || decide (aR M k = y))) (hx : x ≠ 0) (hy : y ≠ 0) : ((aO f 64 : Nat) : Int) = lu M x y := by
 have hn := h.mb.nn
 have hc := OB f M.dr.length (64 - M.dr.length) fun k hk => by
  rw [hf, iA (by omega), decide_eq_false (fun e => hx e.symm), decide_eq_false (fun e => hy e.symm)]
  rfl
 rw [show M.dr.length + (64 - M.dr.length) = 64 by omega] at hc
 rw [hc, rJ]
 unfold lu
 rw [show f = fun k : Nat => decide (aR M k = x) || decide (aR M k = y) from funext hf]
end
section
variable {w : World} {b c t d p g a N : Nat} {v : Value} {m mx : Int} {P : Pg} {M M' : Md} {R : Wk} {Q : Nat → Int → Wk → Pg → Prop}
theorem Lj (h : Bg a m mx R M) (hk : R.ag.kind = 6 ∨ R.ag.kind = 10 ∨ R.ag.kind = 11 ∨ R.ag.kind = 12) :
 fo 1000 a m R (ah M) (Fin mx (fD M (toW R.ag)).2 (lZ (fD M (toW R.ag)).1) false) := by
 have hll := h.few
 have ha := h.ha
 have hm := h.hm
 have hmx := h.hmx
 have hcl : ¬ M.cl = true := by rw [h.cl]; decide
 have dK := fB h.inv h.one (by omega)
 have hrd : jG R.ag.kind = true := by rcases hk with e | e | e | e <;> (rw [e]; rfl)
 have jo : ∀ {L : Value} {a' : Nat} {m' : Int} {R' : Wk} {P' : Pg}, dY 70 a m R (ah M) L a' m' R' P' → dY 40 a m R (ah M) L a' m' R' P' := fun hn w b c t d p v g hS => zF hS h.cl (by omega) hrd (hn w b c t d p v g hS)
 rcases hk with hk | hk | hk | hk
 ·by_cases hid : R.ag.id < 1 ∨ (M.L.length : Int) < R.ag.id
  ·have e : fD M (toW R.ag) = (fG 7, M) := by
    unfold fD
    rw [if_neg hcl, show (toW R.ag).kind = 6 from hk]
    exact vZ (toW R.ag) hid
   have hg : gH M.L R.ag.id = 7 := by unfold gH; (repeat' split) <;> omega
   rw [e]
   exact aX (N := 999) bu (jo (fun _ _ _ _ _ _ _ _ hS => zX hS hk 7 (by decide) hg)) h.left rfl (by omega) (by omega) rfl rfl rfl
  ·have hg : gH M.L R.ag.id = 0 := by unfold gH; (repeat' split) <;> omega
   have hi : (R.ag.id - 1).toNat < M.L.length := by omega
   have e : fD M (toW R.ag) = (nD (M.L.getD (R.ag.id - 1).toNat default), M) := by
    unfold fD
    rw [if_neg hcl, show (toW R.ag).kind = 6 from hk]
    show fP M (toW R.ag) = _
    unfold fP
    rw [show (toW R.ag).id = R.ag.id from rfl, xH hid, show (toW R.ag).kind = 6 from hk]
    show (nD (M.L.getD (R.ag.id - 1).toNat default), ({ M with L := M.L.set (R.ag.id - 1).toNat (M.L.getD (R.ag.id - 1).toNat default) } : Md)) = _
    have : M.L.set (R.ag.id - 1).toNat (M.L.getD (R.ag.id - 1).toNat default) = M.L := by
     simp only [List.getD, List.getElem?_eq_getElem hi, Option.getD_some, List.set_getElem_self]
    rw [this]
   have hr : dY 70 a m R (ah M) _ _ _ _ _ := fun _ _ _ _ _ _ _ _ hS => Ca hS hk hg
   rw [show bN (ah M).J R.ag.id = M.L.getD (R.ag.id - 1).toNat default from uk hid] at hr
   rw [e]
   exact aX (N := 999) bu (jo hr) h.left rfl (by omega) (by omega) rfl rfl h.ok
 ·have e : fD M (toW R.ag) = (((0, 0, 0, 0, 0, 0, (lu M 1 1 : Int), (lu M 2 3 : Int), (lu M 4 4 : Int)) : Rl), M) := by
   unfold fD
   rw [if_neg hcl, show (toW R.ag).kind = 10 from hk]
   rfl
  have hr : dY 70 a m R (ah M) _ _ _ _ _ := fun _ _ _ _ _ _ _ _ hS => Lb hS dK hk
  rw [show (ah M).T = cZ M from rfl, um h.inv (gZ (cZ M)) 1 1 (fun k => by rw [uL, Bool.or_self]) (by decide) (by decide),
   um h.inv (bX (cZ M)) 2 3 (fun k => by unfold bX; rw [df]) (by decide) (by decide),
   um h.inv (fun i => bY (cZ M) i && !bX (cZ M) i) 4 4 (fun k => by
    unfold bY bX
    rw [df]
    generalize aR M k = s
    by_cases h2 : s = 2
    ·subst h2; rfl
    ·by_cases h3 : s = 3
     ·subst h3; rfl
     ·rw [decide_eq_false h2, decide_eq_false h3]; simp) (by decide) (by decide)] at hr
  rw [e]
  exact aX (N := 999) bu (jo hr) h.left rfl (by omega) (by omega) rfl rfl h.ok
 ·have e : fD M (toW R.ag) = (((0, 0, 0, 0, 0, 0, (nL M 1 : Int), (nL M 2 : Int), (nL M 3 : Int)) : Rl), M) := by
   unfold fD
   rw [if_neg hcl, show (toW R.ag).kind = 11 from hk]
   rfl
  rw [e]
  exact aX (N := 999) bu (jo (fun _ _ _ _ _ _ _ _ hS => Lc hS dK hk)) h.left rfl (by omega) (by omega) rfl rfl h.ok
 ·have e : fD M (toW R.ag) = ((0, 0, 0, M.now, 0, 0, ax M M.now 0, 0, 0), M) := by
   unfold fD
   rw [if_neg hcl, show (toW R.ag).kind = 12 from hk]
   rfl
  rw [e]
  exact aX (N := 999) bu (jo (fun _ _ _ _ _ _ _ _ hS => zD hS (by omega) hk)) h.left rfl (by omega) (by omega) rfl rfl h.ok
theorem Ll (h : Bg a m mx R M) (hk : R.ag.kind = 13) (hrep : R.rep = nQ) :
 fo 1000 a m R (ah M) (Fin mx { M with cl := true } (lZ (fG 0)) false) := by
 have hll := h.few
 have ha := h.ha
 have hm := h.hm
 have hrd : jG R.ag.kind = false := by rw [hk]; rfl
 exact aX (N := 999) bu (fun _ _ _ _ _ _ _ _ hS => fO hS h.cl (by rw [hk]; decide) hrd (Ld hS hk)) h.left rfl (by omega) (by omega) rfl hrep h.ok
theorem C9 (to : Int) (hto : to ≤ 1099511627776) (hl : R.left = fE 110) (sU : R.target = to) (hmx : mx ≤ 1000000) (n : Nat) :
 ∀ {M : Md} {a : Nat} {m : Int}, aF M → Calm M → Early M → 1 ≤ M.dr.length → M.L.length ≤ 900 → M.now ≤ to → mf M < n → a ≤ 800 → m + n ≤ mx →
  fo n a m R (ah M) (Fin mx { dF to n M with now := to } ⟨0, 0, 0, to, 0, 0, ax (dF to n M) to 0, 0, 0⟩ R.ok) := by
 induction n with
 | zero =>
   intro M a m hI hC hE h1 hll hnt hn
   have := (mH nE 2 M.L fun j _ => oG j).1
   unfold mf at hn
   omega
 | succ n ih =>
   intro M a m hI hC hE h1 hll hnt hn ha hm
   by_cases hx : aS M < 0 ∨ to < aS M
   ·have e : dF to (n + 1) M = M := if_pos hx
    rw [e]
    have hf : dY 110 a m R (ah M) _ _ _ _ _ := fun _ _ _ _ _ _ _ _ hS => ve hS hI hE h1 hll ha (by omega) (by rw [sU]; exact hx) (by rw [sU]; exact ⟨hnt, hto⟩)
    rw [sU] at hf
    exact aX (N := n) zI hf hl rfl (by omega) (by omega) rfl rfl rfl
   ·have e : dF to (n + 1) M = dF to n (dL { M with now := aS M }) := if_neg hx
    rw [e]
    obtain ⟨a1, a2, a3⟩ := hI.step hC (by omega) (by omega)
    obtain ⟨b1, b2, b3, b4⟩ := a2.rq
    have hkp := nO a2.mb
    have hf : dY 110 a m R (ah M) _ _ _ _ _ := fun _ _ _ _ _ _ _ _ hS => zA hS hI hC hE h1 hll ha (by omega) (by rw [sU]; omega) (by rw [sU]; exact hto)
    refine fK (k := 110) (k' := 110) zI hf hl rfl ?_
    rw [← hl]
    refine ih b1 b2 (Early.rq hE) (by rw [hkp.2.2.2.1]; exact h1) (by rw [hkp.2.1]; exact hll) (by rw [hkp.2.2.1]; show aS M ≤ to; omega) ?_ ha (by omega)
    have := b4 a3
    have e2 : mf { M with now := aS M } = mf M := rfl
    omega
theorem Lm (h : Bg a m mx R M) (hE : Early M) (hk : R.ag.kind = 9) :
 fo 1000 a m R (ah M) (Fin mx (mE M R.ag.till).2 (lZ (mE M R.ag.till).1) false) := by
 have hll := h.few
 have ha := h.ha
 have hm := h.hm
 have hmx := h.hmx
 have ku := h.inv.mb.now
 have dK := fB h.inv h.one (by omega)
 have hrd : jG R.ag.kind = false := by rw [hk]; rfl
 have jo : ∀ {L : Value} {a' : Nat} {m' : Int} {R' : Wk} {P' : Pg}, dY 89 a m R (ah M) L a' m' R' P' → dY 40 a m R (ah M) L a' m' R' P' := fun hn w b c t d p v g hS => fO hS h.cl (by rw [hk]; decide) hrd (Ov hS hk (hn w b c t d p v g hS))
 by_cases hlow : R.ag.till < 1
 ·have e : mE M R.ag.till = (fG 10, M) := if_pos (.inl hlow)
  rw [e]
  exact aX (N := 999) bu (jo (fun _ _ _ _ _ _ _ _ hS => Oi hS dK hlow)) h.left rfl (by omega) (by omega) rfl rfl rfl
 ·by_cases hhi : 1099511627776 - M.now < R.ag.till
  ·have e : mE M R.ag.till = (fG 10, M) := if_pos (.inr hhi)
   rw [e]
   exact aX (N := 999) bu (jo (fun _ _ _ _ _ _ _ _ hS => La hS dK hlow hhi)) h.left rfl (by omega) (by omega) rfl rfl rfl
  ·have hev := (mH nE 2 M.L fun j _ => oG j).2
   have Xu : mf M < (2 * M.L.length + 1 : Nat) := by unfold mf; omega
   have e : mE M R.ag.till = ((0, 0, 0, M.now + R.ag.till, 0, 0, ax (pG M (M.now + R.ag.till)) (M.now + R.ag.till) 0, 0, 0), pG M (M.now + R.ag.till)) := if_neg (by omega)
   rw [e]
   obtain ⟨to, hto⟩ : ∃ to, to = M.now + R.ag.till := ⟨_, rfl⟩
   rw [← hto]
   unfold pG
   obtain ⟨n, hn⟩ : ∃ n, n = 2 * M.L.length := ⟨_, rfl⟩
   rw [← hn] at Xu ⊢
   by_cases hx : aS M < 0 ∨ to < aS M
   ·have e : dF to (n + 1) M = M := if_pos hx
    rw [e]
    refine aX (N := 999) (a' := a) (m' := m + 1) (R' := { R with target := to, rep := ⟨0, 0, 0, to, 0, 0, ax M to 0, 0, 0⟩ }) bu (jo (fun _ _ _ _ _ _ _ _ hS => Ja (P' := ah { M with now := to }) hS dK hlow hhi fun W hW => ?_)) h.left rfl (by omega) (by omega) rfl rfl h.ok
    rw [show (ah M).now + R.ag.till = to from hto.symm] at hW
    exact ve hW h.inv hE h.one (by omega) (by omega) (by omega) hx ⟨by show M.now ≤ to; omega, by show to ≤ _; omega⟩
   ·have e : dF to (n + 1) M = dF to n (dL { M with now := aS M }) := if_neg hx
    rw [e]
    obtain ⟨a1, a2, a3⟩ := h.inv.step h.calm (by omega) (by omega)
    obtain ⟨b1, b2, b3, b4⟩ := a2.rq
    have hkp := nO a2.mb
    refine (fK (N := n) (k := 40) (k' := 110) (a' := a) (m' := m + 1) (R' := { R with target := to }) (P' := ah (dL { M with now := aS M })) bu (jo (fun _ _ _ _ _ _ _ _ hS => Ja hS dK hlow hhi fun W hW => ?_)) h.left rfl ?_).more (show n + 1 ≤ 1000 by omega)
    ·rw [show (ah M).now + R.ag.till = to from hto.symm] at hW
     exact zA hW h.inv h.calm hE h.one (by omega) (by omega) (by omega) ⟨by omega, by show aS M ≤ to; omega⟩ (by show to ≤ _; omega)
    ·refine fo.ok (C9 (R := { ({ R with target := to } : Wk) with left := fE 110 }) (mx := mx) to (by omega) rfl rfl hmx n b1 b2 (Early.rq hE) (by rw [hkp.2.2.2.1]; exact h.one) (by rw [hkp.2.1]; show M.L.length ≤ 900; omega) (by rw [hkp.2.2.1]; show aS M ≤ to; omega) (by
      have := b4 a3
      have e2 : mf { M with now := aS M } = mf M := rfl
      omega) (by omega) (by omega)) h.ok
end
end Go.Proofs.YtelnhablglomjaaGreat

namespace Go.Proofs.YtelnhablglomjaaGreat
open Go.RowKit Go.Lib Go.Sort
section
variable {M : Md}
theorem Jh (hI : aF M) {id t : Int} (hf : fI M id t = true) : ∃ i : Nat, id = (i : Int) + 1 ∧ i < M.L.length ∧ (M.L.getD i default).st = 1 ∧ M.now ≤ t ∧ t ≤ 1099511627776 ∧ M.cl = false ∧
 ∀ u, t ≤ u → u < t + (M.L.getD i default).lim → (M.L.getD i default).wid ≤ ax M u ((i : Int) + 1) := by
 have hn := hI.mb.now
 unfold fI at hf
 simp only at hf
 split at hf
 ·cases hf
 rename_i hq
 have hg : (getM M id).2 = true := by cases e : (getM M id).2 <;> simp_all
 obtain ⟨hm, hi, he, hid⟩ := kQ hg
 rw [he] at hm hq hf
 have hs : (M.L.getD (id - 1).toNat default).st = 1 := by
  by_cases e : (M.L.getD (id - 1).toNat default).st = 1
  ·exact e
  ·exact absurd (.inr (.inr (.inl e))) hq
 have ht : M.now ≤ t ∧ t ≤ 1099511627776 := by omega
 have hcl : M.cl = false := by
  cases e : M.cl with
  | false => rfl
  | true => exact absurd (.inl e) hq
 have GQ := hI.ids _ hi
 have hroom := fun u => xP hn.1 ht.1 hf u
 rw [GQ] at hroom
 exact ⟨(id - 1).toNat, hid, hi, hs, ht.1, ht.2, hcl, hroom⟩
theorem Ch (hI : aF M) {i : Nat} (hi : i < M.L.length) (hroom : ∀ u, M.now ≤ u → u < M.now + (M.L.getD i default).lim → (M.L.getD i default).wid ≤ ax M u ((i : Int) + 1)) : (M.L.getD i default).wid ≤ aL M M.now M.dr.length := by
 have bo := hI.one _ (aY hi)
 have h0 := hroom M.now (Int.le_refl _) (by omega)
 have ht0 := mW (L := M.L) (fun j hj => hI.mb.wid j hj) M.now ((i : Int) + 1)
 unfold ax at h0
 omega
theorem Ga (hI : aF M) (hC : Calm M) {i : Nat} (hi : i < M.L.length) (hs : (M.L.getD i default).st = 1) {t : Int} (ht : M.now ≤ t ∧ t ≤ 1099511627776)
 (hroom : ∀ u, t ≤ u → u < t + (M.L.getD i default).lim → (M.L.getD i default).wid ≤ ax M u ((i : Int) + 1)) (u : Int) (hu : M.now ≤ u) :
 ax (if t = M.now then aW M i else { M with L := M.L.set i ((M.L.getD i default).aG t) }) u 0 = ax M u ((i : Int) + 1) + had (max t M.now) (t + (M.L.getD i default).lim) (-(M.L.getD i default).wid) u := by
 have hm := aY hi
 have bo := hI.one _ hm
 have bl := hI.mb.lim _ hm
 have hn := hI.mb.now
 have hid := hI.ids i hi
 rw [mG hi hI.ids]
 have hh : had (max t M.now) (t + (M.L.getD i default).lim) (-(M.L.getD i default).wid) u = if t ≤ u ∧ u < t + (M.L.getD i default).lim then -(M.L.getD i default).wid else 0 := by
  unfold had
  have e1 : max t M.now = t := by omega
  rw [e1]
  by_cases c : t ≤ u ∧ u < t + (M.L.getD i default).lim
  ·rw [if_pos c, if_pos ⟨c.1, .inl c.2⟩]
  ·rw [if_neg c, if_neg (by omega)]
 rw [hh]
 by_cases e : t = M.now
 ·subst e
  rw [if_pos rfl, qX hi (by omega)]
  have hlow := (hI.begin hC.runs hi hs (Ch hI hi hroom) fun v h1 h2 => by
   have := hroom v h1 h2
   rw [mG hi hI.ids] at this
   exact this).2
  rw [hlow]
  split <;> split <;> omega
 ·rw [if_neg e, iR hi]
  have hpl : aj ((M.L.getD i default).aG t) = true := by
   unfold aj
   rw [Bool.and_eq_true]
   exact ⟨decide_eq_true hs, decide_eq_true (show 0 ≤ t by omega)⟩
  have hc2 := mF (t := u) (but := 0) hpl (show (M.L.getD i default).id ≠ 0 by rw [hid]; omega)
  rw [hc2]
  show ax M u 0 + dM u 0 (M.L.getD i default) - (if t ≤ u ∧ u < t + (M.L.getD i default).lim then (M.L.getD i default).wid else 0) = _
  split <;> omega
end
section
variable {w : World} {b c t d p g a N : Nat} {v : Value} {m mx : Int} {P : Pg} {M M' : Md} {R : Wk} {Q : Nat → Int → Wk → Pg → Prop}
def l9 (M : Md) : Ry := if M.cl then kz 12 else nQ
theorem Gb (hl : R.left = fE 74) (hI : aF M) (hC : Calm M) (h1 : 1 ≤ M.dr.length) (hll : M.L.length ≤ 190) (ha : a ≤ 1 + 2 * M.L.length) (hm : m + 1000 ≤ mx) (hmx : mx ≤ 1000000)
 (ho : R.ok = false) (hrep : R.rep = nQ) (hxt : -9223372036854775808 ≤ R.dQ ∧ R.dQ ≤ 9223372036854775807) :
 fo 1000 a m R (ah M) (Fin mx (cO M R.kX R.dQ).2 (l9 M) (cO M R.kX R.dQ).1) := by
 cases hf : fI M R.kX R.dQ with
 | false =>
   have e : cO M R.kX R.dQ = (false, M) := if_neg (by rw [hf]; decide)
   rw [e]
   cases hcl : M.cl with
   | true => exact aX (N := 999) yF (fun _ _ _ _ _ _ _ _ hS => CX hS hcl) hl rfl (by omega) (by omega) rfl (by unfold l9; rw [hcl]; rfl) rfl
   | false => exact aX (N := 999) yF (fun _ _ _ _ _ _ _ _ hS => Oe hS hI h1 (by omega) (by omega) hxt hcl hf) hl rfl (by omega) (by omega) rfl (by unfold l9; rw [hcl]; exact hrep) ho
 | true =>
   obtain ⟨i, hid, hi, hs, ht1, ht2, hcl, hroom⟩ := Jh hI hf
   have Mf : (R.kX - 1).toNat = i := by omega
   have hmem := aY hi
   have bo := hI.one _ hmem
   have bl := hI.mb.lim _ hmem
   have bw := hI.mb.wid _ hmem
   have bp := hI.mb.aN _ hmem
   have GQ := hI.ids i hi
   have ku := hI.mb.now
   have dK := fB hI h1 (by omega)
   have e : cO M R.kX R.dQ = (true, if R.dQ = M.now then aW M i else { M with L := M.L.set i ((M.L.getD i default).aG R.dQ) }) := by
    unfold cO
    rw [if_pos hf, Mf]
    split <;> rfl
   have hI' := (hI.kE hC R.kX R.dQ).1
   rw [e] at hI' ⊢
   have hfree := Ga hI hC hi hs ⟨ht1, ht2⟩ hroom
   have hdr : (if R.dQ = M.now then aW M i else { M with L := M.L.set i ((M.L.getD i default).aG R.dQ) }).dr.length = M.dr.length := by split <;> rfl
   have RF : (if R.dQ = M.now then aW M i else { M with L := M.L.set i ((M.L.getD i default).aG R.dQ) }).now = M.now := by split <;> rfl
   have Us : nQ = l9 M := by unfold l9; rw [hcl]; rfl
   have Yo : bN M.L R.kX = M.L.getD i default := by rw [uk (by omega), Mf]
   have hck : dY 74 a m R (ah M) _ _ _ _ _ := fun _ _ _ _ _ _ _ _ hS => K8 hS hI h1 (by omega) (by omega) hxt hcl hf
   rw [Yo] at hck
   have yU : ∀ u, ax M u ((i : Int) + 1) = ax M u 0 + dM u 0 (M.L.getD i default) := fun u => mG hi hI.ids u
   have l8 : PK { ah M with f := fun u => ax M u ((i : Int) + 1) } := ⟨dK.now, dK.few, dK.st, dK.lim, dK.rH, fun u hu => ⟨Cz hI hi u hu, (EK hI.mb u _).2⟩⟩
   obtain ⟨M1, hM1⟩ : ∃ M1, M1 = (if R.dQ = M.now then aW M i else { M with L := M.L.set i ((M.L.getD i default).aG R.dQ) }) := ⟨_, rfl⟩
   rw [← hM1] at hI' hfree hdr RF ⊢
   have hrange : ∀ u, M.now ≤ u → 0 ≤ ax M1 u 0 ∧ ax M1 u 0 ≤ 64 := fun u hu => vS hI' u (by rw [RF]; exact hu)
   have Xv : PK { ah M with f := fun u => ax M1 u 0 } := ⟨dK.now, dK.few, dK.st, dK.lim, dK.rH, fun u hu => hrange u hu⟩
   refine (fK (N := 3) (k := 74) (k' := 91) yF hck hl rfl ?_).more (show 4 ≤ 1000 by decide)
   have cont : ∀ (a2 : Nat) (m2 : Int), a2 ≤ 700 → m2 + 10 ≤ mx →
    fo 2 a2 m2 { R with aB := M.L.getD i default, ok := true, left := fE 115 } { ah M with f := fun u => ax M u ((i : Int) + 1) } (Fin mx M1 (l9 M) true) := by
    intro a2 m2 ha2 hm2
    have hen : dY 115 a2 m2 { R with aB := M.L.getD i default, ok := true, left := fE 115 } { ah M with f := fun u => ax M u ((i : Int) + 1) } _ _ _ _ _ := fun _ _ _ _ _ _ _ _ hS2 => Od hS2 l8 (by omega) (by omega) hs ⟨by show 0 ≤ R.dQ; omega, by show R.dQ ≤ 1099511627776; omega⟩ ⟨bo.2.2.1, bl.2⟩ bw (fun u => ax M1 u 0) (fun u hu => hfree u hu) (fun u hu => hrange u hu)
    refine fK (N := 1) (k := 115) (k' := 145) Oy hen rfl rfl ?_
    by_cases hx : R.dQ = M.now
    ·have hidle : (M.L.getD i default).wid ≤ ((List.range M.dr.length).countP fun n : Nat => decide (aR M n = 1) : Nat) := by
      rw [← IV hC.runs]
      exact Ch hI hi (by rw [← hx]; exact hroom)
     have hT := IW hI hi (by omega) hidle
     have hset := fun (w : World) (b c t d p : Nat) (v : Value) (g : Nat) (Cb : SW w b c t d p v g (a2 + 2) (m2 + 1) { R with aB := (M.L.getD i default).aG R.dQ, ok := true, left := fE 145 } { ah M with f := fun u => ax M1 u 0 }) => I8 Cb Xv hx (by show -9223372036854775808 ≤ (M.L.getD i default).wid ∧ (M.L.getD i default).wid ≤ _; omega) hT
     rw [if_pos hx] at hM1
     have hbs : cu (ah M).J (gq (ah M).now) (M.L.getD i default).id (fun j : Jb => decide (j.state = 1)) (lL (ah M).now (iI M (M.L.getD i default).wid : Int)) = (aW M i).L := zy hI hi hs
     have hP : ({ ah M with f := fun u => ax M1 u 0, T := cZ (aW M i), J := (aW M i).L } : Pg) = ah M1 := by rw [hM1]; rfl
     refine aX (N := 0) (a' := a2 + 2) (m' := m2 + 1) Ce (fun w b c t d p v g Cb => (hset w b c t d p v g Cb).mono fun e w' hp => ?_) rfl rfl (by omega) (by omega) rfl (hrep.trans Us) rfl
     rw [← hP, ← hbs]
     exact hp
    ·have hset := fun (w : World) (b c t d p : Nat) (v : Value) (g : Nat) (Cb : SW w b c t d p v g (a2 + 2) (m2 + 1) { R with aB := (M.L.getD i default).aG R.dQ, ok := true, left := fE 145 } { ah M with f := fun u => ax M1 u 0 }) => CV Cb hx
     rw [if_neg hx] at hM1
     have MV : gT R.dQ = 0 := by unfold gT; rw [if_neg (by omega), if_neg (by omega)]
     have hbs : cu (ah M).J (gT R.dQ) R.kX (fun j : Jb => decide (j.state = 1)) (kM R.dQ) = M.L.set i ((M.L.getD i default).aG R.dQ) := by
      rw [MV]
      have := uQ (ok := fun j : Jb => decide (j.state = 1)) (L := M.L) (id := R.kX) (by omega) (by rw [Mf]; exact decide_eq_true hs)
      have h2 := pz (ch := kM R.dQ) this
      rw [Mf] at h2
      exact h2
     have hT1 : cZ M = cZ M1 := by
      rw [hM1]
      refine pq (by rw [bC, bC]) fun n hn => ?_
      rw [df, df, pK (y := (M.L.getD i default).aG R.dQ) hi Iff.rfl rfl]
     have hP : ({ ah M with f := fun u => ax M1 u 0, J := M.L.set i ((M.L.getD i default).aG R.dQ) } : Pg) = ah M1 := by
      show Pg.mk M.now _ (cZ M) _ M.cl = _
      rw [hT1, hM1]
      rfl
     refine aX (N := 0) (a' := a2 + 2) (m' := m2 + 1) Ce (fun w b c t d p v g Cb => (hset w b c t d p v g Cb).mono fun e w' hp => ?_) rfl rfl (by omega) (by omega) rfl (hrep.trans Us) rfl
     rw [← hP, ← hbs]
     exact hp
   cases hpl : aj (M.L.getD i default) with
   | true =>
     have hlv : dY 91 a m { R with aB := M.L.getD i default, ok := true, left := fE 91 } (ah M) _ _ _ _ _ := fun _ _ _ _ _ _ _ _ hS1 => I6 hS1 dK (by omega) (by omega) hpl bp.2 bl bo.2.2.1 bw (fun u => ax M u ((i : Int) + 1)) (fun u hu => by
      have hun := rM hI hi hpl u
      rw [iR hi, dN (j := (M.L.getD i default).aG (-1)) (by unfold aj; simp [Jb.aG, Jb.aN])] at hun
      show ax M u ((i : Int) + 1) = ax M u 0 + had (max (M.L.getD i default).aN M.now) ((M.L.getD i default).aN + (M.L.getD i default).lim) (M.L.getD i default).wid u
      rw [yU]
      omega) (fun u hu => l8.f u hu)
     refine fK (N := 2) (k := 91) (k' := 115) Eo hlv rfl rfl ?_
     exact cont _ _ (by omega) (by omega)
   | false =>
     have hlv : dY 91 a m { R with aB := M.L.getD i default, ok := true, left := fE 91 } (ah M) _ _ _ _ _ := fun _ _ _ _ _ _ _ _ hS1 => I7 hS1 hpl bp.2 bl
     refine fK (N := 2) (k := 91) (k' := 115) Eo hlv rfl rfl ?_
     have hP : ah M = { ah M with f := fun u => ax M u ((i : Int) + 1) } := by
      have : (fun u => ax M u ((i : Int) + 1)) = fun u => ax M u 0 := by
       funext u
       rw [yU, dN hpl]
       omega
      rw [this]
      rfl
     rw [hP]
     exact cont _ _ (by omega) (by omega)
theorem RG (hl : R.left = fE 40) (hI : aF M) (hC : Calm M) (hE : Early M) (h1 : 1 ≤ M.dr.length) (hll : M.L.length ≤ 190) (ha : a ≤ 1 + 2 * M.L.length) (hm : m + 1000 ≤ mx) (hmx : mx ≤ 1000000)
 (ho : R.ok = false) (hrep : R.rep = nQ) (hnd : -9223372036854775808 ≤ R.ag.node ∧ R.ag.node ≤ 9223372036854775807) :
 fo 1000 a m R (ah M) (Fin mx (fD M (toW R.ag)).2 (lZ (fD M (toW R.ag)).1) false) := by
 cases hcl : M.cl with
 | true =>
   have e : fD M (toW R.ag) = (fG 12, M) := if_pos hcl
   rw [e]
   exact Lf hl hcl (by omega) (by omega)
 | false =>
   have hcn : ¬ M.cl = true := by rw [hcl]; decide
   have hB : Bg a m mx R M := ⟨hl, hI, hC, hcl, h1, hll, ha, hm, hmx, ho⟩
   have hkr : ∀ r : Rw, fD M r = if r.kind = 1 then jJ M r
    else if r.kind = 2 ∨ r.kind = 5 then mh M r
    else if r.kind = 3 ∨ r.kind = 4 ∨ r.kind = 6 then fP M r
    else if r.kind = 7 ∨ r.kind = 8 then ic M r
    else if r.kind = 9 then mE M r.by'
    else if r.kind = 10 then ((0, 0, 0, 0, 0, 0, lu M 1 1, lu M 2 3, lu M 4 4), M)
    else if r.kind = 11 then ((0, 0, 0, 0, 0, 0, nL M 1, nL M 2, nL M 3), M)
    else if r.kind = 12 then ((0, 0, 0, M.now, 0, 0, ax M M.now 0, 0, 0), M)
    else if r.kind = 13 then (fG 0, { M with cl := true })
    else (fG 4, M) := fun r => if_neg hcn
   by_cases hrd : R.ag.kind = 6 ∨ R.ag.kind = 10 ∨ R.ag.kind = 11 ∨ R.ag.kind = 12
   ·exact Lj hB hrd
   rw [hkr]
   have ek : (toW R.ag).kind = R.ag.kind := rfl
   rw [ek]
   by_cases k1 : R.ag.kind = 1
   ·rw [if_pos k1]; exact F8 hl hI hcl h1 hll ha hm hmx k1 ho
   rw [if_neg k1]
   by_cases k25 : R.ag.kind = 2 ∨ R.ag.kind = 5
   ·rw [if_pos k25]
    rcases k25 with k | k
    ·exact xI hB 5 (.inl ⟨k, rfl⟩)
    ·exact xI hB 4 (.inr ⟨k, rfl⟩)
   rw [if_neg k25]
   by_cases VA : R.ag.kind = 3 ∨ R.ag.kind = 4 ∨ R.ag.kind = 6
   ·rw [if_pos VA]
    rcases VA with k | k | k
    ·exact Lh hB k
    ·exact C8 hB k
    ·exact absurd (.inl k) hrd
   rw [if_neg VA]
   by_cases Ji : R.ag.kind = 7 ∨ R.ag.kind = 8
   ·rw [if_pos Ji]
    rcases Ji with k | k
    ·exact Jg hB k hnd
    ·exact F9 hB k hnd
   rw [if_neg Ji]
   by_cases k9 : R.ag.kind = 9
   ·rw [if_pos k9]; exact Lm hB hE k9
   rw [if_neg k9, if_neg (by omega), if_neg (by omega), if_neg (by omega)]
   by_cases k13 : R.ag.kind = 13
   ·rw [if_pos k13]; exact Ll hB k13 hrep
   rw [if_neg k13]
   exact Lg hB (by omega)
end
end Go.Proofs.YtelnhablglomjaaGreat

namespace Go.Proofs.YtelnhablglomjaaGreat
open Go.RowKit Go.Lib Go.Sort
section
variable {M : Md}
theorem Mg {r : Rw} (h : r.kind = 1) : fD M r = if M.cl = true then (fG 12, M) else jJ M r := by
 unfold fD
 by_cases hc : M.cl = true
 ·rw [if_pos hc, if_pos hc]
 ·rw [if_neg hc, if_neg hc, if_pos h]
theorem RH {r : Rw} (h : (r.kind = 2 ∨ r.kind = 5)) : fD M r = if M.cl = true then (fG 12, M) else mh M r := by
 unfold fD
 by_cases hc : M.cl = true
 ·rw [if_pos hc, if_pos hc]
 ·rw [if_neg hc, if_neg hc, if_neg (show ¬ r.kind = 1 by omega), if_pos h]
theorem Mh {r : Rw} (h : (r.kind = 3 ∨ r.kind = 4 ∨ r.kind = 6)) : fD M r = if M.cl = true then (fG 12, M) else fP M r := by
 unfold fD
 by_cases hc : M.cl = true
 ·rw [if_pos hc, if_pos hc]
 ·rw [if_neg hc, if_neg hc, if_neg (show ¬ r.kind = 1 by omega), if_neg (show ¬ (r.kind = 2 ∨ r.kind = 5) by omega), if_pos h]
theorem RI {r : Rw} (h : (r.kind = 7 ∨ r.kind = 8)) : fD M r = if M.cl = true then (fG 12, M) else ic M r := by
 unfold fD
 by_cases hc : M.cl = true
 ·rw [if_pos hc, if_pos hc]
 ·rw [if_neg hc, if_neg hc, if_neg (show ¬ r.kind = 1 by omega), if_neg (show ¬ (r.kind = 2 ∨ r.kind = 5) by omega), if_neg (show ¬ (r.kind = 3 ∨ r.kind = 4 ∨ r.kind = 6) by omega), if_pos h]
theorem Mi {r : Rw} (h : r.kind = 9) : fD M r = if M.cl = true then (fG 12, M) else mE M r.by' := by
 unfold fD
 by_cases hc : M.cl = true
 ·rw [if_pos hc, if_pos hc]
 ·rw [if_neg hc, if_neg hc, if_neg (show ¬ r.kind = 1 by omega), if_neg (show ¬ (r.kind = 2 ∨ r.kind = 5) by omega), if_neg (show ¬ (r.kind = 3 ∨ r.kind = 4 ∨ r.kind = 6) by omega), if_neg (show ¬ (r.kind = 7 ∨ r.kind = 8) by omega), if_pos h]
theorem RJ {r r' : Rw} (h : r.kind = r'.kind) (h2 : ¬ (1 ≤ r.kind ∧ r.kind ≤ 9)) : fD M r = fD M r' := by
 unfold fD
 rw [h] at h2 ⊢
 by_cases hc : M.cl = true
 ·rw [if_pos hc, if_pos hc]
 ·have n1 : ¬ r'.kind = 1 := by omega
  have n2 : ¬ (r'.kind = 2 ∨ r'.kind = 5) := by omega
  have n3 : ¬ (r'.kind = 3 ∨ r'.kind = 4 ∨ r'.kind = 6) := by omega
  have n4 : ¬ (r'.kind = 7 ∨ r'.kind = 8) := by omega
  have n5 : ¬ r'.kind = 9 := by omega
  simp only [if_neg hc, if_neg n1, if_neg n2, if_neg n3, if_neg n4, if_neg n5]
theorem OC (M : Md) (r : Rq) : fD M (toW (gW r)) = fD M (toW r) := by
 unfold gW
 by_cases k1 : r.kind = 1
 ·rw [if_pos k1, Mg (r := toW r) k1, Mg (r := toW ⟨r.kind, 0, r.user, r.width, r.limit, r.prio, r.held, 0, 0⟩) k1]
  rfl
 rw [if_neg k1]
 by_cases k2 : r.kind = 2 ∨ r.kind = 3 ∨ r.kind = 4 ∨ r.kind = 5 ∨ r.kind = 6
 ·rw [if_pos k2]
  by_cases k25 : r.kind = 2 ∨ r.kind = 5
  ·rw [RH (r := toW r) k25, RH (r := toW ⟨r.kind, r.id, 0, 0, 0, 0, false, 0, 0⟩) k25]
   rfl
  ·have Ut : r.kind = 3 ∨ r.kind = 4 ∨ r.kind = 6 := by omega
   rw [Mh (r := toW r) Ut, Mh (r := toW ⟨r.kind, r.id, 0, 0, 0, 0, false, 0, 0⟩) Ut]
   rfl
 rw [if_neg k2]
 by_cases Ji : r.kind = 7 ∨ r.kind = 8
 ·rw [if_pos Ji, RI (r := toW r) Ji, RI (r := toW ⟨r.kind, 0, 0, 0, 0, 0, false, r.node, 0⟩) Ji]
  rfl
 rw [if_neg Ji]
 by_cases k9 : r.kind = 9
 ·rw [if_pos k9, Mi (r := toW r) k9, Mi (r := toW ⟨r.kind, 0, 0, 0, 0, 0, false, 0, r.till⟩) k9]
  rfl
 rw [if_neg k9]
 exact RJ rfl (by show ¬ (1 ≤ r.kind ∧ r.kind ≤ 9); omega)
theorem Jj (r : Rq) (h : -9223372036854775808 ≤ r.node ∧ r.node ≤ 9223372036854775807) : -9223372036854775808 ≤ (gW r).node ∧ (gW r).node ≤ 9223372036854775807 := by
 have z : -9223372036854775808 ≤ (0 : Int) ∧ (0 : Int) ≤ 9223372036854775807 := by decide
 unfold gW
 repeat' split
 all_goals first | exact z | exact h
structure Ok (M : Md) : Prop where
 inv : aF M
 calm : Calm M
 early : Early M
theorem Ok.new {n : Nat} (h : n ≤ 64) : Ok (dI n) := ⟨(GV h).1, (GV h).2, Li n⟩
theorem Ok.JI (h : Ok M) (r : Rw) : Ok (fD M r).2 := ⟨(h.inv.JI h.calm r).1, (h.inv.JI h.calm r).2, h.early.JI r⟩
theorem Ok.kE (h : Ok M) (id t : Int) : Ok (cO M id t).2 := ⟨(h.inv.kE h.calm id t).1, (h.inv.kE h.calm id t).2, h.early.kE id t⟩
end
section
variable {w : World} {b c t d p g : Nat} {v : Value} {m : Int} {M : Md}
theorem Jk (r : Rq) (hM : Ok M) (h1 : 1 ≤ M.dr.length) (hll : M.L.length ≤ 190) (hm : m + 1000 ≤ 1000000) (hnd : -9223372036854775808 ≤ r.node ∧ r.node ≤ 9223372036854775807) :
 fo 1000 (1 + 2 * M.L.length) m (jR r) (ah M) (Fin (m + 1000) (fD M (toW r)).2 (lZ (fD M (toW r)).1) false) := by
 have hg := RG (a := 1 + 2 * M.L.length) (m := m) (mx := m + 1000) (R := jR r) rfl hM.inv hM.calm hM.early h1 hll (Nat.le_refl _) (Int.le_refl _) hm rfl rfl (Jj r hnd)
 rw [show (jR r).ag = gW r from rfl, OC] at hg
 exact hg
theorem Gc (i x : Int) (hM : Ok M) (h1 : 1 ≤ M.dr.length) (hll : M.L.length ≤ 190) (hm : m + 1000 ≤ 1000000) (hx : -9223372036854775808 ≤ x ∧ x ≤ 9223372036854775807) :
 fo 1000 (1 + 2 * M.L.length) m (zG i x) (ah M) (Fin (m + 1000) (cO M i x).2 (l9 M) (cO M i x).1) :=
 Gb (a := 1 + 2 * M.L.length) (m := m) (mx := m + 1000) (R := zG i x) rfl hM.inv hM.calm h1 hll (Nat.le_refl _) (Int.le_refl _) hm rfl rfl hx
end
end Go.Proofs.YtelnhablglomjaaGreat

namespace Go.Proofs.YtelnhablglomjaaGreat
open Go.RowKit Go.Lib Go.Sort
section
variable {w : World} {b c t d p g a : Nat} {v : Value} {m : Int} {M : Md} {R : Wk}
theorem Et (h : bJ w b R) : Calls Tryz.prog 20 #[.pointer (some ⟨b, 0, none⟩)] w fun e w' => e = .returned (.agg (bV R.rep).toArray) ∧ Below w.heap.size w w' := by
 obtain ⟨y1, y2, y3, y4, y5, y6, y7, y8, y9, hy⟩ : ∃ y1 y2 y3 y4 y5 y6 y7 y8 y9, R.rep = ⟨y1, y2, y3, y4, y5, y6, y7, y8, y9⟩ := ⟨_, _, _, _, _, _, _, _, _, rfl⟩
 have h' : ∀ o, bJ (w.alloc o) b R := fun o => (((Below.refl w.heap.size w).alloc (Nat.le_refl _) o).block b h.lt).trans h
 have c24 : ∀ o, (w.alloc o).cell? ⟨b, 24, none⟩ = some (.int .i64 y1) := fun o => (h' o).at 24 (.int .i64 y1) (by show some (Value.int .i64 R.rep.1) = _; rw [hy])
 have Zf : ∀ o, (w.alloc o).cell? ⟨b, 25, none⟩ = some (.int .i64 y2) := fun o => (h' o).at 25 (.int .i64 y2) (by show some (Value.int .i64 R.rep.2) = _; rw [hy])
 have Zg : ∀ o, (w.alloc o).cell? ⟨b, 26, none⟩ = some (.int .i64 y3) := fun o => (h' o).at 26 (.int .i64 y3) (by show some (Value.int .i64 R.rep.3) = _; rw [hy])
 have Zh : ∀ o, (w.alloc o).cell? ⟨b, 27, none⟩ = some (.int .i64 y4) := fun o => (h' o).at 27 (.int .i64 y4) (by show some (Value.int .i64 R.rep.4) = _; rw [hy])
 have c28 : ∀ o, (w.alloc o).cell? ⟨b, 28, none⟩ = some (.int .i64 y5) := fun o => (h' o).at 28 (.int .i64 y5) (by show some (Value.int .i64 R.rep.5) = _; rw [hy])
 have Zi : ∀ o, (w.alloc o).cell? ⟨b, 29, none⟩ = some (.int .i64 y6) := fun o => (h' o).at 29 (.int .i64 y6) (by show some (Value.int .i64 R.rep.6) = _; rw [hy])
 have Zj : ∀ o, (w.alloc o).cell? ⟨b, 30, none⟩ = some (.int .i64 y7) := fun o => (h' o).at 30 (.int .i64 y7) (by show some (Value.int .i64 R.rep.7) = _; rw [hy])
 have c31 : ∀ o, (w.alloc o).cell? ⟨b, 31, none⟩ = some (.int .i64 y8) := fun o => (h' o).at 31 (.int .i64 y8) (by show some (Value.int .i64 R.rep.8) = _; rw [hy])
 have c32 : ∀ o, (w.alloc o).cell? ⟨b, 32, none⟩ = some (.int .i64 y9) := fun o => (h' o).at 32 (.int .i64 y9) (by show some (Value.int .i64 R.rep.9) = _; rw [hy])
 rw [hy]
 clear h h' hy
 go_enter Tryz.func20, Tryz.ntmps20
 go_wp2_with fail
 refine bH rfl rfl rfl (heap_alloc_new w _) Tryz.underlying53 rfl (by kernel_rfl) ⟨rfl, ?_⟩
 exact (Below.refl _ _).alloc (Nat.le_refl _) _
theorem VB (h : bJ w b R) : Calls Tryz.prog 58 #[.pointer (some ⟨b, 0, none⟩)] w fun e w' => e = .returned (.bool R.ok) ∧ w = w' := by
 have X8 := h.at 33 (.bool R.ok) rfl
 clear h
 generalize R.ok = o at *
 go_enter Tryz.func58, Tryz.ntmps58
 go_wp2_with fail
 go_ret
 exact ⟨rfl, rfl⟩
end
end Go.Proofs.YtelnhablglomjaaGreat

namespace Go.Proofs.YtelnhablglomjaaGreat
open Go.RowKit Go.Lib
def qd (k : Int) : Bool := decide (k = 1) || decide (k = 3) || decide (k = 4) || decide (k = 2) || decide (k = 5) || decide (k = 7) || decide (k = 8) || decide (k = 9) || decide (k = 6) || decide (k = 11)
def qf (k : Int) : Bool := decide (k = 2) || decide (k = 5) || decide (k = 7) || decide (k = 8) || decide (k = 9) || decide (k = 10)
def qg (k : Int) : Bool := decide (k = 1) || decide (k = 3) || decide (k = 4) || decide (k = 2) || decide (k = 5) || decide (k = 7) || decide (k = 8) || decide (k = 9) || decide (k = 12)
theorem wD (k : Int) (w : World) : Calls Tryz.prog 13 #[.int .i64 k] w fun e w' => e = .returned (bK (qd k) (qf k) (qg k)) ∧ Below w.heap.size w w' := by
 by_cases h1 : k = 1; · subst h1; exact O0 w
 by_cases h3 : k = 3; · subst h3; exact O1 w
 by_cases h4 : k = 4; · subst h4; exact O3 w
 by_cases h2 : k = 2; · subst h2; exact O5 w
 by_cases h5 : k = 5; · subst h5; exact O6 w
 by_cases h7 : k = 7; · subst h7; exact O7 w
 by_cases h8 : k = 8; · subst h8; exact O8 w
 by_cases h9 : k = 9; · subst h9; exact O9 w
 by_cases h6 : k = 6; · subst h6; exact O4 w
 by_cases h11 : k = 11; · subst h11; exact Ms w
 by_cases h10 : k = 10; · subst h10; exact Mt w
 by_cases h12 : k = 12; · subst h12; exact Mv w
 have h := Mw k w h1 h3 h4 h2 h5 h7 h8 h9 h6 h11 h10 h12
 rw [show qd k = false by simp [qd, *], show qf k = false by simp [qf, *], show qg k = false by simp [qg, *]]
 exact h
def su (w : World) (o h : Nat) (r : Rq) : Prop := w.heap[o]? = some (.cells (Value.pointer (some ⟨h, 0, none⟩) :: encR r).toArray 47 (0, 0))
section
variable {w w' : World} {o h : Nat} {r : Rq} {H : Hd}
theorem su.lt (q : su w o h r) : o < w.heap.size := aC q
theorem su.c0 (q : su w o h r) : w.cell? ⟨o, 0, none⟩ = some (.pointer (some ⟨h, 0, none⟩)) := by simp [World.cell?, show w.heap[o]? = _ from q]
theorem rU (q : su w o h r) (qh : bF w h H) : Calls Tryz.prog 14 #[.pointer (some ⟨o, 0, none⟩)] w fun e w' => e = .returned (.bool (H.st == 5)) ∧ w = w' := by
 have c0 := q.c0
 have hs := nT qh
 clear q qh
 go_enter Tryz.func14, Tryz.ntmps14
 go_wp2_with (go_at_call 27; go_must (refine hs.mono ?_); rintro e w' ⟨rfl, rfl⟩)
 go_ret
 exact ⟨rfl, rfl⟩
theorem OD (x y z : Bool) (w : World) : Calls Tryz.prog 17 #[bK x y z] w fun e w' => e = .returned (.int .i64 (2 * Df x y z + 2)) ∧ Below w.heap.size w w' := by
 have hb1 : Below w.heap.size w (w.alloc (.cells #[.bool x, .bool y, .bool z] 42)) := (Below.refl _ _).alloc (Nat.le_refl _) _
 have hl := Sq x y z (w.alloc (.cells #[.bool x, .bool y, .bool z] 42))
 have hr : 0 ≤ Df x y z ∧ Df x y z ≤ 3 := by cases x <;> cases y <;> cases z <;> decide
 generalize Df x y z = n at *
 have w1 : IntKind.i64.wrap (2 * n) = 2 * n := IntWalk.i64_in _ (by omega)
 have w2 : IntKind.i64.wrap (2 * n + 2) = 2 * n + 2 := IntWalk.i64_in _ (by omega)
 unfold bK at *
 replace hb1 := Lib.hid hb1
 go_enter Tryz.func17, Tryz.ntmps17
 go_wp2_with (go_at_call 18; go_must (refine hl.mono ?_); rintro e w' ⟨rfl, hb⟩)
 go_ret
 exact ⟨rfl, hb1.out.trans (hb.mono hb1.out.size)⟩
def ma (b : Nat) (who : Int) (r : Rq) : Hd := wP b who (qd r.kind) (qf r.kind) (qg r.kind)
theorem Eu (r : Rq) (who : Int) (w : World) : Calls Tryz.prog 9 #[.agg (encR r).toArray, .int .i64 who] w fun e w' => ∃ o h b, e = .returned (.pointer (some ⟨o, 0, none⟩)) ∧ su w' o h (gW r) ∧ bF w' h (ma b who r) ∧ bJ w' b (jR r) ∧ w.heap.size ≤ o ∧ w.heap.size ≤ h ∧ w.heap.size ≤ b ∧ Below w.heap.size w w' := by
 have zR := jY
 have lR := gI r
 obtain ⟨k9, bO⟩ : ∃ k, k = 9 := ⟨_, rfl⟩
 rw [← bO] at zR lR
 have hk0 : ¬ k9 = 0 := by omega
 replace bO := Lib.hid bO
 obtain ⟨wA, aJ⟩ : ∃ wA, wA = w.alloc (.cells (encR r).toArray 24) := ⟨_, rfl⟩
 have bR : Hid (Below w.heap.size w wA) := by show Below _ _ _; rw [aJ]; exact (Below.refl _ _).alloc (Nat.le_refl _) _
 have nR : wA.heap[w.heap.size]? = some (.cells (encR r).toArray 24 (0, 0)) := by rw [aJ]; exact heap_alloc_new w _
 have hlA : Hid (w.heap.size < wA.heap.size) := aC nR
 have hz := Lib.hid nR
 have hld : Hid (∀ W, Below wA.heap.size wA W → Sem.run Tryz.prog (loadCellsFrom ⟨w.heap.size, 0, none⟩ 0 k9 #[]) W = .ok (encR r).toArray W) := fun W hW => eZ ((hW.block _ hlA.out).trans hz.out) lR
 have hki : Hid (∀ W, Below wA.heap.size wA W → W.cell? ⟨w.heap.size, 0, none⟩ = some (.int .i64 r.kind)) := fun W hW => jd ((hW.block _ hlA.out).trans hz.out) 0 _ rfl
 clear nR lR
 obtain ⟨cR, hcR⟩ : ∃ cR, cR = encR r := ⟨_, rfl⟩
 have Xw := Lib.hid (zH r)
 have U8 := Lib.hid (Ec r)
 rw [← hcR] at hld Xw U8 aJ ⊢
 replace hcR := Lib.hid hcR
 go_enter Tryz.func9, Tryz.ntmps9
 go_wp2_with fail
 rw [← aJ]
 replace aJ := Lib.hid aJ
 refine Reg2.sO 8 16 [[],[ae],[af,af],[af,af,af],[af,af,af,ae],[ae,ae,af,ae,ae],[ae,ae,ae,ae,ae,ae],[af,af,af,af,af,af,af]] [1, 1, 0, 0, 1, 1, 1, 1]
  [.mU (.agg cR.toArray), .minor Nat 0 (fun q => .pointer (some ⟨q, 0, none⟩)) (fun q W => wA.heap.size ≤ q ∧ bJ W q (jR r)), .pure, .pure, .mU (.int .i64 r.kind), .mU (bK (qd r.kind) (qf r.kind) (qg r.kind)), .minor Nat 0 (fun q => .pointer (some ⟨q, 0, none⟩)) (fun q W => wA.heap.size ≤ q ∧ ∃ b, wA.heap.size ≤ b ∧ bJ W b (jR r) ∧ bF W q (ma b who r)), .mU (.agg cR.toArray)]
  (fun W => Below wA.heap.size wA W) (fun _ _ => True) (fun a b => Below a.heap.size a b) (by kernel_rfl) (by kernel_rfl) rfl rfl (fun vs a b h hs => trivial) ?_ ?_ ?_ ?_ ?_ ?_
 ·intro a b he hb; exact hb.trans (Below.mono he hb.size)
 ·intro a b he hb; exact hb.trans (Below.mono he hb.size)
 ·have k1 : ∀ (x : Nat) (a b : World), Below a.heap.size a b → (wA.heap.size ≤ x ∧ bJ a x (jR r)) → wA.heap.size ≤ x ∧ bJ b x (jR r) := fun x a b he h => ⟨h.1, (he.block _ h.2.lt).trans h.2⟩
  have k2 : ∀ (x : Nat) (a b : World), Below a.heap.size a b → (wA.heap.size ≤ x ∧ ∃ b, wA.heap.size ≤ b ∧ bJ a b (jR r) ∧ bF a x (ma b who r)) → wA.heap.size ≤ x ∧ ∃ c, wA.heap.size ≤ c ∧ bJ b c (jR r) ∧ bF b x (ma c who r) := fun x a b he h => by
   obtain ⟨h1, c, h2, h3, h4⟩ := h
   exact ⟨h1, c, h2, (he.block _ h3.lt).trans h3, (he.block _ h4.lt).trans h4⟩
  exact ⟨⟨fun _ _ _ _ _ => trivial, fun _ _ _ _ _ => trivial⟩, ⟨k1, k1⟩, trivial, trivial, ⟨fun _ _ _ _ _ => trivial, fun _ _ _ _ _ => trivial⟩, ⟨fun _ _ _ _ _ => trivial, fun _ _ _ _ _ => trivial⟩, ⟨k2, k2⟩, ⟨fun _ _ _ _ _ => trivial, fun _ _ _ _ _ => trivial⟩, trivial⟩
 ·exact ⟨rfl, rfl, rfl, Nat.le_refl _, fun _ _ => rfl⟩
 ·trivial
 dsimp only [Reg2.mk, List.zip, List.zipWith, List.take]
 refine Reg2.pm (fun wz hI hF => ?_) (fun r0 => ?_) (by rfl)
 ·have d0 := hld.out wz hI
  go_wp2_with fail
  first | exact ⟨_, rfl, rfl, Reg2.Ext.refl _⟩ | exact ⟨_, rfl, ⟨(), rfl, trivial⟩, Reg2.Ext.refl _⟩
 simp only [Act.put, xA, xB, xC, xD, xE, id]
 refine Reg2.pm (fun wz hI hF => ?_) (fun r1 => ?_) (by rfl)
 ·have hc := Xw.out wz
  go_wp2_with fail
  go_at_call 10
  refine hc.mono ?_
  clear hc
  rintro e w2 ⟨b, rfl, hW, hlo, hb⟩
  have hlo2 := hI.size
  go_wp2_with fail
  exact ⟨_, rfl, ⟨b, rfl, by omega, hW⟩, hb⟩
 simp only [Act.put, xA, xB, xC, xD, xE, id]
 repeat ((first
  | (refine' Reg2.ak _ (by rfl) (fun wz => ?_) ?_; rotate_left; (go_simp; first | rfl | rw [if_neg (by omega)]))
  | (refine Reg2.az (by rfl) (fun wz hI hF => ?_) (fun _ => ?_)
     ·unfold Reg2.One
      have d0 := hki.out wz hI
      go_wp2_with fail
      first | exact ⟨_, rfl, rfl, Reg2.Ext.refl _⟩ | exact ⟨_, rfl, ⟨(), rfl, trivial⟩, Reg2.Ext.refl _⟩)); simp only [Act.put, xA, xB, xC, xD, xE, id])
 refine Reg2.pm (fun wz hI hF => ?_) (fun r5 => ?_) (by rfl)
 ·have hc := wD r.kind wz
  go_wp2_with fail
  go_at_call 13
  refine hc.mono ?_
  clear hc
  rintro e w2 ⟨rfl, hb⟩
  go_wp2_with fail
  first | exact ⟨_, rfl, rfl, hb⟩ | exact ⟨_, rfl, ⟨(), rfl, trivial⟩, hb⟩
 simp only [Act.put, xA, xB, xC, xD, xE, id]
 refine Reg2.pm (fun wz hI hF => ?_) (fun r6 => ?_) (by rfl)
 ·have hW1 := hF.2.1.2
  have hl1 := hF.2.1.1
  have hc := GA r1 who (qd r.kind) (qf r.kind) (qg r.kind) wz
  replace hW1 := Lib.hid hW1
  clear hF
  go_wp2_with fail
  go_at_call 39
  refine hc.mono ?_
  clear hc
  rintro e w2 ⟨b, rfl, hH, hlo, hb⟩
  have hlo2 := hI.size
  have hW2 : bJ w2 r1 (jR r) := (hb.block _ hW1.out.lt).trans hW1.out
  go_wp2_with fail
  exact ⟨_, rfl, ⟨b, rfl, by omega, r1, hl1, hW2, hH⟩, hb⟩
 simp only [Act.put, xA, xB, xC, xD, xE, id]
 refine Reg2.pm (fun wz hI hF => ?_) (fun r7 => ?_) (by rfl)
 ·have d0 := hld.out wz hI
  go_wp2_with fail
  first | exact ⟨_, rfl, rfl, Reg2.Ext.refl _⟩ | exact ⟨_, rfl, ⟨(), rfl, trivial⟩, Reg2.Ext.refl _⟩
 simp only [Act.put, xA, xB, xC, xD, xE, id]
 refine Reg2.aA ?_
 intro w1 HI _ HF
 obtain ⟨Zk, b, hlb, TG, hH6⟩ := HF.2.2.2.2.2.2.1
 clear HF hki r0 r5 r7
 dsimp only [List.drop]
 have hc := U8.out w1
 replace TG := Lib.hid TG
 replace hH6 := Lib.hid hH6
 go_wp2_with fail
 go_at_call 22
 refine hc.mono ?_
 clear hc
 rintro e w2 ⟨rfl, hb2⟩
 obtain ⟨y1, y2, y3, y4, y5, y6, y7, y8, y9, hy⟩ : ∃ y1 y2 y3 y4 y5 y6 y7 y8 y9, gW r = ⟨y1, y2, y3, y4, y5, y6, y7, y8, y9⟩ := ⟨_, _, _, _, _, _, _, _, _, rfl⟩
 obtain ⟨w3, hw3⟩ : ∃ w3, w3 = w2.alloc (.cells (Value.pointer (some ⟨r6, 0, none⟩) :: encR (gW r)).toArray 47) := ⟨_, rfl⟩
 have hb3 : Below w2.heap.size w2 w3 := by rw [hw3]; exact (Below.refl _ _).alloc (Nat.le_refl _) _
 have hO3 : su w3 w2.heap.size r6 (gW r) := by show _ = _; rw [hw3]; exact heap_alloc_new w2 _
 have hH3 : bF w3 r6 (ma b who r) := hH6.out.below ((hb2.trans (hb3.mono hb2.size))) hH6.out.lt
 have hW3 : bJ w3 b (jR r) := ((hb2.trans (hb3.mono hb2.size)).block _ TG.out.lt).trans TG.out
 have hbw : Below w.heap.size w w3 := bR.out.trans ((HI.trans ((hb2.trans (hb3.mono hb2.size)).mono HI.size)).mono bR.out.size)
 have hlo : w.heap.size ≤ w2.heap.size := Nat.le_trans bR.out.size (Nat.le_trans HI.size hb2.size)
 have hs := bR.out.size
 rw [show (Value.pointer (some ⟨r6, 0, none⟩) :: encR (gW r)).toArray = #[.pointer (some ⟨r6, 0, none⟩), .int .i64 y1, .int .i64 y2, .int .i64 y3, .int .i64 y4, .int .i64 y5, .int .i64 y6, .bool y7, .int .i64 y8, .int .i64 y9] by rw [hy]; rfl] at hw3
 rw [hy, show (encR ⟨y1, y2, y3, y4, y5, y6, y7, y8, y9⟩).toArray = #[.int .i64 y1, .int .i64 y2, .int .i64 y3, .int .i64 y4, .int .i64 y5, .int .i64 y6, .bool y7, .int .i64 y8, .int .i64 y9] from rfl]
 rw [hy] at hO3
 replace hy := Lib.hid hy
 replace hO3 := Lib.hid hO3
 replace hH3 := Lib.hid hH3
 replace hW3 := Lib.hid hW3
 replace hbw := Lib.hid hbw
 clear hb2 hb3 HI hld
 obtain rfl := bO.out
 go_wp2_with fail
 rw [← hw3]
 go_ret
 exact ⟨w2.heap.size, r6, b, rfl, by rw [hy.out]; exact hO3.out, hH3.out, hW3.out, hlo, by omega, by omega, hbw.out⟩
end
end Go.Proofs.YtelnhablglomjaaGreat

namespace Go.Proofs.YtelnhablglomjaaGreat
open Go.RowKit Go.Lib Go.Sort
theorem CW.OE {w w1 : World} {c t d p g a : Nat} {v : Value} {m : Int} {P : Pg} (h : CW w c t d p v g a m P) (blk : ∀ k, dP c t d p v g k → w1.heap[k]? = w.heap[k]?) : CW w1 c t d p v g a m P := by
 obtain ⟨S, aK, ⟨cap, hp1, hp2⟩, hrest⟩ := h.lW
 refine ⟨(blk c (.inl rfl)).trans h.cell, ⟨(blk t (.inr (.inl rfl))).trans h.eQ.cell, bz h.eQ.own fun k hk => blk k (.inr (.inr (.inr (.inr (.inl hk)))))⟩, (blk d (.inr (.inr (.inl rfl)))).trans h.nodes, S, aK, ⟨cap, (blk p (.inr (.inr (.inr (.inl rfl))))).trans hp1, bz hp2 fun k hk => ?_⟩, hrest⟩
 have e : k = g := by simpa [Value.ownBlock] using hk.symm
 exact blk k (.inr (.inr (.inr (.inr (.inr e)))))
def hK (b : Nat) : Nat → Hd
 | 0 => ⟨b, 1, false, false, true, 0, 2⟩
 | 1 => ⟨b, 1, false, false, true, 1, 3⟩
 | 2 => ⟨b, 1, false, false, true, 3, 2⟩
 | 3 => ⟨b, 1, false, false, true, 4, -1⟩
 | _ => ⟨b, 1, false, false, true, 5, -1⟩
def lK : Nat → Lk
 | 0 => ⟨0, 0, 0, 0⟩
 | 1 => ⟨0, 0, 1, 1⟩
 | 2 => ⟨0, 0, 1, 1⟩
 | _ => ⟨0, 0, 0, 1⟩
def rC : Rq := ⟨12, 0, 0, 0, 0, 0, false, 0, 0⟩
def wC : Wk := { jR rC with rep := ⟨0, 0, 0, 0, 0, 0, 3, 0, 0⟩, left := .nilFunc }
structure TH (B : Nat) (W : World) (b c t d p : Nat) (v : Value) (g s h o k : Nat) : Prop where
 hd : bF W h (hK b k)
 lk : bT 32 W s (lK k)
 op : su W o h rC
 core : k ≤ 1 → SW W b c t d p v g 1 0 (jR rC) (ah (dI 3))
 wk : 2 ≤ k → bJ W b wC
structure Geo (B b c t d p : Nat) (v : Value) (g s h o : Nat) : Prop where
 lo : ∀ k, dP c t d p v g k → B ≤ k ∧ k < s
 gs : B ≤ s
 gh : s < h
 go : s < o
 gb : s < b
 Xx : h ≠ o
 VC : h ≠ b
 VD : o ≠ b
section
variable {B b c t d p g s h o k : Nat} {v : Value} {W : World}
theorem RL : (⟨0, 0, 0, (ah (dI 3)).now, 0, 0, (ah (dI 3)).f (ah (dI 3)).now, 0, 0⟩ : Ry) = ⟨0, 0, 0, 0, 0, 0, 3, 0, 0⟩ := by
 have h : (ah (dI 3)).f (ah (dI 3)).now = 3 := Cc 3 _
 rw [h]; rfl
theorem OG (G : Geo B b c t d p v g s h o) (C : TH B W b c t d p v g s h o k) (hk : k < 4) (hB : B ≤ W.heap.size) :
 Calls Tryz.prog 16 #[.pointer (some ⟨h, 0, none⟩), .pointer (some ⟨c, 0, none⟩), .pointer (some ⟨s, 0, none⟩)] W fun e w' => e = .returned (.bool (k == 1)) ∧ TH B w' b c t d p v g s h o (k + 1) ∧ Below B W w' := by
 have hne : h ≠ s := by have := G.gh; omega
 have gh := G.gh
 have go := G.go
 have gb := G.gb
 have gs := G.gs
 have Xx := G.Xx
 have VC := G.VC
 have VD := G.VD
 have hq : k = 0 ∨ k = 1 ∨ k = 2 ∨ k = 3 := by omega
 rcases hq with rfl | rfl | rfl | rfl
 ·refine (yQ C.hd rfl C.lk (by decide) (show (0 : Int) ≤ 2 ∧ (2 : Int) ≤ 3 by decide) hne).mono ?_
  rintro e w' ⟨rfl, h1, h2, h3⟩
  have hS := C.core (by decide)
  refine ⟨rfl, ⟨h1, h2, (h3.block o C.op.lt (by omega)).trans C.op, fun _ => ⟨(h3.block b hS.wk.lt (by omega)).trans hS.wk, hS.cw.OE fun k hk => h3.block k (hS.cw.lt hk) (by have := (G.lo k hk).2; omega)⟩, fun h => by omega⟩, h3.below (fun k hk => by omega) hB⟩
 ·have hS := C.core (by decide)
  have hst := BO hS (k := 40) (l := true) (L := .nilFunc) rfl rfl (.inl ⟨rfl, rfl⟩) FR (zF hS rfl (by decide) rfl (zD hS (by decide) rfl))
  refine (sP C.hd (.inl rfl) (Q := fun w' => bJ w' b wC ∧ bT 32 w' s (lK 2) ∧ su w' o h rC ∧ bA (jk b c t d p v g) W w') true (hst.mono ?_)).mono ?_
  ·rintro e w' ⟨rfl, v', g', hS', hW'⟩
   have nf : ∀ q, s ≤ q → q ≠ b → ¬ jk b c t d p v g q := fun q h1 h2 h3 => h3.elim h2 fun h3 => by have := (G.lo q h3).2; omega
   refine ⟨rfl, ⟨?_, (hW'.heap C.lk.lt (nf s (Nat.le_refl _) (by omega))).trans C.lk, (hW'.heap C.op.lt (nf o (by omega) VD)).trans C.op, hW'.off⟩, (hW'.heap C.hd.lt (nf h (by omega) VC)).trans C.hd⟩
   have := hS'.wk
   rw [RL] at this
   exact this
  ·rintro e w' ⟨rfl, w1, ⟨h1, h2, h3, h4⟩, h5, h6⟩
   refine ⟨rfl, ⟨h5, (h6.block s h2.lt (by omega)).trans h2, (h6.block o h3.lt (by omega)).trans h3, fun h => by omega, fun _ => (h6.block b h1.lt (by omega)).trans h1⟩, (h4.below (fun k hk => hk.elim (fun e => by omega) fun hk => (G.lo k hk).1) hB).trans (h6.below (fun k hk => by omega) (Nat.le_trans hB h4.size))⟩
 ·refine (yR C.hd rfl C.lk (show (0 : Int) ≤ 2 ∧ (2 : Int) ≤ 3 by decide) hne).mono ?_
  rintro e w' ⟨rfl, h1, h2, h3⟩
  have hS := C.wk (by decide)
  exact ⟨rfl, ⟨h1, h2, (h3.block o C.op.lt (by omega)).trans C.op, fun h => by omega, fun _ => (h3.block b hS.lt (by omega)).trans hS⟩, h3.below (fun k hk => by omega) hB⟩
 ·refine (yS C.hd rfl _).mono ?_
  rintro e w' ⟨rfl, h1, h3⟩
  have hS := C.wk (by decide)
  exact ⟨rfl, ⟨h1, (h3.block s C.lk.lt (by omega)).trans C.lk, (h3.block o C.op.lt (by omega)).trans C.op, fun h => by omega, fun _ => (h3.block b hS.lt (by omega)).trans hS⟩, h3.below (fun k hk => by omega) hB⟩
theorem Ci (w : World) : Calls Tryz.prog 7 #[] w fun e w' => e = .returned (.bool true) ∧ Below w.heap.size w w' := by
 have hc := Jd 3 w (by decide) (by decide)
 go_enter Tryz.func7, Tryz.ntmps7
 go_wp2_with fail
 go_at_call 35
 refine hc.mono ?_
 clear hc
 rintro e w1 ⟨c, t, d, p, v, g, rfl, sF, hb1⟩
 have hlt1 : Hid (∀ k, dP c t d p v g k → k < w1.heap.size) := fun k hk => sF.cw.lt hk
 obtain ⟨w2, hw2⟩ : ∃ w2, w2 = w1.alloc (.cells #[.int .i64 0, .int .i64 0, .int .i64 0, .int .i64 0] 32) := ⟨_, rfl⟩
 have hb2 : Below w1.heap.size w1 w2 := by rw [hw2]; exact (Below.refl _ _).alloc (Nat.le_refl _) _
 have hL2 : bT 32 w2 w1.heap.size (lK 0) := by rw [hw2]; exact heap_alloc_new w1 _
 obtain ⟨s, hs⟩ : ∃ s, s = w1.heap.size := ⟨_, rfl⟩
 have hC2 := Lib.hid (sF.cw.kept hb2)
 have hlo := Lib.hid sF.lo
 have hbw : Hid (Below w.heap.size w w2) := hb1.trans (hb2.mono hb1.size)
 have hss : Hid (w.heap.size ≤ s ∧ s < w2.heap.size) := ⟨by rw [hs]; exact hb1.size, by rw [hs]; exact hL2.lt⟩
 have hn := Eu rC 1 w2
 rw [show (encR rC).toArray = #[.int .i64 12, .int .i64 0, .int .i64 0, .int .i64 0, .int .i64 0, .int .i64 0, .bool false, .int .i64 0, .int .i64 0] from rfl] at hn
 rw [← hs] at hL2 hlt1
 replace hL2 := Lib.hid hL2
 clear hb2 hb1 sF
 go_wp2_with fail
 rw [← hw2, ← hs]
 replace hw2 := Lib.hid hw2
 replace hs := Lib.hid hs
 go_at_call 9
 refine hn.mono ?_
 clear hn
 rintro e w3 ⟨o, h, b, rfl, hO, hH, hW, lo, lh, lb, hb3⟩
 have G : Geo w.heap.size b c t d p v g s h o := by
  have h1 := hss.out
  refine ⟨fun k hk => ⟨hlo.out k hk, hlt1.out k hk⟩, h1.1, by omega, by omega, by omega, ?_, ?_, ?_⟩
  ·exact Put.aI hH hO (by decide)
  ·exact Put.aI hH hW (by decide)
  ·exact Put.aI hO hW (by decide)
 have C0 : Hid (TH w.heap.size w3 b c t d p v g s h o 0) := ⟨hH, hL2.out.below hb3 hss.out.2, hO, fun _ => ⟨hW, hC2.out.kept hb3⟩, fun h => by omega⟩
 replace G := Lib.hid G
 have hb0 : Hid (Below w.heap.size w w3) := hbw.out.trans (hb3.mono hbw.out.size)
 clear hO hH hW lo lh lb hb3
 go_wp2_with fail
 go_loopw [5, 6] (fun tt ii wr => ∃ k : Nat, k ≤ 4 ∧ ii = .int .i64 k ∧ tt = .int .i64 (if k ≤ 1 then 0 else 1) ∧ Hid (TH w.heap.size wr b c t d p v g s h o k) ∧ Hid (Below w.heap.size w wr)) (fun _ ii _ => 4 - (intOf ii).toNat)
 case atStart => exact ⟨0, by decide, rfl, rfl, C0, hb0⟩
 case round =>
  obtain ⟨k, hk, rfl, rfl, hC, hbr⟩ := hrel
  by_cases h4 : k < 4
  ·have b4 : (k : Int) < 4 := by omega
   have wk : IntKind.i64.wrap ((k : Int) + 1) = (k : Int) + 1 := IntWalk.i64_in _ (by omega)
   have hst := OG G.out hC.out h4 hbr.out.size
   have hf := rU hC.out.op hC.out.hd
   have hs5 : ((hK b k).st == 5) = false := by
    have : k = 0 ∨ k = 1 ∨ k = 2 ∨ k = 3 := by omega
    rcases this with rfl | rfl | rfl | rfl <;> rfl
   rw [hs5] at hf
   have c0 := hC.out.op.c0
   by_cases h1 : k = 1
   ·subst h1
    go_wp2_with (first | (go_at_call 14; go_must (refine hf.mono ?_); rintro e w' ⟨rfl, rfl⟩) | (go_at_call 16; go_must (refine hst.mono ?_); rintro e w' ⟨rfl, hz⟩; replace hz := Lib.hid hz))
    go_roundw
    case rel => exact ⟨2, by decide, by go_num, by go_num, hz.out.1, hbr.out.trans hz.out.2⟩
    case measure => simp [intOf]
   ·have e1 : (k == 1) = false := by simp [h1]
    rw [e1] at hst
    have e2 : (if k + 1 ≤ 1 then (0 : Int) else 1) = if k ≤ 1 then 0 else 1 := by
     by_cases hk0 : k = 0
     ·subst hk0; rfl
     ·rw [if_neg (by omega), if_neg (by omega)]
    replace e2 := Lib.hid e2
    generalize (if k ≤ 1 then (0 : Int) else 1) = tn at *
    go_wp2_with (first | (go_at_call 14; go_must (refine hf.mono ?_); rintro e w' ⟨rfl, rfl⟩) | (go_at_call 16; go_must (refine hst.mono ?_); rintro e w' ⟨rfl, hz⟩; replace hz := Lib.hid hz))
    go_roundw
    case rel => exact ⟨k + 1, by omega, by go_num, by rw [e2.out], hz.out.1, hbr.out.trans hz.out.2⟩
    case measure => simp [intOf]; omega
  ·obtain rfl : k = 4 := by omega
   have hf := rU hC.out.op hC.out.hd
   rw [show ((hK b 4).st == 5) = true from rfl] at hf
   have c0 := hC.out.op.c0
   have d0 := hC.out.hd.c0
   have hr := Et (hC.out.wk (by decide))
   have e1 : ∀ W, Sem.run Tryz.prog (Instr.field 53 (.agg #[.int .i64 0, .int .i64 0, .int .i64 0, .int .i64 0, .int .i64 0, .int .i64 0, .int .i64 3, .int .i64 0, .int .i64 0]) 6) W = .ok (.int .i64 3) W := fun W => by kernel_rfl
   rw [show (bV wC.rep).toArray = #[.int .i64 0, .int .i64 0, .int .i64 0, .int .i64 0, .int .i64 0, .int .i64 0, .int .i64 3, .int .i64 0, .int .i64 0] from rfl] at hr
   go_wp2_with (first
    | (go_at_call 14; go_must (refine hf.mono ?_); rintro e w' ⟨rfl, rfl⟩)
    | (go_at_call 20; go_must (refine hr.mono ?_); rintro e w4 ⟨rfl, hb4⟩
       have hi := Gm (hC.out.lk.below hb4 hC.out.lk.lt)
       rw [show (lK 4).free = true from rfl] at hi
       have hnd := wD 12 w4)
    | (go_at_call 19; go_must (refine hi.mono ?_); rintro e w' ⟨rfl, rfl⟩)
    | (go_at_call 13; go_must (refine hnd.mono ?_); rintro e w5 ⟨rfl, hb5⟩
       have hsp := OD (qd 12) (qf 12) (qg 12) w5)
    | (go_at_call 17; go_must (refine hsp.mono ?_); rintro e w6 ⟨rfl, hb6⟩))
   go_ret
   exact ⟨rfl, hbr.out.trans ((hb4.trans ((hb5.trans (hb6.mono hb5.size)).mono hb4.size)).mono hbr.out.size)⟩
end
end Go.Proofs.YtelnhablglomjaaGreat

namespace Go.Proofs.YtelnhablglomjaaGreat
def Hd.lane (H : Hd) (j : Int) : Bool := if j = 0 then H.x else if j = 1 then H.y else H.z
def Hd.has (H : Hd) (j : Int) : Bool := H.lane j && (if H.st = 0 then decide (j < H.lk) else if H.st = 3 then decide (j ≤ H.lk) else decide (H.st = 1 ∨ H.st = 2))
structure dE (H : Hd) (l o : Lk) : Prop where
 who : 0 < H.who
 a : l.a = if H.has 0 = true then H.who else o.a
 b : l.b = if H.has 1 = true then H.who else o.b
 c : l.c = if H.has 2 = true then H.who else o.c
 na : o.a ≠ H.who
 nb : o.b ≠ H.who
 nc : o.c ≠ H.who
 fa : H.has 0 = true → o.a = 0
 fb : H.has 1 = true → o.b = 0
 fc : H.has 2 = true → o.c = 0
 st : (H.st = 0 ∧ (H.lk = 0 ∧ H.x = true ∨ H.lk = 1 ∧ H.y = true ∨ H.lk = 2 ∧ H.z = true)) ∨ H.st = 1 ∨ H.st = 2 ∨ (H.st = 3 ∧ (H.lk = 0 ∧ H.x = true ∨ H.lk = 1 ∧ H.y = true ∨ H.lk = 2 ∧ H.z = true)) ∨ H.st = 4 ∨ H.st = 5
section
variable {H : Hd} {l o : Lk}
theorem dE.Xy (h : dE H l o) (h0 : H.st = 0 ∨ H.st = 3) : 0 ≤ H.lk ∧ H.lk ≤ 2 := by
 have := h.st
 omega
theorem dE.own (h : dE H l o) (h0 : H.st = 0) : l.own H.lk = o.own H.lk := by
 obtain ⟨wk, who, x, y, z, st, lk⟩ := H
 obtain ⟨h1, a, b, c, na, nb, nc, fa, fb, fc, hs⟩ := h
 simp only [Hd.has, Hd.lane] at *
 subst h0
 rcases hs with ⟨_, ⟨rfl, rfl⟩ | ⟨rfl, rfl⟩ | ⟨rfl, rfl⟩⟩ | hs | hs | ⟨hs, _⟩ | hs | hs <;> simp_all [Lk.own]
theorem dE.take (h : dE H l o) (h0 : H.st = 0) (hf : o.own H.lk = 0) : l.mg H.lk H.who = 0 ∧ dE (H.want (H.lk + 1)) (l.ni H.lk H.who) o := by
 have ho := h.own h0
 obtain ⟨wk, who, x, y, z, st, lk⟩ := H
 obtain ⟨la, lb, lc, ln⟩ := l
 obtain ⟨h1, a, b, c, na, nb, nc, fa, fb, fc, hs⟩ := h
 have hl : ib lk who = false := by
  unfold ib wG
  simp only at hs h1 h0
  have : (0 ≤ lk ∧ lk < 3) := by omega
  simp [this, h1]
 have e0 : Lk.mg ⟨la, lb, lc, ln⟩ lk who = 0 := by
  unfold Lk.mg
  simp only at *
  rw [hl, if_neg (by decide), ho, hf, if_pos rfl, if_neg]
  subst h0
  simp only [Hd.has, Hd.lane] at *
  rcases hs with ⟨_, ⟨rfl, rfl⟩ | ⟨rfl, rfl⟩ | ⟨rfl, rfl⟩⟩ | hs | hs | ⟨hs, _⟩ | hs | hs <;> simp_all [Lk.own, Lk.later]
 refine ⟨e0, ?_⟩
 unfold Lk.ni
 simp only at *
 rw [e0, if_pos rfl]
 subst h0
 simp only [Hd.has, Hd.lane] at *
 rcases hs with ⟨_, ⟨rfl, rfl⟩ | ⟨rfl, rfl⟩ | ⟨rfl, rfl⟩⟩ | hs | hs | ⟨hs, _⟩ | hs | hs <;> (try (simp at hs; done))
 ·cases y <;> cases z <;> constructor <;> simp_all [Hd.want, dG, Hd.has, Hd.lane, Lk.put, Lk.own]
 ·cases x <;> cases z <;> constructor <;> simp_all [Hd.want, dG, Hd.has, Hd.lane, Lk.put, Lk.own]
 ·cases x <;> cases y <;> constructor <;> simp_all [Hd.want, dG, Hd.has, Hd.lane, Lk.put, Lk.own]
theorem dE.part (h : dE H l o) (h2 : H.st = 1 ∨ H.st = 2) (dn : Bool) : dE (H.part dn) l o := by
 obtain ⟨wk, who, x, y, z, st, lk⟩ := H
 obtain ⟨h1, a, b, c, na, nb, nc, fa, fb, fc, hs⟩ := h
 simp only [Hd.has, Hd.lane] at *
 clear hs
 rcases h2 with rfl | rfl <;> cases dn <;> cases x <;> cases y <;> cases z <;> constructor <;> simp_all [Hd.part, Hd.yield, iY, Hd.has, Hd.lane]
theorem dE.give (h : dE H l o) (h3 : H.st = 3) : l.jE H.lk H.who = 0 ∧ dE H.give (l.iX H.lk H.who) o := by
 obtain ⟨wk, who, x, y, z, st, lk⟩ := H
 obtain ⟨la, lb, lc, ln⟩ := l
 obtain ⟨h1, a, b, c, na, nb, nc, fa, fb, fc, hs⟩ := h
 simp only [Hd.has, Hd.lane] at *
 subst h3
 rcases hs with ⟨hs, _⟩ | hs | hs | ⟨_, ⟨rfl, rfl⟩ | ⟨rfl, rfl⟩ | ⟨rfl, rfl⟩⟩ | hs | hs <;> (try (simp at hs; done))
 ·have e0 : Lk.jE ⟨la, lb, lc, ln⟩ 0 who = 0 := by simp_all [Lk.jE, ib, wG, Lk.own]
  refine ⟨e0, ?_⟩
  unfold Lk.iX
  rw [e0, if_pos rfl]
  clear e0
  cases y <;> cases z <;> constructor <;> simp_all [Hd.give, Hd.yield, iY, Hd.has, Hd.lane, Lk.put]
 ·have e0 : Lk.jE ⟨la, lb, lc, ln⟩ 1 who = 0 := by simp_all [Lk.jE, ib, wG, Lk.own]
  refine ⟨e0, ?_⟩
  unfold Lk.iX
  rw [e0, if_pos rfl]
  clear e0
  cases x <;> cases z <;> constructor <;> simp_all [Hd.give, Hd.yield, iY, Hd.has, Hd.lane, Lk.put]
 ·have e0 : Lk.jE ⟨la, lb, lc, ln⟩ 2 who = 0 := by simp_all [Lk.jE, ib, wG, Lk.own]
  refine ⟨e0, ?_⟩
  unfold Lk.iX
  rw [e0, if_pos rfl]
  clear e0
  cases x <;> cases y <;> constructor <;> simp_all [Hd.give, Hd.yield, iY, Hd.has, Hd.lane, Lk.put]
theorem dE.tell (h : dE H l o) (h4 : H.st = 4) : dE { H with st := 5 } l o := by
 obtain ⟨wk, who, x, y, z, st, lk⟩ := H
 obtain ⟨h1, a, b, c, na, nb, nc, fa, fb, fc, hs⟩ := h
 simp only [Hd.has, Hd.lane] at *
 subst h4
 constructor <;> simp_all [Hd.has, Hd.lane]
theorem dE.new (wk : Nat) {who : Int} (x y z : Bool) (hw : 0 < who) (ha : o.a ≠ who) (hb : o.b ≠ who) (hc : o.c ≠ who) : dE (wP wk who x y z) o o := by
 cases x <;> cases y <;> cases z <;> constructor <;> simp_all [wP, Hd.want, dG, Hd.has, Hd.lane]
end
end Go.Proofs.YtelnhablglomjaaGreat

namespace Go.Proofs.YtelnhablglomjaaGreat
def Hd.up (H : Hd) : Nat := (H.x && decide (H.lk ≤ 0)).toNat + (H.y && decide (H.lk ≤ 1)).toNat + (H.z && decide (H.lk ≤ 2)).toNat
def Hd.dn (H : Hd) : Nat := (H.x && decide (0 ≤ H.lk)).toNat + (H.y && decide (1 ≤ H.lk)).toNat + (H.z && decide (2 ≤ H.lk)).toNat
def Hd.len (H : Hd) : Nat := H.x.toNat + H.y.toNat + H.z.toNat
def Hd.rem (H : Hd) (K : Nat) : Nat := if H.st = 0 then H.up + K + H.len + 1 else if H.st = 1 ∨ H.st = 2 then K + H.len + 1 else if H.st = 3 then H.dn + 1 else if H.st = 4 then 1 else 0
def Hd.fr (H : Hd) (o : Lk) : Prop := H.st ≠ 0 → (H.x = true → o.a = 0) ∧ (H.y = true → o.b = 0) ∧ (H.z = true → o.c = 0)
section
variable {H : Hd} {l o : Lk}
theorem dE.RN (h : dE H l o) (h0 : H.st = 0) (hf : o.own H.lk = 0) : (H.want (H.lk + 1)).fr o := by
 have h2 := (h.take h0 hf).2
 obtain ⟨wk, who, x, y, z, st, lk⟩ := H
 have fa := h2.fa
 have fb := h2.fb
 have fc := h2.fc
 have hs := h.st
 simp only [Hd.has, Hd.lane, Hd.want, Hd.fr] at *
 subst h0
 clear h h2
 rcases hs with ⟨_, ⟨rfl, rfl⟩ | ⟨rfl, rfl⟩ | ⟨rfl, rfl⟩⟩ | hs | hs | ⟨hs, _⟩ | hs | hs <;> (try (simp at hs; done))
 ·cases y <;> cases z <;> simp_all [dG, Lk.own]
 ·cases x <;> cases z <;> simp_all [dG, Lk.own]
 ·cases x <;> cases y <;> simp_all [dG, Lk.own]
theorem dE.OH (h : dE H l o) (h0 : H.st = 0) (K : Nat) : (H.want (H.lk + 1)).rem K + 1 = H.rem K := by
 obtain ⟨wk, who, x, y, z, st, lk⟩ := H
 have hs := h.st
 clear h
 simp only at hs h0
 subst h0
 rcases hs with ⟨_, ⟨rfl, rfl⟩ | ⟨rfl, rfl⟩ | ⟨rfl, rfl⟩⟩ | hs | hs | ⟨hs, _⟩ | hs | hs <;> (try (simp at hs; done))
 ·cases y <;> cases z <;> simp [Hd.want, dG, Hd.rem, Hd.up, Hd.len] <;> omega
 ·cases x <;> cases z <;> simp [Hd.want, dG, Hd.rem, Hd.up, Hd.len] <;> omega
 ·cases x <;> cases y <;> simp [Hd.want, dG, Hd.rem, Hd.up, Hd.len] <;> omega
theorem Hd.OI (h1 : H.st = 1 ∨ H.st = 2) (K : Nat) : (H.part false).rem K + 1 = H.rem (K + 1) := by
 obtain ⟨wk, who, x, y, z, st, lk⟩ := H
 simp only at h1
 rcases h1 with rfl | rfl <;> simp [Hd.part, Hd.rem, Hd.len] <;> omega
theorem Hd.OJ (h1 : H.st = 1 ∨ H.st = 2) (K : Nat) : (H.part true).rem K + 1 = H.rem 1 := by
 obtain ⟨wk, who, x, y, z, st, lk⟩ := H
 simp only at h1
 rcases h1 with rfl | rfl <;> cases x <;> cases y <;> cases z <;> simp [Hd.part, Hd.yield, iY, Hd.rem, Hd.len, Hd.dn]
theorem dE.OL (h : dE H l o) (h3 : H.st = 3) (K : Nat) : H.give.rem K + 1 = H.rem K := by
 obtain ⟨wk, who, x, y, z, st, lk⟩ := H
 have hs := h.st
 clear h
 simp only at hs h3
 subst h3
 rcases hs with ⟨hs, _⟩ | hs | hs | ⟨_, ⟨rfl, rfl⟩ | ⟨rfl, rfl⟩ | ⟨rfl, rfl⟩⟩ | hs | hs <;> (try (simp at hs; done))
 ·cases y <;> cases z <;> simp [Hd.give, Hd.yield, iY, Hd.rem, Hd.dn, Hd.len]
 ·cases x <;> cases z <;> simp [Hd.give, Hd.yield, iY, Hd.rem, Hd.dn, Hd.len]
 ·cases x <;> cases y <;> simp [Hd.give, Hd.yield, iY, Hd.rem, Hd.dn, Hd.len]
theorem Hd.OM (h4 : H.st = 4) (K : Nat) : ({ H with st := 5 } : Hd).rem K + 1 = H.rem K := by
 simp [Hd.rem, h4]
theorem Hd.RO (wk : Nat) (who : Int) (x y z : Bool) (K : Nat) : (wP wk who x y z).rem K = 2 * (wP wk who x y z).len + K + 1 := by
 cases x <;> cases y <;> cases z <;> simp [wP, Hd.want, dG, Hd.rem, Hd.up, Hd.len] <;> omega
theorem Hd.Jl {o : Lk} (h : H.fr o) (h1 : H.st = 1 ∨ H.st = 2) (dn : Bool) : (H.part dn).fr o := by
 have h2 := h (by omega)
 intro _
 cases dn <;> exact h2
theorem Hd.RP {o : Lk} (h : H.fr o) (h3 : H.st = 3) : H.give.fr o := fun _ => h (by omega)
theorem Hd.RQ {o : Lk} (h : H.fr o) (h4 : H.st = 4) : ({ H with st := 5 } : Hd).fr o := fun _ => h (by omega)
theorem dE.held (h : dE H l o) : l.has 0 H.who = H.has 0 ∧ l.has 1 H.who = H.has 1 ∧ l.has 2 H.who = H.has 2 := by
 have hw := decide_eq_true h.who
 refine ⟨?_, ?_, ?_⟩
 ·show (decide (0 < H.who) && decide (l.a = H.who)) = _
  rw [hw, h.a]; have := h.na; cases H.has 0 <;> simp [this]
 ·show (decide (0 < H.who) && decide (l.b = H.who)) = _
  rw [hw, h.b]; have := h.nb; cases H.has 1 <;> simp [this]
 ·show (decide (0 < H.who) && decide (l.c = H.who)) = _
  rw [hw, h.c]; have := h.nc; cases H.has 2 <;> simp [this]
theorem dE.over (h : dE H l o) (h5 : H.st = 5 ∨ H.st = 4) : l.a = o.a ∧ l.b = o.b ∧ l.c = o.c := by
 have e : ∀ j, H.has j = false := fun j => by unfold Hd.has; rcases h5 with h5 | h5 <;> (rw [h5]; simp)
 have a := h.a
 have b := h.b
 have c := h.c
 rw [e] at a b c
 simpa using ⟨a, b, c⟩
theorem Hd.VE (H : Hd) : H.up ≤ 3 := by
 unfold Hd.up
 have h : ∀ b : Bool, b.toNat ≤ 1 := fun b => by cases b <;> decide
 have := h (H.x && decide (H.lk ≤ 0))
 have := h (H.y && decide (H.lk ≤ 1))
 have := h (H.z && decide (H.lk ≤ 2))
 omega
theorem Hd.TI (H : Hd) : H.len ≤ 3 := by
 unfold Hd.len
 have h : ∀ b : Bool, b.toNat ≤ 1 := fun b => by cases b <;> decide
 have := h H.x
 have := h H.y
 have := h H.z
 omega
theorem Hd.TJ (wk : Nat) (who : Int) (x y z : Bool) (o : Lk) : (wP wk who x y z).fr o := by
 cases x <;> cases y <;> cases z <;> simp [wP, Hd.want, dG, Hd.fr]
theorem Hd.OO {j : Int} (h : H.has j = true) : H.lane j = true := by
 unfold Hd.has at h
 rw [Bool.and_eq_true] at h
 exact h.1
theorem Hd.RS {i j : Int} (hij : i < j) (hl : H.lane i = true) (h : H.has i = false) : H.has j = false := by
 unfold Hd.has at *
 rw [hl, Bool.true_and] at h
 split at h
 ·rename_i h0
  rw [if_pos h0]
  rw [decide_eq_false_iff_not] at h
  rw [decide_eq_false (show ¬ j < H.lk by omega), Bool.and_false]
 ·rename_i h0
  rw [if_neg h0]
  split at h
  ·rename_i h3
   rw [if_pos h3]
   rw [decide_eq_false_iff_not] at h
   rw [decide_eq_false (show ¬ j ≤ H.lk by omega), Bool.and_false]
  ·rename_i h3
   rw [if_neg h3, h, Bool.and_false]
theorem Hd.xh {j : Int} (h : H.st = 1 ∨ H.st = 2) : H.has j = H.lane j := by
 unfold Hd.has
 rw [if_neg (by omega), if_neg (by omega), decide_eq_true h, Bool.and_true]
end
end Go.Proofs.YtelnhablglomjaaGreat

namespace Go.Proofs.YtelnhablglomjaaGreat
open Go.RowKit Go.Lib Go.Sort
theorem SW.OE {w w1 : World} {b c t d p g a : Nat} {v : Value} {m : Int} {R : Wk} {P : Pg} (h : SW w b c t d p v g a m R P) (blk : ∀ k, jk b c t d p v g k → w1.heap[k]? = w.heap[k]?) : SW w1 b c t d p v g a m R P :=
 ⟨(blk b (.inl rfl)).trans h.wk, h.cw.OE fun k hk => blk k (.inr hk)⟩
structure Sd where
 v : Value
 g : Nat
 a : Nat
 m : Int
 R : Wk
 P : Pg
structure Rn (B : Nat) (W : World) (o h s b c t d p : Nat) (S0 S : Sd) (H : Hd) (l u : Lk) (rc : Rq) (K : Nat) (Q : Nat → Int → Wk → Pg → Prop) : Prop where
 op : su W o h rc
 hd : bF W h H
 wk : H.wk = b
 lk : bT 32 W s l
 ln : 0 ≤ l.n ∧ (H.st = 0 → l.n + H.up ≤ 10)
 lock : dE H l u
 fr : H.fr u
 sw : SW W b c t d p S.v S.g S.a S.m S.R S.P
 run : H.st ≤ 2 → Run K S.a S.m S.R S.P Q
 done : 3 ≤ H.st → Q S.a S.m S.R S.P
 bg : H.st ≤ 1 → S = S0
 lo : ∀ k, jk b c t d p S.v S.g k → B ≤ k
 lo2 : B ≤ h ∧ B ≤ s
section
variable {B o h s b c t d p K : Nat} {W W' : World} {S0 S : Sd} {H : Hd} {l u : Lk} {rc : Rq} {Q : Nat → Int → Wk → Pg → Prop}
theorem Rn.nh (X : Rn B W o h s b c t d p S0 S H l u rc K Q) : ¬ jk b c t d p S.v S.g h := by
 rintro (e | hf)
 ·exact Put.aI X.hd X.sw.wk (by decide) e
 ·exact X.sw.cw.other X.hd (by decide) hf
theorem Rn.ns (X : Rn B W o h s b c t d p S0 S H l u rc K Q) : ¬ jk b c t d p S.v S.g s := by
 rintro (e | hf)
 ·exact Put.aI X.lk X.sw.wk (by decide) e
 ·exact X.sw.cw.other X.lk (by decide) hf
theorem Rn.no (X : Rn B W o h s b c t d p S0 S H l u rc K Q) : ¬ jk b c t d p S.v S.g o := by
 rintro (e | hf)
 ·exact Put.aI X.op X.sw.wk (by decide) e
 ·exact X.sw.cw.other X.op (by decide) hf
theorem Rn.hs (X : Rn B W o h s b c t d p S0 S H l u rc K Q) : h ≠ s := Put.aI X.hd X.lk (by decide)
theorem Rn.oh (X : Rn B W o h s b c t d p S0 S H l u rc K Q) : o ≠ h ∧ o ≠ s := ⟨Put.aI X.op X.hd (by decide), Put.aI X.op X.lk (by decide)⟩
theorem Rn.kept (X : Rn B W o h s b c t d p S0 S H l u rc K Q) (hb : Below W.heap.size W W') : Rn B W' o h s b c t d p S0 S H l u rc K Q :=
 ⟨(hb.block _ X.op.lt).trans X.op, X.hd.below hb X.hd.lt, X.wk, X.lk.below hb X.lk.lt, X.ln, X.lock, X.fr, X.sw.kept hb, X.run, X.done, X.bg, X.lo, X.lo2⟩
theorem Rn.turn {H' : Hd} {l' : Lk} (X : Rn B W o h s b c t d p S0 S H l u rc K Q) (hH : bF W' h H') (hl : bT 32 W' s l') (ho : bA (fun k => k = h ∨ k = s) W W') (hw : H'.wk = H.wk) (hn : 0 ≤ l'.n ∧ (H'.st = 0 → l'.n + H'.up ≤ 10)) (hL : dE H' l' u) (hf : H'.fr u)
 (h1 : H'.st ≤ 2 → H.st ≤ 2) (h2 : 3 ≤ H'.st → 3 ≤ H.st) (h3 : H'.st ≤ 1 → H.st ≤ 1) : Rn B W' o h s b c t d p S0 S H' l' u rc K Q :=
 ⟨(ho.block _ X.op.lt (by have := X.oh; omega)).trans X.op, hH, hw.trans X.wk, hl, hn, hL, hf,
   X.sw.OE fun k hk => ho.block k (X.sw.lt hk) (fun e => e.elim (fun e => X.nh (e ▸ hk)) (fun e => X.ns (e ▸ hk))), fun h => X.run (h1 h), fun h => X.done (h2 h), fun h => X.bg (h3 h), X.lo, X.lo2⟩
def TK (B : Nat) (W : World) (o h s b c t d p : Nat) (S0 S : Sd) (H : Hd) (u : Lk) (rc : Rq) (K : Nat) (Q : Nat → Int → Wk → Pg → Prop) (e : Ending) (W' : World) : Prop :=
 e = .returned (.bool (H.st == 1)) ∧ Below B W W' ∧ (H.st = 0 → bA (fun k => k = h ∨ k = s) W W') ∧ bA (fun k => jk b c t d p S.v S.g k ∨ k = h ∨ k = s) W W' ∧ ∃ S' H' l' K', Rn B W' o h s b c t d p S0 S' H' l' u rc K' Q ∧ H'.rem K' + 1 = H.rem K ∧ H.st ≤ H'.st ∧ (1 ≤ H.st → 2 ≤ H'.st) ∧ H'.who = H.who ∧ H'.x = H.x ∧ H'.y = H.y ∧ H'.z = H.z
theorem Jm (H : Hd) (k : Int) : (H.want k).st = 0 ∨ (H.want k).st = 1 := by unfold Hd.want; simp only; split <;> simp
theorem Ev (H : Hd) (k : Int) : (H.yield k).st = 3 ∨ (H.yield k).st = 4 := by unfold Hd.yield; simp only; split <;> simp
theorem RU {l : Lk} {k who : Int} (h : l.mg k who = 0) : (l.ni k who).n = l.n + 1 := by unfold Lk.ni; rw [if_pos h]
theorem TL (l : Lk) (k who : Int) : (l.iX k who).n = l.n := by unfold Lk.iX; split <;> rfl
theorem RX (X : Rn B W o h s b c t d p S0 S H l u rc K Q) (h5 : H.st ≠ 5) (hf : H.st = 0 → u.own H.lk = 0) (hB : B ≤ W.heap.size) :
 Calls Tryz.prog 16 #[.pointer (some ⟨h, 0, none⟩), .pointer (some ⟨c, 0, none⟩), .pointer (some ⟨s, 0, none⟩)] W (TK B W o h s b c t d p S0 S H u rc K Q) := by
 have hl2 := X.lo2
 have hne := X.hs
 by_cases h0 : H.st = 0
 ·obtain ⟨e0, hL⟩ := X.lock.take h0 (hf h0)
  have hk := X.lock.Xy (.inl h0)
  have hn := X.ln.2 h0
  have hn0 := X.ln.1
  have e1 : H.take l = H.want (H.lk + 1) := by unfold Hd.take; rw [if_pos e0]
  have hr := X.lock.OH h0 K
  refine (yQ X.hd h0 X.lk ⟨hn0, by omega⟩ (by omega) hne).mono ?_
  rintro e w' ⟨rfl, q1, q2, q3⟩
  rw [e1] at q1
  have hs := Jm H (H.lk + 1)
  refine ⟨by rw [h0]; rfl, q3.below (fun k hk => by omega) hB, fun _ => q3, (bA.refl _ W).trans q3 fun k hk => .inl (.inr hk), S, H.want (H.lk + 1), l.ni H.lk H.who, K, X.turn q1 q2 q3 rfl ⟨by rw [RU e0]; omega, fun h' => ?_⟩ hL (X.lock.RN h0 (hf h0)) (fun _ => by omega) (fun h => by omega) (fun _ => by omega), hr, by omega, fun h => by omega, rfl, rfl, rfl, rfl⟩
  rw [RU e0]
  unfold Hd.rem at hr
  rw [if_pos h', if_pos h0] at hr
  have : (H.want (H.lk + 1)).len = H.len := rfl
  omega
 by_cases h12 : H.st = 1 ∨ H.st = 2
 ·have hr := X.run (by omega)
  cases K with
  | zero => exact hr.elim
  | succ K =>
    obtain ⟨a', m', R', P', ⟨rfl, ho, hq⟩ | ⟨ho, hq⟩⟩ := hr
    ·refine (sP X.hd h12 (Q := fun w' => ∃ v' g', SW w' b c t d p v' g' a' m' R' P' ∧ WS W w' b c t d p S.v S.g v' g' ∧ bF w' h H) true ?_).mono ?_
     ·rw [X.wk]
      refine (ho W b c t d p S.v S.g X.sw).mono ?_
      rintro e w' ⟨rfl, v', g', h1, h2⟩
      have h3 := (h2.heap X.hd.lt X.nh).trans X.hd
      exact ⟨rfl, ⟨v', g', h1, h2, h3⟩, h3⟩
     ·rintro e w' ⟨rfl, w1, ⟨v', g', h1, h2, h3⟩, h4, h6⟩
      have hn1 : ¬ jk b c t d p v' g' h := by
       rintro (e | hf)
       ·exact Put.aI h3 h1.wk (by decide) e
       ·exact h1.cw.other h3 (by decide) hf
      have hy := Ev H 3
      have hp : (H.part true).st = 3 ∨ (H.part true).st = 4 := hy
      have ho1 : su w1 o h rc := (h2.heap X.op.lt X.no).trans X.op
      have hl1 : bT 32 w1 s l := (h2.heap X.lk.lt X.ns).trans X.lk
      refine ⟨rfl, (h2.below X.lo hB).trans (h6.below (fun k hk => by omega) (Nat.le_trans hB h2.off.size)), fun h => by omega, ((bA.refl _ W).trans h2.off fun k hk => .inl (.inl hk)).trans h6 fun k hk => .inl (.inr (.inl hk)), ⟨v', g', a', m', R', P'⟩, H.part true, l, 0, ⟨(h6.block _ ho1.lt (by have := X.oh; omega)).trans ho1, h4, X.wk, (h6.block _ hl1.lt (by omega)).trans hl1, ⟨X.ln.1, fun h => by omega⟩, X.lock.part h12 true, Hd.Jl X.fr h12 true,
       h1.OE fun k hk => h6.block k (h1.lt hk) (fun e => hn1 (e ▸ hk)), fun h => by omega, fun _ => hq, fun h => by omega, h2.lo X.lo hB, hl2⟩, Hd.OJ h12 0, by omega, fun _ => by omega, rfl, rfl, rfl, rfl⟩
    ·refine (sP X.hd h12 (Q := fun w' => ∃ v' g', SW w' b c t d p v' g' a' m' R' P' ∧ WS W w' b c t d p S.v S.g v' g' ∧ bF w' h H) false ?_).mono ?_
     ·rw [X.wk]
      refine (ho W b c t d p S.v S.g X.sw).mono ?_
      rintro e w' ⟨rfl, v', g', h1, h2⟩
      have h3 := (h2.heap X.hd.lt X.nh).trans X.hd
      exact ⟨rfl, ⟨v', g', h1, h2, h3⟩, h3⟩
     ·rintro e w' ⟨rfl, w1, ⟨v', g', h1, h2, h3⟩, h4, h6⟩
      have hn1 : ¬ jk b c t d p v' g' h := by
       rintro (e | hf)
       ·exact Put.aI h3 h1.wk (by decide) e
       ·exact h1.cw.other h3 (by decide) hf
      have hp : (H.part false).st = 2 := rfl
      have ho1 : su w1 o h rc := (h2.heap X.op.lt X.no).trans X.op
      have hl1 : bT 32 w1 s l := (h2.heap X.lk.lt X.ns).trans X.lk
      refine ⟨rfl, (h2.below X.lo hB).trans (h6.below (fun k hk => by omega) (Nat.le_trans hB h2.off.size)), fun h => by omega, ((bA.refl _ W).trans h2.off fun k hk => .inl (.inl hk)).trans h6 fun k hk => .inl (.inr (.inl hk)), ⟨v', g', a', m', R', P'⟩, H.part false, l, K, ⟨(h6.block _ ho1.lt (by have := X.oh; omega)).trans ho1, h4, X.wk, (h6.block _ hl1.lt (by omega)).trans hl1, ⟨X.ln.1, fun h => by omega⟩, X.lock.part h12 false, Hd.Jl X.fr h12 false,
       h1.OE fun k hk => h6.block k (h1.lt hk) (fun e => hn1 (e ▸ hk)), fun _ => hq, fun h => by omega, fun h => by omega, h2.lo X.lo hB, hl2⟩, Hd.OI h12 K, by omega, fun _ => by omega, rfl, rfl, rfl, rfl⟩
 by_cases h3 : H.st = 3
 ·have hk := X.lock.Xy (.inr h3)
  obtain ⟨_, hL⟩ := X.lock.give h3
  refine (yR X.hd h3 X.lk (by omega) hne).mono ?_
  rintro e w' ⟨rfl, q1, q2, q3⟩
  have hs : H.give.st = 3 ∨ H.give.st = 4 := Ev H H.lk
  exact ⟨by rw [h3]; rfl, q3.below (fun k hk => by omega) hB, fun h => by omega, (bA.refl _ W).trans q3 fun k hk => .inl (.inr hk), S, H.give, l.iX H.lk H.who, K, X.turn q1 q2 q3 rfl ⟨by rw [TL]; exact X.ln.1, fun h => by omega⟩ hL (Hd.RP X.fr h3) (fun h => by omega) (fun _ => by omega) (fun h => by omega), X.lock.OL h3 K, by omega, fun _ => by omega, rfl, rfl, rfl, rfl⟩
 have h4 : H.st = 4 := by have := X.lock.st; omega
 refine (yS X.hd h4 _).mono ?_
 rintro e w' ⟨rfl, q1, q3⟩
 exact ⟨by rw [h4]; rfl, q3.below (fun k hk => by omega) hB, fun h => by omega, (bA.refl _ W).trans q3 fun k hk => .inl (.inr (.inl hk)), S, { H with st := 5 }, l, K, X.turn q1 ((q3.block s X.lk.lt (fun e => hne e.symm)).trans X.lk) ((bA.refl _ W).trans q3 fun k hk => .inl (.inl hk)) rfl ⟨X.ln.1, fun h => absurd (show (5 : Int) = 0 from h) (by decide)⟩ (X.lock.tell h4) (Hd.RQ X.fr h4) (fun h => absurd (show (5 : Int) ≤ 2 from h) (by decide)) (fun _ => by omega) (fun h => absurd (show (5 : Int) ≤ 1 from h) (by decide)), Hd.OM h4 K, show H.st ≤ (5 : Int) by omega, fun _ => show (2 : Int) ≤ 5 by decide, rfl, rfl, rfl, rfl⟩
end
end Go.Proofs.YtelnhablglomjaaGreat

namespace Go.Proofs.YtelnhablglomjaaGreat
open Go.RowKit Go.Lib Go.Sort
structure De where
 Mj : Bool
 r : Rq
 xi : Int
 xt : Int
def rV (x : De) : List Value := .bool x.Mj :: (encR x.r ++ [.int .i64 x.xi, .int .i64 x.xt])
section
variable {w : World} {v : Value} {l : List De}
theorem Mk (h : aD rV 12 w v l) : Calls Tryz.prog 31 #[v] w fun e w' => ∃ v', e = .returned v' ∧ aD rV 12 w v' (l.take 60) ∧ w = w' := by
 have hr := h
 obtain ⟨ao, cap, rfl, h1, h2, h3⟩ := h
 by_cases hn : 60 < l.length
 ·have d1 : decide ((60 : Int) < (l.length : Int)) = true := decide_eq_true (by omega)
  have hcut := hr.cut (n := 60) (by omega)
  go_enter Tryz.func31, Tryz.ntmps31
  go_wp2_with fail
  go_ret
  exact ⟨_, rfl, hcut, rfl⟩
 ·have d1 : decide ((60 : Int) < (l.length : Int)) = false := decide_eq_false (by omega)
  have e : l.take 60 = l := List.take_of_length_le (by omega)
  rw [e]
  go_enter Tryz.func31, Tryz.ntmps31
  go_wp2_with fail
  go_ret
  exact ⟨_, rfl, hr, rfl⟩
end
end Go.Proofs.YtelnhablglomjaaGreat

namespace Go.Proofs.YtelnhablglomjaaGreat
open Go.RowKit Go.Lib Go.Sort
section
variable {M : Md}
theorem yI (M : Md) (j : Jb) : (fu M j).L.length = M.L.length ∧ (fu M j).dr = M.dr := ⟨by show (M.L.map _).length = _; rw [List.length_map], rfl⟩
theorem TM (hI : aF M) (r : Rw) : (fD M r).2.L.length ≤ M.L.length + 1 ∧ (fD M r).2.dr.length = M.dr.length := by
 unfold fD
 by_cases hc : M.cl = true
 ·rw [if_pos hc]; exact ⟨Nat.le_succ _, rfl⟩
 rw [if_neg hc]
 by_cases k1 : r.kind = 1
 ·rw [if_pos k1]
  unfold jJ
  split
  ·exact ⟨Nat.le_succ _, rfl⟩
  split
  ·exact ⟨by show (M.L ++ [_]).length ≤ _; simp, rfl⟩
  ·refine ⟨?_, rfl⟩
   rw [(yI _ _).1]
   show (M.L ++ [_]).length ≤ _
   simp
 rw [if_neg k1]
 by_cases k2 : r.kind = 2 ∨ r.kind = 5
 ·rw [if_pos k2]
  unfold mh
  simp only
  split
  ·exact ⟨Nat.le_succ _, rfl⟩
  split
  ·exact ⟨Nat.le_succ _, rfl⟩
  ·exact ⟨by show (M.L.set _ _).length ≤ _; rw [List.length_set]; omega, rfl⟩
 rw [if_neg k2]
 by_cases k3 : r.kind = 3 ∨ r.kind = 4 ∨ r.kind = 6
 ·rw [if_pos k3]
  unfold fP
  simp only
  split
  ·exact ⟨Nat.le_succ _, rfl⟩
  split
  ·exact ⟨Nat.le_succ _, rfl⟩
  split
  ·refine ⟨?_, rfl⟩
   rw [(yI _ _).1]
   show (M.L.set _ _).length ≤ _
   rw [List.length_set]; omega
  ·exact ⟨by show (M.L.set _ _).length ≤ _; rw [List.length_set]; omega, rfl⟩
 rw [if_neg k3]
 by_cases k7 : r.kind = 7 ∨ r.kind = 8
 ·rw [if_pos k7]
  unfold ic
  split
  ·exact ⟨Nat.le_succ _, rfl⟩
  split
  ·exact ⟨Nat.le_succ _, rfl⟩
  ·unfold fF
   split
   ·exact ⟨by show (fu M lq).L.length ≤ _; rw [(yI _ _).1]; omega, by show (M.dr.set _ _).length = _; rw [List.length_set]⟩
   ·exact ⟨Nat.le_succ _, by show (M.dr.set _ _).length = _; rw [List.length_set]⟩
 rw [if_neg k7]
 by_cases k9 : r.kind = 9
 ·rw [if_pos k9]
  unfold mE
  split
  ·exact ⟨Nat.le_succ _, rfl⟩
  ·have hn := hI.mb.now
   have hk := EW (M.now + r.by') (2 * M.L.length + 1) hI.mb (by omega)
   exact ⟨by show (dF _ _ M).L.length ≤ _; rw [hk.2.1]; omega, by show (dF _ _ M).dr.length = _; rw [hk.2.2.1]⟩
 rw [if_neg k9]
 repeat' split
 all_goals exact ⟨Nat.le_succ _, rfl⟩
theorem Jn (M : Md) (id t : Int) : (cO M id t).2.L.length = M.L.length ∧ (cO M id t).2.dr = M.dr := by
 unfold cO
 split
 ·split
  ·exact ⟨by show (M.L.set _ _).length = _; rw [List.length_set], rfl⟩
  ·exact ⟨by show (M.L.set _ _).length = _; rw [List.length_set], rfl⟩
 ·exact ⟨rfl, rfl⟩
def Gd (M : Md) (x : De) : Md := if x.Mj then (cO M x.xi x.xt).2 else (fD M (toW x.r)).2
def mQ (M : Md) (l : List De) : Md := l.foldl Gd M
theorem Ok.de (h : Ok M) (x : De) : Ok (Gd M x) := by
 unfold Gd
 split
 ·exact h.kE _ _
 ·exact h.JI _
theorem TN (h : Ok M) (x : De) : (Gd M x).L.length ≤ M.L.length + 1 ∧ (Gd M x).dr.length = M.dr.length := by
 unfold Gd
 split
 ·have := Jn M x.xi x.xt
  exact ⟨by rw [this.1]; omega, by rw [this.2]⟩
 ·exact TM h.inv _
theorem Ew (h : Ok M) (l : List De) : Ok (mQ M l) ∧ (mQ M l).L.length ≤ M.L.length + l.length ∧ (mQ M l).dr.length = M.dr.length := by
 unfold mQ
 induction l generalizing M with
 | nil => exact ⟨h, Nat.le_refl _, rfl⟩
 | cons x l ih =>
   obtain ⟨h1, h2, h3⟩ := ih (h.de x)
   have := TN h x
   exact ⟨h1, by show (l.foldl Gd (Gd M x)).L.length ≤ M.L.length + (l.length + 1); omega, h3.trans this.2⟩
theorem Lp (M : Md) {l : List De} {i : Nat} (hi : i < l.length) : mQ M (l.take (i + 1)) = Gd (mQ M (l.take i)) l[i] := by
 unfold mQ
 rw [List.take_succ_eq_append_getElem hi, List.foldl_append]
 rfl
end
end Go.Proofs.YtelnhablglomjaaGreat

namespace Go.Proofs.YtelnhablglomjaaGreat
open Go.RowKit Go.Lib Go.Sort
section
variable {M : Md}
def Ex (M : Md) (r : Rw) : Rl × Md := if 1 ≤ r.kind ∧ r.kind ≤ 13 then fD M r else (fG 4, M)
theorem Jo {r : Rw} (h : 1 ≤ r.kind ∧ r.kind ≤ 13) : Ex M r = fD M r := by unfold Ex; rw [if_pos h]
theorem yJ {r : Rw} (h : ¬ (1 ≤ r.kind ∧ r.kind ≤ 13)) : Ex M r = (fG 4, M) := by unfold Ex; rw [if_neg h]
theorem OP (M : Md) (r : Rw) : (Ex M r).2 = (fD M r).2 := by
 by_cases h : 1 ≤ r.kind ∧ r.kind ≤ 13
 ·rw [Jo h]
 ·rw [yJ h]
  unfold fD
  rw [if_neg (show ¬ r.kind = 1 by omega), if_neg (show ¬ (r.kind = 2 ∨ r.kind = 5) by omega), if_neg (show ¬ (r.kind = 3 ∨ r.kind = 4 ∨ r.kind = 6) by omega), if_neg (show ¬ (r.kind = 7 ∨ r.kind = 8) by omega), if_neg (show ¬ r.kind = 9 by omega), if_neg (show ¬ r.kind = 10 by omega), if_neg (show ¬ r.kind = 11 by omega), if_neg (show ¬ r.kind = 12 by omega), if_neg (show ¬ r.kind = 13 by omega)]
  split <;> rfl
end
def kW (w : World) (s c : Nat) : Prop := w.heap[s]? = some (.cells #[.pointer (some ⟨c, 0, none⟩)] 40 (0, 0))
theorem kW.lt {w : World} {s c : Nat} (h : kW w s c) : s < w.heap.size := aC h
theorem kW.c0 {w : World} {s c : Nat} (h : kW w s c) : w.cell? ⟨s, 0, none⟩ = some (.pointer (some ⟨c, 0, none⟩)) := by simp [World.cell?, show w.heap[s]? = _ from h]
theorem kW.kept {w w' : World} {s c : Nat} (h : kW w s c) (hb : Below w.heap.size w w') : kW w' s c := (hb.block s h.lt).trans h
theorem kW.far {w w' : World} {s c : Nat} (h : kW w s c) (hf : Xr w w') : kW w' s c := hf s _ _ _ (by decide) (by decide) h
structure SO (B : Nat) (w : World) (s c t d p : Nat) (v : Value) (g : Nat) (m : Int) (M : Md) : Prop where
 at' : kW w s c
 VF : B ≤ s
 cw : CW w c t d p v g (1 + 2 * M.L.length) m (ah M)
 lo : ∀ k, dP c t d p v g k → B ≤ k
section
variable {w w' w1 : World} {B s c t d p g g' : Nat} {v v' : Value} {m m' : Int} {M M' : Md}
theorem SO.apart (h : SO B w s c t d p v g m M) : ¬ dP c t d p v g s := h.cw.other h.at' (by decide)
theorem SO.kept (h : SO B w s c t d p v g m M) (hb : Below w.heap.size w w') : SO B w' s c t d p v g m M := ⟨h.at'.kept hb, h.VF, h.cw.kept hb, h.lo⟩
theorem SO.wider (h : SO B w s c t d p v g m M) (hm : m ≤ m') : SO B w s c t d p v g m' M := ⟨h.at', h.VF, h.cw.wider (Nat.le_refl _) hm, h.lo⟩
theorem SO.turn (h : SO B w s c t d p v g m M) (hs : CS w w' c t d p v g v' g') (hC : CW w' c t d p v' g' (1 + 2 * M'.L.length) m' (ah M')) (hB : B ≤ w.heap.size) : SO B w' s c t d p v' g' m' M' :=
 ⟨(hs.heap h.at'.lt h.apart).trans h.at', h.VF, hC, hs.lo h.lo hB⟩
theorem SO.below (h : SO B w s c t d p v g m M) (hs : CS w w' c t d p v g v' g') (hB : B ≤ w.heap.size) : Below B w w' := hs.below h.lo hB
theorem CS.RY {b : Nat} (hb : Below w.heap.size w w1) (hlo : w.heap.size ≤ b) (hs : WS w1 w' b c t d p v g v' g') : CS w w' c t d p v g v' g' := by
 refine ⟨⟨hs.off.os.trans hb.os, hs.off.tape.trans hb.tape, hs.off.output.trans hb.output, Nat.le_trans hb.size hs.off.size, fun k hk hf => ?_⟩, fun k hk => ?_⟩
 ·refine (hs.heap (Nat.lt_of_lt_of_le hk hb.size) ?_).trans (hb.block k hk)
  rintro (rfl | h2)
  ·omega
  ·exact hf h2
 ·rcases hs.grew k (.inr hk) with (rfl | h2) | h2
  ·exact .inr hlo
  ·exact .inl h2
  ·exact .inr (Nat.le_trans hb.size h2)
end
section
variable {w : World} {B s c t d p g : Nat} {v : Value} {m : Int} {M : Md}
theorem yK (h : SO B w s c t d p v g m M) : Calls Tryz.prog 36 #[.pointer (some ⟨s, 0, none⟩)] w fun e w' => e = .returned (.bool false) ∧ w = w' := by
 have c0 := h.at'.c0
 have hn := lX h.cw
 go_enter Tryz.func36, Tryz.ntmps36
 go_wp2_with fail
 go_at_call 41
 refine hn.mono ?_
 clear hn
 rintro e w' ⟨rfl, rfl⟩
 go_wp2_with fail
 go_ret
 exact ⟨rfl, rfl⟩
theorem RZ (c : Nat) (w : World) : Calls Tryz.prog 37 #[.pointer (some ⟨c, 0, none⟩)] w fun e w' => e = .returned (.pointer (some ⟨w.heap.size, 0, none⟩)) ∧ kW w' w.heap.size c ∧ Below w.heap.size w w' := by
 go_enter Tryz.func37, Tryz.ntmps37
 go_wp2_with fail
 go_ret
 exact ⟨rfl, heap_alloc_new w _, (Below.refl _ _).alloc (Nat.le_refl _) _⟩
theorem OQ (n : Int) (w : World) (h : n < 1 ∨ 64 < n) : Calls Tryz.prog 32 #[.int .i64 n] w fun e w' => e = .returned (.tuple #[.pointer none, .int .i64 1]) ∧ w = w' := by
 have hn := Ox n w h
 go_enter Tryz.func32, Tryz.ntmps32
 go_wp2_with (go_at_call 35; go_must (refine hn.mono ?_); rintro e w' ⟨rfl, rfl⟩)
 go_ret2
 exact ⟨rfl, rfl⟩
theorem R3 (n : Nat) (w : World) (h1 : 1 ≤ n) (h2 : n ≤ 64) : Calls Tryz.prog 32 #[.int .i64 n] w fun e w' => ∃ s c t d p v g, e = .returned (.tuple #[.pointer (some ⟨s, 0, none⟩), .int .i64 0]) ∧ SO w.heap.size w' s c t d p v g 0 (dI n) ∧ Below w.heap.size w w' := by
 have hn := Jd n w h1 h2
 go_enter Tryz.func32, Tryz.ntmps32
 go_wp2_with fail
 go_at_call 35
 refine hn.mono ?_
 clear hn
 rintro e w1 ⟨c, t, d, p, v, g, rfl, ⟨sF, hlo1⟩, hb1⟩
 have ho := RZ c w1
 go_wp2_with fail
 go_at_call 37
 refine ho.mono ?_
 clear ho
 rintro e w2 ⟨rfl, hS2, hb2⟩
 go_wp2_with fail
 go_ret2
 exact ⟨w1.heap.size, c, t, d, p, v, g, rfl, ⟨hS2, hb1.size, sF.kept hb2, hlo1⟩, hb1.trans (hb2.mono hb1.size)⟩
end
section
variable {w w0 : World} {B s b c t d p g N : Nat} {v : Value} {m : Int} {M : Md} {Q : Nat → Int → Wk → Pg → Prop}
theorem Jp {a : Nat} {R : Wk} {P : Pg} (hs : kW w s c) (h : SW w b c t d p v g a m R P) (hr : Run N a m R P Q) : Calls Tryz.prog 56 #[.pointer (some ⟨s, 0, none⟩), .pointer (some ⟨b, 0, none⟩)] w fun e w' => e = .returned (.pointer (some ⟨b, 0, none⟩)) ∧
 ∃ v' g' a' m' R' P', SW w' b c t d p v' g' a' m' R' P' ∧ Q a' m' R' P' ∧ WS w w' b c t d p v g v' g' := by
 go_enter Tryz.func56, Tryz.ntmps56
 go_wp2_with fail
 go_loopg [] N (fun k wr => Hid (kW wr s c) ∧ Hid (∃ v1 g1 a1 m1 R1 P1, SW wr b c t d p v1 g1 a1 m1 R1 P1 ∧ Run k a1 m1 R1 P1 Q ∧ WS w wr b c t d p v g v1 g1))
 case atStart => exact ⟨Lib.hid hs, v, g, a, m, R, P, h, hr, WS.refl w⟩
 case round =>
  clear h hr hs
  obtain ⟨h1, h2⟩ := hrel
  obtain ⟨v1, g1, a1, m1, R1, P1, hS, hr, hw⟩ := h2.out
  clear h2
  cases gk with
  | zero => exact hr.elim
  | succ K =>
    have c0 := h1.out.c0
    have hx : Hid (∀ w' v2 g2, WS wr w' b c t d p v1 g1 v2 g2 → kW w' s c) := fun w' v2 g2 h => h1.out.far (hS.far h)
    obtain ⟨a2, m2, R2, P2, ⟨rfl, ho, hq⟩ | ⟨ho, hq⟩⟩ := hr
    ·have hc := ho wr b c t d p v1 g1 hS
     replace hq := Lib.hid hq
     replace hw := Lib.hid hw
     clear ho hS
     go_wp2_with fail
     go_at_call 12
     refine hc.mono ?_
     clear hc
     rintro e w' ⟨rfl, v2, g2, hS2, hw2⟩
     replace hS2 := Lib.hid hS2
     replace hw2 := Lib.hid hw2
     go_wp2_with fail
     go_ret
     exact ⟨rfl, v2, g2, a2, m2, R2, P2, hS2.out, hq.out, hw.out.trans hw2.out⟩
    ·have hc := ho wr b c t d p v1 g1 hS
     replace hq := Lib.hid hq
     replace hw := Lib.hid hw
     clear ho hS
     go_wp2_with fail
     go_at_call 12
     refine hc.mono ?_
     clear hc
     rintro e w' ⟨rfl, v2, g2, hS2, hw2⟩
     have h3 := Lib.hid (hx.out w' v2 g2 hw2)
     replace hS2 := Lib.hid hS2
     replace hw2 := Lib.hid hw2
     go_wp2_with fail
     go_roundg K
     case measure => omega
     case rel => exact ⟨h3, v2, g2, a2, m2, R2, P2, hS2.out, hq.out, hw.out.trans hw2.out⟩
def Cj (w : World) (b c t d p : Nat) (v : Value) (g : Nat) (m : Int) (M' : Md) (y : Ry) (ok : Bool) (e : Ending) (w' : World) : Prop :=
 ∃ (v' : Value) (g' : Nat) (R : Wk), e = .returned (.pointer (some ⟨b, 0, none⟩)) ∧ CW w' c t d p v' g' (1 + 2 * M'.L.length) (m + 1000) (ah M') ∧ bJ w' b R ∧ R.rep = y ∧ R.ok = ok ∧ WS w w' b c t d p v g v' g'
theorem xJ {a : Nat} {R : Wk} {P : Pg} {M' : Md} {y : Ry} {ok : Bool} (hs : kW w s c) (hS : SW w b c t d p v g a m R P) (h : fo 1000 a m R P (Fin (m + 1000) M' y ok)) (hI : aF M') :
 Calls Tryz.prog 56 #[.pointer (some ⟨s, 0, none⟩), .pointer (some ⟨b, 0, none⟩)] w (Cj w b c t d p v g m M' y ok) := by
 obtain ⟨K, _, hr⟩ := h
 refine (Jp hs hS hr).mono ?_
 rintro e w' ⟨rfl, v', g', a, m', R, P, hS, ⟨rfl, ha, hm, hl, hr, ho⟩, hw⟩
 exact ⟨v', g', R, rfl, (hS.cw.RB hI).wider (Nat.le_refl _) hm, hS.wk, hr, ho, hw⟩
theorem Da (hs : kW w s c) (h : CW w c t d p v g (1 + 2 * M.L.length) m (ah M)) (r : Rq) (hb : bJ w b (jR r)) (hM : Ok M) (h1 : 1 ≤ M.dr.length) (hll : M.L.length ≤ 190) (hm : m + 1000 ≤ 1000000) (hnd : -9223372036854775808 ≤ r.node ∧ r.node ≤ 9223372036854775807) :
 Calls Tryz.prog 56 #[.pointer (some ⟨s, 0, none⟩), .pointer (some ⟨b, 0, none⟩)] w (Cj w b c t d p v g m (fD M (toW r)).2 (lZ (fD M (toW r)).1) false) :=
 xJ hs ⟨hb, h⟩ (Jk r hM h1 hll hm hnd) (hM.JI _).inv
theorem zZ (hs : kW w s c) (h : CW w c t d p v g (1 + 2 * M.L.length) m (ah M)) (i x : Int) (hb : bJ w b (zG i x)) (hM : Ok M) (h1 : 1 ≤ M.dr.length) (hll : M.L.length ≤ 190) (hm : m + 1000 ≤ 1000000) (hx : -9223372036854775808 ≤ x ∧ x ≤ 9223372036854775807) :
 Calls Tryz.prog 56 #[.pointer (some ⟨s, 0, none⟩), .pointer (some ⟨b, 0, none⟩)] w (Cj w b c t d p v g m (cO M i x).2 (l9 M) (cO M i x).1) :=
 xJ hs ⟨hb, h⟩ (Gc i x hM h1 hll hm hx) (hM.kE i x).inv
theorem Ml {w : World} {G : Nat} {z : Ry} (hb : w.heap[G]? = some (.cells (bV z).toArray 53 (0, 0))) (y : Ry) :
 Sem.run Tryz.prog (storeCells ⟨G, 0, none⟩ (bV y) 0) w = .ok () (w.setRow G (bV y).toArray) ∧ (w.setRow G (bV y).toArray).heap[G]? = some (.cells (bV y).toArray 53 (0, 0)) := by
 have hst := run_storeCells_at Tryz.prog G 0 53 (bV y) 0 (bV z).toArray w hb (by simp [jD]) (yx y)
 simp only [Nat.add_zero] at hst
 have e : (((bV z).toArray.toList.take 0 ++ bV y ++ (bV z).toArray.toList.drop (0 + (bV y).length)).toArray) = (bV y).toArray := by simp [jD]
 rw [e] at hst
 exact ⟨hst, setRow_heap w G _ _ _ _ hb⟩
theorem CS.row {w w' : World} {c t d p g g' G : Nat} {v v' : Value} (h : CS w w' c t d p v g v' g') (hG : w.heap.size ≤ G) (cs : Array Value) : CS w (w'.setRow G cs) c t d p v g v' g' :=
 ⟨⟨h.off.os, h.off.tape, h.off.output, by simp; exact h.off.size, fun k hk hf => (setRow_other w' G k cs (by omega)).trans (h.off.block k hk hf)⟩, h.grew⟩
theorem CS.later {w w1 w' : World} {c t d p g g' : Nat} {v v' : Value} (h : CS w w1 c t d p v g v' g') (hb : Below w1.heap.size w1 w') : CS w w' c t d p v g v' g' := h.trans (CS.of_below hb)
def Mm (B : Nat) (w : World) (s c t d p : Nat) (v : Value) (g : Nat) (m : Int) (M' : Md) (r : Value) (e : Ending) (w' : World) : Prop :=
 ∃ (v' : Value) (g' : Nat), e = .returned r ∧ SO B w' s c t d p v' g' (m + 1000) M' ∧ CS w w' c t d p v g v' g' ∧ Below B w w'
theorem TP (h : SO B w s c t d p v g m M) (hB : B ≤ w.heap.size) (r : Rq) (hM : Ok M) (h1 : 1 ≤ M.dr.length) (hll : M.L.length ≤ 190) (hm : m + 1000 ≤ 1000000) (hnd : -9223372036854775808 ≤ r.node ∧ r.node ≤ 9223372036854775807) :
 Calls Tryz.prog 34 #[.pointer (some ⟨s, 0, none⟩), .agg (encR r).toArray] w (Mm B w s c t d p v g m (fD M (toW r)).2 (.agg (bV (lZ (Ex M (toW r)).1)).toArray)) := by
 by_cases hk : 1 ≤ r.kind ∧ r.kind ≤ 13
 ·rw [Jo (show 1 ≤ (toW r).kind ∧ (toW r).kind ≤ 13 from hk)]
  have key : ∀ w2 b, bJ w2 b (jR r) → Below w.heap.size w w2 → Calls Tryz.prog 56 #[.pointer (some ⟨s, 0, none⟩), .pointer (some ⟨b, 0, none⟩)] w2 (Cj w2 b c t d p v g m (fD M (toW r)).2 (lZ (fD M (toW r)).1) false) :=
   fun w2 b hW hb2 => Da (h.at'.kept hb2) (h.cw.kept hb2) r hW hM h1 hll hm hnd
  have hf0 : ∀ k, dP c t d p v g k → k < w.heap.size := fun k => h.cw.lt
  generalize lZ (fD M (toW r)).1 = y at *
  generalize (fD M (toW r)).2 = M2 at *
  obtain ⟨y1, y2, y3, y4, y5, y6, y7, y8, y9⟩ := r
  obtain ⟨wA, aJ⟩ : ∃ wA, wA = (w.alloc (.cells #[.int .i64 y1, .int .i64 y2, .int .i64 y3, .int .i64 y4, .int .i64 y5, .int .i64 y6, .bool y7, .int .i64 y8, .int .i64 y9] 24)).alloc (.cells #[.int .i64 0, .int .i64 0, .int .i64 0, .int .i64 0, .int .i64 0, .int .i64 0, .int .i64 0, .int .i64 0, .int .i64 0] 53) := ⟨_, rfl⟩
  have bR : Below w.heap.size w wA := by rw [aJ]; exact ((Below.refl _ _).alloc (Nat.le_refl _) _).alloc (by simp) _
  have hsA : wA.heap.size = w.heap.size + 2 := by rw [aJ]; simp
  have jq : wA.heap[w.heap.size + 1]? = some (.cells (bV nQ).toArray 53 (0, 0)) := by rw [aJ]; exact heap_alloc2_new w _ _
  have uo : wA.heap[w.heap.size]? = some (.cells #[.int .i64 y1, .int .i64 y2, .int .i64 y3, .int .i64 y4, .int .i64 y5, .int .i64 y6, .bool y7, .int .i64 y8, .int .i64 y9] 24 (0, 0)) := by rw [aJ]; exact dV (heap_alloc_new w _)
  have hl := yK (h.kept bR)
  have hi := Af y1 wA
  dsimp only at hk
  rw [decide_eq_true hk.1, decide_eq_true hk.2] at hi
  have hq := zH ⟨y1, y2, y3, y4, y5, y6, y7, y8, y9⟩ wA
  rw [show (encR ⟨y1, y2, y3, y4, y5, y6, y7, y8, y9⟩).toArray = #[.int .i64 y1, .int .i64 y2, .int .i64 y3, .int .i64 y4, .int .i64 y5, .int .i64 y6, .bool y7, .int .i64 y8, .int .i64 y9] from rfl] at hq ⊢
  have r0 : wA.cell? ⟨w.heap.size, 0, none⟩ = some (.int .i64 y1) := by simp [World.cell?, uo]
  have r1 : wA.cell? ⟨w.heap.size, 1, none⟩ = some (.int .i64 y2) := by simp [World.cell?, uo]
  have r2 : wA.cell? ⟨w.heap.size, 2, none⟩ = some (.int .i64 y3) := by simp [World.cell?, uo]
  have r3 : wA.cell? ⟨w.heap.size, 3, none⟩ = some (.int .i64 y4) := by simp [World.cell?, uo]
  have r4 : wA.cell? ⟨w.heap.size, 4, none⟩ = some (.int .i64 y5) := by simp [World.cell?, uo]
  have r5 : wA.cell? ⟨w.heap.size, 5, none⟩ = some (.int .i64 y6) := by simp [World.cell?, uo]
  have r6 : wA.cell? ⟨w.heap.size, 6, none⟩ = some (.bool y7) := by simp [World.cell?, uo]
  have r7 : wA.cell? ⟨w.heap.size, 7, none⟩ = some (.int .i64 y8) := by simp [World.cell?, uo]
  have r8 : wA.cell? ⟨w.heap.size, 8, none⟩ = some (.int .i64 y9) := by simp [World.cell?, uo]
  clear uo
  have zY := vR
  obtain ⟨k9, bO⟩ : ∃ k, k = 9 := ⟨_, rfl⟩
  rw [← bO] at zY
  have lY := jD y
  rw [← bO] at lY
  have hk0 : ¬ k9 = 0 := by omega
  replace bO := Lib.hid bO
  replace key := Lib.hid key
  replace hf0 := Lib.hid hf0
  replace jq := Lib.hid jq
  go_enter Tryz.func34, Tryz.ntmps34
  go_wp2_with fail
  rw [← aJ]
  replace aJ := Lib.hid aJ
  go_at_call 36
  refine hl.mono ?_
  clear hl
  rintro e w' ⟨rfl, rfl⟩
  go_wp2_with fail
  go_at_call 60
  refine hi.mono ?_
  clear hi
  rintro e w' ⟨rfl, rfl⟩
  go_wp2_with fail
  go_at_call 10
  refine hq.mono ?_
  clear hq
  rintro e w2 ⟨b, rfl, hW2, hlb, hb2⟩
  have Jq : Below w.heap.size w w2 := bR.trans (hb2.mono bR.size)
  have hp := key.out w2 b hW2 Jq
  go_wp2_with fail
  go_at_call 56
  refine hp.mono ?_
  clear hp
  rintro e w3 ⟨v', g', R, rfl, Ck, hW3, hr, _, hs3⟩
  have Lr := Et hW3
  rw [hr] at Lr
  go_wp2_with fail
  go_at_call 20
  refine Lr.mono ?_
  clear Lr
  rintro e w4 ⟨rfl, hb4⟩
  have hcs : CS w w4 c t d p v g v' g' := (CS.RY Jq (by omega) hs3).later hb4
  have hG : ¬ jk b c t d p v g (w.heap.size + 1) := by
   rintro (e | hf)
   ·omega
   ·have := hf0.out _ hf
    omega
  have hlt2 : w.heap.size + 1 < w2.heap.size := by have := hb2.size; omega
  have hR2 := (hb2.block (w.heap.size + 1) (by omega)).trans jq.out
  have NH := (hs3.heap hlt2 hG).trans hR2
  have qG := (hb4.block (w.heap.size + 1) (Nat.lt_of_lt_of_le hlt2 hs3.off.size)).trans NH
  obtain ⟨st, J6⟩ := Ml qG y
  have pF := Ck.kept hb4
  have hnf : ¬ dP c t d p v' g' (w.heap.size + 1) := fun hf => (hs3.grew _ (.inr hf)).elim hG (fun h2 => by omega)
  have gy := pF.QJ (cz w4 (bV y).toArray) hnf
  have xK := hcs.row (G := w.heap.size + 1) (Nat.le_succ _) (bV y).toArray
  have hfin : Hid (SO B (w4.setRow (w.heap.size + 1) (bV y).toArray) s c t d p v' g' (m + 1000) M2 ∧ CS w (w4.setRow (w.heap.size + 1) (bV y).toArray) c t d p v g v' g' ∧ Below B w (w4.setRow (w.heap.size + 1) (bV y).toArray)) :=
   ⟨h.turn xK gy hB, xK, h.below xK hB⟩
  have hsz : (bV y).toArray.size = 9 := rfl
  clear hs3 hb4 hb2 Ck pF gy hcs xK hW3 hW2 hR2 NH qG h
  go_wp2_with fail
  exact bH rfl rfl rfl J6 Tryz.underlying53 rfl (by rw [hsz]; kernel_rfl) ⟨v', g', rfl, hfin.out⟩
 ·rw [yJ (show ¬ (1 ≤ (toW r).kind ∧ (toW r).kind ≤ 13) from hk), ← OP, yJ (show ¬ (1 ≤ (toW r).kind ∧ (toW r).kind ≤ 13) from hk)]
  obtain ⟨y1, y2, y3, y4, y5, y6, y7, y8, y9⟩ := r
  dsimp only at hk
  obtain ⟨wA, aJ⟩ : ∃ wA, wA = (w.alloc (.cells #[.int .i64 y1, .int .i64 y2, .int .i64 y3, .int .i64 y4, .int .i64 y5, .int .i64 y6, .bool y7, .int .i64 y8, .int .i64 y9] 24)).alloc (.cells #[.int .i64 0, .int .i64 0, .int .i64 0, .int .i64 0, .int .i64 0, .int .i64 0, .int .i64 0, .int .i64 0, .int .i64 0] 53) := ⟨_, rfl⟩
  have bR : Below w.heap.size w wA := by rw [aJ]; exact ((Below.refl _ _).alloc (Nat.le_refl _) _).alloc (by simp) _
  have hsA : wA.heap.size = w.heap.size + 2 := by rw [aJ]; simp
  have jq : wA.heap[w.heap.size + 1]? = some (.cells (bV nQ).toArray 53 (0, 0)) := by rw [aJ]; exact heap_alloc2_new w _ _
  have uo : wA.heap[w.heap.size]? = some (.cells #[.int .i64 y1, .int .i64 y2, .int .i64 y3, .int .i64 y4, .int .i64 y5, .int .i64 y6, .bool y7, .int .i64 y8, .int .i64 y9] 24 (0, 0)) := by rw [aJ]; exact dV (heap_alloc_new w _)
  have r0 : wA.cell? ⟨w.heap.size, 0, none⟩ = some (.int .i64 y1) := by simp [World.cell?, uo]
  have hl := yK (h.kept bR)
  have hi := Af y1 wA
  have hii : (decide (1 ≤ y1) && decide (y1 ≤ 13)) = false := by
   by_cases c1 : 1 ≤ y1
   ·rw [decide_eq_false (show ¬ y1 ≤ 13 by omega), Bool.and_false]
   ·rw [decide_eq_false c1, Bool.false_and]
  rw [hii] at hi
  have hq := Ip 4 wA
  generalize hy : (⟨4, 0, 0, 0, 0, 0, 0, 0, 0⟩ : Ry) = y at *
  rw [show lZ (fG 4, M).1 = y from hy]
  rw [show (encR ⟨y1, y2, y3, y4, y5, y6, y7, y8, y9⟩).toArray = #[.int .i64 y1, .int .i64 y2, .int .i64 y3, .int .i64 y4, .int .i64 y5, .int .i64 y6, .bool y7, .int .i64 y8, .int .i64 y9] from rfl]
  clear hy hii uo
  have zY := vR
  obtain ⟨k9, bO⟩ : ∃ k, k = 9 := ⟨_, rfl⟩
  rw [← bO] at zY
  have lY := jD y
  rw [← bO] at lY
  have hk0 : ¬ k9 = 0 := by omega
  replace bO := Lib.hid bO
  replace jq := Lib.hid jq
  go_enter Tryz.func34, Tryz.ntmps34
  go_wp2_with fail
  rw [← aJ]
  replace aJ := Lib.hid aJ
  go_at_call 36
  refine hl.mono ?_
  clear hl
  rintro e w' ⟨rfl, rfl⟩
  go_wp2_with fail
  go_at_call 60
  refine hi.mono ?_
  clear hi
  rintro e w' ⟨rfl, rfl⟩
  go_wp2_with fail
  go_at_call 59
  refine hq.mono ?_
  clear hq
  rintro e w4 ⟨rfl, hb4⟩
  have uq : Below w.heap.size w w4 := bR.trans (hb4.mono bR.size)
  have qG := (hb4.block (w.heap.size + 1) (by omega)).trans jq.out
  obtain ⟨st, J6⟩ := Ml qG y
  have xK := (CS.of_below (c := c) (t := t) (d := d) (p := p) (v := v) (g := g) uq).row (G := w.heap.size + 1) (Nat.le_succ _) (bV y).toArray
  have hnf : ¬ dP c t d p v g (w.heap.size + 1) := fun hf => by have := h.cw.lt hf; omega
  have gy := (h.cw.kept uq).QJ (cz w4 (bV y).toArray) hnf
  have hfin : Hid (SO B (w4.setRow (w.heap.size + 1) (bV y).toArray) s c t d p v g (m + 1000) M ∧ CS w (w4.setRow (w.heap.size + 1) (bV y).toArray) c t d p v g v g ∧ Below B w (w4.setRow (w.heap.size + 1) (bV y).toArray)) :=
   ⟨(h.turn xK gy hB).wider (by omega), xK, h.below xK hB⟩
  have hsz : (bV y).toArray.size = 9 := rfl
  clear hb4 gy xK qG h
  go_wp2_with fail
  exact bH rfl rfl rfl J6 Tryz.underlying53 rfl (by rw [hsz]; kernel_rfl) ⟨v, g, rfl, hfin.out⟩
theorem Jr (h : SO B w s c t d p v g m M) (hB : B ≤ w.heap.size) (i x : Int) (hM : Ok M) (h1 : 1 ≤ M.dr.length) (hll : M.L.length ≤ 190) (hm : m + 1000 ≤ 1000000) (hx : -9223372036854775808 ≤ x ∧ x ≤ 9223372036854775807) :
 Calls Tryz.prog 33 #[.pointer (some ⟨s, 0, none⟩), .agg #[.int .i64 i, .int .i64 x]] w (Mm B w s c t d p v g m (cO M i x).2 (.bool (cO M i x).1)) := by
 obtain ⟨wA, aJ⟩ : ∃ wA, wA = w.alloc (.cells #[.int .i64 i, .int .i64 x] 77) := ⟨_, rfl⟩
 have bR : Below w.heap.size w wA := by rw [aJ]; exact (Below.refl _ _).alloc (Nat.le_refl _) _
 have uo : wA.heap[w.heap.size]? = some (.cells #[.int .i64 i, .int .i64 x] 77 (0, 0)) := by rw [aJ]; exact heap_alloc_new w _
 have r0 : wA.cell? ⟨w.heap.size, 0, none⟩ = some (.int .i64 i) := by simp [World.cell?, uo]
 have r1 : wA.cell? ⟨w.heap.size, 1, none⟩ = some (.int .i64 x) := by simp [World.cell?, uo]
 clear uo
 have hl := yK (h.kept bR)
 have hq := CZ i x wA
 have key : ∀ w2 b, bJ w2 b (zG i x) → Below w.heap.size w w2 → Calls Tryz.prog 56 #[.pointer (some ⟨s, 0, none⟩), .pointer (some ⟨b, 0, none⟩)] w2 (Cj w2 b c t d p v g m (cO M i x).2 (l9 M) (cO M i x).1) :=
  fun w2 b hW hb2 => zZ (h.at'.kept hb2) (h.cw.kept hb2) i x hW hM h1 hll hm hx
 replace key := Lib.hid key
 go_enter Tryz.func33, Tryz.ntmps33
 go_wp2_with fail
 rw [← aJ]
 replace aJ := Lib.hid aJ
 go_at_call 36
 refine hl.mono ?_
 clear hl
 rintro e w' ⟨rfl, rfl⟩
 go_wp2_with fail
 go_at_call 57
 refine hq.mono ?_
 clear hq
 rintro e w2 ⟨b, rfl, hW2, hlb, hb2⟩
 have Jq : Below w.heap.size w w2 := bR.trans (hb2.mono bR.size)
 have hp := key.out w2 b hW2 Jq
 go_wp2_with fail
 go_at_call 56
 refine hp.mono ?_
 clear hp
 rintro e w3 ⟨v', g', R, rfl, Ck, hW3, _, hr, hs3⟩
 have Lr := VB hW3
 rw [hr] at Lr
 go_wp2_with fail
 go_at_call 58
 refine Lr.mono ?_
 clear Lr
 rintro e w' ⟨rfl, rfl⟩
 have hcs : CS w w3 c t d p v g v' g' := CS.RY Jq (by have := bR.size; omega) hs3
 have hfin := Lib.hid (And.intro (h.turn hcs Ck hB) (And.intro hcs (h.below hcs hB)))
 clear hs3 hb2 Ck hcs hW3 hW2 h key
 generalize (cO M i x).1 = ok at *
 go_wp2_with fail
 go_ret
 exact ⟨v', g', rfl, hfin.out⟩
end
end Go.Proofs.YtelnhablglomjaaGreat

namespace Go.Proofs.YtelnhablglomjaaGreat
open Go.RowKit Go.Lib Go.Sort
def yL (x : De) : Prop := Fg x.r ∧ (-9223372036854775808 ≤ x.xi ∧ x.xi ≤ 9223372036854775807) ∧ (-9223372036854775808 ≤ x.xt ∧ x.xt ≤ 9223372036854775807)
section
end
end Go.Proofs.YtelnhablglomjaaGreat

namespace Go.Proofs.YtelnhablglomjaaGreat
open Go.RowKit Go.Lib Go.Sort
section
variable {w : World} {u : Value} {l : List De}
theorem OT (h : aD rV 12 w u l) (n : Int) (hn : n < 1 ∨ 64 < n) : Calls Tryz.prog 6 #[.int .i64 n, u] w fun e w' => e = .returned (.pointer none) ∧ w = w' := by
 have hf := Mk h
 have hb := OQ n w hn
 go_enter Tryz.func6, Tryz.ntmps6
 go_wp2_with fail
 go_at_call 31
 refine hf.mono ?_
 rintro e w' ⟨v', rfl, _, rfl⟩
 go_wp2_with fail
 go_at_call 32
 refine hb.mono ?_
 rintro e w' ⟨rfl, rfl⟩
 go_wp2_with fail
 go_ret
 exact ⟨rfl, rfl⟩
theorem R4 (h : aD rV 12 w u l) (hfit : ∀ x ∈ l, yL x) (n : Nat) (h1 : 1 ≤ n) (h2 : n ≤ 64) : Calls Tryz.prog 6 #[.int .i64 n, u] w fun e w' => ∃ s c t d p v g, e = .returned (.pointer (some ⟨s, 0, none⟩)) ∧
 SO w.heap.size w' s c t d p v g 60000 (mQ (dI n) (l.take 60)) ∧ Below w.heap.size w w' := by
 have hf := Mk h
 have hb := R3 n w h1 h2
 have VG : ∀ x ∈ l.take 60, yL x := fun x hx => hfit x (List.mem_of_mem_take hx)
 have hlen : (l.take 60).length ≤ 60 := by rw [List.length_take]; omega
 generalize l.take 60 = ds at *
 clear h hfit
 go_enter Tryz.func6, Tryz.ntmps6
 go_wp2_with fail
 go_at_call 31
 refine hf.mono ?_
 clear hf
 rintro e w' ⟨u', rfl, hr, rfl⟩
 go_wp2_with fail
 go_at_call 32
 refine hb.mono ?_
 clear hb
 rintro e w1 ⟨s, c, t, d, p, v1, g1, rfl, hS1, hb1⟩
 replace hr := Lib.hid hr
 obtain ⟨ao, cap, rfl, q1, q2, q3⟩ := hr.out
 clear q1 q3
 go_wp2_with fail
 go_loopw [7] (fun ii wr => ∃ (i : Nat) (v : Value) (g : Nat), i ≤ ds.length ∧ ii = .int .i64 i ∧ Hid (SO w.heap.size wr s c t d p v g (1000 * i) (mQ (dI n) (ds.take i))) ∧ Hid (Below w.heap.size w wr)) (fun ii _ => ds.length - (intOf ii).toNat)
 case atStart =>
  exact ⟨0, v1, g1, Nat.zero_le _, rfl, Lib.hid hS1, Lib.hid hb1⟩
 case round =>
  clear hS1 hb1
  obtain ⟨i, v, g, hin, rfl, hC, hbr⟩ := hrel
  obtain ⟨hok, hpl, Yp⟩ := Ew (Ok.new h2) (ds.take i)
  have hle : (ds.take i).length ≤ 60 := by rw [List.length_take]; omega
  have hnl : (dI n).L.length = 0 ∧ (dI n).dr.length = n := ⟨rfl, by simp [dI]⟩
  by_cases hlt : i < ds.length
  ·have b2 : (i : Int) < (ds.length : Int) := by omega
   have wi : IntKind.i64.wrap ((i : Int) + 1) = (i : Int) + 1 := by rw [IntKind.wrap_i64]; omega
   have hrr := hr.out.below hbr.out
   obtain ⟨Mr, cap', e0, r1, r2, r3⟩ := hrr
   injection e0 with e1 _ e2
   subst e1 e2
   obtain ⟨B, off, rfl, hB, hcell⟩ := r3 (by omega)
   have hx := fun (j : Nat) (z : Value) (hz : (rV ds[i])[j]? = some z) => hcell i ds[i] j z (List.getElem?_eq_getElem hlt) hz
   have hsn := Lp (dI n) hlt
   generalize hxd : ds[i] = x at *
   have hfx := VG x (by rw [← hxd]; exact List.getElem_mem hlt)
   obtain ⟨cm, ⟨y1, y2, y3, y4, y5, y6, y7, y8, y9⟩, xi, xt⟩ := x
   have k0 : wr.cell? ⟨B, off + i * 12, none⟩ = some (.bool cm) := hx 0 _ rfl
   have k1 : wr.cell? ⟨B, off + i * 12 + 1, none⟩ = some (.int .i64 y1) := hx 1 _ rfl
   have k2 : wr.cell? ⟨B, off + i * 12 + 1 + 1, none⟩ = some (.int .i64 y2) := (congrArg (fun z => wr.cell? ⟨B, z, none⟩) (show off + i * 12 + 1 + 1 = off + (i * 12 + 2) by omega)).trans (hx 2 _ rfl)
   have k3 : wr.cell? ⟨B, off + i * 12 + 1 + 2, none⟩ = some (.int .i64 y3) := (congrArg (fun z => wr.cell? ⟨B, z, none⟩) (show off + i * 12 + 1 + 2 = off + (i * 12 + 3) by omega)).trans (hx 3 _ rfl)
   have k4 : wr.cell? ⟨B, off + i * 12 + 1 + 3, none⟩ = some (.int .i64 y4) := (congrArg (fun z => wr.cell? ⟨B, z, none⟩) (show off + i * 12 + 1 + 3 = off + (i * 12 + 4) by omega)).trans (hx 4 _ rfl)
   have k5 : wr.cell? ⟨B, off + i * 12 + 1 + 4, none⟩ = some (.int .i64 y5) := (congrArg (fun z => wr.cell? ⟨B, z, none⟩) (show off + i * 12 + 1 + 4 = off + (i * 12 + 5) by omega)).trans (hx 5 _ rfl)
   have k6 : wr.cell? ⟨B, off + i * 12 + 1 + 5, none⟩ = some (.int .i64 y6) := (congrArg (fun z => wr.cell? ⟨B, z, none⟩) (show off + i * 12 + 1 + 5 = off + (i * 12 + 6) by omega)).trans (hx 6 _ rfl)
   have k7 : wr.cell? ⟨B, off + i * 12 + 1 + 6, none⟩ = some (.bool y7) := (congrArg (fun z => wr.cell? ⟨B, z, none⟩) (show off + i * 12 + 1 + 6 = off + (i * 12 + 7) by omega)).trans (hx 7 _ rfl)
   have k8 : wr.cell? ⟨B, off + i * 12 + 1 + 7, none⟩ = some (.int .i64 y8) := (congrArg (fun z => wr.cell? ⟨B, z, none⟩) (show off + i * 12 + 1 + 7 = off + (i * 12 + 8) by omega)).trans (hx 8 _ rfl)
   have k9 : wr.cell? ⟨B, off + i * 12 + 1 + 8, none⟩ = some (.int .i64 y9) := (congrArg (fun z => wr.cell? ⟨B, z, none⟩) (show off + i * 12 + 1 + 8 = off + (i * 12 + 9) by omega)).trans (hx 9 _ rfl)
   have k10 : wr.cell? ⟨B, off + i * 12 + 10, none⟩ = some (.int .i64 xi) := hx 10 _ rfl
   have k11 : wr.cell? ⟨B, off + i * 12 + 10 + 1, none⟩ = some (.int .i64 xt) := hx 11 _ rfl
   clear hx r3 hcell
   obtain ⟨M, hM⟩ : ∃ M, M = mQ (dI n) (ds.take i) := ⟨_, rfl⟩
   rw [← hM] at hC hok hpl Yp hsn
   cases cm with
   | false =>
     have hq := TP hC.out hbr.out.size ⟨y1, y2, y3, y4, y5, y6, y7, y8, y9⟩ hok (by omega) (by omega) (by omega) hfx.1.node
     rw [show (fD M (toW ⟨y1, y2, y3, y4, y5, y6, y7, y8, y9⟩)).2 = mQ (dI n) (ds.take (i + 1)) from hsn.symm, show (encR ⟨y1, y2, y3, y4, y5, y6, y7, y8, y9⟩).toArray = #[.int .i64 y1, .int .i64 y2, .int .i64 y3, .int .i64 y4, .int .i64 y5, .int .i64 y6, .bool y7, .int .i64 y8, .int .i64 y9] from rfl] at hq
     replace hq := Lib.hid hq
     go_wp2_with fail
     go_at_call 34
     refine hq.out.mono ?_
     clear hq k0 k1 k2 k3 k4 k5 k6 k7 k8 k9 k10 k11
     rintro e w3 ⟨v3, g3, rfl, Ck, _, hb3⟩
     have R5 := Lib.hid (hbr.out.trans hb3)
     have R6 := Lib.hid (Ck.wider (show 1000 * (i : Int) + 1000 ≤ 1000 * ((i + 1 : Nat) : Int) by omega))
     clear Ck hb3
     go_wp2_with fail
     go_roundw
     case rel => exact ⟨i + 1, v3, g3, by omega, by go_num, R6, R5⟩
     case measure => simp [intOf]; omega
   | true =>
     have hq := Jr hC.out hbr.out.size xi xt hok (by omega) (by omega) (by omega) hfx.2.2
     rw [show (cO M xi xt).2 = mQ (dI n) (ds.take (i + 1)) from hsn.symm] at hq
     replace hq := Lib.hid hq
     go_wp2_with fail
     go_at_call 33
     refine hq.out.mono ?_
     clear hq k0 k1 k2 k3 k4 k5 k6 k7 k8 k9 k10 k11
     rintro e w3 ⟨v3, g3, rfl, Ck, _, hb3⟩
     have R5 := Lib.hid (hbr.out.trans hb3)
     have R6 := Lib.hid (Ck.wider (show 1000 * (i : Int) + 1000 ≤ 1000 * ((i + 1 : Nat) : Int) by omega))
     clear Ck hb3
     go_wp2_with fail
     go_roundw
     case rel => exact ⟨i + 1, v3, g3, by omega, by go_num, R6, R5⟩
     case measure => simp [intOf]; omega
  ·have b2 : ¬ (i : Int) < (ds.length : Int) := by omega
   have hi : i = ds.length := by omega
   subst hi
   rw [List.take_length] at hC
   have hC' := Lib.hid (hC.out.wider (show (1000 * (ds.length : Int)) ≤ 60000 by omega))
   go_wp2_with fail
   go_ret
   exact ⟨s, rfl, ⟨c, t, d, p, v, g, hC'.out⟩, hbr.out⟩
end
end Go.Proofs.YtelnhablglomjaaGreat

namespace Go.Proofs.YtelnhablglomjaaGreat
open Go.RowKit Go.Lib
theorem Ls {L K : List Jb} {i : Nat} (h1 : i < L.length) (h2 : i < K.length) (he : L.take i = K.take i) (hx : L.getD i default = K.getD i default) : L.take (i + 1) = K.take (i + 1) := by
 rw [List.take_succ_eq_append_getElem h1, List.take_succ_eq_append_getElem h2, he]
 rw [List.getD, List.getElem?_eq_getElem h1, List.getD, List.getElem?_eq_getElem h2] at hx
 simp only [Option.getD_some] at hx
 rw [hx]
section
variable {w w' : World} {u v : Value} {L K : List Jb}
theorem Gf (hu : aD ai 10 w u L) (hv : aD ai 10 w v K) (hL : L.length ≤ 100000) : Calls Tryz.prog 23 #[u, v] w fun e w' => e = .returned (.bool (decide (L = K))) ∧ Below w.heap.size w w' := by
 have hU := Lib.hid hu
 have hV := Lib.hid hv
 obtain ⟨ao, cap, rfl, h1, h2⟩ := hu.shape
 obtain ⟨bo, Yq, rfl, h3, h4⟩ := hv.shape
 obtain ⟨n, hn⟩ : ∃ n, n = L.length := ⟨_, rfl⟩
 obtain ⟨m, hm⟩ : ∃ m, m = K.length := ⟨_, rfl⟩
 rw [← hn] at h1 hL ⊢
 rw [← hm] at h3 ⊢
 clear hu hv
 by_cases hnm : n = m
 ·subst hnm
  replace hn := Lib.hid hn
  replace hm := Lib.hid hm
  go_enter Tryz.func23, Tryz.ntmps23
  go_wp2_with fail
  go_loopw [5] (fun ii wr => ∃ i : Nat, i ≤ n ∧ ii = .int .i64 i ∧ Hid (L.take i = K.take i) ∧ Hid (Below w.heap.size w wr)) (fun ii _ => n - (intOf ii).toNat)
  case atStart => exact ⟨0, Nat.zero_le _, rfl, by show _ = _; simp, Below.refl _ _⟩
  case round =>
   obtain ⟨i, hi, rfl, hsm, hbw⟩ := hrel
   by_cases hlt : i < n
   ·have b2 : (i : Int) < (n : Int) := by omega
    have b0 : (0 : Int) ≤ (i : Int) := by omega
    have wi : IntKind.i64.wrap ((i : Int) + 1) = (i : Int) + 1 := by rw [IntKind.wrap_i64]; omega
    have hi1 : i < L.length := by rw [← hn.out]; exact hlt
    have hi2 : i < K.length := by rw [← hm.out]; exact hlt
    obtain ⟨b, off, cp, hv5, _, _, hbl, hc⟩ := (hU.out.below hbw.out).Pn i hi1
    obtain ⟨d, Xz, cp2, hv6, _, _, hdl, hd⟩ := (hV.out.below hbw.out).Pn i hi2
    rw [← hn.out] at hv5
    rw [← hm.out] at hv6
    cases hv5
    cases hv6
    have hmore := Ls hi1 hi2 hsm.out
    have hless : L.getD i default ≠ K.getD i default → ¬ L = K := fun h e => h (by rw [e])
    generalize L.getD i default = x at *
    generalize K.getD i default = y at *
    obtain ⟨x1, x2, x3, x4, x5, x6, x7, x8, x9, x0⟩ := x
    obtain ⟨y1, y2, y3, y4, y5, y6, y7, y8, y9, y0⟩ := y
    have a0 := hc 0 _ rfl
    have a1 := hc 1 _ rfl
    have a2 := hc 2 _ rfl
    have a3 := hc 3 _ rfl
    have a4 := hc 4 _ rfl
    have a5 := hc 5 _ rfl
    have a6 := hc 6 _ rfl
    have a7 := hc 7 _ rfl
    have a8 := hc 8 _ rfl
    have a9 := hc 9 _ rfl
    rw [Nat.add_zero] at a0
    have e0 := hd 0 _ rfl
    have e1 := hd 1 _ rfl
    have e2 := hd 2 _ rfl
    have e3 := hd 3 _ rfl
    have e4 := hd 4 _ rfl
    have e5 := hd 5 _ rfl
    have e6 := hd 6 _ rfl
    have e7 := hd 7 _ rfl
    have e8 := hd 8 _ rfl
    have e9 := hd 9 _ rfl
    rw [Nat.add_zero] at e0
    have hq := fun W => Pk (x1, x2, x3, x4, x5, x6, x7, x8, x9, x0) (y1, y2, y3, y4, y5, y6, y7, y8, y9, y0) W
    rw [uw, uw] at hq
    clear hc hd
    by_cases hxy : (x1, x2, x3, x4, x5, x6, x7, x8, x9, x0) = (y1, y2, y3, y4, y5, y6, y7, y8, y9, y0)
    ·rw [decide_eq_true hxy, Bool.not_true] at hq
     have hm1 : Hid (L.take (i + 1) = K.take (i + 1)) := hmore hxy
     have hbd : Hid (Below w.heap.size w wr.drew) := hbw.out.drew
     clear hmore hless hxy
     go_wp2_with fail
     go_region
     all_goals (try go_wp2_with fail)
     exact ⟨⟨i + 1, by omega, by go_num, hm1, hbd⟩, by simp [intOf]; omega⟩
    ·rw [decide_eq_false hxy, Bool.not_false] at hq
     have hf : Hid (decide (L = K) = false) := decide_eq_false (hless hxy)
     have hbd : Hid (Below w.heap.size w wr.drew) := hbw.out.drew
     clear hmore hless hxy
     go_wp2_with fail
     go_region
     all_goals (try go_wp2_with fail)
     go_ret
     exact ⟨by rw [hf.out]; rfl, hbd.out⟩
   ·obtain rfl : i = n := by omega
    have b2 : ¬ (i : Int) < (i : Int) := by omega
    have hf : Hid (decide (L = K) = true) := by
     refine decide_eq_true ?_
     have h := hsm.out
     rw [hn.out, List.take_length] at h
     rw [h, ← hn.out, hm.out, List.take_length]
    go_wp2_with fail
    go_ret
    exact ⟨by rw [hf.out]; rfl, hbw.out⟩
 ·have dn : ((n : Int) != (m : Int)) = true := by simp; omega
  have hf : Hid (decide (L = K) = false) := decide_eq_false fun e => hnm (by rw [hn, hm, e])
  replace hn := Lib.hid hn
  replace hm := Lib.hid hm
  clear hnm
  go_enter Tryz.func23, Tryz.ntmps23
  go_wp2_with fail
  go_ret
  exact ⟨by rw [hf.out]; rfl, Below.refl _ _⟩
end
theorem Js {L K : List (Int × Int)} {i : Nat} (h1 : i < L.length) (h2 : i < K.length) (he : L.take i = K.take i) (hx : L.getD i (0, 0) = K.getD i (0, 0)) : L.take (i + 1) = K.take (i + 1) := by
 rw [List.take_succ_eq_append_getElem h1, List.take_succ_eq_append_getElem h2, he]
 rw [List.getD, List.getElem?_eq_getElem h1, List.getD, List.getElem?_eq_getElem h2] at hx
 simp only [Option.getD_some] at hx
 rw [hx]
theorem aD.R7 {w : World} {v : Value} {L : List (Int × Int)} (h : aD Dj 2 w v L) (i : Nat) (hi : i < L.length) : ∃ b off cap, v = .slice (some ⟨b, off, none⟩) L.length cap ∧ L.length ≤ cap ∧ cap ≤ maxLen ∧ b < w.heap.size ∧ ∀ j u, (Dj (L.getD i (0, 0)))[j]? = some u → w.cell? ⟨b, off + i * 2 + j, none⟩ = some u := by
 obtain ⟨ao, cap, rfl, h1, h2, h3⟩ := h
 obtain ⟨b, off, rfl, hb, hc⟩ := h3 (by omega)
 exact ⟨b, off, cap, rfl, h1, h2, hb, fun j u hj => by rw [Nat.add_assoc]; exact hc i (L.getD i (0, 0)) j u (by simp [List.getD, hi]) hj⟩
section
theorem Db (x y : Int × Int) (w : World) : (Op.equalIn 10000 105 (.agg #[.int .i64 x.1, .int .i64 x.2]) (.agg #[.int .i64 y.1, .int .i64 y.2])).run Tryz.prog w = .ok (decide (x = y)) w := by
 have u2 := Tryz.underlying2
 have a2 := Tryz.isAgg2
 have z2 := Tryz.sizeOf2
 have u3 := Tryz.underlying3
 have a3 := Tryz.isAgg3
 have z3 := Tryz.sizeOf3
 have hS : Tryz.prog.underlying 105 = some (.struct (Tryz.prog.fieldsOf 105)) := by kernel_rfl
 have hp : Tryz.prog.stoodInHeld 105 = false := by kernel_rfl
 rw [show (10000 : Nat) = 9999 + 1 from rfl, run_equalIn_agg w 9999 105 _ _ hS hp]
 simp only [Program.fieldsOf, Tryz.underlying105]
 go_simp
 obtain ⟨x1, x2⟩ := x
 obtain ⟨y1, y2⟩ := y
 by_cases h1 : x1 = y1 <;> by_cases h2 : x2 = y2 <;> simp [h1, h2]
theorem OU (x y : Int × Int) (w : World) : (binOp .neq 105 (.agg #[.int .i64 x.1, .int .i64 x.2]) (.agg #[.int .i64 y.1, .int .i64 y.2])).run Tryz.prog w = .ok (.bool (!decide (x = y))) w := by
 rw [run_neq_struct, Db]; rfl
end
section
variable {w w' : World} {u v : Value} {L K : List (Int × Int)}
theorem Dc (hu : aD Dj 2 w u L) (hv : aD Dj 2 w v K) (hL : L.length ≤ 100000) : Calls Tryz.prog 25 #[u, v] w fun e w' => e = .returned (.bool (decide (L = K))) ∧ Below w.heap.size w w' := by
 have hU := Lib.hid hu
 have hV := Lib.hid hv
 obtain ⟨ao, cap, rfl, h1, h2⟩ := hu.shape
 obtain ⟨bo, Yq, rfl, h3, h4⟩ := hv.shape
 obtain ⟨n, hn⟩ : ∃ n, n = L.length := ⟨_, rfl⟩
 obtain ⟨m, hm⟩ : ∃ m, m = K.length := ⟨_, rfl⟩
 rw [← hn] at h1 hL ⊢
 rw [← hm] at h3 ⊢
 clear hu hv
 by_cases hnm : n = m
 ·subst hnm
  replace hn := Lib.hid hn
  replace hm := Lib.hid hm
  go_enter Tryz.func25, Tryz.ntmps25
  go_wp2_with fail
  go_loopw [5] (fun ii wr => ∃ i : Nat, i ≤ n ∧ ii = .int .i64 i ∧ Hid (L.take i = K.take i) ∧ Hid (Below w.heap.size w wr)) (fun ii _ => n - (intOf ii).toNat)
  case atStart => exact ⟨0, Nat.zero_le _, rfl, by show _ = _; simp, Below.refl _ _⟩
  case round =>
   obtain ⟨i, hi, rfl, hsm, hbw⟩ := hrel
   by_cases hlt : i < n
   ·have b2 : (i : Int) < (n : Int) := by omega
    have b0 : (0 : Int) ≤ (i : Int) := by omega
    have wi : IntKind.i64.wrap ((i : Int) + 1) = (i : Int) + 1 := by rw [IntKind.wrap_i64]; omega
    have hi1 : i < L.length := by rw [← hn.out]; exact hlt
    have hi2 : i < K.length := by rw [← hm.out]; exact hlt
    obtain ⟨b, off, cp, hv5, _, _, hbl, hc⟩ := (hU.out.below hbw.out).R7 i hi1
    obtain ⟨d, Xz, cp2, hv6, _, _, hdl, hd⟩ := (hV.out.below hbw.out).R7 i hi2
    rw [← hn.out] at hv5
    rw [← hm.out] at hv6
    cases hv5
    cases hv6
    have hmore := Js hi1 hi2 hsm.out
    have hless : L.getD i (0, 0) ≠ K.getD i (0, 0) → ¬ L = K := fun h e => h (by rw [e])
    generalize L.getD i (0, 0) = x at *
    generalize K.getD i (0, 0) = y at *
    obtain ⟨x1, x2⟩ := x
    obtain ⟨y1, y2⟩ := y
    have a0 := hc 0 _ rfl
    have a1 := hc 1 _ rfl
    rw [Nat.add_zero] at a0
    have e0 := hd 0 _ rfl
    have e1 := hd 1 _ rfl
    rw [Nat.add_zero] at e0
    have hq := fun W => OU (x1, x2) (y1, y2) W
    simp only at hq
    clear hc hd
    by_cases hxy : (x1, x2) = (y1, y2)
    ·rw [decide_eq_true hxy, Bool.not_true] at hq
     have hm1 : Hid (L.take (i + 1) = K.take (i + 1)) := hmore hxy
     have hbd : Hid (Below w.heap.size w wr.drew) := hbw.out.drew
     clear hmore hless hxy
     go_wp2_with fail
     go_region
     all_goals (try go_wp2_with fail)
     exact ⟨⟨i + 1, by omega, by go_num, hm1, hbd⟩, by simp [intOf]; omega⟩
    ·rw [decide_eq_false hxy, Bool.not_false] at hq
     have hf : Hid (decide (L = K) = false) := decide_eq_false (hless hxy)
     have hbd : Hid (Below w.heap.size w wr.drew) := hbw.out.drew
     clear hmore hless hxy
     go_wp2_with fail
     go_region
     all_goals (try go_wp2_with fail)
     go_ret
     exact ⟨by rw [hf.out]; rfl, hbd.out⟩
   ·obtain rfl : i = n := by omega
    have b2 : ¬ (i : Int) < (i : Int) := by omega
    have hf : Hid (decide (L = K) = true) := by
     refine decide_eq_true ?_
     have h := hsm.out
     rw [hn.out, List.take_length] at h
     rw [h, ← hn.out, hm.out, List.take_length]
    go_wp2_with fail
    go_ret
    exact ⟨by rw [hf.out]; rfl, hbw.out⟩
 ·have dn : ((n : Int) != (m : Int)) = true := by simp; omega
  have hf : Hid (decide (L = K) = false) := decide_eq_false fun e => hnm (by rw [hn, hm, e])
  replace hn := Lib.hid hn
  replace hm := Lib.hid hm
  clear hnm
  go_enter Tryz.func25, Tryz.ntmps25
  go_wp2_with fail
  go_ret
  exact ⟨by rw [hf.out]; rfl, Below.refl _ _⟩
end
end Go.Proofs.YtelnhablglomjaaGreat

namespace Go.Proofs.YtelnhablglomjaaGreat
open Go.ChangeShapes Go.WideShapes Go.ChangeAt Go.RowKit Go.Lib Go.Sort Go.Deep
section
variable {H : Type} {enc : TypeId × Value → H} {w : World} {base : Nat} {v : Value} {d : DataW H} {ps : List MemPlace}
def TQ : List TypeId := [4, 3, 3, 3, 3, 2, 3, 4, 3, 2, 3, 2]
theorem Cm {α : Type} {Cn : α → List Value} {p : α → Prop} : ∀ {l : List (List Value)}, (∀ s ∈ l, ∃ x : α, s = Cn x ∧ p x) → ∃ L : List α, l = L.map Cn ∧ ∀ x ∈ L, p x
 | [], _ => ⟨[], rfl, fun _ h => nomatch h⟩
 | s :: l, h => by
   obtain ⟨x, rfl, hx⟩ := h s List.mem_cons_self
   obtain ⟨L, rfl, hL⟩ := Cm (l := l) fun s hs => h s (List.mem_cons_of_mem _ hs)
   exact ⟨x :: L, rfl, fun y hy => by
    rcases List.mem_cons.1 hy with rfl | hy
    ·exact hx
    ·exact hL y hy⟩
theorem Lt {α : Type} {Cn : α → List Value} {n : Nat} {L : List α} (h : aD id n w v (L.map Cn)) : aD Cn n w v L := by
 obtain ⟨ao, cap, h1, h2, h3, h4⟩ := h
 rw [List.length_map] at h1 h2 h4
 refine ⟨ao, cap, h1, h2, h3, fun hn => ?_⟩
 obtain ⟨b, off, e, hlt, hc⟩ := h4 hn
 exact ⟨b, off, e, hlt, fun i s j u hi hj => hc i (Cn s) j u (by rw [List.getElem?_map, hi]; rfl) hj⟩
theorem OV (hval : Value.okWide Tryz.prog w .any base 22 v) (hd : DataW.Trod enc Tryz.prog w 0 (fun _ => true) true 22 v d ps) : ∃ l : List De, aD rV 12 w v l ∧ ∀ x ∈ l, yL x := by
 obtain ⟨l, hr, hf⟩ := MN (n := 3) (ts := TQ) Tryz.underlying22 (by kernel_rfl) (by kernel_rfl) (by kernel_rfl) (by decide) hval hd
 obtain ⟨L, rfl, hL⟩ := Cm (Cn := rV) (p := yL) fun s hs => by
  obtain ⟨hl, hf⟩ := hf s hs
  match s, hl with
  | [a0, a1, a2, a3, a4, a5, a6, a7, a8, a9, Zl, Zm], _ =>
    obtain ⟨x0, rfl⟩ := vH hf 0 rfl Tryz.underlying4 rfl
    obtain ⟨x1, rfl, b1⟩ := eB hf 1 rfl Tryz.underlying3 rfl
    obtain ⟨x2, rfl, b2⟩ := eB hf 2 rfl Tryz.underlying3 rfl
    obtain ⟨x3, rfl, b3⟩ := eB hf 3 rfl Tryz.underlying3 rfl
    obtain ⟨x4, rfl, b4⟩ := eB hf 4 rfl Tryz.underlying3 rfl
    obtain ⟨x5, rfl, b5⟩ := eB hf 5 rfl Tryz.underlying2 rfl
    obtain ⟨x6, rfl, b6⟩ := eB hf 6 rfl Tryz.underlying3 rfl
    obtain ⟨x7, rfl⟩ := vH hf 7 rfl Tryz.underlying4 rfl
    obtain ⟨x8, rfl, b8⟩ := eB hf 8 rfl Tryz.underlying3 rfl
    obtain ⟨x9, rfl, b9⟩ := eB hf 9 rfl Tryz.underlying2 rfl
    obtain ⟨Ko, rfl, b10⟩ := eB hf 10 rfl Tryz.underlying3 rfl
    obtain ⟨Ww, rfl, b11⟩ := eB hf 11 rfl Tryz.underlying2 rfl
    exact ⟨⟨x0, ⟨x1, x2, x3, x4, x5, x6, x7, x8, x9⟩, Ko, Ww⟩, rfl, ⟨b1, b2, b3, b4, b5, b6, b8, b9⟩, b10, b11⟩
 exact ⟨L, Lt hr, hL⟩
end
end Go.Proofs.YtelnhablglomjaaGreat

namespace Go.Proofs.YtelnhablglomjaaGreat
open Go.RowKit Go.Lib Go.Sort
def vg (B : Nat) (w : World) (P : World → Prop) : Prop := ∀ w' : World, (∀ k, B ≤ k → k < w.heap.size → w'.heap[k]? = w.heap[k]?) → w.heap.size ≤ w'.heap.size → P w'
section
variable {B : Nat} {w w' : World} {P : World → Prop}
theorem vg.now (h : vg B w P) : P w := h w (fun _ _ _ => rfl) (Nat.le_refl _)
theorem vg.off (h : vg B w P) (hk : ∀ k, B ≤ k → k < w.heap.size → w'.heap[k]? = w.heap[k]?) (hs : w.heap.size ≤ w'.heap.size) : vg B w' P := fun W h1 h2 =>
 h W (fun k a b => (h1 k a (Nat.lt_of_lt_of_le b hs)).trans (hk k a b)) (Nat.le_trans hs h2)
theorem vg.kept (h : vg B w P) (hb : Below w.heap.size w w') : vg B w' P := h.off (fun k _ hk => hb.block k hk) hb.size
theorem Jt {c t d p g a : Nat} {v : Value} {m : Int} {M : Md} (h : CW w c t d p v g a m (ah M)) (hll : M.L.length ≤ 900) : Calls Tryz.prog 24 #[.pointer (some ⟨t, 0, none⟩)] w fun e w' => ∃ u, e = .returned u ∧ vg w.heap.size w' (fun W => aD ai 10 W u M.L) ∧ Below w.heap.size w w' := by
 refine (S9 h.eQ (by show M.L.length ≤ 1000; omega)).mono ?_
 rintro e w' ⟨u, rfl, h1, h2⟩
 exact ⟨u, rfl, fun W hW _ => aD.iW (Dr h1 fun k hk => hW k (h1.lt k hk).1 (h1.lt k hk).2) au rfl rfl, h2⟩
theorem Co {c t d p g a : Nat} {v : Value} {m : Int} {M : Md} (h : CW w c t d p v g a m (ah M)) (hI : aF M) (hll : M.L.length ≤ 400) : Calls Tryz.prog 26 #[.pointer (some ⟨p, 0, none⟩)] w fun e w' => ∃ u, e = .returned u ∧ vg w.heap.size w' (fun W => aD Dj 2 W u (nK M)) ∧ Below w.heap.size w w' := by
 obtain ⟨S, aK, hp, hC, hl, _⟩ := h.lW
 have e : S = nK M := hC.uniq (AP hI) fun _ _ => rfl
 have hs := uj M
 refine (CL hp hC.sm.pos (by rw [e]; omega)).mono ?_
 rintro en w' ⟨g', cap', rfl, h1, h2, h3⟩
 refine ⟨_, rfl, fun W hW _ => ?_, h3⟩
 have h4 := Dr h2 (w' := W) fun k hk => hW k (by
  have : some g' = some k := hk
  injection this with this
  omega) (h2.lt k hk).2
 exact aD.iW h4 (fun _ => rfl) (by rw [← e]; rfl) (by rw [← e])
end
section
end
end Go.Proofs.YtelnhablglomjaaGreat
