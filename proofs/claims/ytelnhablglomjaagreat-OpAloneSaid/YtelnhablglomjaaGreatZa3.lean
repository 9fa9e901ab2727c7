/-
 Own words and walks, merged: part 3 of 9.
-/
import Derived.Test.YtelnhablglomjaaGreatChecked
import Derived.WalkKit
import Derived.WalkSpells
import Derived.WalkLawsBesides
import Derived.Deep.DeepMust
import Derived.Lib.Hide
import Derived.LaidEql
import Derived.Laws.StructEq
import Derived.Shelf.SlicesQ.Load
import Derived.Sort.Grow
import Derived.Deep.RegionWith
import Derived.StillTailTactics
import Derived.Sort.LotA
import Derived.Sort.WalkA
import Derived.Shelf.SlSortCmp.QuietGrown
import Derived.Deep.QuietTactic
import Derived.BigQuiet
import Derived.BigRegion
import Derived.Shelf.SlSortCmp.InsertionK
import Derived.Shelf.SlGeneric
import Derived.Ground.SlsfProg
import Derived.Test.YtelnhablglomjaaGreatProg
import Derived.Shelf.SlSortFuncK.ComposeK
import Derived.Test.YtelnhablglomjaaGreatZa2
set_option maxRecDepth 1000000
set_option maxHeartbeats 8000000
set_option linter.all false
namespace Go.Proofs.YtelnhablglomjaaGreat
section
variable {M : Md}
theorem CL (h : aF M) (i : Nat) (hi : i ≤ M.L.length) (t : Int) (ht : M.now ≤ t) : ay { M with L := eQ (aU M.now) M.L i } t 0 = ay M t 0 := by
 induction i with
 | zero => rfl
 | succ i ih =>
   have ih := ih (by omega)
   have hI := h.Ar i (by omega)
   have hl : i < (eQ (aU M.now) M.L i).length := by rw [oW]; omega
   have ha := qP (f := aU M.now) (L := M.L) (i := i) (by omega)
   rw [← jq (f := aU M.now) (L := M.L) (i := i) (by omega)]
   by_cases hp : (M.L.getD i default).st = 3 ∧ (M.L.getD i default).fin = M.now
   ·have e : aU M.now (M.L.getD i default) = (M.L.getD i default).setSt 6 := by unfold aU; rw [if_pos hp]
    rw [e]
    have hpl : aj ((M.L.getD i default).setSt 6) = false := by unfold aj; simp [Jb.setSt, Jb.st]
    have := rR (M := { M with L := eQ (aU M.now) M.L i }) (y := (M.L.getD i default).setSt 6) hI.l9 hl (by show ((eQ (aU M.now) M.L i).getD i default).st = 3; rw [ha]; exact hp.1) (show (6 : Int) ≠ 3 by decide) hpl t 0
    have e2 : ((eQ (aU M.now) M.L i).getD i default).fin = M.now := by rw [ha]; exact hp.2
    show ay { M with L := (eQ (aU M.now) M.L i).set i ((M.L.getD i default).setSt 6) } t 0 = _
    rw [this, if_neg (by show ¬ t < ((eQ (aU M.now) M.L i).getD i default).fin; omega), ih]
    simp
   ·have e : aU M.now (M.L.getD i default) = M.L.getD i default := by unfold aU; rw [if_neg hp]
    rw [jq (by omega), ← nK (by omega) e]
    exact ih
theorem FC (h : aF M) (hrun : ∀ j ∈ M.L, j.st = 3 → M.now < j.fin) {f : Nat} (hf : f < M.L.length) (hd : dA M.now (M.L.getD f default) = true) (t : Int) (ht : M.now ≤ t) : ay (aW M f) t 0 = ay M t 0 := by
 have hm := aY hf
 have bo := h.one _ hm
 unfold dA at hd
 rw [Bool.and_eq_true, decide_eq_true_iff, bq] at hd
 have hpl : aj (M.L.getD f default) = true := bq.2 hd.1
 have hid := h.ids f hf
 have hc := fun t => mR (t := t) (but := 0) hpl (by rw [hid]; omega)
 have h0 := h.free M.now (Int.le_refl _)
 have hge := vV (L := M.L) (fun j hj => (h.mb.wid j hj).1) M.now 0 hm
 rw [hc, if_pos (by omega)] at hge
 have hb := h.begin hrun hf hd.1.1 (by unfold ay at h0; omega) fun t h1 h2 => by
  have := h.free t h1
  rw [hc, if_pos (by omega)]
  omega
 rw [rQ hf (by omega), hb.2, hc]
 by_cases e : t < M.now + (M.L.getD f default).lim
 ·rw [if_pos e, if_pos (by omega)]; omega
 ·rw [if_neg e, if_neg (by omega)]; omega
theorem CO (n : Nat) (h : aF M) (hrun : ∀ j ∈ M.L, j.st = 3 → M.now < j.fin) (t : Int) (ht : M.now ≤ t) : ay (startGo n M) t 0 = ay M t 0 := by
 induction n generalizing M with
 | zero => rfl
 | succ n ih =>
   unfold startGo
   rcases nG M.L M.now M.L.length with ⟨h1, h2⟩ | ⟨f, h1, h2, h3⟩
   ·have e : ¬ 0 ≤ firstM M := by unfold firstM; omega
    rw [if_neg e]
    exact ih h hrun ht
   ·have e : firstM M = f := h1
    rw [e, if_pos (by omega), Int.toNat_natCast]
    obtain ⟨a1, a2, _, _⟩ := h.start hrun h2 h3
    rw [ih a1 a2 ht]
    exact FC h hrun h2 h3 t ht
theorem CP (h : aF M) (t : Int) (ht : M.now ≤ t) : ay (dN M) t 0 = ay M t 0 := by
 obtain ⟨h1, h2⟩ := h.over
 have e := CL h M.L.length (Nat.le_refl _) t ht
 rw [rO] at e
 rw [← e]
 exact CO M.L.length h1 h2 t ht
theorem Bb {i : Nat} (hi : i < M.L.length) (hst : (M.L.getD i default).st ≠ 3) (n : Nat) : holderL (aW M i).L n = if cZ (iP M (M.L.getD i default).wid) n = true then (i : Int) else holderL M.L n := by
 generalize hx : M.L.getD i default = x at *
 have A7 : aH n (fT M x) = cZ (iP M x.wid) n := by
  unfold aH
  show (decide ((3 : Int) = 3) && cZ ((iP M x.wid : Nat) : Int).toNat n) = _
  simp
 show holderL (M.L.set i (fT M (M.L.getD i default))) n = _
 rw [hx]
 split
 ·rename_i h
  obtain ⟨g1, g2⟩ := pq M x.wid M.dr.length n h
  have hneg := kz.1 ((jV g1).1 g2).1
  rcases fH (M.L.set i (fT M x)) n with h1 | ⟨q, h1, hq, h2⟩
  ·have := kz.1 h1 (fT M x) (List.mem_set hi _)
   rw [A7, h] at this
   cases this
  ·rw [gz] at h2
   split at h2
   ·rename_i e; rw [h1, e.1]
   ·have hq' : q < M.L.length := by simpa using hq
    have := hneg (M.L.getD q default) (aY hq')
    rw [h2] at this
    cases this
 ·rename_i h
  refine jF hi ?_
  rw [hx, A7]
  unfold aH
  simp [hst]
  simpa using h
theorem FD {i : Nat} {y : Jb} (hd : xn M.L) (hi : i < M.L.length) (hst : (M.L.getD i default).st = 3) (hy : y.st ≠ 3) (n : Nat) : holderL (M.L.set i y) n = if cZ (M.L.getD i default).bQ.toNat n = true then -1 else holderL M.L n := by
 generalize hx : M.L.getD i default = x at *
 have hxh : aH n x = cZ x.bQ.toNat n := by unfold aH; simp [hst]
 have Ql : aH n y = false := by unfold aH; simp [hy]
 split
 ·rename_i h
  rcases fH (M.L.set i y) n with h1 | ⟨q, h1, hq, h2⟩
  ·unfold holderL at h1 ⊢
   cases h3 : (M.L.set i y).findIdx? (aH n) with
   | none => rfl
   | some q => rw [h3] at h1; simp only at h1; omega
  ·rw [gz] at h2
   have hq' : q < M.L.length := by simpa using hq
   split at h2
   ·rw [Ql] at h2; cases h2
   ·rename_i e
    exact absurd (hd i q n hi hq' (by rw [hx, hxh]; exact h) h2) (fun e2 => e ⟨e2, hi⟩)
 ·rename_i h
  exact jF hi (by rw [hx, Ql, hxh]; simpa using h)
theorem eZ {n : Nat} (hn : n < M.dr.length) : aR M n = if 0 ≤ holderL M.L n then (if M.dr.getD n false = true then 3 else 2) else if M.dr.getD n false = true then 4 else 1 := by
 unfold aR
 rw [if_neg (by omega)]
 simp only [Int.toNat_natCast]
theorem iH {n : Nat} (hn : ¬ n < M.dr.length) : aR M n = 0 := by
 unfold aR
 rw [if_pos (by omega)]
theorem CQ {i n : Nat} (hi : i < M.L.length) (hst : (M.L.getD i default).st ≠ 3) : aR (aW M i) n = if cZ (iP M (M.L.getD i default).wid) n = true then 2 else aR M n := by
 have hh := Bb hi hst n
 by_cases hn : n < M.dr.length
 ·rw [eZ (M := aW M i) hn, eZ hn, hh]
  by_cases h : cZ (iP M (M.L.getD i default).wid) n = true
  ·obtain ⟨g1, g2⟩ := pq M _ M.dr.length n h
   have hd : (aW M i).dr.getD n false = false := ((jV g1).1 g2).2
   rw [if_pos h, if_pos h, if_pos (by omega)]
   simp only [hd]
   rfl
  ·rw [if_neg h, if_neg h]
   rfl
 ·have h : ¬ cZ (iP M (M.L.getD i default).wid) n = true := fun h => hn (pq M _ M.dr.length n h).1
  rw [if_neg h, iH (M := aW M i) hn, iH hn]
theorem Hw {i n : Nat} {y : Jb} (hd : xn M.L) (hi : i < M.L.length) (hst : (M.L.getD i default).st = 3) (hy : y.st ≠ 3) : aR { M with L := M.L.set i y } n = if cZ (M.L.getD i default).bQ.toNat n = true ∧ n < M.dr.length then (if M.dr.getD n false = true then 4 else 1) else aR M n := by
 have hh := FD hd hi hst hy n
 by_cases hn : n < M.dr.length
 ·rw [eZ (M := { M with L := M.L.set i y }) hn, eZ hn]
  simp only
  rw [hh]
  by_cases h : cZ (M.L.getD i default).bQ.toNat n = true
  ·have h2 : cZ (M.L.getD i default).bQ.toNat n = true ∧ n < M.dr.length := ⟨h, hn⟩
   have h3 : ¬ (0 : Int) ≤ -1 := by omega
   rw [if_pos h2, if_pos h, if_neg h3]
  ·have h2 : ¬ (cZ (M.L.getD i default).bQ.toNat n = true ∧ n < M.dr.length) := fun e => h e.1
   rw [if_neg h2, if_neg h]
 ·rw [if_neg (fun e => hn e.2), iH (M := { M with L := M.L.set i y }) hn, iH hn]
theorem qd {i : Nat} {n : Int} {y : Jb} (hi : i < M.L.length) (h1 : (y.st = 3) ↔ ((M.L.getD i default).st = 3)) (h2 : y.bQ = (M.L.getD i default).bQ) : aR { M with L := M.L.set i y } n = aR M n := by
 unfold aR
 simp only
 rw [jF hi (holds_of h1 h2)]
theorem CR {m : Nat} {b : Bool} (hm : m < M.dr.length) (n : Nat) : aR { M with dr := M.dr.set m b } n = if n = m then (if 0 ≤ holderL M.L n then (if b = true then 3 else 2) else if b = true then 4 else 1) else aR M n := by
 have hs : (M.dr.set m b).getD n false = if m = n then b else M.dr.getD n false := by
  simp only [List.getD, List.getElem?_set]
  by_cases h : m = n
  ·subst h; simp [hm]
  ·simp [h]
 by_cases hn : n < M.dr.length
 ·rw [eZ (M := { M with dr := M.dr.set m b }) (by show n < (M.dr.set m b).length; rw [List.length_set]; exact hn), eZ hn]
  simp only [hs]
  by_cases e : n = m
  ·subst e
   simp
  ·have e2 : ¬ m = n := fun h => e h.symm
   simp only [e, e2, if_false]
 ·have e3 : ¬ n = m := fun e => hn (by omega)
  rw [if_neg e3, iH (M := { M with dr := M.dr.set m b }) (by show ¬ n < (M.dr.set m b).length; rw [List.length_set]; exact hn), iH hn]
theorem Hy {n : Nat} (h1 : n ≤ 64) : aF (dK n) ∧ Calm (dK n) := by
 have no : ∀ {P : Jb → Prop}, ∀ j ∈ (dK n).L, P j := fun j hj => nomatch hj
 refine ⟨⟨⟨by show (List.replicate n false).length ≤ 64; rw [List.length_replicate]; exact h1, by show ([] : List Jb).length ≤ 1024; simp, ⟨(show (0 : Int) ≤ 0 by decide), (show (0 : Int) ≤ 1099511627776 by decide)⟩, no, no, no, no, no⟩, fun i hi => absurd hi (by simp [dK]), no, no, no, no, fun i k n hi => absurd hi (by simp [dK]), fun t _ => ?_⟩, ⟨no, no⟩⟩
 have := (ko (dK n) t (dK n).dr.length).1
 show 0 ≤ aL (dK n) t (dK n).dr.length - 0
 omega
theorem Bc (h : aF M) : Can (lV M) M.now (fun t => ay M t 0) := by
 refine Ho h.mb.now.1 fun t ht => ?_
 rcases (tK h.mb.now.1 t).1 ht with e | ⟨_, e⟩
 ·have := h.mb.now; omega
 ·obtain ⟨j, hj, hm⟩ := List.mem_flatMap.1 e
  have b1 := h.mb.fin j hj
  have b2 := h.mb.aN j hj
  have b3 := h.mb.lim j hj
  unfold AJ at hm
  rcases List.mem_append.1 hm with hm | hm
  ·split at hm
   ·have := List.mem_singleton.1 hm; omega
   ·cases hm
  ·split at hm
   ·rcases List.mem_cons.1 hm with e | e
    ·omega
    ·have := List.mem_singleton.1 e; omega
   ·cases hm
end
end Go.Proofs.YtelnhablglomjaaGreat

namespace Go.Proofs.YtelnhablglomjaaGreat
def qQ (j x : Jb) : Bool := aj x && (decide (j.id = 0) || aV j x)
theorem vW (j x : Jb) : gQ j x = if qQ j x = true then x.aG (-1) else x := rfl
theorem Bd (j x : Jb) : qQ j (x.aG (-1)) = false := by unfold qQ aj; simp [Jb.aG, Jb.aN]
theorem FE (j x : Jb) : gQ j (x.aG (-1)) = x.aG (-1) := by rw [vW, Bd]; rfl
def dU (j : Jb) (L : List Jb) : Option Nat := L.findIdx? (qQ j)
def hits (j : Jb) (L : List Jb) : Nat := L.countP (qQ j)
theorem CU {j : Jb} {L : List Jb} (h : dU j L = none) : L.map (gQ j) = L ∧ hits j L = 0 := by
 unfold dU at h
 rw [List.findIdx?_eq_none_iff] at h
 refine ⟨?_, List.countP_eq_zero.2 fun x hx => by simp [h x hx]⟩
 have : L.map (gQ j) = L.map id := List.map_congr_left fun x hx => by rw [vW, h x hx]; rfl
 rw [this, List.map_id]
theorem countP_set (f : Jb → Bool) (L : List Jb) (i : Nat) (y : Jb) (hi : i < L.length) : (L.set i y).countP f + (if f (L.getD i default) = true then 1 else 0) = L.countP f + (if f y = true then 1 else 0) := by
 induction L generalizing i with
 | nil => simp at hi
 | cons a L ih =>
   cases i with
   | zero => simp only [xB, List.countP_cons, List.getD_cons_zero]; omega
   | succ i =>
     have := ih i (by simpa using hi)
     simp only [xC, List.countP_cons, List.getD_cons_succ]
     omega
theorem jG {j : Jb} {L : List Jb} {i : Nat} (h : dU j L = some i) :
 i < L.length ∧ qQ j (L.getD i default) = true ∧ (∀ q, q < i → qQ j (L.getD q default) = false) ∧
 (L.set i ((L.getD i default).aG (-1))).map (gQ j) = L.map (gQ j) ∧ hits j (L.set i ((L.getD i default).aG (-1))) + 1 = hits j L := by
 unfold dU at h
 rw [List.findIdx?_eq_some_iff_getElem] at h
 obtain ⟨hi, h1, h2⟩ := h
 have e : L.getD i default = L[i] := by simp [List.getD, hi]
 have hh : qQ j (L.getD i default) = true := by rw [e]; exact h1
 refine ⟨hi, hh, fun q hq => ?_, ?_, ?_⟩
 ·have hq2 : q < L.length := by omega
  have := h2 q hq
  have e : L.getD q default = L[q] := by simp [List.getD, hq2]
  rw [e]
  simpa using this
 ·rw [List.map_set, FE]
  have e2 : (L.getD i default).aG (-1) = (L.map (gQ j))[i]'(by simpa using hi) := by
   rw [List.getElem_map, ← e, vW, hh]; rfl
  rw [e2, List.set_getElem_self]
 ·have := countP_set (qQ j) L i ((L.getD i default).aG (-1)) hi
  rw [hh, Bd] at this
  unfold hits
  simpa using this
section
variable {M : Md}
theorem rV {j : Jb} (hh : dU j M.L = none) : fC M j = M := by
 unfold fC
 rw [(CU hh).1]
theorem vY {j : Jb} {i : Nat} (hh : dU j M.L = some i) : fC { M with L := M.L.set i ((M.L.getD i default).aG (-1)) } j = fC M j := by
 unfold fC
 simp only
 rw [(jG hh).2.2.2.1]
theorem CV (h : aF M) {i : Nat} (hi : i < M.L.length) (t : Int) (ht : M.now ≤ t) : 0 ≤ ay M t ((i : Int) + 1) := by
 have := h.free t ht
 have := iN (t := t) (but := 0) (h.mb.wid _ (aY hi)).1
 rw [mV hi h.ids]
 omega
theorem Be (h : aF M) (t : Int) : ay M t 0 ≤ M.dr.length := by
 have h1 := (ko M t M.dr.length).2
 have h2 := (nD (L := M.L) h.mb.wid t 0).1
 unfold ay
 omega
end
end Go.Proofs.YtelnhablglomjaaGreat

namespace Go.Proofs.YtelnhablglomjaaGreat
open Go.ChangeShapes Go.WideShapes Go.ChangeAt Go.RowKit Go.Deep
def leafy (P : Program) : Nat → TypeId → List TypeId
 | 0, t => [t]
 | n + 1, t => match P.underlying t with
   | some (.struct fs) => fs.toList.flatMap fun f => leafy P n f.type
   | _ => [t]
def offsOk (P : Program) (lv : TypeId → List TypeId) (ok : TypeId → Bool) : List Field → Nat → Bool
 | [], _ => true
 | f :: r, o => f.offset == o && P.cellsOf f.type == (lv f.type).length && ok f.type && offsOk P lv ok r (o + (lv f.type).length)
def rW (P : Program) : Nat → TypeId → Bool
 | 0, t => P.cellsOf t == 1
 | n + 1, t => match P.underlying t with
   | some (.struct fs) => P.cellsOf t == (leafy P (n + 1) t).length && offsOk P (leafy P n) (rW P n) fs.toList 0
   | _ => P.cellsOf t == 1
section
variable {H : Type} {enc : TypeId × Value → H} {P : Program} {w : World} {base : Nat} {spare : Nat → Bool} {held : Bool}
def nH (enc : TypeId × Value → H) (P : Program) (w : World) (base : Nat) (spare : Nat → Bool) (held : Bool) (ts : List TypeId) (cs : List Value) : Prop :=
 ∀ (j : Nat) (T : TypeId) (u : Value), ts[j]? = some T → cs[j]? = some u → ∃ (n : Nat) (y : DataW H × List MemPlace), DataW.trod enc P w base spare held n T [u] = some y
theorem DT {t : TypeId} {fuel : Nat} {cs : List Value} {x : DataW H × List MemPlace} (hl : cs.length = 1) (h : DataW.trod enc P w base spare held fuel t cs = some x) : nH enc P w base spare held [t] cs := by
 intro j T u hT hu
 have hj : j = 0 := by
  have := (List.getElem?_eq_some_iff.1 hT).1
  simp at this
  exact this
 subst hj
 match cs, hl with
 | [c], _ =>
   simp at hT hu
   subst hT hu
   exact ⟨fuel, x, h⟩
theorem DU (n : Nat) : ∀ (t : TypeId) (fuel : Nat) (cs : List Value) (x : DataW H × List MemPlace), rW P n t = true → cs.length = P.cellsOf t → DataW.trod enc P w base spare held fuel t cs = some x →
 cs.length = (leafy P n t).length ∧ nH enc P w base spare held (leafy P n t) cs := by
 induction n with
 | zero =>
   intro t fuel cs x hok hl h
   simp only [rW, beq_iff_eq] at hok
   exact ⟨by rw [hl, hok]; rfl, DT (by rw [hl, hok]) h⟩
 | succ n ih =>
   intro t fuel cs x hok hl h
   have plain : P.cellsOf t = 1 → leafy P (n + 1) t = [t] → cs.length = (leafy P (n + 1) t).length ∧ nH enc P w base spare held (leafy P (n + 1) t) cs := fun h1 h2 => by
    rw [h2]
    exact ⟨by rw [hl, h1]; rfl, DT (by rw [hl, h1]) h⟩
   unfold rW at hok
   split at hok
   ·rename_i fs hu
    rw [Bool.and_eq_true, beq_iff_eq] at hok
    obtain ⟨hc, ho⟩ := hok
    refine ⟨by rw [hl, hc], ?_⟩
    obtain ⟨ys, n', _, _, _, hyl, hf⟩ := DataW.trod_struct hu h
    have hlv : leafy P (n + 1) t = fs.toList.flatMap fun f => leafy P n f.type := by rw [leafy, hu]
    rw [hlv] at hc ⊢
    have key : ∀ (fl : List Field) (o : Nat), offsOk P (leafy P n) (rW P n) fl o = true → o + (fl.flatMap fun f => leafy P n f.type).length ≤ cs.length → (∀ f ∈ fl, ∃ y, DataW.trod enc P w base spare held n' f.type ((cs.drop f.offset).take (P.cellsOf f.type)) = some y) →
     nH enc P w base spare held (fl.flatMap fun f => leafy P n f.type) (cs.drop o) := by
     intro fl
     induction fl with
     | nil => intro o _ _ _ j T u hT; simp at hT
     | cons f r ihr =>
       intro o ho hle hall
       simp only [offsOk, Bool.and_eq_true, beq_iff_eq] at ho
       obtain ⟨⟨⟨h1, h2⟩, h3⟩, h4⟩ := ho
       rw [List.flatMap_cons, List.length_append] at hle
       obtain ⟨y, hy⟩ := hall f (by simp)
       rw [h1, h2] at hy
       have hlen : ((cs.drop o).take (leafy P n f.type).length).length = P.cellsOf f.type := by rw [List.length_take, List.length_drop, h2]; omega
       obtain ⟨_, hL⟩ := ih f.type n' _ y h3 hlen hy
       have hR := ihr (o + (leafy P n f.type).length) h4 (by omega) (fun g hg => hall g (by simp [hg]))
       intro j T u hT hu
       rw [List.flatMap_cons] at hT
       rcases Nat.lt_or_ge j (leafy P n f.type).length with hlt | hge
       ·rw [List.getElem?_append_left hlt] at hT
        exact hL j T u hT (by rw [List.getElem?_take, if_pos hlt]; exact hu)
       ·rw [List.getElem?_append_right hge] at hT
        refine hR (j - (leafy P n f.type).length) T u hT ?_
        rw [List.getElem?_drop] at hu ⊢
        rw [← hu]
        congr 1
        omega
    have := key fs.toList 0 ho (by rw [hl, hc]; omega) (fun f hfm => by
     obtain ⟨i, hi, rfl⟩ := List.getElem_of_mem hfm
     have hi' : i < fs.size := by simpa using hi
     have h5 := hf i fs[i] (Array.getElem?_eq_getElem hi')
     have h6 : ys[i]? = some (ys[i]'(by omega)) := List.getElem?_eq_getElem (by omega)
     exact ⟨_, by rw [Array.getElem_toList]; exact h5.trans h6⟩)
    simpa using this
   ·rename_i hn
    refine plain (by simpa using hok) ?_
    rw [leafy]
    split
    ·rename_i fs hu; exact absurd hu (hn fs)
    ·rfl
end
theorem Qn {H : Type} {enc : TypeId × Value → H} {P : Program} {w : World} {base : Nat} {t : TypeId} {fs : Array Field} {ts : List TypeId} {n : Nat} {v : Value} {d : DataW H} {ps : List MemPlace} (ht : P.underlying t = some (.struct fs))
 (hok : rW P n t = true) (hts : leafy P n t = ts) (hval : Value.okWide P w .any base t v) (hd : DataW.Trod enc P w 0 (fun _ => true) true t v d ps) :
 ∃ s : List Value, v = .agg s.toArray ∧ s.length = ts.length ∧ nH enc P w 0 (fun _ => true) true ts s := by
 subst hts
 obtain ⟨cs, rfl, hsz⟩ := okWide_struct ht hval
 obtain ⟨fuel, hf⟩ := hd
 obtain ⟨cs⟩ := cs
 obtain ⟨h1, h2⟩ := DU n t fuel cs _ hok (by simpa using hsz) hf
 exact ⟨cs, rfl, h1, h2⟩
theorem Nv {H : Type} {enc : TypeId × Value → H} {P : Program} {w : World} {base : Nat} {t e : TypeId} {ts : List TypeId} {n : Nat} {v : Value} {d : DataW H} {ps : List MemPlace} (ht : P.underlying t = some (.slice e))
 (hok : rW P n e = true) (hts : leafy P n e = ts) (hc : P.cellsOf e = ts.length) (h0 : 0 < ts.length) (hval : Value.okWide P w .any base t v) (hd : DataW.Trod enc P w 0 (fun _ => true) true t v d ps) :
 ∃ l : List (List Value), aB id ts.length w v l ∧ ∀ s ∈ l, s.length = ts.length ∧ nH enc P w 0 (fun _ => true) true ts s := by
 subst hts
 obtain ⟨a0, len, cap, rfl⟩ := okWide_slice ht hval
 obtain ⟨fuel, hf⟩ := hd
 rcases open_slice ht hf with ⟨hcs, _⟩ | ⟨a, len', cap', m, nn, D, Pl, hcs, _, hl, hm, hmm, _, hi⟩
 ·simp [Value.cells] at hcs
  obtain ⟨rfl, rfl, rfl⟩ := hcs
  exact ⟨[], aB.nil w, fun s hs => by cases hs⟩
 ·simp [Value.cells] at hcs
  obtain ⟨rfl, rfl, rfl⟩ := hcs
  simp only [if_true] at hmm
  have hrow : ∀ i, i < len → ∃ cs : List Value, cs.length = (leafy P n e).length ∧ (∀ j, j < cs.length → w.cell? ((a.add (i * (leafy P n e).length)).add j) = cs[j]?) ∧ nH enc P w 0 (fun _ => true) true (leafy P n e) cs := by
   intro i hil
   obtain ⟨cs', hc', ht'⟩ := hi i (by omega)
   obtain ⟨_, hcl, hat⟩ := World.cells?_some hc'
   obtain ⟨h1, h2⟩ := DU n e nn _ _ hok hcl ht'
   rw [hc] at hat hcl
   exact ⟨cs', h1, fun j hj => hat j (by omega), h2⟩
  have hpick : ∃ f : Nat → List Value, ∀ i, i < len → (f i).length = (leafy P n e).length ∧ (∀ j, j < (f i).length → w.cell? ((a.add (i * (leafy P n e).length)).add j) = (f i)[j]?) ∧ nH enc P w 0 (fun _ => true) true (leafy P n e) (f i) := by
   refine ⟨fun i => if h : i < len then Classical.choose (hrow i h) else [], fun i hil => ?_⟩
   simp only [dif_pos hil]
   exact Classical.choose_spec (hrow i hil)
  obtain ⟨f, hf'⟩ := hpick
  refine ⟨(List.range len).map f, ⟨some a, cap, by simp, by simpa using hl, hm, fun hp => ?_⟩, fun s hs => ?_⟩
  ·have hp : 0 < len := by simpa using hp
   obtain ⟨b, off, spot⟩ := a
   have uY := (hf' 0 hp).2.1 0 (by rw [(hf' 0 hp).1]; exact h0)
   obtain ⟨u0, hu0⟩ : ∃ u, (f 0)[0]? = some u := ⟨_, List.getElem?_eq_getElem (by rw [(hf' 0 hp).1]; exact h0)⟩
   rw [hu0] at uY
   have hspot : spot = none := by simpa [Addr.add] using World.cell?_spot uY
   subst hspot
   refine ⟨b, off, rfl, ?_, fun i s j u hi2 hj => ?_⟩
   ·rw [Go.WideShapes.add_plain, Go.WideShapes.add_plain] at uY
    exact World.block_lt_of_cell? w ⟨b, _, none⟩ uY
   ·rw [List.getElem?_map] at hi2
    obtain ⟨i', hi', rfl⟩ := Option.map_eq_some_iff.1 hi2
    obtain ⟨hil, rfl⟩ := List.getElem?_eq_some_iff.1 hi'
    rw [List.length_range] at hil
    rw [List.getElem_range] at hj
    have hj2 : (f i)[j]? = some u := hj
    have := (hf' i hil).2.1 j (List.getElem?_eq_some_iff.1 hj2).1
    rw [Go.WideShapes.add_plain, Go.WideShapes.add_plain, hj2, Nat.add_assoc] at this
    exact this
  ·obtain ⟨i, hi2, rfl⟩ := List.mem_map.1 hs
   have := hf' i (by simpa using hi2)
   exact ⟨this.1, this.2.2⟩
end Go.Proofs.YtelnhablglomjaaGreat

namespace Go.Proofs.YtelnhablglomjaaGreat
open Go.RowKit Go.Lib
open Go.ChangeShapes Go.WideShapes Go.ChangeAt Go.Deep
structure Rq where
 kind : Int
 id : Int
 user : Int
 width : Int
 limit : Int
 prio : Int
 held : Bool
 node : Int
 till : Int
deriving DecidableEq
def encR (r : Rq) : List Value := [.int .i64 r.kind, .int .i64 r.id, .int .i64 r.user, .int .i64 r.width, .int .i64 r.limit, .int .i64 r.prio, .bool r.held, .int .i64 r.node, .int .i64 r.till]
theorem kC : ∀ w, Sem.run Tryz.prog (Go.sizeOf 24) w = .ok 9 w := Tryz.sizeOf24
theorem gP (r : Rq) : (encR r).length = 9 := rfl
theorem jr {W : World} {p : Nat} {x : Rq} (h : W.heap[p]? = some (.cells (encR x).toArray 24 (0, 0))) : ∀ j u, (encR x)[j]? = some u → W.cell? ⟨p, j, none⟩ = some u := by
 intro j u hj
 simp [World.cell?, h, hj]
section
variable {H : Type} {enc : TypeId × Value → H} {w : World} {base : Nat} {v : Value} {d : DataW H} {ps : List MemPlace}
def Vv : List TypeId := [3, 3, 3, 3, 2, 3, 4, 3, 2]
theorem vZ {ts : List TypeId} {cs : List Value} (h : nH enc Tryz.prog w 0 (fun _ => true) true ts cs) (j : Nat) {T : TypeId} {u : Value} (hT : ts[j]? = some T) (hu : Tryz.prog.underlying T = some .bool) (hc : cs[j]? = some u) : ∃ x, u = .bool x := by
 obtain ⟨_, _, t0⟩ := h j T u hT hc
 obtain ⟨x, hx, _⟩ := DataW.trod_bool hu t0
 exact ⟨x, by simpa using hx⟩
theorem eH {ts : List TypeId} {cs : List Value} (h : nH enc Tryz.prog w 0 (fun _ => true) true ts cs) (j : Nat) {T : TypeId} {u : Value} (hT : ts[j]? = some T) (hu : Tryz.prog.underlying T = some (.int .i64)) (hc : cs[j]? = some u) : ∃ x, u = .int .i64 x ∧ -9223372036854775808 ≤ x ∧ x ≤ 9223372036854775807 := by
 obtain ⟨_, _, t0⟩ := h j T u hT hc
 obtain ⟨x, hx, _, hw⟩ := DataW.trod_int hu t0
 exact ⟨x, by simpa using hx, bounds_i64 hw⟩
structure FH (r : Rq) : Prop where
 kind : -9223372036854775808 ≤ r.kind ∧ r.kind ≤ 9223372036854775807
 id : -9223372036854775808 ≤ r.id ∧ r.id ≤ 9223372036854775807
 user : -9223372036854775808 ≤ r.user ∧ r.user ≤ 9223372036854775807
 width : -9223372036854775808 ≤ r.width ∧ r.width ≤ 9223372036854775807
 limit : -9223372036854775808 ≤ r.limit ∧ r.limit ≤ 9223372036854775807
 prio : -9223372036854775808 ≤ r.prio ∧ r.prio ≤ 9223372036854775807
 node : -9223372036854775808 ≤ r.node ∧ r.node ≤ 9223372036854775807
 till : -9223372036854775808 ≤ r.till ∧ r.till ≤ 9223372036854775807
theorem Nw (hval : Value.okWide Tryz.prog w .any base 24 v) (hd : DataW.Trod enc Tryz.prog w 0 (fun _ => true) true 24 v d ps) : ∃ r : Rq, v = .agg (encR r).toArray ∧ FH r := by
 obtain ⟨s, rfl, hl, hf⟩ := Qn (n := 2) (ts := Vv) Tryz.underlying24 (by kernel_rfl) (by kernel_rfl) hval hd
 match s, hl with
 | [a0, a1, a2, a3, a4, a5, a6, a7, a8], _ =>
   obtain ⟨x0, rfl, b0⟩ := eH hf 0 rfl Tryz.underlying3 rfl
   obtain ⟨x1, rfl, b1⟩ := eH hf 1 rfl Tryz.underlying3 rfl
   obtain ⟨x2, rfl, b2⟩ := eH hf 2 rfl Tryz.underlying3 rfl
   obtain ⟨x3, rfl, b3⟩ := eH hf 3 rfl Tryz.underlying3 rfl
   obtain ⟨x4, rfl, b4⟩ := eH hf 4 rfl Tryz.underlying2 rfl
   obtain ⟨x5, rfl, b5⟩ := eH hf 5 rfl Tryz.underlying3 rfl
   obtain ⟨x6, rfl⟩ := vZ hf 6 rfl Tryz.underlying4 rfl
   obtain ⟨x7, rfl, b7⟩ := eH hf 7 rfl Tryz.underlying3 rfl
   obtain ⟨x8, rfl, b8⟩ := eH hf 8 rfl Tryz.underlying2 rfl
   exact ⟨⟨x0, x1, x2, x3, x4, x5, x6, x7, x8⟩, rfl, ⟨b0, b1, b2, b3, b4, b5, b7, b8⟩⟩
end
theorem FI (x y : Rq) (w : World) : (Op.equalIn 10000 24 (.agg (encR x).toArray) (.agg (encR y).toArray)).run Tryz.prog w = .ok (decide (x = y)) w := by
 have u2 := Tryz.underlying2
 have a2 := Tryz.isAgg2
 have z2 := Tryz.sizeOf2
 have u3 := Tryz.underlying3
 have a3 := Tryz.isAgg3
 have z3 := Tryz.sizeOf3
 have u4 := Tryz.underlying4
 have a4 := Tryz.isAgg4
 have z4 := Tryz.sizeOf4
 have hS : Tryz.prog.underlying 24 = some (.struct (Tryz.prog.fieldsOf 24)) := by kernel_rfl
 have hp : Tryz.prog.stoodInHeld 24 = false := by kernel_rfl
 rw [show (10000 : Nat) = 9999 + 1 from rfl, run_equalIn_agg w 9999 24 _ _ hS hp]
 simp only [Program.fieldsOf, Tryz.underlying24]
 obtain ⟨x1, x2, x3, x4, x5, x6, x7, x8, x9⟩ := x
 obtain ⟨y1, y2, y3, y4, y5, y6, y7, y8, y9⟩ := y
 simp only [encR]
 go_simp
 by_cases h1 : x1 = y1
 ·by_cases h2 : x2 = y2
  ·by_cases h3 : x3 = y3
   ·by_cases h4 : x4 = y4
    ·by_cases h5 : x5 = y5
     ·by_cases h6 : x6 = y6
      ·by_cases h7 : x7 = y7
       ·by_cases h8 : x8 = y8
        ·by_cases h9 : x9 = y9 <;> simp [h1, h2, h3, h4, h5, h6, h7, h8, h9]
        ·simp [h1, h2, h3, h4, h5, h6, h7, h8]
       ·simp [h1, h2, h3, h4, h5, h6, h7]
      ·simp [h1, h2, h3, h4, h5, h6]
     ·simp [h1, h2, h3, h4, h5]
    ·simp [h1, h2, h3, h4]
   ·simp [h1, h2, h3]
  ·simp [h1, h2]
 ·simp [h1]
theorem Qo (x y : Rq) (w : World) : (binOp .eql 24 (.agg (encR x).toArray) (.agg (encR y).toArray)).run Tryz.prog w = .ok (.bool (decide (x = y))) w := by
 rw [run_eql_struct, FI]; rfl
end Go.Proofs.YtelnhablglomjaaGreat

namespace Go.Proofs.YtelnhablglomjaaGreat
open Go.RowKit Go.Lib Go.Sort
def aQ (r : Rq) : Int :=
 if r.user < 0 then 1 else if 255 < r.user then 1 else if r.prio < 0 then 1 else if 1000 < r.prio then 1 else if r.width < 1 then 9 else if 64 < r.width then 9 else if r.limit < 1 then 10 else if 1048576 < r.limit then 10 else 0
end Go.Proofs.YtelnhablglomjaaGreat

namespace Go.Proofs.YtelnhablglomjaaGreat
open Go.RowKit Go.Lib Go.Sort
def sO (x y : Int) : Int := if x < y then -1 else if y < x then 1 else 0
theorem DV (x : Int) (w : World) : Calls Tryz.prog 174 #[.int .i64 x] w fun e w' => e = .returned (.bool false) ∧ w = w' := by
 have h : (x != x) = false := by simp
 go_enter Tryz.func174, Tryz.ntmps174
 go_wp2_with fail
 go_ret
 exact ⟨rfl, rfl⟩
theorem Bf (x y : Int) (w : World) : Calls Tryz.prog 170 #[.int .i64 x, .int .i64 y] w fun e w' => e = .returned (.int .i64 (sO x y)) ∧ w = w' := by
 have hx := DV x w
 have hy := DV y w
 unfold sO
 by_cases h1 : x < y
 ·have e1 : (if x < y then (-1 : Int) else if y < x then 1 else 0) = -1 := if_pos h1
  rw [e1]
  go_enter Tryz.func170, Tryz.ntmps170
  go_wp2_with (go_at_call 174; first | (refine hx.mono ?_; rintro e w' ⟨rfl, rfl⟩) | (refine hy.mono ?_; rintro e w' ⟨rfl, rfl⟩))
  go_ret
  exact ⟨rfl, rfl⟩
 ·by_cases h2 : y < x
  ·have e1 : (if x < y then (-1 : Int) else if y < x then 1 else 0) = 1 := by rw [if_neg h1, if_pos h2]
   rw [e1]
   go_enter Tryz.func170, Tryz.ntmps170
   go_wp2_with (go_at_call 174; first | (refine hx.mono ?_; rintro e w' ⟨rfl, rfl⟩) | (refine hy.mono ?_; rintro e w' ⟨rfl, rfl⟩))
   go_ret
   exact ⟨rfl, rfl⟩
  ·have e1 : (if x < y then (-1 : Int) else if y < x then 1 else 0) = 0 := by rw [if_neg h1, if_neg h2]
   rw [e1]
   go_enter Tryz.func170, Tryz.ntmps170
   go_wp2_with (go_at_call 174; first | (refine hx.mono ?_; rintro e w' ⟨rfl, rfl⟩) | (refine hy.mono ?_; rintro e w' ⟨rfl, rfl⟩))
   go_ret
   exact ⟨rfl, rfl⟩
theorem TD (x y : Int) (p c : Nat) (w : World) (h0 : w.cell? ⟨p, 0, none⟩ = some (.int .i64 x)) (h1 : w.cell? ⟨p, 1, none⟩ = some (.int .i64 y)) : Calls Tryz.prog 169 #[.slice (some ⟨p, 0, none⟩) 2 c] w fun e w' => e = .returned (.int .i64 (if x = 0 then y else x)) ∧ w = w' := by
 by_cases hx : x = 0
 ·subst hx
  rw [if_pos rfl]
  by_cases hy : y = 0
  ·subst hy
   go_enter Tryz.func169, Tryz.ntmps169
   go_wp2_with fail
   go_loopw [8] (fun ii wr => ∃ (i : Nat), i ≤ 2 ∧ ii = .int .i64 i ∧ wr = w) (fun ii _ => 2 - (intOf ii).toNat)
   case atStart => exact ⟨0, by omega, rfl, rfl⟩
   case round =>
    obtain ⟨i, hi, rfl, rfl⟩ := hrel
    rcases (by omega : i = 0 ∨ i = 1 ∨ i = 2) with rfl | rfl | rfl
    ·go_wp2_with fail
     go_roundw
     case rel => exact ⟨1, by omega, rfl, trivial⟩
     case measure => decide
    ·go_wp2_with fail
     go_roundw
     case rel => exact ⟨2, by omega, rfl, trivial⟩
     case measure => decide
    ·go_wp2_with fail
     go_ret
     exact ⟨rfl, rfl⟩
  ·have ny : (y != 0) = true := by simp [hy]
   go_enter Tryz.func169, Tryz.ntmps169
   go_wp2_with fail
   go_loopw [8] (fun ii wr => ∃ (i : Nat), i ≤ 1 ∧ ii = .int .i64 i ∧ wr = w) (fun ii _ => 2 - (intOf ii).toNat)
   case atStart => exact ⟨0, by omega, rfl, rfl⟩
   case round =>
    obtain ⟨i, hi, rfl, rfl⟩ := hrel
    rcases (by omega : i = 0 ∨ i = 1) with rfl | rfl
    ·go_wp2_with fail
     go_roundw
     case rel => exact ⟨1, by omega, rfl, trivial⟩
     case measure => decide
    ·go_wp2_with fail
     go_ret
     exact ⟨rfl, rfl⟩
 ·rw [if_neg hx]
  have nx : (x != 0) = true := by simp [hx]
  go_enter Tryz.func169, Tryz.ntmps169
  go_wp2_with fail
  go_loopw [8] (fun ii wr => ii = .int .i64 0 ∧ wr = w) (fun ii _ => 2 - (intOf ii).toNat)
  case atStart => exact ⟨rfl, rfl⟩
  case round =>
   obtain ⟨rfl, rfl⟩ := hrel
   go_wp2_with fail
   go_ret
   exact ⟨rfl, rfl⟩
theorem Ny (a b : Jb) : (if sO b.prio a.prio = 0 then sO a.id b.id else sO b.prio a.prio) = zf a b := by
 unfold sO zf aV
 by_cases h1 : b.prio < a.prio
 ·simp [h1]
 ·by_cases h2 : a.prio < b.prio
  ·have : ¬ a.prio = b.prio := by omega
   have : ¬ b.prio = a.prio := by omega
   simp [*]
  ·have e : a.prio = b.prio := by omega
   simp [e]
end Go.Proofs.YtelnhablglomjaaGreat

namespace Go.Proofs.YtelnhablglomjaaGreat
open Go.RowKit Go.Lib Go.Sort
theorem Hz (x y : Value) (t : Nat) (n : Nat) (W : World) (hn : n = W.heap.size) : (W.alloc (.cells #[x, y] t)).cell? ⟨n, 0, none⟩ = some x := by
 subst hn
 have h : (W.alloc (.cells #[x, y] t)).heap[W.heap.size]? = some (.cells #[x, y] t) := heap_alloc_new W _
 unfold World.cell?
 rw [h]
 rfl
theorem FJ (x y : Value) (t : Nat) (n : Nat) (W : World) (hn : n = W.heap.size) : (W.alloc (.cells #[x, y] t)).cell? ⟨n, 1, none⟩ = some y := by
 subst hn
 have h : (W.alloc (.cells #[x, y] t)).heap[W.heap.size]? = some (.cells #[x, y] t) := heap_alloc_new W _
 unfold World.cell?
 rw [h]
 rfl
theorem Qp (w : World) (o1 o2 : Obj) : ((w.alloc o1).alloc o2).heap.size = w.heap.size + 2 ∧ ((w.alloc o1).alloc o2).heap[w.heap.size]? = some o1 ∧ ((w.alloc o1).alloc o2).heap[w.heap.size + 1]? = some o2 := by
 refine ⟨by simp, ?_, ?_⟩
 ·rw [Below.heap_alloc _ _ _ (by simp)]; exact heap_alloc_new w o1
 ·have := heap_alloc_new (w.alloc o1) o2
  rwa [show (w.alloc o1).heap.size = w.heap.size + 1 from by simp] at this
theorem zo (a b : Jb) (w : World) : Calls Tryz.prog 162 #[.agg (ai a).toArray, .agg (ai b).toArray] w fun e w' => e = .returned (.int .i64 (zf a b)) ∧ Gr w w' := by
 rw [← Ny]
 have hg : ∀ o1 o2 o3 : Obj, Gr w (((w.alloc o1).alloc o2).drew.alloc o3) := fun o1 o2 o3 => ⟨1, #[o1] ++ #[o2] ++ #[o3], by
  rw [Go.Sort.alloc_eq_grow, Go.Sort.alloc_eq_grow, Go.Sort.alloc_eq_grow, ← Go.Sort.grow_grow, ← Go.Sort.grow_grow]; rfl⟩
 obtain ⟨x1, x2, x3, x4, x5, x6, x7, x8, x9, x0⟩ := a
 obtain ⟨y1, y2, y3, y4, y5, y6, y7, y8, y9, y0⟩ := b
 have nY := (by kernel_rfl : Tryz.prog.follows .mixedOrders = true)
 unfold Jb.prio Jb.id
 simp only [ai]
 have c1 := fun W => (Bf y5 x5 W).mono fun e w1 h => (⟨h.1, h.2.symm⟩ : _ ∧ w1 = W)
 have c2 := fun W => (Bf x1 y1 W).mono fun e w1 h => (⟨h.1, h.2.symm⟩ : _ ∧ w1 = W)
 have ho := fun (n : Nat) (W : World) (hn : n = W.heap.size) => TD (sO y5 x5) (sO x1 y1) n 2 (W.alloc (.cells #[.int .i64 (sO y5 x5), .int .i64 (sO x1 y1)] 3)) (Hz _ _ _ _ _ hn) (FJ _ _ _ _ _ hn)
 generalize sO y5 x5 = r1 at *
 generalize sO x1 y1 = r2 at *
 generalize (if r1 = 0 then r2 else r1) = rr at *
 have HO := Lib.hid ho
 clear ho
 have C1 := Lib.hid c1
 have C2 := Lib.hid c2
 clear c1 c2
 go_enter Tryz.func162, Tryz.ntmps162
 go_wp2_with fail
 have H2 := Qp w (.cells #[.int .i64 x1, .int .i64 x2, .int .i64 x3, .int .i64 x4, .int .i64 x5, .int .i64 x6, .int .i64 x7, .int .i64 x8, .int .i64 x9, .int .u64 x0] 92) (.cells #[.int .i64 y1, .int .i64 y2, .int .i64 y3, .int .i64 y4, .int .i64 y5, .int .i64 y6, .int .i64 y7, .int .i64 y8, .int .i64 y9, .int .u64 y0] 92)
 have hg2 := fun o3 => hg (.cells #[.int .i64 x1, .int .i64 x2, .int .i64 x3, .int .i64 x4, .int .i64 x5, .int .i64 x6, .int .i64 x7, .int .i64 x8, .int .i64 x9, .int .u64 x0] 92) (.cells #[.int .i64 y1, .int .i64 y2, .int .i64 y3, .int .i64 y4, .int .i64 y5, .int .i64 y6, .int .i64 y7, .int .i64 y8, .int .i64 y9, .int .u64 y0] 92) o3
 clear hg
 generalize ((w.alloc (.cells #[.int .i64 x1, .int .i64 x2, .int .i64 x3, .int .i64 x4, .int .i64 x5, .int .i64 x6, .int .i64 x7, .int .i64 x8, .int .i64 x9, .int .u64 x0] 92)).alloc (.cells #[.int .i64 y1, .int .i64 y2, .int .i64 y3, .int .i64 y4, .int .i64 y5, .int .i64 y6, .int .i64 y7, .int .i64 y8, .int .i64 y9, .int .u64 y0] 92)) = wr at *
 obtain ⟨hsz, hA, hB⟩ := H2
 have Zq : wr.drew.cell? ⟨w.heap.size, 0, none⟩ = some (.int .i64 x1) := by
  show wr.cell? _ = _
  unfold World.cell?
  rw [hA]; rfl
 have Zr : wr.drew.cell? ⟨w.heap.size, 4, none⟩ = some (.int .i64 x5) := by
  show wr.cell? _ = _
  unfold World.cell?
  rw [hA]; rfl
 have Zt : wr.drew.cell? ⟨w.heap.size + 1, 0, none⟩ = some (.int .i64 y1) := by
  show wr.cell? _ = _
  unfold World.cell?
  rw [hB]; rfl
 have Zu : wr.drew.cell? ⟨w.heap.size + 1, 4, none⟩ = some (.int .i64 y5) := by
  show wr.cell? _ = _
  unfold World.cell?
  rw [hB]; rfl
 clear hA hB
 replace hsz := Lib.hid hsz
 replace hg2 := Lib.hid hg2
 refine wp_region_still_tail 10 nY (by kernel_rfl) ?_
 simp only [List.take_succ_cons, List.take_zero, List.drop_succ_cons, List.drop_zero]
 change wpStill _ _ wr.drew _ _ _
 still_step
 still_step
 still_step
 still_step
 still_call (C1.out _)
 still_step
 still_step
 still_step
 still_step
 still_call (C2.out _)
 refine wpStill_nil ?_
 change wpList _ _ _ _ _ wr.drew
 generalize wr.drew = w2 at *
 go_wp2_with (go_at_call 169; refine (HO.out _ _ ?_).mono ?_; rotate_left; rintro e w' ⟨rfl, rfl⟩)
 ·go_ret
  exact ⟨rfl, hg2.out _⟩
 ·rfl
theorem eO {a b c : World} (h : Gr a b) (k : Gr b c) : Gr a c := by
 obtain ⟨q, os, rfl⟩ := h
 obtain ⟨q', os', rfl⟩ := k
 refine ⟨q + q', os ++ os', ?_⟩
 rw [← Go.Sort.grow_grow]
 simp [Go.Sort.grow, World.drewN, Nat.add_assoc]
theorem TE (w : World) (o1 o2 : Obj) : Gr w ((w.alloc o1).alloc o2) := ⟨0, #[o1] ++ #[o2], by
 rw [Go.Sort.alloc_eq_grow, Go.Sort.alloc_eq_grow, ← Go.Sort.grow_grow]; rfl⟩
theorem Qq (a b : Jb) (w : World) : Calls Tryz.prog 150 #[.agg (ai a).toArray, .agg (ai b).toArray] w fun e w' => e = .returned (.bool (aV a b)) ∧ Gr w w' := by
 have hc := Lib.hid fun (W : World) => zo a b W
 rw [← GV]
 generalize zf a b = q at *
 obtain ⟨x1, x2, x3, x4, x5, x6, x7, x8, x9, x0⟩ := a
 obtain ⟨y1, y2, y3, y4, y5, y6, y7, y8, y9, y0⟩ := b
 simp only [ai] at *
 go_enter Tryz.func150, Tryz.ntmps150
 go_wp2_with (go_at_call 162; refine (hc.out _).mono ?_; rintro e w' ⟨rfl, hw⟩)
 go_ret
 exact ⟨rfl, eO (TE w _ _) hw⟩
end Go.Proofs.YtelnhablglomjaaGreat

namespace Go.Proofs.YtelnhablglomjaaGreat
namespace Sb
open Go.Sort
variable {α : Type} [Inhabited α]
def oC (a b n i : Nat) (d : Array α) : Array α := if i < n then oC a b n (i + 1) (swp d (a + i) (b + i)) else d
termination_by n - i
def mX (m i j : Nat) (d : Array α) : Array α :=
 if i = j ∨ i = 0 ∨ j = 0 then oC (m - i) m i 0 d
 else if j < i then mX m (i - j) j (oC (m - i) m j 0 d)
 else mX m i (j - i) (oC (m - i) (m + j - i) i 0 d)
termination_by i + j
def fM (f : Nat → Bool) (i j : Nat) : Nat := if i < j then (if f ((i + j) / 2) then fM f ((i + j) / 2 + 1) j else fM f i ((i + j) / 2)) else i
termination_by j - i
def wo (e k : Nat) (d : Array α) : Array α := if k < e then wo e (k + 1) (swp d k (k + 1)) else d
termination_by e - k
def wu (i k : Nat) (d : Array α) : Array α := if i < k then wu i (k - 1) (swp d k (k - 1)) else d
termination_by k
def tO (lt : α → α → Bool) (a m b : Nat) (d : Array α) : Nat :=
 if (a + b) / 2 < m then fM (fun c => !lt d[(a + b) / 2 + m - 1 - c]! d[c]!) ((a + b) / 2 + m - b) ((a + b) / 2)
 else fM (fun c => !lt d[(a + b) / 2 + m - 1 - c]! d[c]!) a m
def symF (lt : α → α → Bool) : Nat → Nat → Nat → Nat → Array α → Array α
 | 0, _, _, _, d => d
 | f + 1, a, m, b, d =>
   if m - a = 1 then wo (fM (fun h => lt d[h]! d[a]!) m b - 1) a d
   else if b - m = 1 then wu (fM (fun h => !lt d[m]! d[h]!) a m) m d
   else
    let mid := (a + b) / 2
    let s := tO lt a m b d
    let e := mid + m - s
    let d1 := if s < m ∧ m < e then mX m (m - s) (e - m) d else d
    let d2 := if a < s ∧ s < mid then symF lt f a s mid d1 else d1
    if mid < e ∧ e < b then symF lt f mid e b d2 else d2
def nZ (lt : α → α → Bool) (n a : Nat) (d : Array α) : Array α :=
 if a + 20 ≤ n then nZ lt n (a + 20) (insertionSort lt d a (a + 20)) else insertionSort lt d a n
termination_by n - a
def mM (lt : α → α → Bool) (s n a : Nat) (d : Array α) : Array α :=
 if 0 < s ∧ a + 2 * s ≤ n then mM lt s n (a + 2 * s) (symF lt (2 * s) a (a + s) (a + 2 * s) d)
 else if a + s < n then symF lt (n - a) a (a + s) n d else d
termination_by n - a
def qf (lt : α → α → Bool) (n s : Nat) (d : Array α) : Array α := if 0 < s ∧ s < n then qf lt n (2 * s) (mM lt s n 0 d) else d
termination_by n - s
def xH (lt : α → α → Bool) (d : Array α) : Array α := qf lt d.size 20 (nZ lt d.size 0 d)
theorem FK {a b n i : Nat} {d : Array α} (h : i < n) : oC a b n i d = oC a b n (i + 1) (swp d (a + i) (b + i)) := by rw [oC, if_pos h]
theorem yn {a b n i : Nat} {d : Array α} (h : ¬ i < n) : oC a b n i d = d := by rw [oC, if_neg h]
theorem qR {f : Nat → Bool} {i j : Nat} (h : i < j) (hf : f ((i + j) / 2) = true) : fM f i j = fM f ((i + j) / 2 + 1) j := by rw [fM, if_pos h, if_pos hf]
theorem uZ {f : Nat → Bool} {i j : Nat} (h : i < j) (hf : f ((i + j) / 2) = false) : fM f i j = fM f i ((i + j) / 2) := by rw [fM, if_pos h, if_neg (by rw [hf]; decide)]
theorem lF {f : Nat → Bool} {i j : Nat} (h : ¬ i < j) : fM f i j = i := by rw [fM, if_neg h]
theorem Mq {e k : Nat} {d : Array α} (h : k < e) : wo e k d = wo e (k + 1) (swp d k (k + 1)) := by rw [wo, if_pos h]
theorem DW {e k : Nat} {d : Array α} (h : ¬ k < e) : wo e k d = d := by rw [wo, if_neg h]
theorem Mr {i k : Nat} {d : Array α} (h : i < k) : wu i k d = wu i (k - 1) (swp d k (k - 1)) := by rw [wu, if_pos h]
theorem DX {i k : Nat} {d : Array α} (h : ¬ i < k) : wu i k d = d := by rw [wu, if_neg h]
theorem qU (a b n : Nat) : ∀ (t i : Nat) (d : Array α), n - i = t → i ≤ n → a + n ≤ b → b + n ≤ d.size →
 (oC a b n i d).size = d.size ∧ (∀ k, (oC a b n i d)[k]! = if a + i ≤ k ∧ k < a + n then d[k + (b - a)]! else if b + i ≤ k ∧ k < b + n then d[k - (b - a)]! else d[k]!) := by
 intro t
 induction t with
 | zero =>
   intro i d ht hi hab hb
   rw [yn (by omega)]
   exact ⟨rfl, fun k => by rw [if_neg (by omega), if_neg (by omega)]⟩
 | succ t ih =>
   intro i d ht hi hab hb
   rw [FK (by omega)]
   obtain ⟨h1, h2⟩ := ih (i + 1) (swp d (a + i) (b + i)) (by omega) (by omega) hab (by rw [swp_size]; exact hb)
   refine ⟨by rw [h1, swp_size], fun k => ?_⟩
   rw [h2 k]
   simp only [swp_get d (show a + i < d.size by omega) (show b + i < d.size by omega)]
   by_cases c1 : k = a + i
   ·subst c1
    rw [if_neg (by omega), if_neg (by omega), if_neg (by omega), if_pos rfl, if_pos (by omega)]
    congr 1; omega
   ·by_cases c2 : k = b + i
    ·subst c2
     rw [if_neg (by omega), if_neg (by omega), if_pos rfl, if_neg (by omega), if_pos (by omega)]
     congr 1; omega
    ·by_cases c3 : a + (i + 1) ≤ k ∧ k < a + n
     ·rw [if_pos c3, if_neg (by omega), if_neg (by omega), if_pos (by omega)]
     ·rw [if_neg c3]
      by_cases c4 : b + (i + 1) ≤ k ∧ k < b + n
      ·rw [if_pos c4, if_neg (by omega), if_neg (by omega), if_neg (by omega), if_pos (by omega)]
      ·rw [if_neg c4, if_neg c2, if_neg c1, if_neg (by omega), if_neg (by omega)]
theorem yo (a b n lo hi : Nat) : ∀ (t i : Nat) (d : Array α), n - i = t → lo ≤ a → a + n ≤ b → b + n ≤ hi → hi ≤ d.size → PermIn lo hi d (oC a b n i d) := by
 intro t
 induction t with
 | zero => intro i d ht h1 h2 h3 h4; rw [yn (by omega)]; exact permIn_refl _ _ _
 | succ t ih =>
   intro i d ht h1 h2 h3 h4
   rw [FK (by omega)]
   refine permIn_trans _ _ _ _ _ (swp_permIn d lo hi (a + i) (b + i) (by omega) (by omega) (by omega) (by omega) h4) ?_
   exact ih (i + 1) _ (by omega) h1 h2 h3 (by rw [swp_size]; exact h4)
theorem Ms {m i : Nat} {d : Array α} : mX m i i d = oC (m - i) m i 0 d := by rw [mX, if_pos (.inl rfl)]
theorem Mt {m i j : Nat} {d : Array α} (h : j < i) (hj : 0 < j) : mX m i j d = mX m (i - j) j (oC (m - i) m j 0 d) := by rw [mX, if_neg (by omega), if_pos h]
theorem Mv {m i j : Nat} {d : Array α} (h : i < j) (hi : 0 < i) : mX m i j d = mX m i (j - i) (oC (m - i) (m + j - i) i 0 d) := by rw [mX, if_neg (by omega), if_neg (by omega)]
theorem yt : ∀ (t m i j : Nat) (d : Array α), i + j ≤ t → 0 < i → 0 < j → i ≤ m → m + j ≤ d.size →
 (mX m i j d).size = d.size ∧ (∀ k, (mX m i j d)[k]! = if m - i ≤ k ∧ k < m - i + j then d[k + i]! else if m - i + j ≤ k ∧ k < m + j then d[k - j]! else d[k]!) ∧ ∀ lo hi, lo ≤ m - i → m + j ≤ hi → hi ≤ d.size → PermIn lo hi d (mX m i j d) := by
 intro t
 induction t with
 | zero => intro m i j d ht hi; omega
 | succ t ih =>
   intro m i j d ht hi hj him Zv
   rcases Nat.lt_trichotomy i j with h | h | h
   ·obtain ⟨s1, s2⟩ := qU (m - i) (m + j - i) i (i - 0) 0 d rfl (Nat.zero_le _) (by omega) (by omega)
    have sp : ∀ lo hi, lo ≤ m - i → m + j ≤ hi → hi ≤ d.size → PermIn lo hi d (oC (m - i) (m + j - i) i 0 d) := fun lo hi h1 h2 h3 => yo (m - i) (m + j - i) i lo hi (i - 0) 0 d rfl h1 (by omega) (by omega) h3
    rw [Mv h hi]
    obtain ⟨r1, r2, r3⟩ := ih m i (j - i) (oC (m - i) (m + j - i) i 0 d) (by omega) hi (by omega) him (by rw [s1]; omega)
    refine ⟨by rw [r1, s1], fun k => ?_, fun lo hi' h1 h2 h3 => permIn_trans _ _ _ _ _ (sp lo hi' h1 h2 h3) (r3 lo hi' h1 (by omega) (by rw [s1]; exact h3))⟩
    rw [r2 k]
    simp only [s2]
    by_cases c1 : m - i ≤ k ∧ k < m - i + (j - i)
    ·rw [if_pos c1, if_neg (by omega), if_neg (by omega), if_pos (by omega)]
    ·rw [if_neg c1]
     by_cases c2 : m - i + (j - i) ≤ k ∧ k < m + (j - i)
     ·rw [if_pos c2, if_pos (by omega), if_pos (by omega)]
      congr 1; omega
     ·rw [if_neg c2]
      by_cases c3 : m - i + j ≤ k ∧ k < m + j
      ·rw [if_neg (by omega), if_pos (by omega), if_neg (by omega), if_pos c3]
       congr 1; omega
      ·rw [if_neg (by omega), if_neg (by omega), if_neg (by omega), if_neg c3]
   ·subst h
    rw [Ms]
    obtain ⟨s1, s2⟩ := qU (m - i) m i (i - 0) 0 d rfl (Nat.zero_le _) (by omega) (by omega)
    refine ⟨s1, fun k => ?_, fun lo hi' h1 h2 h3 => yo (m - i) m i lo hi' (i - 0) 0 d rfl h1 (by omega) h2 h3⟩
    rw [s2 k]
    by_cases c1 : m - i ≤ k ∧ k < m - i + i
    ·rw [if_pos (by omega), if_pos c1]; congr 1; omega
    ·rw [if_neg (by omega), if_neg c1]
     by_cases c2 : m - i + i ≤ k ∧ k < m + i
     ·rw [if_pos (by omega), if_pos c2]; congr 1; omega
     ·rw [if_neg (by omega), if_neg c2]
   ·obtain ⟨s1, s2⟩ := qU (m - i) m j (j - 0) 0 d rfl (Nat.zero_le _) (by omega) (by omega)
    have sp : ∀ lo hi, lo ≤ m - i → m + j ≤ hi → hi ≤ d.size → PermIn lo hi d (oC (m - i) m j 0 d) := fun lo hi h1 h2 h3 => yo (m - i) m j lo hi (j - 0) 0 d rfl h1 (by omega) h2 h3
    rw [Mt h hj]
    obtain ⟨r1, r2, r3⟩ := ih m (i - j) j (oC (m - i) m j 0 d) (by omega) (by omega) hj (by omega) (by rw [s1]; omega)
    refine ⟨by rw [r1, s1], fun k => ?_, fun lo hi' h1 h2 h3 => permIn_trans _ _ _ _ _ (sp lo hi' h1 h2 h3) (r3 lo hi' (by omega) h2 (by rw [s1]; exact h3))⟩
    rw [r2 k]
    simp only [s2]
    by_cases c0 : m - i ≤ k ∧ k < m - i + j
    ·rw [if_neg (by omega), if_neg (by omega), if_pos (by omega), if_pos c0]
     congr 1; omega
    ·rw [if_neg c0]
     by_cases c1 : m - (i - j) ≤ k ∧ k < m - (i - j) + j
     ·rw [if_pos c1, if_neg (by omega), if_pos (by omega), if_pos (by omega)]
      congr 1; omega
     ·rw [if_neg c1]
      by_cases c2 : m - (i - j) + j ≤ k ∧ k < m + j
      ·rw [if_pos c2, if_neg (by omega), if_neg (by omega), if_pos (by omega)]
      ·rw [if_neg c2, if_neg (by omega), if_neg (by omega), if_neg (by omega)]
theorem yu (f : Nat → Bool) : ∀ (t i j : Nat), j - i ≤ t → i ≤ j → (∀ x y, i ≤ x → x ≤ y → y < j → f y = true → f x = true) →
 i ≤ fM f i j ∧ fM f i j ≤ j ∧ (∀ x, i ≤ x → x < fM f i j → f x = true) ∧ ∀ x, fM f i j ≤ x → x < j → f x = false := by
 intro t
 induction t with
 | zero =>
   intro i j ht hij hm
   rw [lF (by omega)]
   exact ⟨Nat.le_refl _, hij, fun x h1 h2 => by omega, fun x h1 h2 => by omega⟩
 | succ t ih =>
   intro i j ht hij hm
   by_cases h : i < j
   ·cases hf : f ((i + j) / 2) with
    | true =>
      rw [qR h hf]
      obtain ⟨h1, h2, h3, h4⟩ := ih ((i + j) / 2 + 1) j (by omega) (by omega) (fun x y a b c => hm x y (by omega) b c)
      refine ⟨by omega, h2, fun x h5 h6 => ?_, h4⟩
      by_cases h7 : x ≤ (i + j) / 2
      ·exact hm x _ h5 h7 (by omega) hf
      ·exact h3 x (by omega) h6
    | false =>
      rw [uZ h hf]
      obtain ⟨h1, h2, h3, h4⟩ := ih i ((i + j) / 2) (by omega) (by omega) (fun x y a b c => hm x y a b (by omega))
      refine ⟨h1, by omega, h3, fun x h5 h6 => ?_⟩
      by_cases h7 : x < (i + j) / 2
      ·exact h4 x h5 h7
      ·cases hx : f x with
       | false => rfl
       | true =>
         have := hm ((i + j) / 2) x (by omega) (by omega) h6 hx
         rw [hf] at this; cases this
   ·rw [lF h]
    exact ⟨Nat.le_refl _, hij, fun x h1 h2 => by omega, fun x h1 h2 => by omega⟩
theorem DY (e : Nat) : ∀ (t k : Nat) (d : Array α), e - k = t → k ≤ e → e < d.size →
 (wo e k d).size = d.size ∧ (∀ x, (wo e k d)[x]! = if k ≤ x ∧ x < e then d[x + 1]! else if x = e then d[k]! else d[x]!) ∧ ∀ lo hi, lo ≤ k → e < hi → hi ≤ d.size → PermIn lo hi d (wo e k d) := by
 intro t
 induction t with
 | zero =>
   intro k d ht hk he
   rw [DW (by omega)]
   refine ⟨rfl, fun x => ?_, fun _ _ _ _ _ => permIn_refl _ _ _⟩
   rw [if_neg (by omega)]
   by_cases c : x = e
   ·rw [if_pos c, c]; congr 1; omega
   ·rw [if_neg c]
 | succ t ih =>
   intro k d ht hk he
   rw [Mq (by omega)]
   obtain ⟨h1, h2, h3⟩ := ih (k + 1) (swp d k (k + 1)) (by omega) (by omega) (by rw [swp_size]; exact he)
   refine ⟨by rw [h1, swp_size], fun x => ?_, fun lo hi a b c => permIn_trans _ _ _ _ _ (swp_permIn d lo hi k (k + 1) a (by omega) (by omega) (by omega) c) (h3 lo hi (by omega) b (by rw [swp_size]; exact c))⟩
   rw [h2 x]
   simp only [swp_get d (show k < d.size by omega) (show k + 1 < d.size by omega)]
   by_cases c1 : k + 1 ≤ x ∧ x < e
   ·rw [if_pos c1, if_neg (by omega), if_neg (by omega), if_pos (by omega)]
   ·rw [if_neg c1]
    by_cases c2 : x = e
    ·rw [if_pos c2, if_pos trivial, if_neg (by omega), if_pos c2]
    ·rw [if_neg c2]
     by_cases c3 : x = k
     ·rw [if_neg (by omega), if_pos c3, if_pos (by omega), c3]
     ·rw [if_neg (by omega), if_neg c3, if_neg (by omega), if_neg c2]
theorem DZ (i : Nat) : ∀ (t k : Nat) (d : Array α), k - i = t → i ≤ k → k < d.size →
 (wu i k d).size = d.size ∧ (∀ x, (wu i k d)[x]! = if i < x ∧ x ≤ k then d[x - 1]! else if x = i then d[k]! else d[x]!) ∧ ∀ lo hi, lo ≤ i → k < hi → hi ≤ d.size → PermIn lo hi d (wu i k d) := by
 intro t
 induction t with
 | zero =>
   intro k d ht hk he
   rw [DX (by omega)]
   refine ⟨rfl, fun x => ?_, fun _ _ _ _ _ => permIn_refl _ _ _⟩
   rw [if_neg (by omega)]
   by_cases c : x = i
   ·rw [if_pos c, c]; congr 1; omega
   ·rw [if_neg c]
 | succ t ih =>
   intro k d ht hk he
   rw [Mr (by omega)]
   obtain ⟨h1, h2, h3⟩ := ih (k - 1) (swp d k (k - 1)) (by omega) (by omega) (by rw [swp_size]; omega)
   refine ⟨by rw [h1, swp_size], fun x => ?_, fun lo hi a b c => permIn_trans _ _ _ _ _ (swp_permIn d lo hi k (k - 1) (by omega) b (by omega) (by omega) c) (h3 lo hi a (by omega) (by rw [swp_size]; exact c))⟩
   rw [h2 x]
   simp only [swp_get d (show k < d.size by omega) (show k - 1 < d.size by omega)]
   by_cases c1 : i < x ∧ x ≤ k - 1
   ·rw [if_pos c1, if_neg (by omega), if_neg (by omega), if_pos (by omega)]
   ·rw [if_neg c1]
    by_cases c2 : x = i
    ·rw [if_pos c2, if_pos trivial, if_neg (by omega), if_pos c2]
    ·rw [if_neg c2]
     by_cases c3 : x = k
     ·rw [if_neg (by omega), if_pos c3, if_pos (by omega), c3]
     ·rw [if_neg (by omega), if_neg c3, if_neg (by omega), if_neg c2]
end Sb
end Go.Proofs.YtelnhablglomjaaGreat

namespace Go.Proofs.YtelnhablglomjaaGreat
namespace Sb
open Go.Sort
variable {α : Type} {lt : α → α → Bool} {tg : α → Nat}
def R (lt : α → α → Bool) (tg : α → Nat) (x y : α) : Prop := lt x y = true ∨ (lt y x = false ∧ tg x < tg y)
theorem R.trans (hS : SWO lt) {x y z : α} (h : R lt tg x y) (h' : R lt tg y z) : R lt tg x z := by
 rcases h with h | ⟨h, ht⟩ <;> rcases h' with h' | ⟨h', ht'⟩
 ·exact .inl (hS.trans _ _ _ h h')
 ·left
  cases hx : lt x z with
  | true => rfl
  | false => have := hS.ntrans _ _ _ hx h'; rw [h] at this; cases this
 ·left
  cases hx : lt x z with
  | true => rfl
  | false => have := hS.ntrans _ _ _ h hx; rw [h'] at this; cases this
 ·exact .inr ⟨hS.ntrans _ _ _ h' h, by omega⟩
theorem tQ {x y : α} (h : lt x y = true) : R lt tg x y := .inl h
theorem Vw {x y : α} (ht : tg x < tg y) (h : R lt tg y x) : lt y x = true := by
 rcases h with h | ⟨_, h⟩
 ·exact h
 ·omega
theorem UF (hS : SWO lt) {x y : α} (h : R lt tg x y) : lt y x = false := by
 rcases h with h | ⟨h, _⟩
 ·exact hS.asymmA h
 ·exact h
theorem qV {x y : α} (ht : tg x < tg y) (h : lt y x = false) : R lt tg x y := .inr ⟨h, ht⟩
variable [Inhabited α]
def Sr (lt : α → α → Bool) (tg : α → Nat) (a b : Nat) (d : Array α) : Prop := ∀ i j, a ≤ i → i < j → j < b → R lt tg d[i]! d[j]!
theorem Sr.sub {a b a' b' : Nat} {d : Array α} (h : Sr lt tg a b d) (h1 : a ≤ a') (h2 : b' ≤ b) : Sr lt tg a' b' d := fun i j x y z => h i j (by omega) y (by omega)
theorem Sr.le (hS : SWO lt) {a b : Nat} {d : Array α} (h : Sr lt tg a b d) {x y : Nat} {z : α} (hx : a ≤ x) (hxy : x ≤ y) (hy : y < b) (hr : R lt tg d[y]! z) : R lt tg d[x]! z := by
 rcases Nat.lt_or_ge x y with h1 | h1
 ·exact (h x y hx h1 hy).trans hS hr
 ·obtain rfl : x = y := by omega
  exact hr
theorem Sr.ge (hS : SWO lt) {a b : Nat} {d : Array α} (h : Sr lt tg a b d) {x y : Nat} {z : α} (hx : a ≤ x) (hxy : x ≤ y) (hy : y < b) (hr : R lt tg z d[x]!) : R lt tg z d[y]! := by
 rcases Nat.lt_or_ge x y with h1 | h1
 ·exact hr.trans hS (h x y hx h1 hy)
 ·obtain rfl : x = y := by omega
  exact hr
structure Pre (lt : α → α → Bool) (tg : α → Nat) (a m b : Nat) (d : Array α) : Prop where
 am : a < m
 mb : m < b
 bs : b ≤ d.size
 l : Sr lt tg a m d
 r : Sr lt tg m b d
 t : ∀ i j, a ≤ i → i < m → m ≤ j → j < b → tg d[i]! < tg d[j]!
theorem Nz (hS : SWO lt) {a m b : Nat} {d : Array α} (p : Pre lt tg a m b d) (h1 : m - a = 1) :
 Sr lt tg a b (wo (fM (fun h => lt d[h]! d[a]!) m b - 1) a d) ∧ PermIn a b d (wo (fM (fun h => lt d[h]! d[a]!) m b - 1) a d) := by
 have am := p.am; have mb := p.mb; have bs := p.bs
 obtain ⟨s1, s2, s3, s4⟩ := yu (fun h => lt d[h]! d[a]!) (b - m) m b (Nat.le_refl _) (by omega) (fun x y hx hxy hy hf => by
  refine Vw (p.t a x (by omega) am hx (by omega)) (p.r.le hS hx hxy hy ?_)
  exact tQ hf)
 generalize fM (fun h => lt d[h]! d[a]!) m b = s at *
 obtain ⟨u1, u2, u3⟩ := DY (s - 1) (s - 1 - a) a d rfl (by omega) (by omega)
 refine ⟨fun i j hi hij hj => ?_, u3 a b (Nat.le_refl _) (by omega) bs⟩
 rw [u2 i, u2 j]
 have D5 : ∀ h, m ≤ h → h < s → R lt tg d[h]! d[a]! := fun h h2 h3 => tQ (s3 h h2 h3)
 have hno : ∀ h, s ≤ h → h < b → R lt tg d[a]! d[h]! := fun h h2 h3 => qV (p.t a h (by omega) am (by omega) h3) (s4 h h2 h3)
 by_cases c1 : j < s - 1
 ·rw [if_pos (by omega), if_pos (by omega)]
  exact p.r (i + 1) (j + 1) (by omega) (by omega) (by omega)
 ·by_cases c2 : j = s - 1
  ·rw [if_pos (by omega), if_neg (by omega), if_pos c2]
   exact D5 (i + 1) (by omega) (by omega)
  ·rw [if_neg (show ¬ (a ≤ j ∧ j < s - 1) by omega), if_neg c2]
   by_cases c3 : i < s - 1
   ·rw [if_pos (by omega)]
    exact p.r (i + 1) j (by omega) (by omega) hj
   ·rw [if_neg (by omega)]
    by_cases c4 : i = s - 1
    ·rw [if_pos c4]; exact hno j (by omega) hj
    ·rw [if_neg c4]; exact p.r i j (by omega) hij hj
theorem Kg (hS : SWO lt) {a m b : Nat} {d : Array α} (p : Pre lt tg a m b d) (h1 : b - m = 1) :
 Sr lt tg a b (wu (fM (fun h => !lt d[m]! d[h]!) a m) m d) ∧ PermIn a b d (wu (fM (fun h => !lt d[m]! d[h]!) a m) m d) := by
 have am := p.am; have mb := p.mb; have bs := p.bs
 obtain ⟨s1, s2, s3, s4⟩ := yu (fun h => !lt d[m]! d[h]!) (m - a) a m (Nat.le_refl _) (by omega) (fun x y hx hxy hy hf => by
  have h2 : R lt tg d[y]! d[m]! := qV (p.t y m (by omega) hy (Nat.le_refl _) mb) (by simpa using hf)
  have h3 := UF hS (p.l.le hS hx hxy hy h2)
  simp [h3])
 generalize fM (fun h => !lt d[m]! d[h]!) a m = s at *
 obtain ⟨u1, u2, u3⟩ := DZ s (m - s) m d rfl (by omega) (by omega)
 refine ⟨fun i j hi hij hj => ?_, u3 a b (by omega) mb bs⟩
 rw [u2 i, u2 j]
 have D5 : ∀ h, a ≤ h → h < s → R lt tg d[h]! d[m]! := fun h h2 h3 => qV (p.t h m h2 (by omega) (Nat.le_refl _) mb) (by simpa using s3 h h2 h3)
 have hno : ∀ h, s ≤ h → h < m → R lt tg d[m]! d[h]! := fun h h2 h3 => tQ (by simpa using s4 h h2 h3)
 by_cases c1 : j < s
 ·rw [if_neg (by omega), if_neg (by omega), if_neg (by omega), if_neg (by omega)]
  exact p.l i j hi hij (by omega)
 ·by_cases c2 : j = s
  ·rw [if_neg (by omega), if_neg (by omega), if_neg (by omega), if_pos c2]
   exact D5 i hi (by omega)
  ·rw [if_pos (show s < j ∧ j ≤ m by omega)]
   by_cases c3 : i < s
   ·rw [if_neg (by omega), if_neg (by omega)]
    exact p.l i (j - 1) hi (by omega) (by omega)
   ·by_cases c4 : i = s
    ·rw [if_neg (by omega), if_pos c4]; exact hno (j - 1) (by omega) (by omega)
    ·rw [if_pos (by omega)]; exact p.l (i - 1) (j - 1) (by omega) (by omega) (by omega)
theorem NA (hS : SWO lt) {a m b : Nat} {d : Array α} (p : Pre lt tg a m b d) :
 ∃ s, s = tO lt a m b d ∧ a ≤ s ∧ s ≤ m ∧ s ≤ (a + b) / 2 ∧ (a + b) / 2 + m - s ≤ b ∧ m ≤ (a + b) / 2 + m - s ∧
  (∀ x y, a ≤ x → x < s → (a + b) / 2 + m - s ≤ y → y < b → R lt tg d[x]! d[y]!) ∧ (∀ x y, m ≤ x → x < (a + b) / 2 + m - s → s ≤ y → y < m → R lt tg d[x]! d[y]!) := by
 have am := p.am; have mb := p.mb; have bs := p.bs
 obtain ⟨mid, hmid⟩ : ∃ mid, mid = (a + b) / 2 := ⟨_, rfl⟩
 have key : ∀ lo hi, a ≤ lo → lo ≤ hi → hi ≤ m → hi ≤ mid → mid + m - b ≤ lo → (lo = a ∨ mid + m - lo = b) → (hi = m ∨ hi = mid) →
  ∃ s, s = fM (fun c => !lt d[mid + m - 1 - c]! d[c]!) lo hi ∧ a ≤ s ∧ s ≤ m ∧ s ≤ mid ∧ mid + m - s ≤ b ∧ m ≤ mid + m - s ∧
  (∀ x y, a ≤ x → x < s → mid + m - s ≤ y → y < b → R lt tg d[x]! d[y]!) ∧ (∀ x y, m ≤ x → x < mid + m - s → s ≤ y → y < m → R lt tg d[x]! d[y]!) := by
  intro lo hi h1 h2 h3 h4 h5 h6 h7
  have hR : ∀ c, lo ≤ c → c < hi → tg d[c]! < tg d[mid + m - 1 - c]! := fun c c1 c2 => p.t c (mid + m - 1 - c) (by omega) (by omega) (by omega) (by omega)
  obtain ⟨s1, s2, s3, s4⟩ := yu (fun c => !lt d[mid + m - 1 - c]! d[c]!) (hi - lo) lo hi (Nat.le_refl _) h2 (fun x y hx hxy hy hf => by
   have h8 : R lt tg d[y]! d[mid + m - 1 - y]! := qV (hR y (by omega) hy) (by simpa using hf)
   have h9 : R lt tg d[y]! d[mid + m - 1 - x]! := p.r.ge hS (by omega) (by omega) (by omega) h8
   have h10 := UF hS (p.l.le hS (by omega) hxy (by omega) h9)
   simp [h10])
  generalize fM (fun c => !lt d[mid + m - 1 - c]! d[c]!) lo hi = s at *
  refine ⟨s, rfl, by omega, by omega, by omega, by omega, by omega, fun x y hx hxs hy hyb => ?_, fun x y hx hxe hy hym => ?_⟩
  ·have Zc : lo < s := by omega
   have h8 : R lt tg d[s - 1]! d[mid + m - 1 - (s - 1)]! := qV (hR (s - 1) (by omega) (by omega)) (by simpa using s3 (s - 1) (by omega) (by omega))
   exact p.l.le hS hx (by omega) (by omega) (p.r.ge hS (by omega) (by omega) hyb h8)
  ·have Wy : s < hi := by omega
   have h8 : R lt tg d[mid + m - 1 - s]! d[s]! := tQ (by simpa using s4 s (Nat.le_refl _) Wy)
   exact p.r.le hS hx (by omega) (by omega) (p.l.ge hS (by omega) hy hym h8)
 unfold tO
 rw [← hmid]
 by_cases c : mid < m
 ·rw [if_pos c]
  exact key (mid + m - b) mid (by omega) (by omega) (by omega) (Nat.le_refl _) (Nat.le_refl _) (by omega) (.inr rfl)
 ·rw [if_neg c]
  exact key a m (Nat.le_refl _) (by omega) (Nat.le_refl _) (by omega) (by omega) (.inl rfl) (.inl rfl)
theorem NB (hS : SWO lt) : ∀ (f a m b : Nat) (d : Array α), b - a ≤ f → Pre lt tg a m b d → Sr lt tg a b (symF lt f a m b d) ∧ PermIn a b d (symF lt f a m b d) := by
 intro f
 induction f with
 | zero => intro a m b d hf p; have := p.am; have := p.mb; omega
 | succ f ih =>
   intro a m b d hf p
   have am := p.am; have mb := p.mb; have bs := p.bs
   unfold symF
   by_cases c1 : m - a = 1
   ·rw [if_pos c1]; exact Nz hS p c1
   ·rw [if_neg c1]
    by_cases c2 : b - m = 1
    ·rw [if_pos c2]; exact Kg hS p c2
    ·rw [if_neg c2]
     obtain ⟨s, hs, has, sm, sd, eb, me, hx1, hx2⟩ := NA hS p
     simp only [← hs]
     obtain ⟨mid, hmid⟩ : ∃ mid, mid = (a + b) / 2 := ⟨_, rfl⟩
     rw [← hmid] at sd eb me hx1 hx2
     simp only [← hmid]
     obtain ⟨e, he⟩ : ∃ e, e = mid + m - s := ⟨_, rfl⟩
     rw [← he] at eb me hx1 hx2
     simp only [← he]
     clear hs
     obtain ⟨d1, hd1⟩ : ∃ d1, d1 = if s < m ∧ m < e then mX m (m - s) (e - m) d else d := ⟨_, rfl⟩
     rw [← hd1]
     have Wz : d1.size = d.size ∧ (∀ k, d1[k]! = if s ≤ k ∧ k < mid then d[k + (m - s)]! else if mid ≤ k ∧ k < e then d[k - (e - m)]! else d[k]!) ∧ PermIn a b d d1 := by
      by_cases c3 : s < m ∧ m < e
      ·rw [if_pos c3] at hd1
       obtain ⟨r1, r2, r3⟩ := yt (m - s + (e - m)) m (m - s) (e - m) d (Nat.le_refl _) (by omega) (by omega) (by omega) (by omega)
       rw [hd1]
       refine ⟨r1, fun k => ?_, r3 a b (by omega) (by omega) bs⟩
       rw [r2 k, show m - (m - s) = s by omega, show s + (e - m) = mid by omega, show m + (e - m) = e by omega]
      ·rw [if_neg c3] at hd1
       rw [hd1]
       refine ⟨rfl, fun k => ?_, permIn_refl _ _ _⟩
       by_cases c4 : s ≤ k ∧ k < mid
       ·rw [if_pos c4, show m - s = 0 by omega, Nat.add_zero]
       ·rw [if_neg c4]
        by_cases c5 : mid ≤ k ∧ k < e
        ·rw [if_pos c5, show e - m = 0 by omega, Nat.sub_zero]
        ·rw [if_neg c5]
     clear hd1
     obtain ⟨z1, g1, q1⟩ := Wz
     have v1 : ∀ k, a ≤ k → k < s → d1[k]! = d[k]! := fun k h1 h2 => by rw [g1 k, if_neg (by omega), if_neg (by omega)]
     have v2 : ∀ k, s ≤ k → k < mid → d1[k]! = d[k + (m - s)]! := fun k h1 h2 => by rw [g1 k, if_pos ⟨h1, h2⟩]
     have v3 : ∀ k, mid ≤ k → k < e → d1[k]! = d[k - (e - m)]! := fun k h1 h2 => by rw [g1 k, if_neg (by omega), if_pos ⟨h1, h2⟩]
     have v4 : ∀ k, e ≤ k → d1[k]! = d[k]! := fun k h1 => by rw [g1 k, if_neg (by omega), if_neg (by omega)]
     have o1 : Sr lt tg a s d1 := fun i j h1 h2 h3 => by rw [v1 i h1 (by omega), v1 j (by omega) h3]; exact p.l i j h1 h2 (by omega)
     have o2 : Sr lt tg s mid d1 := fun i j h1 h2 h3 => by rw [v2 i h1 (by omega), v2 j (by omega) h3]; exact p.r _ _ (by omega) (by omega) (by omega)
     have o3 : Sr lt tg mid e d1 := fun i j h1 h2 h3 => by rw [v3 i h1 (by omega), v3 j (by omega) h3]; exact p.l _ _ (by omega) (by omega) (by omega)
     have o4 : Sr lt tg e b d1 := fun i j h1 h2 h3 => by rw [v4 i h1, v4 j (by omega)]; exact p.r i j (by omega) h2 h3
     have cross : ∀ x y, a ≤ x → x < mid → mid ≤ y → y < b → R lt tg d1[x]! d1[y]! := fun x y h1 h2 h3 h4 => by
      by_cases c5 : x < s
      ·rw [v1 x h1 c5]
       by_cases c6 : y < e
       ·rw [v3 y h3 c6]; exact p.l _ _ h1 (by omega) (by omega)
       ·rw [v4 y (by omega)]; exact hx1 x y h1 c5 (by omega) h4
      ·rw [v2 x (by omega) h2]
       by_cases c6 : y < e
       ·rw [v3 y h3 c6]; exact hx2 _ _ (by omega) (by omega) (by omega) (by omega)
       ·rw [v4 y (by omega)]; exact p.r _ _ (by omega) (by omega) h4
     obtain ⟨d2, hd2⟩ : ∃ d2, d2 = if a < s ∧ s < mid then symF lt f a s mid d1 else d1 := ⟨_, rfl⟩
     rw [← hd2]
     have hp2 : Sr lt tg a mid d2 ∧ PermIn a mid d1 d2 := by
      by_cases c3 : a < s ∧ s < mid
      ·rw [if_pos c3] at hd2
       rw [hd2]
       refine ih a s mid d1 (by omega) ⟨c3.1, c3.2, by omega, o1, o2, fun i j h1 h2 h3 h4 => ?_⟩
       rw [v1 i h1 h2, v2 j h3 h4]
       exact p.t _ _ h1 (by omega) (by omega) (by omega)
      ·rw [if_neg c3] at hd2
       rw [hd2]
       refine ⟨?_, permIn_refl _ _ _⟩
       by_cases c4 : a < s
       ·exact o1.sub (Nat.le_refl _) (by omega)
       ·exact o2.sub (by omega) (Nat.le_refl _)
     clear hd2
     obtain ⟨o5, q2⟩ := hp2
     have w2 : ∀ k, mid ≤ k → d2[k]! = d1[k]! := fun k h1 => q2.2.1 k (.inr h1)
     obtain ⟨d3, hd3⟩ : ∃ d3, d3 = if mid < e ∧ e < b then symF lt f mid e b d2 else d2 := ⟨_, rfl⟩
     rw [← hd3]
     have hp3 : Sr lt tg mid b d3 ∧ PermIn mid b d2 d3 := by
      have WA : Sr lt tg mid e d2 := fun i j h1 h2 h3 => by rw [w2 i h1, w2 j (by omega)]; exact o3 i j h1 h2 h3
      have WB : Sr lt tg e b d2 := fun i j h1 h2 h3 => by rw [w2 i (by omega), w2 j (by omega)]; exact o4 i j h1 h2 h3
      by_cases c3 : mid < e ∧ e < b
      ·rw [if_pos c3] at hd3
       rw [hd3]
       refine ih mid e b d2 (by omega) ⟨c3.1, c3.2, by rw [q2.1, z1]; exact bs, WA, WB, fun i j h1 h2 h3 h4 => ?_⟩
       rw [w2 i h1, w2 j (by omega), v3 i h1 h2, v4 j h3]
       exact p.t _ _ (by omega) (by omega) (by omega) h4
      ·rw [if_neg c3] at hd3
       rw [hd3]
       refine ⟨?_, permIn_refl _ _ _⟩
       by_cases c4 : mid < e
       ·exact WA.sub (Nat.le_refl _) (by omega)
       ·exact WB.sub (by omega) (Nat.le_refl _)
     clear hd3
     obtain ⟨o6, q3⟩ := hp3
     have w3 : ∀ k, k < mid → d3[k]! = d2[k]! := fun k h1 => q3.2.1 k (.inl h1)
     have x1 : ∀ x, a ≤ x → x < mid → ∀ y, mid ≤ y → y < b → R lt tg d2[x]! d1[y]! :=
      permIn_all d1 d2 a mid (fun u => ∀ y, mid ≤ y → y < b → R lt tg u d1[y]!) (by omega) q2 (fun x h1 h2 y h3 h4 => cross x y h1 h2 h3 h4)
     have x2 : ∀ y, mid ≤ y → y < b → ∀ x, a ≤ x → x < mid → R lt tg d2[x]! d3[y]! :=
      permIn_all d2 d3 mid b (fun v => ∀ x, a ≤ x → x < mid → R lt tg d2[x]! v) (by rw [q2.1, z1]; exact bs) q3 (fun y h3 h4 x h1 h2 => by rw [w2 y h3]; exact x1 x h1 h2 y h3 h4)
     refine ⟨fun i j h1 h2 h3 => ?_, ?_⟩
     ·by_cases c5 : j < mid
      ·rw [w3 i (by omega), w3 j c5]; exact o5 i j h1 h2 c5
      ·by_cases c6 : i < mid
       ·rw [w3 i c6]; exact x2 j (by omega) h3 i h1 c6
       ·exact o6 i j (by omega) h2 h3
     ·refine permIn_trans _ _ _ _ _ q1 (permIn_trans _ _ _ _ _ (permIn_mono d1 d2 a mid a b (Nat.le_refl _) (by omega) (by omega) q2) (permIn_mono d2 d3 mid b a b (by omega) (Nat.le_refl _) (by rw [q2.1, z1]; exact bs) q3))
end Sb
end Go.Proofs.YtelnhablglomjaaGreat

namespace Go.Proofs.YtelnhablglomjaaGreat
namespace Sb
open Go.Sort
variable {α : Type} [Inhabited α] {lt : α → α → Bool} {tg : α → Nat}
structure In (lt : α → α → Bool) (tg : α → Nat) (a j i : Nat) (d : Array α) : Prop where
 o : ∀ x y, a ≤ x → x < y → y ≤ i → x ≠ j → y ≠ j → R lt tg d[x]! d[y]!
 g : ∀ y, j < y → y ≤ i → R lt tg d[j]! d[y]!
 t : ∀ x, a ≤ x → x < j → tg d[x]! < tg d[j]!
theorem HV (hS : SWO lt) (a i : Nat) : ∀ (j : Nat) (d : Array α), a ≤ j → j ≤ i → i < d.size → In lt tg a j i d → Sr lt tg a (i + 1) (insInner lt a j d) ∧ PermIn a (i + 1) d (insInner lt a j d) := by
 intro j
 induction j with
 | zero =>
   intro d haj hji hi h
   rw [insInner_stop lt a 0 d (.inl (by omega))]
   refine ⟨fun x y h1 h2 h3 => ?_, permIn_refl _ _ _⟩
   by_cases c : x = 0
   ·subst c; exact h.g y h2 (by omega)
   ·exact h.o x y h1 h2 (by omega) c (by omega)
 | succ j ih =>
   intro d haj hji hi h
   by_cases hs : j + 1 ≤ a ∨ lt d[j + 1]! d[j]! = false
   ·rw [insInner_stop lt a (j + 1) d (by simpa using hs)]
    refine ⟨fun x y h1 h2 h3 => ?_, permIn_refl _ _ _⟩
    by_cases c : x = j + 1
    ·subst c; exact h.g y h2 (by omega)
    ·by_cases c2 : y = j + 1
     ·subst c2
      have hn : lt d[j + 1]! d[j]! = false := by
       rcases hs with hs | hs
       ·omega
       ·exact hs
      have h4 : R lt tg d[j]! d[j + 1]! := qV (h.t j (by omega) (by omega)) hn
      by_cases c3 : x = j
      ·rw [c3]; exact h4
      ·exact (h.o x j h1 (by omega) (by omega) c (by omega)).trans hS h4
     ·exact h.o x y h1 h2 (by omega) c c2
   ·have hja : a < j + 1 := by omega
    have hl : lt d[j + 1]! d[j]! = true := by
     cases hx : lt d[j + 1]! d[j]! with
     | true => rfl
     | false => exact absurd (.inr hx) hs
    rw [insInner_go lt a (j + 1) d hja hl, Nat.add_sub_cancel]
    have gt := fun k => swp_get d (show j + 1 < d.size by omega) (show j < d.size by omega) k
    have h1 := ih (swp d (j + 1) j) (by omega) (by omega) (by rw [swp_size]; exact hi) ⟨fun x y h1 h2 h3 h4 h5 => ?_, fun y h1 h2 => ?_, fun x h1 h2 => ?_⟩
    ·exact ⟨h1.1, permIn_trans _ _ _ _ _ (swp_permIn d a (i + 1) (j + 1) j (by omega) (by omega) (by omega) (by omega) (by omega)) h1.2⟩
    ·rw [gt x, gt y, if_neg h4, if_neg h5]
     by_cases c : y = j + 1
     ·rw [if_neg (by omega), if_pos c]; exact h.o x j h1 (by omega) (by omega) (by omega) (by omega)
     ·rw [if_neg c]
      by_cases c2 : x = j + 1
      ·rw [if_pos c2]; exact h.o j y (by omega) (by omega) h3 (by omega) c
      ·rw [if_neg c2]; exact h.o x y h1 h2 h3 c2 c
    ·rw [gt j, gt y, if_pos rfl, if_neg (by omega)]
     by_cases c : y = j + 1
     ·rw [if_pos c]; exact tQ hl
     ·rw [if_neg c]; exact h.g y (by omega) h2
    ·rw [gt x, gt j, if_pos rfl, if_neg (by omega), if_neg (by omega)]
     exact h.t x h1 (by omega)
theorem HY (hS : SWO lt) (a b : Nat) : ∀ (t i : Nat) (d : Array α), b - i = t → a < i → i ≤ b → b ≤ d.size → Sr lt tg a i d → (∀ x y, a ≤ x → x < y → i ≤ y → y < b → tg d[x]! < tg d[y]!) →
 Sr lt tg a b (insOuter lt a b i d) ∧ PermIn a b d (insOuter lt a b i d) := by
 intro t
 induction t with
 | zero =>
   intro i d ht ha hi hb hs _
   rw [insOuter_stop lt a b i d (by omega)]
   obtain rfl : i = b := by omega
   exact ⟨hs, permIn_refl _ _ _⟩
 | succ t ih =>
   intro i d ht ha hi hb hs tT
   rw [insOuter_go lt a b i d (by omega)]
   obtain ⟨h1, h2⟩ := HV (tg := tg) hS a i i d (by omega) (Nat.le_refl _) (by omega) ⟨fun x y h1 h2 h3 h4 h5 => hs x y h1 h2 (by omega), fun y h1 h2 => by omega, fun x h1 h2 => tT x i h1 h2 (Nat.le_refl _) (by omega)⟩
   have w : ∀ k, i + 1 ≤ k → (insInner lt a i d)[k]! = d[k]! := fun k hk => h2.2.1 k (.inr hk)
   have ha2 : ∀ x, a ≤ x → x < i + 1 → ∀ y, i + 1 ≤ y → y < b → tg (insInner lt a i d)[x]! < tg d[y]! :=
    permIn_all d _ a (i + 1) (fun u => ∀ y, i + 1 ≤ y → y < b → tg u < tg d[y]!) (by omega) h2 (fun x h3 h4 y h5 h6 => tT x y h3 (by omega) (by omega) h6)
   obtain ⟨h3, h4⟩ := ih (i + 1) (insInner lt a i d) (by omega) (by omega) (by omega) (by rw [h2.1]; exact hb) h1 (fun x y h3 h4 h5 h6 => by
    rw [w y h5]
    by_cases c : x < i + 1
    ·exact ha2 x h3 c y h5 h6
    ·rw [w x (by omega)]; exact tT x y h3 h4 (by omega) h6)
   exact ⟨h3, permIn_trans _ _ _ _ _ (permIn_mono d _ a (i + 1) a b (Nat.le_refl _) (by omega) hb h2) h4⟩
theorem yx (hS : SWO lt) {a b : Nat} {d : Array α} (hab : a ≤ b) (hb : b ≤ d.size) (tT : ∀ x y, a ≤ x → x < y → y < b → tg d[x]! < tg d[y]!) : Sr lt tg a b (insertionSort lt d a b) ∧ PermIn a b d (insertionSort lt d a b) := by
 unfold insertionSort
 by_cases c : a < b
 ·exact HY hS a b (b - (a + 1)) (a + 1) d rfl (by omega) (by omega) hb (fun x y h1 h2 h3 => by omega) (fun x y h1 h2 _ h3 => tT x y h1 h2 h3)
 ·rw [insOuter_stop lt a b (a + 1) d (by omega)]
  exact ⟨fun x y h1 h2 h3 => by omega, permIn_refl _ _ _⟩
def Ok (lt : α → α → Bool) (tg : α → Nat) (a b : Nat) (d : Array α) : Prop := Sr lt tg a b d ∧ ∀ i, a ≤ i → i < b → a ≤ tg d[i]! ∧ tg d[i]! < b
theorem Ok.same {a b : Nat} {d d' : Array α} (h : Ok lt tg a b d) (hs : ∀ i, a ≤ i → i < b → d'[i]! = d[i]!) : Ok lt tg a b d' :=
 ⟨fun i j h1 h2 h3 => by rw [hs i h1 (by omega), hs j (by omega) h3]; exact h.1 i j h1 h2 h3, fun i h1 h2 => by rw [hs i h1 h2]; exact h.2 i h1 h2⟩
theorem Ok.none {a b : Nat} {d : Array α} (h : b ≤ a) : Ok lt tg a b d := ⟨fun i j h1 h2 h3 => by omega, fun i h1 h2 => by omega⟩
theorem Ok.merge (hS : SWO lt) {a m b f : Nat} {d : Array α} (h1 : Ok lt tg a m d) (h2 : Ok lt tg m b d) (Qr : a < m) (hmb : m < b) (hb : b ≤ d.size) (hf : b - a ≤ f) : Ok lt tg a b (symF lt f a m b d) ∧ PermIn a b d (symF lt f a m b d) := by
 obtain ⟨q1, q2⟩ := NB (tg := tg) hS f a m b d hf ⟨Qr, hmb, hb, h1.1, h2.1, fun i j a1 a2 a3 a4 => by have := (h1.2 i a1 a2).2; have := (h2.2 j a3 a4).1; omega⟩
 refine ⟨⟨q1, permIn_all d _ a b (fun u => a ≤ tg u ∧ tg u < b) hb q2 fun i a1 a2 => ?_⟩, q2⟩
 by_cases c : i < m
 ·have := h1.2 i a1 c; omega
 ·have := h2.2 i (by omega) a2; omega
theorem jH {s a c : Nat} (ha : s ∣ a) (hc : s ∣ c) (h : a < c) : a + s ≤ c := by
 have := Nat.le_of_dvd (by omega) (Nat.dvd_sub hc ha)
 omega
theorem Kh (hS : SWO lt) (n : Nat) : ∀ (t a : Nat) (d : Array α), n - a ≤ t → 20 ∣ a → a ≤ n → n = d.size → (∀ c, 20 ∣ c → c < a → Ok lt tg c (c + 20) d) → (∀ i, a ≤ i → i < n → tg d[i]! = i) →
 (∀ c, 20 ∣ c → c < n → Ok lt tg c (min (c + 20) n) (nZ lt n a d)) ∧ PermIn 0 n d (nZ lt n a d) := by
 intro t
 induction t with
 | zero =>
   intro a d ht ha HZ hn h1 h2
   rw [nZ, if_neg (by omega)]
   obtain ⟨q1, q2⟩ := yx (tg := tg) (d := d) hS HZ (by omega) (fun x y a1 a2 a3 => by rw [h2 x a1 (by omega), h2 y (by omega) a3]; exact a2)
   refine ⟨fun c hc hcn => ?_, permIn_mono d _ a n 0 n (Nat.zero_le _) (Nat.le_refl _) (by omega) q2⟩
   have := jH hc ha (by omega)
   rw [Nat.min_eq_left (by omega)]
   exact (h1 c hc (by omega)).same fun i a1 a2 => q2.2.1 i (.inl (by omega))
 | succ t ih =>
   intro a d ht ha HZ hn h1 h2
   by_cases c : a + 20 ≤ n
   ·rw [nZ, if_pos c]
    obtain ⟨q1, q2⟩ := yx (tg := tg) hS (show a ≤ a + 20 by omega) (show a + 20 ≤ d.size by omega) (fun x y a1 a2 a3 => by rw [h2 x a1 (by omega), h2 y (by omega) (by omega)]; exact a2)
    obtain ⟨q3, q4⟩ := ih (a + 20) (insertionSort lt d a (a + 20)) (by omega) (Nat.dvd_add ha (Nat.dvd_refl _)) c (by rw [q2.1]; exact hn) (fun e he WC => by
     by_cases c2 : e < a
     ·have := jH he ha c2
      exact (h1 e he c2).same fun i a1 a2 => q2.2.1 i (.inl (by omega))
     ·have : e = a := by
       rcases Nat.lt_or_ge a e with h3 | h3
       ·have := jH ha he h3; omega
       ·omega
      subst this
      refine ⟨q1, permIn_all d _ e (e + 20) (fun u => e ≤ tg u ∧ tg u < e + 20) (by omega) q2 fun i a1 a2 => ?_⟩
      rw [h2 i a1 (by omega)]; exact ⟨a1, a2⟩) (fun i a1 a2 => by rw [q2.2.1 i (.inr a1)]; exact h2 i (by omega) a2)
    exact ⟨q3, permIn_trans _ _ _ _ _ (permIn_mono d _ a (a + 20) 0 n (Nat.zero_le _) c (by omega) q2) q4⟩
   ·rw [nZ, if_neg c]
    obtain ⟨q1, q2⟩ := yx (tg := tg) (d := d) hS HZ (by omega) (fun x y a1 a2 a3 => by rw [h2 x a1 (by omega), h2 y (by omega) a3]; exact a2)
    refine ⟨fun e he hen => ?_, permIn_mono d _ a n 0 n (Nat.zero_le _) (Nat.le_refl _) (by omega) q2⟩
    by_cases c2 : e < a
    ·have := jH he ha c2
     rw [Nat.min_eq_left (by omega)]
     exact (h1 e he c2).same fun i a1 a2 => q2.2.1 i (.inl (by omega))
    ·have : e = a := by
      rcases Nat.lt_or_ge a e with h3 | h3
      ·have := jH ha he h3; omega
      ·omega
     subst this
     rw [Nat.min_eq_right (by omega)]
     refine ⟨q1, permIn_all d _ e n (fun u => e ≤ tg u ∧ tg u < n) (by omega) q2 fun i a1 a2 => ?_⟩
     rw [h2 i a1 a2]; exact ⟨a1, a2⟩
theorem Ki (hS : SWO lt) (s n : Nat) (hs : 0 < s) : ∀ (t a : Nat) (d : Array α), n - a ≤ t → 2 * s ∣ a → a ≤ n → n = d.size → (∀ c, 2 * s ∣ c → c < a → Ok lt tg c (c + 2 * s) d) → (∀ c, s ∣ c → a ≤ c → c < n → Ok lt tg c (min (c + s) n) d) →
 (∀ c, 2 * s ∣ c → c < n → Ok lt tg c (min (c + 2 * s) n) (mM lt s n a d)) ∧ PermIn 0 n d (mM lt s n a d) := by
 intro t
 induction t with
 | zero =>
   intro a d ht ha HZ hn h1 h2
   rw [mM, if_neg (by omega), if_neg (by omega)]
   refine ⟨fun c hc hcn => ?_, permIn_refl _ _ _⟩
   have := jH hc ha (by omega)
   rw [Nat.min_eq_left (by omega)]
   exact h1 c hc (by omega)
 | succ t ih =>
   intro a d ht ha HZ hn h1 h2
   have hsa : s ∣ a := Nat.dvd_trans (Nat.dvd_mul_left s 2) ha
   have UG : s ∣ a + s := Nat.dvd_add hsa (Nat.dvd_refl _)
   have heq : ∀ e, 2 * s ∣ e → ¬ e < a → e < a + 2 * s → e = a := fun e he c2 c3 => by
    rcases Nat.lt_or_ge a e with h3 | h3
    ·have := jH ha he h3; omega
    ·omega
   by_cases c : a + 2 * s ≤ n
   ·rw [mM, if_pos ⟨hs, c⟩]
    have b1 := h2 a hsa (Nat.le_refl _) (by omega)
    have b2 := h2 (a + s) UG (by omega) (by omega)
    rw [Nat.min_eq_left (by omega)] at b1 b2
    obtain ⟨q1, q2⟩ := b1.merge hS (f := 2 * s) (b := a + 2 * s) (by rw [show a + 2 * s = a + s + s by omega]; exact b2) (by omega) (by omega) (by omega) (by omega)
    obtain ⟨q3, q4⟩ := ih (a + 2 * s) (symF lt (2 * s) a (a + s) (a + 2 * s) d) (by omega) (Nat.dvd_add ha (Nat.dvd_refl _)) c (by rw [q2.1]; exact hn) (fun e he WC => by
     by_cases c2 : e < a
     ·have := jH he ha c2
      exact (h1 e he c2).same fun i a1 a2 => q2.2.1 i (.inl (by omega))
     ·have := heq e he c2 WC
      subst this
      exact q1) (fun e he hae hen => (h2 e he (by omega) hen).same fun i a1 a2 => q2.2.1 i (.inr (by omega)))
    exact ⟨q3, permIn_trans _ _ _ _ _ (permIn_mono d _ a (a + 2 * s) 0 n (Nat.zero_le _) c (by omega) q2) q4⟩
   ·rw [mM, if_neg (by omega)]
    by_cases c4 : a + s < n
    ·rw [if_pos c4]
     have b1 := h2 a hsa (Nat.le_refl _) (by omega)
     have b2 := h2 (a + s) UG (by omega) c4
     rw [Nat.min_eq_left (by omega)] at b1
     rw [Nat.min_eq_right (by omega)] at b2
     obtain ⟨q1, q2⟩ := b1.merge hS (f := n - a) b2 (by omega) c4 (by omega) (Nat.le_refl _)
     refine ⟨fun e he hen => ?_, permIn_mono d _ a n 0 n (Nat.zero_le _) (Nat.le_refl _) (by omega) q2⟩
     by_cases c2 : e < a
     ·have := jH he ha c2
      rw [Nat.min_eq_left (by omega)]
      exact (h1 e he c2).same fun i a1 a2 => q2.2.1 i (.inl (by omega))
     ·have := heq e he c2 (by omega)
      subst this
      rw [Nat.min_eq_right (by omega)]
      exact q1
    ·rw [if_neg c4]
     refine ⟨fun e he hen => ?_, permIn_refl _ _ _⟩
     by_cases c2 : e < a
     ·have := jH he ha c2
      rw [Nat.min_eq_left (by omega)]
      exact h1 e he c2
     ·have := heq e he c2 (by omega)
      subst this
      have b1 := h2 e hsa (Nat.le_refl _) hen
      rw [Nat.min_eq_right (by omega)] at b1
      rw [Nat.min_eq_right (by omega)]
      exact b1
theorem Kj (hS : SWO lt) (n : Nat) : ∀ (t s : Nat) (d : Array α), n - s ≤ t → 0 < s → n = d.size → (∀ c, s ∣ c → c < n → Ok lt tg c (min (c + s) n) d) → Ok lt tg 0 n (qf lt n s d) ∧ PermIn 0 n d (qf lt n s d) := by
 intro t
 induction t with
 | zero =>
   intro s d ht hs hn h
   rw [qf, if_neg (by omega)]
   refine ⟨?_, permIn_refl _ _ _⟩
   by_cases c : 0 < n
   ·have := h 0 (Nat.dvd_zero s) c
    rw [Nat.min_eq_right (by omega)] at this
    exact this
   ·exact Ok.none (by omega)
 | succ t ih =>
   intro s d ht hs hn h
   by_cases c : s < n
   ·rw [qf, if_pos ⟨hs, c⟩]
    obtain ⟨q1, q2⟩ := Ki (tg := tg) hS s n hs n 0 d (by omega) (Nat.dvd_zero _) (Nat.zero_le _) hn (fun c _ hc => by omega) (fun c hc _ hcn => h c hc hcn)
    obtain ⟨q3, q4⟩ := ih (2 * s) (mM lt s n 0 d) (by omega) (by omega) (by rw [q2.1]; exact hn) q1
    exact ⟨q3, permIn_trans _ _ _ _ _ q2 q4⟩
   ·rw [qf, if_neg (by omega)]
    refine ⟨?_, permIn_refl _ _ _⟩
    by_cases c : 0 < n
    ·have := h 0 (Nat.dvd_zero s) c
     rw [Nat.min_eq_right (by omega)] at this
     exact this
    ·exact Ok.none (by omega)
theorem Kk (hS : SWO lt) (d : Array α) (tT : ∀ i, i < d.size → tg d[i]! = i) : Sr lt tg 0 d.size (xH lt d) ∧ PermIn 0 d.size d (xH lt d) := by
 unfold xH
 obtain ⟨q1, q2⟩ := Kh (tg := tg) hS d.size d.size 0 d (by omega) (Nat.dvd_zero _) (Nat.zero_le _) rfl (fun c _ hc => by omega) (fun i _ hi => tT i hi)
 obtain ⟨q3, q4⟩ := Kj (tg := tg) hS d.size d.size 20 (nZ lt d.size 0 d) (by omega) (by omega) q2.1.symm q1
 exact ⟨q3.1, permIn_trans _ _ _ _ _ q2 q4⟩
end Sb
end Go.Proofs.YtelnhablglomjaaGreat

namespace Go.Proofs.YtelnhablglomjaaGreat
namespace Sb
open Go.Sort
theorem Kl {β : Type} (f : β → β → Bool) (L : List β) (hp : L.Pairwise fun x y => f x y = true ∧ f y x = false) (hi : ∀ x, f x x = false) (p : Nat) (h : p < L.length) : L.countP (fun u => f u L[p]) = p := by
 have e : L = L.take p ++ (L[p] :: L.drop (p + 1)) := by rw [List.getElem_cons_drop, List.take_append_drop]
 have h1 : ∀ x ∈ L.take p, f x L[p] = true := fun x hx => by
  obtain ⟨i, hi2, rfl⟩ := List.mem_iff_getElem.1 hx
  have hlt : i < p := by simp at hi2; omega
  rw [List.getElem_take]
  exact (List.pairwise_iff_getElem.1 hp i p (by omega) h hlt).1
 have h2 : ∀ x ∈ L.drop (p + 1), f x L[p] = false := fun x hx => by
  obtain ⟨i, hi2, rfl⟩ := List.mem_iff_getElem.1 hx
  rw [List.getElem_drop]
  exact (List.pairwise_iff_getElem.1 hp p (p + 1 + i) h (by simp at hi2; omega) (by omega)).2
 generalize L[p] = t at *
 rw [e, List.countP_append, List.countP_cons]
 have c1 : List.countP (fun u => f u t) (L.take p) = (L.take p).length := List.countP_eq_length.2 h1
 have c2 : List.countP (fun u => f u t) (L.drop (p + 1)) = 0 := List.countP_eq_zero.2 fun x hx => by rw [h2 x hx]; decide
 rw [c1, c2, hi t, List.length_take]
 simp
 omega
variable {α : Type} [Inhabited α] {lt : α → α → Bool}
def Bh (lt : α → α → Bool) (l : List α) (i k : Nat) : Nat := (List.range k).countP fun j => lt l[j]! l[i]! || (!lt l[i]! l[j]! && decide (j < i))
def tagged (l : List α) : List (α × Nat) := (List.range l.length).map fun i => (l[i]!, i)
theorem tY (l : List α) : (tagged l).length = l.length := by simp [tagged]
theorem zq (l : List α) {i : Nat} (h : i < l.length) : (tagged l)[i]? = some (l[i]!, i) := by simp [tagged, h]
theorem zt (l : List α) : (tagged l).map (·.1) = l := by
 refine List.ext_getElem (by simp [tagged]) fun i h1 h2 => ?_
 simp [tagged, h2]
theorem NC (hS : SWO lt) (l : List α) : ∃ r : Array (α × Nat), r = xH (fun x y : α × Nat => lt x.1 y.1) (tagged l).toArray ∧ r.size = l.length ∧ (∀ i, i < l.length → Bh lt l i l.length < l.length ∧ (r[Bh lt l i l.length]!).1 = l[i]!) ∧ (r.toList.map (·.1)).Perm l ∧ (r.toList.map (·.1)).Pairwise (fun x y => lt y x = false) := by
 refine ⟨_, rfl, ?_⟩
 have hS1 : SWO (fun x y : α × Nat => lt x.1 y.1) := ⟨fun x => hS.irrefl _, fun x y z h1 h2 => hS.trans _ _ _ h1 h2, fun x y z h1 h2 => hS.ntrans _ _ _ h1 h2⟩
 have hn : (tagged l).toArray.size = l.length := by simp [tY]
 obtain ⟨q1, q2, q3, q4⟩ := Kk (tg := fun x : α × Nat => x.2) hS1 (tagged l).toArray (fun i hi => by
  rw [hn] at hi
  have := zq l hi
  simp [Array.getElem!_eq_getD, Array.getD_eq_getD_getElem?, this])
 rw [hn] at q1 q4
 generalize xH (fun x y : α × Nat => lt x.1 y.1) (tagged l).toArray = r at *
 have hrs : r.size = l.length := by rw [q2]; exact hn
 have hperm : r.toList.Perm (tagged l) := by
  have e1 : r.extract 0 l.length = r := by rw [← hrs]; exact Array.extract_size
  have e2 : (tagged l).toArray.extract 0 l.length = (tagged l).toArray := by rw [← hn]; exact Array.extract_size
  rw [e1, e2] at q4
  exact q4
 refine ⟨hrs, fun i hi => ?_, ?_, ?_⟩
 ·let f : α × Nat → α × Nat → Bool := fun x y => lt x.1 y.1 || (!lt y.1 x.1 && decide (x.2 < y.2))
  have hR : ∀ x y, R (fun x y : α × Nat => lt x.1 y.1) (fun x => x.2) x y → f x y = true ∧ f y x = false := fun x y h => by
   rcases h with h | ⟨h, ht⟩
   ·have h2 := hS.asymmA h
    exact ⟨by simp [f, h], by simp [f, h, h2]⟩
   ·have ht : x.2 < y.2 := ht
    by_cases h2 : lt x.1 y.1 = true
    ·have h3 := hS.asymmA h2
     exact ⟨by simp [f, h2], by simp [f, h2, h3]⟩
    ·have h2' : lt x.1 y.1 = false := by simpa using h2
     exact ⟨by simp [f, h, ht], by simp only [f, h, h2', Bool.false_or, Bool.not_false, Bool.true_and, decide_eq_false_iff_not]; omega⟩
  have hpw : r.toList.Pairwise fun x y => f x y = true ∧ f y x = false := by
   rw [List.pairwise_iff_getElem]
   intro a b ha hb hab
   have := hR _ _ (q1 a b (Nat.zero_le _) hab (by simpa [hrs] using hb))
   rw [getElem!_pos r a (by simpa using ha), getElem!_pos r b (by simpa using hb)] at this
   simpa using this
  have hmem : (l[i]!, i) ∈ r.toList := hperm.mem_iff.2 (List.mem_of_getElem? (zq l hi))
  obtain ⟨p, hp, hpe⟩ := List.mem_iff_getElem.1 hmem
  have hc := Kl f r.toList hpw (fun x => by simp [f, hS.irrefl]) p hp
  rw [hpe, hperm.countP_eq] at hc
  have hpk : Bh lt l i l.length = p := by
   rw [← hc]
   unfold Bh tagged
   rw [List.countP_map]
   rfl
  rw [hpk]
  have hp2 : p < r.size := by simpa using hp
  refine ⟨by omega, ?_⟩
  rw [getElem!_pos r p hp2]
  have : r[p] = (l[i]!, i) := by simpa using hpe
  rw [this]
 ·have := hperm.map (·.1)
  rw [zt] at this
  exact this
 ·rw [List.pairwise_map, List.pairwise_iff_getElem]
  intro a b ha hb hab
  have h1 := q1 a b (Nat.zero_le _) hab (by simpa [hrs] using hb)
  rw [getElem!_pos r a (by simpa using ha), getElem!_pos r b (by simpa using hb)] at h1
  simp only [Array.getElem_toList]
  rcases h1 with h | ⟨h, _⟩
  ·exact hS.asymmA h
  ·exact h
end Sb
end Go.Proofs.YtelnhablglomjaaGreat

namespace Go.Proofs.YtelnhablglomjaaGreat
open Go.RowKit Go.Lib Go.Sort
open Go.ChangeShapes Go.WideShapes Go.ChangeAt Go.Deep in
section
variable {w W : World} {v : Value} {l : List Jb}
structure nM (w : World) (b off : Nat) (l : List Jb) : Prop where
 lt : b < w.heap.size
 cell : ∀ i s j u, l[i]? = some s → (ai s)[j]? = some u → w.cell? ⟨b, off + (i * 10 + j), none⟩ = some u
theorem nM.below {b off : Nat} (h : nM w b off l) (hb : Below w.heap.size w W) : nM W b off l :=
 ⟨Nat.lt_of_lt_of_le h.lt hb.size, fun i s j u hi hj => by rw [hb.cell (p := ⟨b, _, none⟩) h.lt]; exact h.cell i s j u hi hj⟩
theorem nM.load {b off i k : Nat} (h : nM w b off l) (hk : k = 10) (hi : i < l.length) : Sem.run Tryz.prog (loadCellsFrom ⟨b, off + i * k, none⟩ 0 k #[]) w = .ok (ai l[i]!).toArray w := by
 subst hk
 refine run_loadCellsFrom_list Tryz.prog w _ _ 10 (ax _) fun j u hj => ?_
 rw [Go.WideShapes.add_plain, Nat.add_assoc]
 exact h.cell i _ j u (by rw [List.getElem?_eq_getElem hi, getElem!_pos l i hi]) hj
end
end Go.Proofs.YtelnhablglomjaaGreat

namespace Go.Proofs.YtelnhablglomjaaGreat
open Go.RowKit Go.Lib Go.Sort
theorem D6 {α : Type} [Inhabited α] {p : α → Bool} {l : List α} {i : Nat} (hi : i < l.length) (h : p l[i]! = true) : (l.take (i + 1)).filter p = (l.take i).filter p ++ [l[i]!] := by
 have e : l[i]! = l[i] := getElem!_pos l i hi
 rw [e] at h ⊢
 rw [List.take_add_one, List.getElem?_eq_getElem hi, List.filter_append]
 simp [h]
theorem H5 {α : Type} [Inhabited α] {p : α → Bool} {l : List α} {i : Nat} (hi : i < l.length) (h : p l[i]! = false) : (l.take (i + 1)).filter p = (l.take i).filter p := by
 have e : l[i]! = l[i] := getElem!_pos l i hi
 rw [e] at h
 rw [List.take_add_one, List.getElem?_eq_getElem hi, List.filter_append]
 simp [h]
theorem TF : Tryz.prog.follows .mixedOrders = true := by kernel_rfl
end Go.Proofs.YtelnhablglomjaaGreat

namespace Go.Proofs.YtelnhablglomjaaGreat
open Go.RowKit
theorem vF {P : Program} (w : World) (base : Nat) (t tx ty e : TypeId) (i : TypeInfo) (z : Value) (size bytes : Nat) (ht : P.underlying t = some (.slice e)) (hi : P.info? e = some i) (hz : i.zero = some z)
 (hsize : i.size = size) (hby : i.bytes = bytes) (hzs : z.cells.size = size)
 (v : Value) (n : Nat) (xs : List Value) (hown : w.ownsRow base e size v n xs) (x : Value) (m : Nat) (news : List Value) (hs : Src P size tx x m news w)
 (h63 : n + m ≤ maxLen) (hbytes : (n + m) * bytes ≤ 140737488355328) (hbase : base ≤ w.heap.size) :
 ∃ v' w', (Builtin.append_ #[t, tx] ty #[v, x]).run P w = .ok v' w' ∧ w'.ownsRow base e size v' (n + m) (xs ++ news) ∧ w.grownBy w' v.ownBlock ∧ (v'.ownBlock = v.ownBlock ∨ v'.ownBlock = some w.heap.size) := by
 subst hsize
 subst hby
 have hsmall : n + m ≤ 9223372036854775807 := by simp only [maxLen] at h63; omega
 have hlen : (xs ++ news).length = (n + m) * i.size := by rw [List.length_append, hown.1, hs.newsLen, Nat.add_mul]
 have grown : ∀ (old : Nat), old < n + m → ∀ (row : Option Nat),
  (w.drew.alloc (.cells ((xs ++ news).toArray ++ Builtin.zeroCells z.cells (grownCap w (n + m) old e - (n + m))) e)).ownsRow base e i.size
   (.slice (some ⟨w.heap.size, 0, none⟩) (n + m) (grownCap w (n + m) old e)) (n + m) (xs ++ news) ∧
  w.grownBy (w.drew.alloc (.cells ((xs ++ news).toArray ++ Builtin.zeroCells z.cells (grownCap w (n + m) old e - (n + m))) e)) row := by
  intro old ho row
  have hge := grownCap_ge w (n + m) old e
  have hcm : grownCap w (n + m) old e ≤ maxLen := grownCap_le_maxLen w (n + m) old e h63
  refine ⟨⟨hlen, .inr ⟨w.heap.size, _, _, rfl, hbase, heap_alloc_new w.drew _, hge, hcm, ?_, ?_⟩⟩, ⟨rfl, rfl, rfl, by simp, fun k hk _ => Go.heap_alloc_old w.drew _ hk⟩⟩
  ·simp only [Array.size_append, List.size_toArray, size_zeroCells, hzs, hlen, ← Nat.add_mul]
   congr 1
   omega
  ·simp only [Array.toList_append]
   rw [← hlen]
   exact List.take_left
 rcases hown.2 with ⟨rfl, rfl⟩ | ⟨g, cap, cur, rfl, hbg, hg, hnc, hcm, hcs, htake⟩
 ·have hx : xs = [] := List.eq_nil_of_length_eq_zero (by simpa using hown.1)
  subst hx
  by_cases hm : m = 0
  ·subst hm
   have hn : news = [] := List.eq_nil_of_length_eq_zero (by simpa using hs.newsLen)
   subst hn
   refine ⟨.slice none 0 0, w, ?_, World.ownsRow_nil w base e i.size, ⟨rfl, rfl, rfl, Nat.le_refl _, fun _ _ _ => rfl⟩, .inl rfl⟩
   rcases hs.kind with ⟨e', hk⟩ | hk <;> simp [Builtin.append_, run_underlying ht, run_underlying hk, sizeOf, typeInfo, hi, hs.len, hs.cells]
  ·have hr := run_append_grow_src (P := P) w t tx ty e i z ht hi hz none 0 0 [] (by simp [Builtin.firstCells]) x m news hs (by omega) (by omega) (growslice_fits (by omega) hbytes)
   have hgr := grown 0 (by omega) (Value.ownBlock (.slice none 0 0))
   exact ⟨_, _, hr, hgr.1, hgr.2, .inr rfl⟩
 ·by_cases hroom : n + m ≤ cap
  ·have hfit : n * i.size + news.length ≤ cur.size := by rw [hs.newsLen, hcs, ← Nat.add_mul]; exact Nat.mul_le_mul_right _ hroom
   have hst := run_storeCells_at P g (n * i.size) e news 0 cur w hg (by simpa using hfit) hs.one
   simp only [Nat.add_zero] at hst
   have hr : (Builtin.append_ #[t, tx] ty #[.slice (some ⟨g, 0, none⟩) n cap, x]).run P w =
    .ok (.slice (some ⟨g, 0, none⟩) (n + m) cap) (w.setRow g (cur.toList.take (n * i.size) ++ news ++ cur.toList.drop (n * i.size + news.length)).toArray) := by
    rcases hs.kind with ⟨e', hk⟩ | hk <;> simp [Builtin.append_, run_underlying ht, run_underlying hk, sizeOf, typeInfo, hi, hs.len, hroom, hs.cells, Addr.add_lit, hst]
   refine ⟨_, _, hr, ⟨hlen, .inr ⟨g, cap, _, rfl, hbg, setRow_heap w g cur _ e _ hg, hroom, hcm, ?_, ?_⟩⟩, ⟨rfl, rfl, rfl, by simp, fun k hk hne => setRow_other w g k _ (fun e => hne (by simp [Value.ownBlock, e]))⟩, .inl rfl⟩
   ·simp only [List.size_toArray, List.length_append, List.length_take, List.length_drop, Array.length_toList]
    omega
   ·rw [htake, ← hlen]
    exact List.take_left
  ·have holds : ∀ j u, xs[j]? = some u → w.drew.cell? ((⟨g, 0, none⟩ : Addr).add j) = some u := fun j u hu => by simpa using hown.cells (g := g) rfl j u hu
   have hr := run_append_grow_src (P := P) w t tx ty e i z ht hi hz (some ⟨g, 0, none⟩) n cap xs (run_firstCells_some (P := P) w.drew i.size n ⟨g, 0, none⟩ n cap xs hown.1 holds) x m news hs (by omega) (by omega) (growslice_fits (by omega) hbytes)
   have hgr := grown cap (by omega) (Value.ownBlock (.slice (some ⟨g, 0, none⟩) n cap))
   exact ⟨_, _, hr, hgr.1, hgr.2, .inr rfl⟩
theorem pE {P : Program} (w : World) {ops : Array Oper} {rest : List Oper} {o : Oper} {a : Act} {Q : Exit → Act → World → Prop} (hgd : o.guard = none) (s x : Operand) (t tx : TypeId)
 (ho : o.op = .call { callee := .builtin .append, args := #[s, x], argTypes := #[t, tx] })
 (base : Nat) (e : TypeId) (i : TypeInfo) (z : Value) (size bytes : Nat) (ht : P.underlying t = some (.slice e)) (hi : P.info? e = some i) (hz : i.zero = some z)
 (hsize : i.size = size) (hby : i.bytes = bytes) (hzs : z.cells.size = size)
 (v : Value) (n : Nat) (xs : List Value) (hs : a.eval s = v) (hown : w.ownsRow base e size v n xs) (xv : Value) (m : Nat) (news : List Value) (hx : a.eval x = xv) (hsrc : Src P size tx xv m news w)
 (h63 : n + m ≤ maxLen) (hbytes : (n + m) * bytes ≤ 140737488355328) (hbase : base ≤ w.heap.size)
 (h : ∀ v' w', w'.ownsRow base e size v' (n + m) (xs ++ news) → w.grownBy w' v.ownBlock → (v'.ownBlock = v.ownBlock ∨ v'.ownBlock = some w.heap.size) → wpList P ops Q rest (a.put o.dst v') w') : wpList P ops Q (o :: rest) a w :=
 wpList_plain hgd fun K hK => by
  obtain ⟨v', w', hr, h2, h3, h4⟩ := vF (P := P) w base t tx o.type e i z size bytes ht hi hz hsize hby hzs v n xs hown xv m news hsrc h63 hbytes hbase
  unfold Oper.wp execOp
  simp only [ho, resolve, invoke, builtin, Sem.run_bind, Sem.run_pure, Result.andThen_ok, List.map_toArray, List.map_cons, List.map_nil, hs, hx, hr]
  exact hK _ _ (h v' w' h2 h3 h4)
end Go.Proofs.YtelnhablglomjaaGreat

namespace Go.Proofs.YtelnhablglomjaaGreat
open Go.RowKit Go.Lib Go.Sort
theorem xI : (Tryz.prog.info? 92).map (fun i => (i.zero, i.size, i.bytes)) = some (some (.agg (ai default).toArray), 10, 80) := by kernel_rfl
theorem mY (l : List Jb) : (l.flatMap ai).length = l.length * 10 := by
 induction l with
 | nil => rfl
 | cons a l ih => rw [List.flatMap_cons, List.length_append, ih, ax, List.length_cons, Nat.add_mul]; omega
theorem Bi {l : List Jb} {i : Nat} (h : i < l.length) : l.take (i + 1) = l.take i ++ [l[i]!] := by
 rw [List.take_add_one, List.getElem?_eq_getElem h, getElem!_pos l i h]; rfl
end Go.Proofs.YtelnhablglomjaaGreat

namespace Go.Proofs.YtelnhablglomjaaGreat
open Go.RowKit Go.Sort Go.Lib Go.Shelf
structure ma {α : Type} (enc : α → List Value) (k : Nat) : Prop where
 len : ∀ x, (enc x).length = k
 one : ∀ x, ∀ v ∈ enc x, v.oneCell' = true
section
variable {α : Type} [Inhabited α] {enc : α → List Value} {w : World} {blk off cap : Nat} {d d0 : Array α}
theorem oJ {W : World} {k : Nat} (h : HoldsK enc k W blk off d) (hE : ma enc k) {i : Nat} (hi : i < d.size) :
 Sem.run Tryz.prog (loadCellsFrom ⟨blk, off + i * k, none⟩ 0 k #[]) W = .ok (enc d[i]!).toArray W :=
 run_loadCellsFrom_list Tryz.prog _ _ _ k (hE.len _) (HoldsK.cells h hE.len hi)
theorem Bj {k n x : Nat} (hx : x < n) : x * k + k ≤ n * k := by
 have := Nat.mul_le_mul_right k (show x + 1 ≤ n from hx)
 rwa [Nat.add_mul, Nat.one_mul] at this
theorem zu {W : World} {k : Nat} (h : HoldsK enc k W blk off d) (hE : ma enc k) {i j : Nat} (hi : i < d.size) (hj : j < d.size) (x y : α) :
 Sem.run Tryz.prog (storeCells ⟨blk, off + i * k, none⟩ (enc x) 0) W = .ok () (W.setCells blk (off + i * k) (enc x)) ∧
 Sem.run Tryz.prog (storeCells ⟨blk, off + j * k, none⟩ (enc y) 0) (W.setCells blk (off + i * k) (enc x)) = .ok () ((W.setCells blk (off + i * k) (enc x)).setCells blk (off + j * k) (enc y)) :=
 ⟨stores_of_holds Tryz.prog h (i * k) _ (by rw [hE.len, size_flatK]; exact Bj hi) (hE.one _),
  stores_of_holds Tryz.prog (holds_setCells_c h (i * k) _ (by rw [hE.len, size_flatK]; exact Bj hi)) (j * k) _ (by rw [hE.len, size_setMany, size_flatK]; exact Bj hj) (hE.one _)⟩
theorem CX (k : Nat) (zE : ∀ w, Sem.run Tryz.prog (Go.sizeOf 92) w = .ok k w) (g : Value) (a b n m : Nat) (os : Array Obj) (hE : ma enc k) (hH : HoldsK enc k w blk off d0) (hs : d.size = d0.size) (hblk : blk < w.heap.size) (hab : a + n ≤ b) (hb : b + n ≤ d.size) (hsz : d.size < 4611686018427387904) :
 Calls Tryz.prog 183 #[.slice (some ⟨blk, off, none⟩) d.size cap, .int .i64 a, .int .i64 b, .int .i64 n, g] (sortWorldK enc k w blk off m d os) fun e w' =>
  e = .returned (.tuple #[]) ∧ ∃ m', w' = sortWorldK enc k w blk off m' (Sb.oC a b n 0 d) os := by
 replace hs := Lib.hid hs
 go_enter Tryz.func183, Tryz.ntmps183
 go_wp2_with fail
 go_loopw [10] (fun ii wr => ∃ (i mi : Nat) (di : Array α), ii = .int .i64 i ∧ i ≤ n ∧ di.size = d.size ∧ wr = sortWorldK enc k w blk off mi di os ∧ Hid (Sb.oC a b n i di = Sb.oC a b n 0 d)) (fun ii _ => n - (intOf ii).toNat)
 case atStart => exact ⟨0, m, d, rfl, Nat.zero_le _, rfl, rfl, rfl⟩
 case round =>
  obtain ⟨i, mi, di, rfl, hin, hsi, rfl, HI⟩ := hrel
  by_cases hlt : i < n
  ·have b2 : (i : Int) < (n : Int) := by omega
   have hW := holdsK_sortWorldK_c enc k w blk off d0 di mi os hH hblk (by rw [hsi]; exact hs.out)
   have hnx : Hid (∀ (_ : Unit), (((sortWorldK enc k w blk off mi di os).drew.setCells blk (off + (a + i) * k) (enc di[b + i]!)).setCells blk (off + (b + i) * k) (enc di[a + i]!)) = sortWorldK enc k w blk off (mi + 1) (swp di (a + i) (b + i)) os) := fun _ => sortWorldK_swp_c enc k w blk off hE.len mi di os hblk (a + i) (b + i) (by omega) (by omega)
   have la := fun (W : World) (hW : HoldsK enc k W blk off di) => oJ hW hE (i := a + i) (by omega)
   have lb := fun (W : World) (hW : HoldsK enc k W blk off di) => oJ hW hE (i := b + i) (by omega)
   have st := fun (W : World) (hW : HoldsK enc k W blk off di) => zu hW hE (i := a + i) (j := b + i) (by omega) (by omega) di[b + i]! di[a + i]!
   have hsd : (swp di (a + i) (b + i)).size = d.size := by rw [swp_size]; exact hsi
   have hgo := Sb.FK (a := a) (b := b) (d := di) hlt
   generalize hwq : sortWorldK enc k w blk off mi di os = wq at hW hnx ⊢
   have Yt := la wq.drew hW
   have Yu := lb wq.drew hW
   obtain ⟨s1, s2⟩ := st wq.drew hW
   obtain ⟨cA, hcA⟩ : ∃ c, c = enc di[a + i]! := ⟨_, rfl⟩
   obtain ⟨cB, hcB⟩ : ∃ c, c = enc di[b + i]! := ⟨_, rfl⟩
   rw [← hcA] at Yt s2 hnx
   rw [← hcB] at Yu s1 s2 hnx
   have lA : cA.length = k := by rw [hcA]; exact hE.len _
   have lB : cB.length = k := by rw [hcB]; exact hE.len _
   replace hcA := Lib.hid hcA
   replace hcB := Lib.hid hcB
   clear la lb st hwq hW
   have wa : IntKind.i64.wrap ((a : Int) + (i : Int)) = (a : Int) + (i : Int) := by rw [IntKind.wrap_i64]; omega
   have wb : IntKind.i64.wrap ((b : Int) + (i : Int)) = (b : Int) + (i : Int) := by rw [IntKind.wrap_i64]; omega
   have ja : (a : Int) + (i : Int) < (d.size : Int) := by omega
   have jb : (b : Int) + (i : Int) < (d.size : Int) := by omega
   have ka : (0 : Int) ≤ (a : Int) + (i : Int) := by omega
   have kb : (0 : Int) ≤ (b : Int) + (i : Int) := by omega
   have ea : ((a : Int) + (i : Int)).toNat = a + i := by omega
   have eb : ((b : Int) + (i : Int)).toNat = b + i := by omega
   go_wp2_with fail
   go_region
   rw [hnx.out ()]
   go_wp2_with fail
   go_roundw
   case rel => exact ⟨i + 1, mi + 1, swp di (a + i) (b + i), by go_num, by omega, hsd, rfl, by show _ = _; rw [← HI.out, hgo]⟩
   case measure => simp [intOf]; omega
  ·have b2 : ¬ (i : Int) < (n : Int) := by omega
   go_wp2_with fail
   go_end0
   exact ⟨rfl, mi, by rw [← HI.out, Sb.yn hlt]⟩
theorem Km (k : Nat) (zE : ∀ w, Sem.run Tryz.prog (Go.sizeOf 92) w = .ok k w) (g : Value) (a m b q : Nat) (os : Array Obj) (hE : ma enc k) (hH : HoldsK enc k w blk off d0) (hs : d.size = d0.size) (hblk : blk < w.heap.size) (Qr : a < m) (hmb : m < b) (hb : b ≤ d.size) (hsz : d.size < 4611686018427387904) :
 Calls Tryz.prog 182 #[.slice (some ⟨blk, off, none⟩) d.size cap, .int .i64 a, .int .i64 m, .int .i64 b, g] (sortWorldK enc k w blk off q d os) fun e w' =>
  e = .returned (.tuple #[]) ∧ ∃ q', w' = sortWorldK enc k w blk off q' (Sb.mX m (m - a) (b - m) d) os := by
 have hsw := fun (a b n q : Nat) (di : Array α) (h1 : a + n ≤ b) (h2 : b + n ≤ d.size) (h3 : di.size = d.size) => CX (cap := cap) (d := di) k zE g a b n q os hE hH (by rw [h3]; exact hs) hblk h1 (by rw [h3]; exact h2) (by rw [h3]; exact hsz)
 have HS : Hid _ := hsw
 clear hsw hH
 replace hs := Lib.hid hs
 have wa : IntKind.i64.wrap ((m : Int) - (a : Int)) = ((m - a : Nat) : Int) := by rw [IntKind.wrap_i64]; omega
 have wb : IntKind.i64.wrap ((b : Int) - (m : Int)) = ((b - m : Nat) : Int) := by rw [IntKind.wrap_i64]; omega
 obtain ⟨ia, hia⟩ : ∃ x, x = m - a := ⟨_, rfl⟩
 obtain ⟨jb, hjb⟩ : ∃ x, x = b - m := ⟨_, rfl⟩
 rw [← hia] at wa
 rw [← hjb] at wb
 rw [← hia, ← hjb]
 have i0 : 0 < ia := by omega
 have j0 : 0 < jb := by omega
 have im : ia ≤ m := by omega
 have jm : m + jb ≤ d.size := by omega
 clear hia hjb Qr hmb hb
 go_enter Tryz.func182, Tryz.ntmps182
 go_wp2_with fail
 go_loopw [10, 11] (fun ii jj wr => ∃ (i j qi : Nat) (di : Array α), ii = .int .i64 i ∧ jj = .int .i64 j ∧ 0 < i ∧ 0 < j ∧ i ≤ ia ∧ j ≤ jb ∧ di.size = d.size ∧ wr = sortWorldK enc k w blk off qi di os ∧ Hid (Sb.mX m i j di = Sb.mX m ia jb d)) (fun ii jj _ => (intOf ii).toNat + (intOf jj).toNat)
 case atStart => exact ⟨ia, jb, q, d, rfl, rfl, i0, j0, Nat.le_refl _, Nat.le_refl _, rfl, rfl, rfl⟩
 case round =>
  obtain ⟨i, j, qi, di, rfl, rfl, hi0, hj0, WE, hjb2, hsi, rfl, HI⟩ := hrel
  have w1 : IntKind.i64.wrap ((m : Int) - (i : Int)) = ((m - i : Nat) : Int) := by rw [IntKind.wrap_i64]; omega
  by_cases hij : i = j
  ·subst hij
   have hc := HS.out (m - i) m i qi di (by omega) (by omega) hsi
   rw [hsi] at hc
   rw [Sb.Ms] at HI
   have n1 : ((i : Int) != (i : Int)) = false := by simp
   generalize sortWorldK enc k w blk off qi di os = wq at hc ⊢
   go_wp2_with (go_at_call 183; go_must (refine hc.mono ?_); rintro e w5 ⟨rfl, q5, rfl⟩)
   go_end0
   exact ⟨rfl, q5, by rw [HI.out]⟩
  ·have n1 : ((i : Int) != (j : Int)) = true := by simp; omega
   by_cases hgt : j < i
   ·have hc := HS.out (m - i) m j qi di (by omega) (by omega) hsi
    rw [hsi] at hc
    rw [Sb.Mt hgt hj0] at HI
    have hsz2 := (Sb.qU (m - i) m j j 0 di rfl (Nat.zero_le _) (by omega) (by omega)).1
    have b2 : (j : Int) < (i : Int) := by omega
    have w2 : IntKind.i64.wrap ((i : Int) - (j : Int)) = ((i - j : Nat) : Int) := by rw [IntKind.wrap_i64]; omega
    generalize sortWorldK enc k w blk off qi di os = wq at hc ⊢
    go_wp2_with (go_at_call 183; go_must (refine hc.mono ?_); rintro e w5 ⟨rfl, q5, rfl⟩)
    go_roundw
    case rel => exact ⟨i - j, j, q5, Sb.oC (m - i) m j 0 di, by go_num, rfl, by omega, hj0, by omega, hjb2, by rw [hsz2, hsi], rfl, HI⟩
    case measure => simp [intOf]; omega
   ·have hc := HS.out (m - i) (m + j - i) i qi di (by omega) (by omega) hsi
    rw [hsi] at hc
    rw [Sb.Mv (by omega) hi0] at HI
    have hsz2 := (Sb.qU (m - i) (m + j - i) i i 0 di rfl (Nat.zero_le _) (by omega) (by omega)).1
    obtain ⟨x, hx⟩ : ∃ x, x = m + j - i := ⟨_, rfl⟩
    rw [← hx] at hc HI hsz2
    have b2 : ¬ (j : Int) < (i : Int) := by omega
    have w2 : IntKind.i64.wrap ((j : Int) - (i : Int)) = ((j - i : Nat) : Int) := by rw [IntKind.wrap_i64]; omega
    have w3 : IntKind.i64.wrap ((m : Int) + (j : Int)) = (m : Int) + (j : Int) := by rw [IntKind.wrap_i64]; omega
    have w4 : IntKind.i64.wrap ((m : Int) + (j : Int) - (i : Int)) = (x : Int) := by rw [IntKind.wrap_i64]; omega
    replace hx := Lib.hid hx
    generalize sortWorldK enc k w blk off qi di os = wq at hc ⊢
    go_wp2_with (go_at_call 183; go_must (refine hc.mono ?_); rintro e w5 ⟨rfl, q5, rfl⟩)
    go_roundw
    case rel => exact ⟨i, j - i, q5, Sb.oC (m - i) x i 0 di, rfl, by go_num, hi0, by omega, WE, by omega, by rw [hsz2, hsi], rfl, HI⟩
    case measure => simp [intOf]; omega
end
end Go.Proofs.YtelnhablglomjaaGreat

namespace Go.Proofs.YtelnhablglomjaaGreat
open Go.RowKit Go.Sort Go.Lib Go.Shelf
namespace Sb
variable {α : Type} [Inhabited α]
theorem qg (f : Nat → Bool) : ∀ (t i j : Nat), j - i ≤ t → i ≤ j → i ≤ fM f i j ∧ fM f i j ≤ j := by
 intro t
 induction t with
 | zero => intro i j ht hij; rw [lF (by omega)]; exact ⟨Nat.le_refl _, hij⟩
 | succ t ih =>
   intro i j ht hij
   by_cases h : i < j
   ·cases hf : f ((i + j) / 2) with
    | true => rw [qR h hf]; have := ih ((i + j) / 2 + 1) j (by omega) (by omega); omega
    | false => rw [uZ h hf]; have := ih i ((i + j) / 2) (by omega) (by omega); omega
   ·rw [lF h]; exact ⟨Nat.le_refl _, hij⟩
theorem zw {lt : α → α → Bool} {a m b : Nat} {d : Array α} (h1 : a < m) (h2 : m < b) : a ≤ tO lt a m b d ∧ tO lt a m b d ≤ m ∧ tO lt a m b d ≤ (a + b) / 2 ∧ (a + b) / 2 + m - b ≤ tO lt a m b d := by
 unfold tO
 by_cases c : (a + b) / 2 < m
 ·rw [if_pos c]
  have := qg (fun c => !lt d[(a + b) / 2 + m - 1 - c]! d[c]!) _ ((a + b) / 2 + m - b) ((a + b) / 2) (Nat.le_refl _) (by omega)
  omega
 ·rw [if_neg c]
  have := qg (fun c => !lt d[(a + b) / 2 + m - 1 - c]! d[c]!) _ a m (Nat.le_refl _) (by omega)
  omega
theorem wy {lt : α → α → Bool} : ∀ (f a m b : Nat) (d : Array α), a < m → m < b → b ≤ d.size → (symF lt f a m b d).size = d.size := by
 intro f
 induction f with
 | zero => intro a m b d _ _ _; rfl
 | succ f ih =>
   intro a m b d h1 h2 h3
   unfold symF
   by_cases c1 : m - a = 1
   ·rw [if_pos c1]
    have hb := qg (fun h => lt d[h]! d[a]!) _ m b (Nat.le_refl _) (by omega)
    exact (DY (fM (fun h => lt d[h]! d[a]!) m b - 1) _ a d rfl (by omega) (by omega)).1
   ·rw [if_neg c1]
    by_cases c2 : b - m = 1
    ·rw [if_pos c2]
     have hb := qg (fun h => !lt d[m]! d[h]!) _ a m (Nat.le_refl _) (by omega)
     exact (DZ (fM (fun h => !lt d[m]! d[h]!) a m) _ m d rfl (by omega) (by omega)).1
    ·rw [if_neg c2]
     have hc := zw (lt := lt) (d := d) h1 h2
     simp only
     generalize tO lt a m b d = s at *
     have z1 : (if s < m ∧ m < (a + b) / 2 + m - s then mX m (m - s) ((a + b) / 2 + m - s - m) d else d).size = d.size := by
      by_cases c3 : s < m ∧ m < (a + b) / 2 + m - s
      ·rw [if_pos c3]; exact (yt _ m (m - s) ((a + b) / 2 + m - s - m) d (Nat.le_refl _) (by omega) (by omega) (by omega) (by omega)).1
      ·rw [if_neg c3]
     generalize (if s < m ∧ m < (a + b) / 2 + m - s then mX m (m - s) ((a + b) / 2 + m - s - m) d else d) = d1 at *
     have z2 : (if a < s ∧ s < (a + b) / 2 then symF lt f a s ((a + b) / 2) d1 else d1).size = d.size := by
      by_cases c3 : a < s ∧ s < (a + b) / 2
      ·rw [if_pos c3, ih a s _ d1 c3.1 c3.2 (by omega), z1]
      ·rw [if_neg c3, z1]
     generalize (if a < s ∧ s < (a + b) / 2 then symF lt f a s ((a + b) / 2) d1 else d1) = d2 at *
     by_cases c3 : (a + b) / 2 < (a + b) / 2 + m - s ∧ (a + b) / 2 + m - s < b
     ·rw [if_pos c3, ih _ _ b d2 c3.1 c3.2 (by omega), z2]
     ·rw [if_neg c3, z2]
end Sb
structure pF {α : Type} [Inhabited α] (P : Program) (g : Nat) (enc : α → List Value) (k : Nat) (cf : α → α → Int) (blk off size : Nat) (w : World) : Prop where
 eg : ∀ args w, Sem.run P (callFunc g args) w = .ok (.enter g args) w
 lays : CmpLays P g #[] enc k cf blk off size w
section
variable {α : Type} [Inhabited α] {enc : α → List Value} {w : World} {blk off cap : Nat} {d d0 : Array α} {cf : α → α → Int} {g : Nat}
theorem FL : Tryz.prog.follows .mixedOrders = true := by kernel_rfl
theorem wD {k q : Nat} {os : Array Obj} (hE : ma enc k) (hC : pF Tryz.prog g enc k cf blk off d0.size w) (hH : HoldsK enc k w blk off d0) (hs : d.size = d0.size) (hblk : blk < w.heap.size) {x y : Nat} (hx : x < d.size) (hy : y < d.size) :
 (∀ n' os', grow ((sortWorldK enc k w blk off q d os).drewN n') os' = sortWorldK enc k w blk off (q + n') d (os ++ os')) ∧
 (∀ n' os', Sem.run Tryz.prog (loadCellsFrom ⟨blk, off + x * k, none⟩ 0 k #[]) (grow ((sortWorldK enc k w blk off q d os).drewN n') os') = .ok (enc d[x]!).toArray (grow ((sortWorldK enc k w blk off q d os).drewN n') os')) ∧
 (∀ n' os', Sem.run Tryz.prog (loadCellsFrom ⟨blk, off + y * k, none⟩ 0 k #[]) (grow ((sortWorldK enc k w blk off q d os).drewN n') os') = .ok (enc d[y]!).toArray (grow ((sortWorldK enc k w blk off q d os).drewN n') os')) ∧
 (∀ n' os', Calls Tryz.prog g #[.agg (enc d[x]!).toArray, .agg (enc d[y]!).toArray] (grow ((sortWorldK enc k w blk off q d os).drewN n') os') fun e w' => e = .returned (.int .i64 (cf d[x]! d[y]!)) ∧ ∃ q' os'', w' = grow ((grow ((sortWorldK enc k w blk off q d os).drewN n') os').drewN q') os'') := by
 have hcls : ∀ n' os', grow ((sortWorldK enc k w blk off q d os).drewN n') os' = sortWorldK enc k w blk off (q + n') d (os ++ os') := fun n' os' => sortWorldK_grown_c enc k w blk off q n' d os os'
 have hHc : ∀ n' os', HoldsK enc k (grow ((sortWorldK enc k w blk off q d os).drewN n') os') blk off d := fun n' os' => by rw [hcls]; exact holdsK_sortWorldK_c enc k w blk off d0 d _ _ hH hblk hs
 refine ⟨hcls, fun n' os' => oJ (hHc n' os') hE hx, fun n' os' => oJ (hHc n' os') hE hy, fun n' os' => ?_⟩
 rw [hcls]
 have := hC.lays (q + n') (os ++ os') d hs d[x]! d[y]!
 simpa using this
theorem zx {k q : Nat} {os : Array Obj} (hE : ma enc k) (hH : HoldsK enc k w blk off d0) (hs : d.size = d0.size) (hblk : blk < w.heap.size) {x y : Nat} (hx : x < d.size) (hy : y < d.size) :
 Sem.run Tryz.prog (loadCellsFrom ⟨blk, off + x * k, none⟩ 0 k #[]) (sortWorldK enc k w blk off q d os).drew = .ok (enc d[x]!).toArray (sortWorldK enc k w blk off q d os).drew ∧
 Sem.run Tryz.prog (loadCellsFrom ⟨blk, off + y * k, none⟩ 0 k #[]) (sortWorldK enc k w blk off q d os).drew = .ok (enc d[y]!).toArray (sortWorldK enc k w blk off q d os).drew ∧
 Sem.run Tryz.prog (storeCells ⟨blk, off + x * k, none⟩ (enc d[y]!) 0) (sortWorldK enc k w blk off q d os).drew = .ok () ((sortWorldK enc k w blk off q d os).drew.setCells blk (off + x * k) (enc d[y]!)) ∧
 Sem.run Tryz.prog (storeCells ⟨blk, off + y * k, none⟩ (enc d[x]!) 0) ((sortWorldK enc k w blk off q d os).drew.setCells blk (off + x * k) (enc d[y]!)) = .ok () (((sortWorldK enc k w blk off q d os).drew.setCells blk (off + x * k) (enc d[y]!)).setCells blk (off + y * k) (enc d[x]!)) ∧
 Hid (((sortWorldK enc k w blk off q d os).drew.setCells blk (off + x * k) (enc d[y]!)).setCells blk (off + y * k) (enc d[x]!) = sortWorldK enc k w blk off (q + 1) (swp d x y) os) := by
 have hW : HoldsK enc k (sortWorldK enc k w blk off q d os).drew blk off d := holdsK_sortWorldK_c enc k w blk off d0 d q os hH hblk hs
 obtain ⟨s1, s2⟩ := zu hW hE hx hy d[y]! d[x]!
 exact ⟨oJ hW hE hx, oJ hW hE hy, s1, s2, sortWorldK_swp_c enc k w blk off hE.len q d os hblk x y hx hy⟩
theorem Qs (k : Nat) (zE : ∀ w, Sem.run Tryz.prog (Go.sizeOf 92) w = .ok k w) (a m b q : Nat) (os : Array Obj) (hE : ma enc k) (hC : pF Tryz.prog g enc k cf blk off d0.size w) (hH : HoldsK enc k w blk off d0) (hs : d.size = d0.size) (hblk : blk < w.heap.size) (h1 : m = a + 1) (hmb : m < b) (hb : b ≤ d.size) (hsz : d.size < 4611686018427387904) :
 Calls Tryz.prog 180 #[.slice (some ⟨blk, off, none⟩) d.size cap, .int .i64 a, .int .i64 m, .int .i64 b, .func (.func g) #[] #[]] (sortWorldK enc k w blk off q d os) fun e w' =>
  e = .returned (.tuple #[]) ∧ ∃ q' os', w' = sortWorldK enc k w blk off q' (Sb.wo (Sb.fM (fun h => ltOf cf d[h]! d[a]!) m b - 1) a d) os' := by
 have eg := hC.eg
 have nY := FL
 replace hs := Lib.hid hs
 have wd : IntKind.i64.wrap ((m : Int) - (a : Int)) = 1 := by rw [IntKind.wrap_i64]; omega
 have Qr : a < m := by omega
 replace h1 := Lib.hid h1
 obtain ⟨F, hF⟩ : ∃ F : Nat → Bool, F = fun h => ltOf cf d[h]! d[a]! := ⟨_, rfl⟩
 have hF2 : Hid (∀ h, F h = decide (cf d[h]! d[a]! < 0)) := fun h => by rw [hF]; rfl
 rw [← hF]
 replace hF := Lib.hid hF
 have CC : Aside _ := fun (x y q : Nat) (os : Array Obj) (hx : x < d.size) (hy : y < d.size) => wD (q := q) (os := os) hE hC hH hs.out hblk hx hy
 have SC : Aside _ := fun (x y q : Nat) (os : Array Obj) (di : Array α) (hsi : di.size = d.size) (hx : x < di.size) (hy : y < di.size) => zx (d := di) (q := q) (os := os) hE hH (hsi.trans hs.out) hblk hx hy
 have hlen : Hid _ := hE.len
 clear hC hH hE
 go_enter Tryz.func180, Tryz.ntmps180
 go_wp2_with fail
 go_loopw [10, 11] (fun ii jj wr => ∃ (i j qi : Nat) (oi : Array Obj), ii = .int .i64 i ∧ jj = .int .i64 j ∧ m ≤ i ∧ i ≤ j ∧ j ≤ b ∧ wr = sortWorldK enc k w blk off qi d oi ∧ Hid (Sb.fM F i j = Sb.fM F m b)) (fun ii jj _ => (intOf jj).toNat - (intOf ii).toNat)
 case atStart => exact ⟨m, b, q, os, rfl, rfl, Nat.le_refl _, by omega, Nat.le_refl _, rfl, rfl⟩
 case round =>
  obtain ⟨i, j, qi, oi, rfl, rfl, H6, hij, hjb, rfl, HI⟩ := hrel
  by_cases hlt : i < j
  ·have b2 : (i : Int) < (j : Int) := by omega
   obtain ⟨hm, hhm⟩ : ∃ x : Nat, x = (i + j) / 2 := ⟨_, rfl⟩
   have eh : ((i : Int) + (j : Int)) / 2 = (hm : Int) := by omega
   have vT : hm < d.size := by omega
   have Vx : (hm : Int) < (d.size : Int) := by omega
   have Vy : (a : Int) < (d.size : Int) := by omega
   have wh : IntKind.i64.wrap ((hm : Int) + 1) = (hm : Int) + 1 := by rw [IntKind.wrap_i64]; omega
   obtain ⟨cls, lx, ly, cg⟩ := CC.out hm a qi oi vT (by omega)
   have HI2 : Hid ((F hm = true → Sb.fM F (hm + 1) j = Sb.fM F m b) ∧ (F hm = false → Sb.fM F i hm = Sb.fM F m b)) :=
    ⟨fun hf => by rw [← HI.out, Sb.qR hlt (by rw [← hhm]; exact hf), hhm], fun hf => by rw [← HI.out, Sb.uZ hlt (by rw [← hhm]; exact hf), hhm]⟩
   have o1 : i ≤ hm := by omega
   have o2 : hm < j := by omega
   replace hhm := Lib.hid hhm
   have CLS : Hid _ := cls
   clear cls HI
   generalize hwq : sortWorldK enc k w blk off qi d oi = wq at lx ly cg CLS ⊢
   replace hwq := Lib.hid hwq
   have rX : Hid (F hm = decide (cf d[hm]! d[a]! < 0)) := hF2.out hm
   generalize d[hm]! = X at *
   generalize d[a]! = Y at *
   by_cases hlv : cf X Y < 0
   ·have pG : F hm = true := by rw [rX.out]; exact decide_eq_true hlv
    have HI3 : Hid _ := HI2.out.1 pG
    clear HI2 rX pG
    go_wp2_with fail
    go_quiet_grown (first | (go_at_fn g; refine Calls.grown_of (cg _ _)))
    go_wp2_with fail
    go_roundw
    case rel => exact ⟨hm + 1, j, qi + nq, oi ++ osq, by go_num, rfl, by omega, by omega, hjb, CLS.out nq osq, HI3⟩
    case measure => simp [intOf]; omega
   ·have pG : F hm = false := by rw [rX.out]; exact decide_eq_false hlv
    have HI3 : Hid _ := HI2.out.2 pG
    clear HI2 rX pG
    go_wp2_with fail
    go_quiet_grown (first | (go_at_fn g; refine Calls.grown_of (cg _ _)))
    go_wp2_with fail
    go_roundw
    case rel => exact ⟨i, hm, qi + nq, oi ++ osq, rfl, by go_num, H6, o1, by omega, CLS.out nq osq, HI3⟩
    case measure => simp [intOf]; omega
  ·obtain rfl : i = j := by omega
   rw [Sb.lF hlt] at HI
   obtain ⟨e, he⟩ : ∃ e, e = i - 1 := ⟨_, rfl⟩
   have we : IntKind.i64.wrap ((i : Int) - 1) = (e : Int) := by rw [IntKind.wrap_i64]; omega
   have hae : a ≤ e := by omega
   have Zw : e < b := by omega
   have HE : Hid (Sb.fM F m b - 1 = e) := by show _ = _; rw [← HI.out, he]
   replace he := Lib.hid he
   clear HI
   have b2 : ¬ (i : Int) < (i : Int) := by omega
   generalize H7 : sortWorldK enc k w blk off qi d oi = Yv
   go_wp2_with fail
   go_loopw [13] (fun kk wr => ∃ (x qx : Nat) (dx : Array α) (ox : Array Obj), kk = .int .i64 x ∧ a ≤ x ∧ x ≤ e ∧ dx.size = d.size ∧ wr = sortWorldK enc k w blk off qx dx ox ∧ Hid (Sb.wo e x dx = Sb.wo e a d)) (fun kk _ => e - (intOf kk).toNat)
   case atStart => exact ⟨a, qi, d, oi, rfl, Nat.le_refl _, hae, rfl, H7.symm, rfl⟩
   case round =>
    obtain ⟨x, qx, dx, ox, rfl, hax, hxe, hsx, rfl, HX⟩ := hrel
    clear H7
    by_cases hlx : x < e
    ·have b3 : (x : Int) < (e : Int) := by omega
     obtain ⟨la, lb, s1, s2, hnx⟩ := SC.out x (x + 1) qx ox dx hsx (by omega) (by omega)
     have hsd : (swp dx x (x + 1)).size = d.size := by rw [swp_size]; exact hsx
     rw [Sb.Mq hlx] at HX
     generalize sortWorldK enc k w blk off qx dx ox = wq at la lb s1 s2 hnx ⊢
     obtain ⟨cA, hcA⟩ : ∃ c, c = enc dx[x]! := ⟨_, rfl⟩
     obtain ⟨cB, hcB⟩ : ∃ c, c = enc dx[x + 1]! := ⟨_, rfl⟩
     have lA : cA.length = k := by rw [hcA]; exact hlen.out _
     have lB : cB.length = k := by rw [hcB]; exact hlen.out _
     rw [← hcA] at la s2 hnx
     rw [← hcB] at lb s1 s2 hnx
     replace hcA := Lib.hid hcA
     replace hcB := Lib.hid hcB
     have wx : IntKind.i64.wrap ((x : Int) + 1) = (x : Int) + 1 := by rw [IntKind.wrap_i64]; omega
     have j0 : (x : Int) < (d.size : Int) := by omega
     have j1 : (x : Int) + 1 < (d.size : Int) := by omega
     have j2 : (0 : Int) ≤ (x : Int) + 1 := by omega
     have j3 : ((x : Int) + 1).toNat = x + 1 := by omega
     go_wp2_with fail
     go_region
     rw [hnx.out]
     go_wp2_with fail
     go_roundw
     case rel => exact ⟨x + 1, qx + 1, swp dx x (x + 1), ox, by go_num, by omega, by omega, hsd, rfl, HX⟩
     case measure => simp [intOf]; omega
    ·have b3 : ¬ (x : Int) < (e : Int) := by omega
     rw [Sb.DW hlx] at HX
     go_wp2_with fail
     refine bodyPost_ret (results_none rfl _ _ _) rfl ?_
     exact ⟨rfl, qx, ox, by rw [HE.out, ← HX.out]⟩
theorem Qt (k : Nat) (zE : ∀ w, Sem.run Tryz.prog (Go.sizeOf 92) w = .ok k w) (a m b q : Nat) (os : Array Obj) (hE : ma enc k) (hC : pF Tryz.prog g enc k cf blk off d0.size w) (hH : HoldsK enc k w blk off d0) (hs : d.size = d0.size) (hblk : blk < w.heap.size) (h1 : b = m + 1) (h0 : a + 1 < m) (hb : b ≤ d.size) (hsz : d.size < 4611686018427387904) :
 Calls Tryz.prog 180 #[.slice (some ⟨blk, off, none⟩) d.size cap, .int .i64 a, .int .i64 m, .int .i64 b, .func (.func g) #[] #[]] (sortWorldK enc k w blk off q d os) fun e w' =>
  e = .returned (.tuple #[]) ∧ ∃ q' os', w' = sortWorldK enc k w blk off q' (Sb.wu (Sb.fM (fun h => !ltOf cf d[m]! d[h]!) a m) m d) os' := by
 have eg := hC.eg
 have nY := FL
 replace hs := Lib.hid hs
 have wd : IntKind.i64.wrap ((b : Int) - (m : Int)) = 1 := by rw [IntKind.wrap_i64]; omega
 have Yw : IntKind.i64.wrap ((m : Int) - (a : Int)) = (m : Int) - (a : Int) := by rw [IntKind.wrap_i64]; omega
 have Yx : ((m : Int) - (a : Int) == 1) = false := by simp; omega
 have Qr : a < m := by omega
 have hmb : m < d.size := by omega
 replace h1 := Lib.hid h1
 obtain ⟨F, hF⟩ : ∃ F : Nat → Bool, F = fun h => !ltOf cf d[m]! d[h]! := ⟨_, rfl⟩
 have hF2 : Hid (∀ h, F h = !decide (cf d[m]! d[h]! < 0)) := fun h => by rw [hF]; rfl
 rw [← hF]
 replace hF := Lib.hid hF
 have CC : Aside _ := fun (x y q : Nat) (os : Array Obj) (hx : x < d.size) (hy : y < d.size) => wD (q := q) (os := os) hE hC hH hs.out hblk hx hy
 have SC : Aside _ := fun (x y q : Nat) (os : Array Obj) (di : Array α) (hsi : di.size = d.size) (hx : x < di.size) (hy : y < di.size) => zx (d := di) (q := q) (os := os) hE hH (hsi.trans hs.out) hblk hx hy
 have hlen : Hid _ := hE.len
 clear hC hH hE
 go_enter Tryz.func180, Tryz.ntmps180
 go_wp2_with fail
 go_loopw [14, 15] (fun ii jj wr => ∃ (i j qi : Nat) (oi : Array Obj), ii = .int .i64 i ∧ jj = .int .i64 j ∧ a ≤ i ∧ i ≤ j ∧ j ≤ m ∧ wr = sortWorldK enc k w blk off qi d oi ∧ Hid (Sb.fM F i j = Sb.fM F a m)) (fun ii jj _ => (intOf jj).toNat - (intOf ii).toNat)
 case atStart => exact ⟨a, m, q, os, rfl, rfl, Nat.le_refl _, by omega, Nat.le_refl _, rfl, rfl⟩
 case round =>
  obtain ⟨i, j, qi, oi, rfl, rfl, H6, hij, hjb, rfl, HI⟩ := hrel
  by_cases hlt : i < j
  ·have b2 : (i : Int) < (j : Int) := by omega
   obtain ⟨hm, hhm⟩ : ∃ x : Nat, x = (i + j) / 2 := ⟨_, rfl⟩
   have eh : ((i : Int) + (j : Int)) / 2 = (hm : Int) := by omega
   have vT : hm < d.size := by omega
   have Vx : (hm : Int) < (d.size : Int) := by omega
   have Vy : (m : Int) < (d.size : Int) := by omega
   have wh : IntKind.i64.wrap ((hm : Int) + 1) = (hm : Int) + 1 := by rw [IntKind.wrap_i64]; omega
   obtain ⟨cls, lx, ly, cg⟩ := CC.out m hm qi oi (by omega) vT
   have HI2 : Hid ((F hm = true → Sb.fM F (hm + 1) j = Sb.fM F a m) ∧ (F hm = false → Sb.fM F i hm = Sb.fM F a m)) :=
    ⟨fun hf => by rw [← HI.out, Sb.qR hlt (by rw [← hhm]; exact hf), hhm], fun hf => by rw [← HI.out, Sb.uZ hlt (by rw [← hhm]; exact hf), hhm]⟩
   have o1 : i ≤ hm := by omega
   have o2 : hm < j := by omega
   replace hhm := Lib.hid hhm
   have CLS : Hid _ := cls
   clear cls HI
   generalize hwq : sortWorldK enc k w blk off qi d oi = wq at lx ly cg CLS ⊢
   replace hwq := Lib.hid hwq
   have rX : Hid (F hm = !decide (cf d[m]! d[hm]! < 0)) := hF2.out hm
   generalize d[m]! = X at *
   generalize d[hm]! = Y at *
   by_cases hlv : cf X Y < 0
   ·have pG : F hm = false := by rw [rX.out, decide_eq_true hlv]; rfl
    have nb : (!decide (cf X Y < 0)) = false := by rw [decide_eq_true hlv]; rfl
    have HI3 : Hid _ := HI2.out.2 pG
    clear HI2 rX pG
    go_wp2_with fail
    go_quiet_grown (first | (go_at_fn g; refine Calls.grown_of (cg _ _)))
    go_wp2_with fail
    go_roundw
    case rel => exact ⟨i, hm, qi + nq, oi ++ osq, rfl, by go_num, H6, o1, by omega, CLS.out nq osq, HI3⟩
    case measure => simp [intOf]; omega
   ·have pG : F hm = true := by rw [rX.out, decide_eq_false hlv]; rfl
    have nb : (!decide (cf X Y < 0)) = true := by rw [decide_eq_false hlv]; rfl
    have HI3 : Hid _ := HI2.out.1 pG
    clear HI2 rX pG
    go_wp2_with fail
    go_quiet_grown (first | (go_at_fn g; refine Calls.grown_of (cg _ _)))
    go_wp2_with fail
    go_roundw
    case rel => exact ⟨hm + 1, j, qi + nq, oi ++ osq, by go_num, rfl, by omega, by omega, hjb, CLS.out nq osq, HI3⟩
    case measure => simp [intOf]; omega
  ·obtain rfl : i = j := by omega
   rw [Sb.lF hlt] at HI
   replace HI : Hid (Sb.fM F a m = i) := by show _ = _; rw [← HI.out]
   have b2 : ¬ (i : Int) < (i : Int) := by omega
   generalize H7 : sortWorldK enc k w blk off qi d oi = Yv
   go_wp2_with fail
   go_loopw [17] (fun kk wr => ∃ (x qx : Nat) (dx : Array α) (ox : Array Obj), kk = .int .i64 x ∧ i ≤ x ∧ x ≤ m ∧ dx.size = d.size ∧ wr = sortWorldK enc k w blk off qx dx ox ∧ Hid (Sb.wu i x dx = Sb.wu i m d)) (fun kk _ => (intOf kk).toNat)
   case atStart => exact ⟨m, qi, d, oi, rfl, hjb, Nat.le_refl _, rfl, H7.symm, rfl⟩
   case round =>
    obtain ⟨x, qx, dx, ox, rfl, hax, hxe, hsx, rfl, HX⟩ := hrel
    clear H7
    by_cases hlx : i < x
    ·obtain ⟨y, rfl⟩ : ∃ y, x = y + 1 := ⟨x - 1, by omega⟩
     have b3 : (i : Int) < (y : Int) + 1 := by omega
     obtain ⟨la, lb, s1, s2, hnx⟩ := SC.out (y + 1) y qx ox dx hsx (by omega) (by omega)
     have hsd : (swp dx (y + 1) y).size = d.size := by rw [swp_size]; exact hsx
     rw [Sb.Mr hlx, Nat.add_sub_cancel] at HX
     generalize sortWorldK enc k w blk off qx dx ox = wq at la lb s1 s2 hnx ⊢
     obtain ⟨cA, hcA⟩ : ∃ c, c = enc dx[y + 1]! := ⟨_, rfl⟩
     obtain ⟨cB, hcB⟩ : ∃ c, c = enc dx[y]! := ⟨_, rfl⟩
     have lA : cA.length = k := by rw [hcA]; exact hlen.out _
     have lB : cB.length = k := by rw [hcB]; exact hlen.out _
     rw [← hcA] at la s2 hnx
     rw [← hcB] at lb s1 s2 hnx
     replace hcA := Lib.hid hcA
     replace hcB := Lib.hid hcB
     have wx : IntKind.i64.wrap (y : Int) = (y : Int) := by rw [IntKind.wrap_i64]; omega
     have j0 : (y : Int) < (d.size : Int) := by omega
     have j1 : (y : Int) + 1 < (d.size : Int) := by omega
     have j2 : (0 : Int) ≤ (y : Int) + 1 := by omega
     have j3 : ((y : Int) + 1).toNat = y + 1 := by omega
     go_wp2_with fail
     go_region
     rw [hnx.out]
     go_wp2_with fail
     go_roundw
     case rel => exact ⟨y, qx + 1, swp dx (y + 1) y, ox, by go_num, by omega, by omega, hsd, rfl, HX⟩
     case measure => simp [intOf]
    ·have b3 : ¬ (i : Int) < (x : Int) := by omega
     rw [Sb.DX hlx] at HX
     go_wp2_with fail
     refine bodyPost_ret (results_none rfl _ _ _) rfl ?_
     exact ⟨rfl, qx, ox, by rw [HI.out, ← HX.out]⟩
end
end Go.Proofs.YtelnhablglomjaaGreat

namespace Go.Proofs.YtelnhablglomjaaGreat
open Go.RowKit Go.Sort Go.Lib Go.Shelf
section
variable {α : Type} [Inhabited α] {enc : α → List Value} {w : World} {blk off cap : Nat} {d d0 : Array α} {cf : α → α → Int} {g : Nat}
def qW (enc : α → List Value) (k : Nat) (w : World) (blk off : Nat) (r : Array α) (e : Ending) (w' : World) : Prop := e = .returned (.tuple #[]) ∧ ∃ q' os', w' = sortWorldK enc k w blk off q' r os'
def UH (lt : α → α → Bool) (f a m b mid s : Nat) (d : Array α) : Array α :=
 if mid < mid + m - s ∧ mid + m - s < b then Sb.symF lt f mid (mid + m - s) b (if a < s ∧ s < mid then Sb.symF lt f a s mid (if s < m ∧ m < mid + m - s then Sb.mX m (m - s) (mid + m - s - m) d else d) else (if s < m ∧ m < mid + m - s then Sb.mX m (m - s) (mid + m - s - m) d else d))
 else (if a < s ∧ s < mid then Sb.symF lt f a s mid (if s < m ∧ m < mid + m - s then Sb.mX m (m - s) (mid + m - s - m) d else d) else (if s < m ∧ m < mid + m - s then Sb.mX m (m - s) (mid + m - s - m) d else d))
theorem Kn {lt : α → α → Bool} {f a m b : Nat} {d : Array α} (c1 : ¬ m - a = 1) (c2 : ¬ b - m = 1) : Sb.symF lt (f + 1) a m b d = UH lt f a m b ((a + b) / 2) (Sb.tO lt a m b d) d := by
 rw [Sb.symF, if_neg c1, if_neg c2]; rfl
theorem Qu (k : Nat) (zE : ∀ w, Sem.run Tryz.prog (Go.sizeOf 92) w = .ok k w) (f a m b q : Nat) (os : Array Obj) (hE : ma enc k) (hC : pF Tryz.prog g enc k cf blk off d0.size w) (hH : HoldsK enc k w blk off d0) (hs : d.size = d0.size) (hblk : blk < w.heap.size)
 (h1 : a + 1 < m) (h2 : m + 1 < b) (hb : b ≤ d.size) (hsz : d.size < 4611686018427387904)
 (ih : ∀ (a m b q : Nat) (os : Array Obj) (di : Array α), b - a ≤ f → a < m → m < b → b ≤ d.size → di.size = d.size →
  Calls Tryz.prog 180 #[.slice (some ⟨blk, off, none⟩) d.size cap, .int .i64 a, .int .i64 m, .int .i64 b, .func (.func g) #[] #[]] (sortWorldK enc k w blk off q di os) (qW enc k w blk off (Sb.symF (ltOf cf) f a m b di)))
 (hf : b - a ≤ f + 1) :
 Calls Tryz.prog 180 #[.slice (some ⟨blk, off, none⟩) d.size cap, .int .i64 a, .int .i64 m, .int .i64 b, .func (.func g) #[] #[]] (sortWorldK enc k w blk off q d os) (qW enc k w blk off (Sb.symF (ltOf cf) (f + 1) a m b d)) := by
 have eg := hC.eg
 have nY := FL
 replace hs := Lib.hid hs
 rw [Kn (by omega) (by omega)]
 have hcb := Sb.zw (lt := ltOf cf) (d := d) (show a < m by omega) (show m < b by omega)
 obtain ⟨s, FM⟩ : ∃ s, s = Sb.tO (ltOf cf) a m b d := ⟨_, rfl⟩
 rw [← FM] at hcb ⊢
 have hcut : Hid (s = if (a + b) / 2 < m then Sb.fM (fun c => !ltOf cf d[(a + b) / 2 + m - 1 - c]! d[c]!) ((a + b) / 2 + m - b) ((a + b) / 2) else Sb.fM (fun c => !ltOf cf d[(a + b) / 2 + m - 1 - c]! d[c]!) a m) := by
  show _ = _
  rw [FM]; rfl
 clear FM
 obtain ⟨mid, hmid⟩ : ∃ mid, mid = (a + b) / 2 := ⟨_, rfl⟩
 rw [← hmid] at hcb hcut ⊢
 have Zd : ((a : Int) + (b : Int)) / 2 = (mid : Int) := by omega
 have Zx : a < mid := by omega
 have Zy : mid < b := by omega
 have Ze : 2 * mid ≤ a + b := by omega
 have Zf : a + b ≤ 2 * mid + 1 := by omega
 replace hmid := Lib.hid hmid
 obtain ⟨p, hp⟩ : ∃ p, p = mid + m - 1 := ⟨_, rfl⟩
 rw [← hp] at hcut
 obtain ⟨F, hF⟩ : ∃ F : Nat → Bool, F = fun c => !ltOf cf d[p - c]! d[c]! := ⟨_, rfl⟩
 have hF2 : Hid (∀ h, F h = !decide (cf d[p - h]! d[h]! < 0)) := fun h => by rw [hF]; rfl
 rw [← hF] at hcut
 replace hF := Lib.hid hF
 obtain ⟨e, he⟩ : ∃ e, e = mid + m - s := ⟨_, rfl⟩
 have wn : IntKind.i64.wrap ((mid : Int) + (m : Int)) = (mid : Int) + (m : Int) := by rw [IntKind.wrap_i64]; omega
 have wp : IntKind.i64.wrap ((mid : Int) + (m : Int) - 1) = (p : Int) := by rw [IntKind.wrap_i64]; omega
 have we : IntKind.i64.wrap ((mid : Int) + (m : Int) - (s : Int)) = (e : Int) := by rw [IntKind.wrap_i64]; omega
 have Yw : IntKind.i64.wrap ((m : Int) - (a : Int)) = (m : Int) - (a : Int) := by rw [IntKind.wrap_i64]; omega
 have Yx : ((m : Int) - (a : Int) == 1) = false := by simp; omega
 have wd2 : IntKind.i64.wrap ((b : Int) - (m : Int)) = (b : Int) - (m : Int) := by rw [IntKind.wrap_i64]; omega
 have wd3 : ((b : Int) - (m : Int) == 1) = false := by simp; omega
 have hpm : m ≤ p := by omega
 have ND : Hid (p = mid + m - 1) := hp
 have hsz1 : ∀ x, x < d.size → (x : Int) < (d.size : Int) := fun x h => by omega
 obtain ⟨d1, hd1⟩ : ∃ d1, d1 = if s < m ∧ m < e then Sb.mX m (m - s) (e - m) d else d := ⟨_, rfl⟩
 obtain ⟨d2, hd2⟩ : ∃ d2, d2 = if a < s ∧ s < mid then Sb.symF (ltOf cf) f a s mid d1 else d1 := ⟨_, rfl⟩
 have z1 : d1.size = d.size := by
  rw [hd1]
  by_cases c3 : s < m ∧ m < e
  ·rw [if_pos c3]; exact (Sb.yt _ m (m - s) (e - m) d (Nat.le_refl _) (by omega) (by omega) (by omega) (by omega)).1
  ·rw [if_neg c3]
 have z2 : d2.size = d.size := by
  rw [hd2]
  by_cases c3 : a < s ∧ s < mid
  ·rw [if_pos c3, Sb.wy f a s mid d1 c3.1 c3.2 (by omega), z1]
  ·rw [if_neg c3, z1]
 obtain ⟨r, hr⟩ : ∃ r, r = UH (ltOf cf) f a m b mid s d := ⟨_, rfl⟩
 rw [← hr]
 have hr2 : Hid (r = if mid < e ∧ e < b then Sb.symF (ltOf cf) f mid e b d2 else d2) := by
  show _ = _
  rw [hr, hd2, hd1, he]; rfl
 clear hr
 have CC : Aside _ := fun (x y q : Nat) (os : Array Obj) (hx : x < d.size) (hy : y < d.size) => wD (q := q) (os := os) hE hC hH hs.out hblk hx hy
 have RC : Aside _ := fun (s m e q : Nat) (os : Array Obj) (h1 : s < m) (h2 : m < e) (h3 : e ≤ d.size) => Km (cap := cap) k zE (.func (.func g) #[] #[]) s m e q os hE hH hs.out hblk h1 h2 h3 hsz
 have IH : Aside _ := ih
 clear hC hH hE ih hp
 obtain ⟨Zz, ZA, ZB, ZC⟩ := hcb
 have ZE : m ≤ e := by omega
 have ZF : e ≤ b := by omega
 have ZG : mid ≤ e := by omega
 replace he := Lib.hid he
 replace hd1 := Lib.hid hd1
 replace hd2 := Lib.hid hd2
 by_cases hmm : mid < m
 ·replace hcut : Hid (s = Sb.fM F (mid + m - b) mid) := by show _ = _; rw [hcut.out, if_pos hmm]
  have bm : (mid : Int) < (m : Int) := by omega
  obtain ⟨lo, hlo⟩ : ∃ lo, lo = mid + m - b := ⟨_, rfl⟩
  have ZH : IntKind.i64.wrap ((mid : Int) + (m : Int) - (b : Int)) = (lo : Int) := by rw [IntKind.wrap_i64]; omega
  rw [← hlo] at hcut
  have l1 : a ≤ lo := by omega
  have l2 : lo ≤ mid := by omega
  have l3 : p < lo + b := by have := ND.out; omega
  have l4 : m + mid ≤ p + 1 := by have := ND.out; omega
  replace hlo := Lib.hid hlo
  go_enter Tryz.func180, Tryz.ntmps180
  go_wp2_with fail
  go_loopw [20, 21] (fun ii jj wr => ∃ (i j qi : Nat) (oi : Array Obj), ii = .int .i64 i ∧ jj = .int .i64 j ∧ lo ≤ i ∧ i ≤ j ∧ j ≤ mid ∧ wr = sortWorldK enc k w blk off qi d oi ∧ Hid (Sb.fM F i j = s)) (fun ii jj _ => (intOf jj).toNat - (intOf ii).toNat)
  case atStart => exact ⟨lo, mid, q, os, rfl, rfl, Nat.le_refl _, l2, Nat.le_refl _, rfl, hcut.out.symm⟩
  case round =>
   obtain ⟨i, j, qi, oi, rfl, rfl, H6, hij, hjb, rfl, HI⟩ := hrel
   by_cases hlt : i < j
   ·have b2 : (i : Int) < (j : Int) := by omega
    obtain ⟨hm, hhm⟩ : ∃ x : Nat, x = (i + j) / 2 := ⟨_, rfl⟩
    have eh : ((i : Int) + (j : Int)) / 2 = (hm : Int) := by omega
    have vT : hm < d.size := by omega
    have Vx : (hm : Int) < (d.size : Int) := by omega
    have wh : IntKind.i64.wrap ((hm : Int) + 1) = (hm : Int) + 1 := by rw [IntKind.wrap_i64]; omega
    obtain ⟨ph, Ko⟩ : ∃ x : Nat, x = p - hm := ⟨_, rfl⟩
    have Yy : IntKind.i64.wrap ((p : Int) - (hm : Int)) = (ph : Int) := by rw [IntKind.wrap_i64]; omega
    have Vy : (ph : Int) < (d.size : Int) := by omega
    obtain ⟨cls, lx, ly, cg⟩ := CC.out ph hm qi oi (by omega) vT
    have HI2 : Hid ((F hm = true → Sb.fM F (hm + 1) j = s) ∧ (F hm = false → Sb.fM F i hm = s)) :=
     ⟨fun hf => by rw [← HI.out, Sb.qR hlt (by rw [← hhm]; exact hf), hhm], fun hf => by rw [← HI.out, Sb.uZ hlt (by rw [← hhm]; exact hf), hhm]⟩
    have o1 : i ≤ hm := by omega
    have o2 : hm < j := by omega
    have rX : Hid (F hm = !decide (cf d[ph]! d[hm]! < 0)) := by show _ = _; rw [Ko]; exact hF2.out hm
    replace hhm := Lib.hid hhm
    replace Ko := Lib.hid Ko
    have CLS : Hid _ := cls
    clear cls HI
    generalize hwq : sortWorldK enc k w blk off qi d oi = wq at lx ly cg CLS ⊢
    replace hwq := Lib.hid hwq
    generalize d[ph]! = X at *
    generalize d[hm]! = Y at *
    by_cases hlv : cf X Y < 0
    ·have pG : F hm = false := by rw [rX.out, decide_eq_true hlv]; rfl
     have nb : (!decide (cf X Y < 0)) = false := by rw [decide_eq_true hlv]; rfl
     have HI3 : Hid _ := HI2.out.2 pG
     clear HI2 rX pG
     go_wp2_with fail
     go_quiet_grown (first | (go_at_fn g; refine Calls.grown_of (cg _ _)))
     go_wp2_with fail
     go_roundw
     case rel => exact ⟨i, hm, qi + nq, oi ++ osq, rfl, by go_num, H6, o1, by omega, CLS.out nq osq, HI3⟩
     case measure => simp [intOf]; omega
    ·have pG : F hm = true := by rw [rX.out, decide_eq_false hlv]; rfl
     have nb : (!decide (cf X Y < 0)) = true := by rw [decide_eq_false hlv]; rfl
     have HI3 : Hid _ := HI2.out.1 pG
     clear HI2 rX pG
     go_wp2_with fail
     go_quiet_grown (first | (go_at_fn g; refine Calls.grown_of (cg _ _)))
     go_wp2_with fail
     go_roundw
     case rel => exact ⟨hm + 1, j, qi + nq, oi ++ osq, by go_num, rfl, by omega, by omega, hjb, CLS.out nq osq, HI3⟩
     case measure => simp [intOf]; omega
   ·obtain rfl : i = j := by omega
    rw [Sb.lF hlt] at HI
    obtain rfl : i = s := HI.out
    clear HI hcut hF2
    have b2 : ¬ (i : Int) < (i : Int) := by omega
    by_cases c3 : i < m ∧ m < e
    ·have Qv : (i : Int) < (m : Int) := by omega
     have Vz : (m : Int) < (e : Int) := by omega
     have Qw : decide ((i : Int) < (m : Int)) = true := decide_eq_true Qv
     have VA : decide ((m : Int) < (e : Int)) = true := decide_eq_true Vz
     have hc1 := RC.out i m e qi oi c3.1 c3.2 (by omega)
     replace hd1 : Hid (d1 = Sb.mX m (m - i) (e - m) d) := by show _ = _; rw [hd1.out, if_pos c3]
     rw [← hd1.out] at hc1
     generalize sortWorldK enc k w blk off qi d oi = wq at hc1 ⊢
     go_wp2_with fail
     go_at_call 182
     refine hc1.mono ?_
     clear hc1
     rintro e7 w7 ⟨rfl, q7, rfl⟩
     by_cases c4 : a < i ∧ i < mid
     ·have tZ : (a : Int) < (i : Int) := by omega
      have Bl : (i : Int) < (mid : Int) := by omega
      have uf : decide ((a : Int) < (i : Int)) = true := decide_eq_true tZ
      have Bn : decide ((i : Int) < (mid : Int)) = true := decide_eq_true Bl
      have hc2 := IH.out a i mid q7 oi d1 (by omega) c4.1 c4.2 (by omega) z1
      replace hd2 : Hid (d2 = Sb.symF (ltOf cf) f a i mid d1) := by show _ = _; rw [hd2.out, if_pos c4]
      rw [← hd2.out] at hc2
      generalize sortWorldK enc k w blk off q7 d1 oi = wq at hc2 ⊢
      go_wp2_with fail
      go_at_call 180
      refine hc2.mono ?_
      clear hc2
      rintro e8 w8 ⟨rfl, q8, o8, rfl⟩
      by_cases c5 : mid < e ∧ e < b
      ·have fZ : (mid : Int) < (e : Int) := by omega
       have jW : (e : Int) < (b : Int) := by omega
       have gm : decide ((mid : Int) < (e : Int)) = true := decide_eq_true fZ
       have jX : decide ((e : Int) < (b : Int)) = true := decide_eq_true jW
       have hc3 := IH.out mid e b q8 o8 d2 (by omega) (by omega) (by omega) hb z2
       replace hr2 : Hid (r = Sb.symF (ltOf cf) f mid e b d2) := by show _ = _; rw [hr2.out, if_pos c5]
       generalize sortWorldK enc k w blk off q8 d2 o8 = wq at hc3 ⊢
       go_wp2_with (go_at_call 180; go_must (refine hc3.mono ?_); rintro e9 w9 ⟨rfl, q9, o9, rfl⟩)
       all_goals (go_end0; exact ⟨rfl, q9, o9, by rw [hr2.out]⟩)
      ·replace hr2 : Hid (r = d2) := by show _ = _; rw [hr2.out, if_neg c5]
       generalize hwq : sortWorldK enc k w blk off q8 d2 o8 = wq
       by_cases fZ : mid < e
       ·have gm : decide ((mid : Int) < (e : Int)) = true := decide_eq_true (by omega)
        have dQ : ¬ (e : Int) < (b : Int) := by omega
        have jX : decide ((e : Int) < (b : Int)) = false := decide_eq_false dQ
        go_wp2_with fail
        all_goals (go_end0; exact ⟨rfl, _, _, by rw [hr2.out, hwq]⟩)
       ·have dQ : ¬ (mid : Int) < (e : Int) := by omega
        have gm : decide ((mid : Int) < (e : Int)) = false := decide_eq_false dQ
        go_wp2_with fail
        all_goals (go_end0; exact ⟨rfl, _, _, by rw [hr2.out, hwq]⟩)
     ·have ug : d2 = d1 := by rw [hd2.out, if_neg c4]
      subst ug
      by_cases tZ : a < i
      ·have uf : decide ((a : Int) < (i : Int)) = true := decide_eq_true (by omega)
       have pI : ¬ (i : Int) < (mid : Int) := by omega
       have Bn : decide ((i : Int) < (mid : Int)) = false := decide_eq_false pI
       by_cases c5 : mid < e ∧ e < b
       ·have fZ : (mid : Int) < (e : Int) := by omega
        have jW : (e : Int) < (b : Int) := by omega
        have gm : decide ((mid : Int) < (e : Int)) = true := decide_eq_true fZ
        have jX : decide ((e : Int) < (b : Int)) = true := decide_eq_true jW
        have hc3 := IH.out mid e b q7 oi d2 (by omega) (by omega) (by omega) hb z2
        replace hr2 : Hid (r = Sb.symF (ltOf cf) f mid e b d2) := by show _ = _; rw [hr2.out, if_pos c5]
        generalize sortWorldK enc k w blk off q7 d2 oi = wq at hc3 ⊢
        go_wp2_with (go_at_call 180; go_must (refine hc3.mono ?_); rintro e9 w9 ⟨rfl, q9, o9, rfl⟩)
        all_goals (go_end0; exact ⟨rfl, q9, o9, by rw [hr2.out]⟩)
       ·replace hr2 : Hid (r = d2) := by show _ = _; rw [hr2.out, if_neg c5]
        generalize hwq : sortWorldK enc k w blk off q7 d2 oi = wq
        by_cases fZ : mid < e
        ·have gm : decide ((mid : Int) < (e : Int)) = true := decide_eq_true (by omega)
         have dQ : ¬ (e : Int) < (b : Int) := by omega
         have jX : decide ((e : Int) < (b : Int)) = false := decide_eq_false dQ
         go_wp2_with fail
         all_goals (go_end0; exact ⟨rfl, _, _, by rw [hr2.out, hwq]⟩)
        ·have dQ : ¬ (mid : Int) < (e : Int) := by omega
         have gm : decide ((mid : Int) < (e : Int)) = false := decide_eq_false dQ
         go_wp2_with fail
         all_goals (go_end0; exact ⟨rfl, _, _, by rw [hr2.out, hwq]⟩)
      ·have pI : ¬ (a : Int) < (i : Int) := by omega
       have uf : decide ((a : Int) < (i : Int)) = false := decide_eq_false pI
       by_cases c5 : mid < e ∧ e < b
       ·have fZ : (mid : Int) < (e : Int) := by omega
        have jW : (e : Int) < (b : Int) := by omega
        have gm : decide ((mid : Int) < (e : Int)) = true := decide_eq_true fZ
        have jX : decide ((e : Int) < (b : Int)) = true := decide_eq_true jW
        have hc3 := IH.out mid e b q7 oi d2 (by omega) (by omega) (by omega) hb z2
        replace hr2 : Hid (r = Sb.symF (ltOf cf) f mid e b d2) := by show _ = _; rw [hr2.out, if_pos c5]
        generalize sortWorldK enc k w blk off q7 d2 oi = wq at hc3 ⊢
        go_wp2_with (go_at_call 180; go_must (refine hc3.mono ?_); rintro e9 w9 ⟨rfl, q9, o9, rfl⟩)
        all_goals (go_end0; exact ⟨rfl, q9, o9, by rw [hr2.out]⟩)
       ·replace hr2 : Hid (r = d2) := by show _ = _; rw [hr2.out, if_neg c5]
        generalize hwq : sortWorldK enc k w blk off q7 d2 oi = wq
        by_cases fZ : mid < e
        ·have gm : decide ((mid : Int) < (e : Int)) = true := decide_eq_true (by omega)
         have dQ : ¬ (e : Int) < (b : Int) := by omega
         have jX : decide ((e : Int) < (b : Int)) = false := decide_eq_false dQ
         go_wp2_with fail
         all_goals (go_end0; exact ⟨rfl, _, _, by rw [hr2.out, hwq]⟩)
        ·have dQ : ¬ (mid : Int) < (e : Int) := by omega
         have gm : decide ((mid : Int) < (e : Int)) = false := decide_eq_false dQ
         go_wp2_with fail
         all_goals (go_end0; exact ⟨rfl, _, _, by rw [hr2.out, hwq]⟩)
    ·have Qx : d1 = d := by rw [hd1.out, if_neg c3]
     subst Qx
     by_cases Qv : i < m
     ·have Qw : decide ((i : Int) < (m : Int)) = true := decide_eq_true (by omega)
      have Kq : ¬ (m : Int) < (e : Int) := by omega
      have VA : decide ((m : Int) < (e : Int)) = false := decide_eq_false Kq
      by_cases c4 : a < i ∧ i < mid
      ·have tZ : (a : Int) < (i : Int) := by omega
       have Bl : (i : Int) < (mid : Int) := by omega
       have uf : decide ((a : Int) < (i : Int)) = true := decide_eq_true tZ
       have Bn : decide ((i : Int) < (mid : Int)) = true := decide_eq_true Bl
       have hc2 := IH.out a i mid qi oi d1 (by omega) c4.1 c4.2 (by omega) z1
       replace hd2 : Hid (d2 = Sb.symF (ltOf cf) f a i mid d1) := by show _ = _; rw [hd2.out, if_pos c4]
       rw [← hd2.out] at hc2
       generalize sortWorldK enc k w blk off qi d1 oi = wq at hc2 ⊢
       go_wp2_with fail
       go_at_call 180
       refine hc2.mono ?_
       clear hc2
       rintro e8 w8 ⟨rfl, q8, o8, rfl⟩
       by_cases c5 : mid < e ∧ e < b
       ·have fZ : (mid : Int) < (e : Int) := by omega
        have jW : (e : Int) < (b : Int) := by omega
        have gm : decide ((mid : Int) < (e : Int)) = true := decide_eq_true fZ
        have jX : decide ((e : Int) < (b : Int)) = true := decide_eq_true jW
        have hc3 := IH.out mid e b q8 o8 d2 (by omega) (by omega) (by omega) hb z2
        replace hr2 : Hid (r = Sb.symF (ltOf cf) f mid e b d2) := by show _ = _; rw [hr2.out, if_pos c5]
        generalize sortWorldK enc k w blk off q8 d2 o8 = wq at hc3 ⊢
        go_wp2_with (go_at_call 180; go_must (refine hc3.mono ?_); rintro e9 w9 ⟨rfl, q9, o9, rfl⟩)
        all_goals (go_end0; exact ⟨rfl, q9, o9, by rw [hr2.out]⟩)
       ·replace hr2 : Hid (r = d2) := by show _ = _; rw [hr2.out, if_neg c5]
        generalize hwq : sortWorldK enc k w blk off q8 d2 o8 = wq
        by_cases fZ : mid < e
        ·have gm : decide ((mid : Int) < (e : Int)) = true := decide_eq_true (by omega)
         have dQ : ¬ (e : Int) < (b : Int) := by omega
         have jX : decide ((e : Int) < (b : Int)) = false := decide_eq_false dQ
         go_wp2_with fail
         all_goals (go_end0; exact ⟨rfl, _, _, by rw [hr2.out, hwq]⟩)
        ·have dQ : ¬ (mid : Int) < (e : Int) := by omega
         have gm : decide ((mid : Int) < (e : Int)) = false := decide_eq_false dQ
         go_wp2_with fail
         all_goals (go_end0; exact ⟨rfl, _, _, by rw [hr2.out, hwq]⟩)
      ·have ug : d2 = d1 := by rw [hd2.out, if_neg c4]
       subst ug
       by_cases tZ : a < i
       ·have uf : decide ((a : Int) < (i : Int)) = true := decide_eq_true (by omega)
        have pI : ¬ (i : Int) < (mid : Int) := by omega
        have Bn : decide ((i : Int) < (mid : Int)) = false := decide_eq_false pI
        by_cases c5 : mid < e ∧ e < b
        ·have fZ : (mid : Int) < (e : Int) := by omega
         have jW : (e : Int) < (b : Int) := by omega
         have gm : decide ((mid : Int) < (e : Int)) = true := decide_eq_true fZ
         have jX : decide ((e : Int) < (b : Int)) = true := decide_eq_true jW
         have hc3 := IH.out mid e b qi oi d2 (by omega) (by omega) (by omega) hb z2
         replace hr2 : Hid (r = Sb.symF (ltOf cf) f mid e b d2) := by show _ = _; rw [hr2.out, if_pos c5]
         generalize sortWorldK enc k w blk off qi d2 oi = wq at hc3 ⊢
         go_wp2_with (go_at_call 180; go_must (refine hc3.mono ?_); rintro e9 w9 ⟨rfl, q9, o9, rfl⟩)
         all_goals (go_end0; exact ⟨rfl, q9, o9, by rw [hr2.out]⟩)
        ·replace hr2 : Hid (r = d2) := by show _ = _; rw [hr2.out, if_neg c5]
         generalize hwq : sortWorldK enc k w blk off qi d2 oi = wq
         by_cases fZ : mid < e
         ·have gm : decide ((mid : Int) < (e : Int)) = true := decide_eq_true (by omega)
          have dQ : ¬ (e : Int) < (b : Int) := by omega
          have jX : decide ((e : Int) < (b : Int)) = false := decide_eq_false dQ
          go_wp2_with fail
          all_goals (go_end0; exact ⟨rfl, _, _, by rw [hr2.out, hwq]⟩)
         ·have dQ : ¬ (mid : Int) < (e : Int) := by omega
          have gm : decide ((mid : Int) < (e : Int)) = false := decide_eq_false dQ
          go_wp2_with fail
          all_goals (go_end0; exact ⟨rfl, _, _, by rw [hr2.out, hwq]⟩)
       ·have pI : ¬ (a : Int) < (i : Int) := by omega
        have uf : decide ((a : Int) < (i : Int)) = false := decide_eq_false pI
        by_cases c5 : mid < e ∧ e < b
        ·have fZ : (mid : Int) < (e : Int) := by omega
         have jW : (e : Int) < (b : Int) := by omega
         have gm : decide ((mid : Int) < (e : Int)) = true := decide_eq_true fZ
         have jX : decide ((e : Int) < (b : Int)) = true := decide_eq_true jW
         have hc3 := IH.out mid e b qi oi d2 (by omega) (by omega) (by omega) hb z2
         replace hr2 : Hid (r = Sb.symF (ltOf cf) f mid e b d2) := by show _ = _; rw [hr2.out, if_pos c5]
         generalize sortWorldK enc k w blk off qi d2 oi = wq at hc3 ⊢
         go_wp2_with (go_at_call 180; go_must (refine hc3.mono ?_); rintro e9 w9 ⟨rfl, q9, o9, rfl⟩)
         all_goals (go_end0; exact ⟨rfl, q9, o9, by rw [hr2.out]⟩)
        ·replace hr2 : Hid (r = d2) := by show _ = _; rw [hr2.out, if_neg c5]
         generalize hwq : sortWorldK enc k w blk off qi d2 oi = wq
         by_cases fZ : mid < e
         ·have gm : decide ((mid : Int) < (e : Int)) = true := decide_eq_true (by omega)
          have dQ : ¬ (e : Int) < (b : Int) := by omega
          have jX : decide ((e : Int) < (b : Int)) = false := decide_eq_false dQ
          go_wp2_with fail
          all_goals (go_end0; exact ⟨rfl, _, _, by rw [hr2.out, hwq]⟩)
         ·have dQ : ¬ (mid : Int) < (e : Int) := by omega
          have gm : decide ((mid : Int) < (e : Int)) = false := decide_eq_false dQ
          go_wp2_with fail
          all_goals (go_end0; exact ⟨rfl, _, _, by rw [hr2.out, hwq]⟩)
     ·have Kq : ¬ (i : Int) < (m : Int) := by omega
      have Qw : decide ((i : Int) < (m : Int)) = false := decide_eq_false Kq
      by_cases c4 : a < i ∧ i < mid
      ·have tZ : (a : Int) < (i : Int) := by omega
       have Bl : (i : Int) < (mid : Int) := by omega
       have uf : decide ((a : Int) < (i : Int)) = true := decide_eq_true tZ
       have Bn : decide ((i : Int) < (mid : Int)) = true := decide_eq_true Bl
       have hc2 := IH.out a i mid qi oi d1 (by omega) c4.1 c4.2 (by omega) z1
       replace hd2 : Hid (d2 = Sb.symF (ltOf cf) f a i mid d1) := by show _ = _; rw [hd2.out, if_pos c4]
       rw [← hd2.out] at hc2
       generalize sortWorldK enc k w blk off qi d1 oi = wq at hc2 ⊢
       go_wp2_with fail
       go_at_call 180
       refine hc2.mono ?_
       clear hc2
       rintro e8 w8 ⟨rfl, q8, o8, rfl⟩
       by_cases c5 : mid < e ∧ e < b
       ·have fZ : (mid : Int) < (e : Int) := by omega
        have jW : (e : Int) < (b : Int) := by omega
        have gm : decide ((mid : Int) < (e : Int)) = true := decide_eq_true fZ
        have jX : decide ((e : Int) < (b : Int)) = true := decide_eq_true jW
        have hc3 := IH.out mid e b q8 o8 d2 (by omega) (by omega) (by omega) hb z2
        replace hr2 : Hid (r = Sb.symF (ltOf cf) f mid e b d2) := by show _ = _; rw [hr2.out, if_pos c5]
        generalize sortWorldK enc k w blk off q8 d2 o8 = wq at hc3 ⊢
        go_wp2_with (go_at_call 180; go_must (refine hc3.mono ?_); rintro e9 w9 ⟨rfl, q9, o9, rfl⟩)
        all_goals (go_end0; exact ⟨rfl, q9, o9, by rw [hr2.out]⟩)
       ·replace hr2 : Hid (r = d2) := by show _ = _; rw [hr2.out, if_neg c5]
        generalize hwq : sortWorldK enc k w blk off q8 d2 o8 = wq
        by_cases fZ : mid < e
        ·have gm : decide ((mid : Int) < (e : Int)) = true := decide_eq_true (by omega)
         have dQ : ¬ (e : Int) < (b : Int) := by omega
         have jX : decide ((e : Int) < (b : Int)) = false := decide_eq_false dQ
         go_wp2_with fail
         all_goals (go_end0; exact ⟨rfl, _, _, by rw [hr2.out, hwq]⟩)
        ·have dQ : ¬ (mid : Int) < (e : Int) := by omega
         have gm : decide ((mid : Int) < (e : Int)) = false := decide_eq_false dQ
         go_wp2_with fail
         all_goals (go_end0; exact ⟨rfl, _, _, by rw [hr2.out, hwq]⟩)
      ·have ug : d2 = d1 := by rw [hd2.out, if_neg c4]
       subst ug
       by_cases tZ : a < i
       ·have uf : decide ((a : Int) < (i : Int)) = true := decide_eq_true (by omega)
        have pI : ¬ (i : Int) < (mid : Int) := by omega
        have Bn : decide ((i : Int) < (mid : Int)) = false := decide_eq_false pI
        by_cases c5 : mid < e ∧ e < b
        ·have fZ : (mid : Int) < (e : Int) := by omega
         have jW : (e : Int) < (b : Int) := by omega
         have gm : decide ((mid : Int) < (e : Int)) = true := decide_eq_true fZ
         have jX : decide ((e : Int) < (b : Int)) = true := decide_eq_true jW
         have hc3 := IH.out mid e b qi oi d2 (by omega) (by omega) (by omega) hb z2
         replace hr2 : Hid (r = Sb.symF (ltOf cf) f mid e b d2) := by show _ = _; rw [hr2.out, if_pos c5]
         generalize sortWorldK enc k w blk off qi d2 oi = wq at hc3 ⊢
         go_wp2_with (go_at_call 180; go_must (refine hc3.mono ?_); rintro e9 w9 ⟨rfl, q9, o9, rfl⟩)
         all_goals (go_end0; exact ⟨rfl, q9, o9, by rw [hr2.out]⟩)
        ·replace hr2 : Hid (r = d2) := by show _ = _; rw [hr2.out, if_neg c5]
         generalize hwq : sortWorldK enc k w blk off qi d2 oi = wq
         by_cases fZ : mid < e
         ·have gm : decide ((mid : Int) < (e : Int)) = true := decide_eq_true (by omega)
          have dQ : ¬ (e : Int) < (b : Int) := by omega
          have jX : decide ((e : Int) < (b : Int)) = false := decide_eq_false dQ
          go_wp2_with fail
          all_goals (go_end0; exact ⟨rfl, _, _, by rw [hr2.out, hwq]⟩)
         ·have dQ : ¬ (mid : Int) < (e : Int) := by omega
          have gm : decide ((mid : Int) < (e : Int)) = false := decide_eq_false dQ
          go_wp2_with fail
          all_goals (go_end0; exact ⟨rfl, _, _, by rw [hr2.out, hwq]⟩)
       ·have pI : ¬ (a : Int) < (i : Int) := by omega
        have uf : decide ((a : Int) < (i : Int)) = false := decide_eq_false pI
        by_cases c5 : mid < e ∧ e < b
        ·have fZ : (mid : Int) < (e : Int) := by omega
         have jW : (e : Int) < (b : Int) := by omega
         have gm : decide ((mid : Int) < (e : Int)) = true := decide_eq_true fZ
         have jX : decide ((e : Int) < (b : Int)) = true := decide_eq_true jW
         have hc3 := IH.out mid e b qi oi d2 (by omega) (by omega) (by omega) hb z2
         replace hr2 : Hid (r = Sb.symF (ltOf cf) f mid e b d2) := by show _ = _; rw [hr2.out, if_pos c5]
         generalize sortWorldK enc k w blk off qi d2 oi = wq at hc3 ⊢
         go_wp2_with (go_at_call 180; go_must (refine hc3.mono ?_); rintro e9 w9 ⟨rfl, q9, o9, rfl⟩)
         all_goals (go_end0; exact ⟨rfl, q9, o9, by rw [hr2.out]⟩)
        ·replace hr2 : Hid (r = d2) := by show _ = _; rw [hr2.out, if_neg c5]
         generalize hwq : sortWorldK enc k w blk off qi d2 oi = wq
         by_cases fZ : mid < e
         ·have gm : decide ((mid : Int) < (e : Int)) = true := decide_eq_true (by omega)
          have dQ : ¬ (e : Int) < (b : Int) := by omega
          have jX : decide ((e : Int) < (b : Int)) = false := decide_eq_false dQ
          go_wp2_with fail
          all_goals (go_end0; exact ⟨rfl, _, _, by rw [hr2.out, hwq]⟩)
         ·have dQ : ¬ (mid : Int) < (e : Int) := by omega
          have gm : decide ((mid : Int) < (e : Int)) = false := decide_eq_false dQ
          go_wp2_with fail
          all_goals (go_end0; exact ⟨rfl, _, _, by rw [hr2.out, hwq]⟩)
 ·replace hcut : Hid (s = Sb.fM F a m) := by show _ = _; rw [hcut.out, if_neg hmm]
  have bm : ¬ (mid : Int) < (m : Int) := by omega
  have l2 : a ≤ m := by omega
  have l3 : p < a + b := by have := ND.out; omega
  have l4 : m + mid ≤ p + 1 := by have := ND.out; omega
  go_enter Tryz.func180, Tryz.ntmps180
  go_wp2_with fail
  go_loopw [20, 21] (fun ii jj wr => ∃ (i j qi : Nat) (oi : Array Obj), ii = .int .i64 i ∧ jj = .int .i64 j ∧ a ≤ i ∧ i ≤ j ∧ j ≤ m ∧ wr = sortWorldK enc k w blk off qi d oi ∧ Hid (Sb.fM F i j = s)) (fun ii jj _ => (intOf jj).toNat - (intOf ii).toNat)
  case atStart => exact ⟨a, m, q, os, rfl, rfl, Nat.le_refl _, l2, Nat.le_refl _, rfl, hcut.out.symm⟩
  case round =>
   obtain ⟨i, j, qi, oi, rfl, rfl, H6, hij, hjb, rfl, HI⟩ := hrel
   by_cases hlt : i < j
   ·have b2 : (i : Int) < (j : Int) := by omega
    obtain ⟨hm, hhm⟩ : ∃ x : Nat, x = (i + j) / 2 := ⟨_, rfl⟩
    have eh : ((i : Int) + (j : Int)) / 2 = (hm : Int) := by omega
    have vT : hm < d.size := by omega
    have Vx : (hm : Int) < (d.size : Int) := by omega
    have wh : IntKind.i64.wrap ((hm : Int) + 1) = (hm : Int) + 1 := by rw [IntKind.wrap_i64]; omega
    obtain ⟨ph, Ko⟩ : ∃ x : Nat, x = p - hm := ⟨_, rfl⟩
    have Yy : IntKind.i64.wrap ((p : Int) - (hm : Int)) = (ph : Int) := by rw [IntKind.wrap_i64]; omega
    have Vy : (ph : Int) < (d.size : Int) := by omega
    obtain ⟨cls, lx, ly, cg⟩ := CC.out ph hm qi oi (by omega) vT
    have HI2 : Hid ((F hm = true → Sb.fM F (hm + 1) j = s) ∧ (F hm = false → Sb.fM F i hm = s)) :=
     ⟨fun hf => by rw [← HI.out, Sb.qR hlt (by rw [← hhm]; exact hf), hhm], fun hf => by rw [← HI.out, Sb.uZ hlt (by rw [← hhm]; exact hf), hhm]⟩
    have o1 : i ≤ hm := by omega
    have o2 : hm < j := by omega
    have rX : Hid (F hm = !decide (cf d[ph]! d[hm]! < 0)) := by show _ = _; rw [Ko]; exact hF2.out hm
    replace hhm := Lib.hid hhm
    replace Ko := Lib.hid Ko
    have CLS : Hid _ := cls
    clear cls HI
    generalize hwq : sortWorldK enc k w blk off qi d oi = wq at lx ly cg CLS ⊢
    replace hwq := Lib.hid hwq
    generalize d[ph]! = X at *
    generalize d[hm]! = Y at *
    by_cases hlv : cf X Y < 0
    ·have pG : F hm = false := by rw [rX.out, decide_eq_true hlv]; rfl
     have nb : (!decide (cf X Y < 0)) = false := by rw [decide_eq_true hlv]; rfl
     have HI3 : Hid _ := HI2.out.2 pG
     clear HI2 rX pG
     go_wp2_with fail
     go_quiet_grown (first | (go_at_fn g; refine Calls.grown_of (cg _ _)))
     go_wp2_with fail
     go_roundw
     case rel => exact ⟨i, hm, qi + nq, oi ++ osq, rfl, by go_num, H6, o1, by omega, CLS.out nq osq, HI3⟩
     case measure => simp [intOf]; omega
    ·have pG : F hm = true := by rw [rX.out, decide_eq_false hlv]; rfl
     have nb : (!decide (cf X Y < 0)) = true := by rw [decide_eq_false hlv]; rfl
     have HI3 : Hid _ := HI2.out.1 pG
     clear HI2 rX pG
     go_wp2_with fail
     go_quiet_grown (first | (go_at_fn g; refine Calls.grown_of (cg _ _)))
     go_wp2_with fail
     go_roundw
     case rel => exact ⟨hm + 1, j, qi + nq, oi ++ osq, by go_num, rfl, by omega, by omega, hjb, CLS.out nq osq, HI3⟩
     case measure => simp [intOf]; omega
   ·obtain rfl : i = j := by omega
    rw [Sb.lF hlt] at HI
    obtain rfl : i = s := HI.out
    clear HI hcut hF2
    have b2 : ¬ (i : Int) < (i : Int) := by omega
    by_cases c3 : i < m ∧ m < e
    ·have Qv : (i : Int) < (m : Int) := by omega
     have Vz : (m : Int) < (e : Int) := by omega
     have Qw : decide ((i : Int) < (m : Int)) = true := decide_eq_true Qv
     have VA : decide ((m : Int) < (e : Int)) = true := decide_eq_true Vz
     have hc1 := RC.out i m e qi oi c3.1 c3.2 (by omega)
     replace hd1 : Hid (d1 = Sb.mX m (m - i) (e - m) d) := by show _ = _; rw [hd1.out, if_pos c3]
     rw [← hd1.out] at hc1
     generalize sortWorldK enc k w blk off qi d oi = wq at hc1 ⊢
     go_wp2_with fail
     go_at_call 182
     refine hc1.mono ?_
     clear hc1
     rintro e7 w7 ⟨rfl, q7, rfl⟩
     by_cases c4 : a < i ∧ i < mid
     ·have tZ : (a : Int) < (i : Int) := by omega
      have Bl : (i : Int) < (mid : Int) := by omega
      have uf : decide ((a : Int) < (i : Int)) = true := decide_eq_true tZ
      have Bn : decide ((i : Int) < (mid : Int)) = true := decide_eq_true Bl
      have hc2 := IH.out a i mid q7 oi d1 (by omega) c4.1 c4.2 (by omega) z1
      replace hd2 : Hid (d2 = Sb.symF (ltOf cf) f a i mid d1) := by show _ = _; rw [hd2.out, if_pos c4]
      rw [← hd2.out] at hc2
      generalize sortWorldK enc k w blk off q7 d1 oi = wq at hc2 ⊢
      go_wp2_with fail
      go_at_call 180
      refine hc2.mono ?_
      clear hc2
      rintro e8 w8 ⟨rfl, q8, o8, rfl⟩
      by_cases c5 : mid < e ∧ e < b
      ·have fZ : (mid : Int) < (e : Int) := by omega
       have jW : (e : Int) < (b : Int) := by omega
       have gm : decide ((mid : Int) < (e : Int)) = true := decide_eq_true fZ
       have jX : decide ((e : Int) < (b : Int)) = true := decide_eq_true jW
       have hc3 := IH.out mid e b q8 o8 d2 (by omega) (by omega) (by omega) hb z2
       replace hr2 : Hid (r = Sb.symF (ltOf cf) f mid e b d2) := by show _ = _; rw [hr2.out, if_pos c5]
       generalize sortWorldK enc k w blk off q8 d2 o8 = wq at hc3 ⊢
       go_wp2_with (go_at_call 180; go_must (refine hc3.mono ?_); rintro e9 w9 ⟨rfl, q9, o9, rfl⟩)
       all_goals (go_end0; exact ⟨rfl, q9, o9, by rw [hr2.out]⟩)
      ·replace hr2 : Hid (r = d2) := by show _ = _; rw [hr2.out, if_neg c5]
       generalize hwq : sortWorldK enc k w blk off q8 d2 o8 = wq
       by_cases fZ : mid < e
       ·have gm : decide ((mid : Int) < (e : Int)) = true := decide_eq_true (by omega)
        have dQ : ¬ (e : Int) < (b : Int) := by omega
        have jX : decide ((e : Int) < (b : Int)) = false := decide_eq_false dQ
        go_wp2_with fail
        all_goals (go_end0; exact ⟨rfl, _, _, by rw [hr2.out, hwq]⟩)
       ·have dQ : ¬ (mid : Int) < (e : Int) := by omega
        have gm : decide ((mid : Int) < (e : Int)) = false := decide_eq_false dQ
        go_wp2_with fail
        all_goals (go_end0; exact ⟨rfl, _, _, by rw [hr2.out, hwq]⟩)
     ·have ug : d2 = d1 := by rw [hd2.out, if_neg c4]
      subst ug
      by_cases tZ : a < i
      ·have uf : decide ((a : Int) < (i : Int)) = true := decide_eq_true (by omega)
       have pI : ¬ (i : Int) < (mid : Int) := by omega
       have Bn : decide ((i : Int) < (mid : Int)) = false := decide_eq_false pI
       by_cases c5 : mid < e ∧ e < b
       ·have fZ : (mid : Int) < (e : Int) := by omega
        have jW : (e : Int) < (b : Int) := by omega
        have gm : decide ((mid : Int) < (e : Int)) = true := decide_eq_true fZ
        have jX : decide ((e : Int) < (b : Int)) = true := decide_eq_true jW
        have hc3 := IH.out mid e b q7 oi d2 (by omega) (by omega) (by omega) hb z2
        replace hr2 : Hid (r = Sb.symF (ltOf cf) f mid e b d2) := by show _ = _; rw [hr2.out, if_pos c5]
        generalize sortWorldK enc k w blk off q7 d2 oi = wq at hc3 ⊢
        go_wp2_with (go_at_call 180; go_must (refine hc3.mono ?_); rintro e9 w9 ⟨rfl, q9, o9, rfl⟩)
        all_goals (go_end0; exact ⟨rfl, q9, o9, by rw [hr2.out]⟩)
       ·replace hr2 : Hid (r = d2) := by show _ = _; rw [hr2.out, if_neg c5]
        generalize hwq : sortWorldK enc k w blk off q7 d2 oi = wq
        by_cases fZ : mid < e
        ·have gm : decide ((mid : Int) < (e : Int)) = true := decide_eq_true (by omega)
         have dQ : ¬ (e : Int) < (b : Int) := by omega
         have jX : decide ((e : Int) < (b : Int)) = false := decide_eq_false dQ
         go_wp2_with fail
         all_goals (go_end0; exact ⟨rfl, _, _, by rw [hr2.out, hwq]⟩)
        ·have dQ : ¬ (mid : Int) < (e : Int) := by omega
         have gm : decide ((mid : Int) < (e : Int)) = false := decide_eq_false dQ
         go_wp2_with fail
         all_goals (go_end0; exact ⟨rfl, _, _, by rw [hr2.out, hwq]⟩)
      ·have pI : ¬ (a : Int) < (i : Int) := by omega
       have uf : decide ((a : Int) < (i : Int)) = false := decide_eq_false pI
       by_cases c5 : mid < e ∧ e < b
       ·have fZ : (mid : Int) < (e : Int) := by omega
        have jW : (e : Int) < (b : Int) := by omega
        have gm : decide ((mid : Int) < (e : Int)) = true := decide_eq_true fZ
        have jX : decide ((e : Int) < (b : Int)) = true := decide_eq_true jW
        have hc3 := IH.out mid e b q7 oi d2 (by omega) (by omega) (by omega) hb z2
        replace hr2 : Hid (r = Sb.symF (ltOf cf) f mid e b d2) := by show _ = _; rw [hr2.out, if_pos c5]
        generalize sortWorldK enc k w blk off q7 d2 oi = wq at hc3 ⊢
        go_wp2_with (go_at_call 180; go_must (refine hc3.mono ?_); rintro e9 w9 ⟨rfl, q9, o9, rfl⟩)
        all_goals (go_end0; exact ⟨rfl, q9, o9, by rw [hr2.out]⟩)
       ·replace hr2 : Hid (r = d2) := by show _ = _; rw [hr2.out, if_neg c5]
        generalize hwq : sortWorldK enc k w blk off q7 d2 oi = wq
        by_cases fZ : mid < e
        ·have gm : decide ((mid : Int) < (e : Int)) = true := decide_eq_true (by omega)
         have dQ : ¬ (e : Int) < (b : Int) := by omega
         have jX : decide ((e : Int) < (b : Int)) = false := decide_eq_false dQ
         go_wp2_with fail
         all_goals (go_end0; exact ⟨rfl, _, _, by rw [hr2.out, hwq]⟩)
        ·have dQ : ¬ (mid : Int) < (e : Int) := by omega
         have gm : decide ((mid : Int) < (e : Int)) = false := decide_eq_false dQ
         go_wp2_with fail
         all_goals (go_end0; exact ⟨rfl, _, _, by rw [hr2.out, hwq]⟩)
    ·have Qx : d1 = d := by rw [hd1.out, if_neg c3]
     subst Qx
     by_cases Qv : i < m
     ·have Qw : decide ((i : Int) < (m : Int)) = true := decide_eq_true (by omega)
      have Kq : ¬ (m : Int) < (e : Int) := by omega
      have VA : decide ((m : Int) < (e : Int)) = false := decide_eq_false Kq
      by_cases c4 : a < i ∧ i < mid
      ·have tZ : (a : Int) < (i : Int) := by omega
       have Bl : (i : Int) < (mid : Int) := by omega
       have uf : decide ((a : Int) < (i : Int)) = true := decide_eq_true tZ
       have Bn : decide ((i : Int) < (mid : Int)) = true := decide_eq_true Bl
       have hc2 := IH.out a i mid qi oi d1 (by omega) c4.1 c4.2 (by omega) z1
       replace hd2 : Hid (d2 = Sb.symF (ltOf cf) f a i mid d1) := by show _ = _; rw [hd2.out, if_pos c4]
       rw [← hd2.out] at hc2
       generalize sortWorldK enc k w blk off qi d1 oi = wq at hc2 ⊢
       go_wp2_with fail
       go_at_call 180
       refine hc2.mono ?_
       clear hc2
       rintro e8 w8 ⟨rfl, q8, o8, rfl⟩
       by_cases c5 : mid < e ∧ e < b
       ·have fZ : (mid : Int) < (e : Int) := by omega
        have jW : (e : Int) < (b : Int) := by omega
        have gm : decide ((mid : Int) < (e : Int)) = true := decide_eq_true fZ
        have jX : decide ((e : Int) < (b : Int)) = true := decide_eq_true jW
        have hc3 := IH.out mid e b q8 o8 d2 (by omega) (by omega) (by omega) hb z2
        replace hr2 : Hid (r = Sb.symF (ltOf cf) f mid e b d2) := by show _ = _; rw [hr2.out, if_pos c5]
        generalize sortWorldK enc k w blk off q8 d2 o8 = wq at hc3 ⊢
        go_wp2_with (go_at_call 180; go_must (refine hc3.mono ?_); rintro e9 w9 ⟨rfl, q9, o9, rfl⟩)
        all_goals (go_end0; exact ⟨rfl, q9, o9, by rw [hr2.out]⟩)
       ·replace hr2 : Hid (r = d2) := by show _ = _; rw [hr2.out, if_neg c5]
        generalize hwq : sortWorldK enc k w blk off q8 d2 o8 = wq
        by_cases fZ : mid < e
        ·have gm : decide ((mid : Int) < (e : Int)) = true := decide_eq_true (by omega)
         have dQ : ¬ (e : Int) < (b : Int) := by omega
         have jX : decide ((e : Int) < (b : Int)) = false := decide_eq_false dQ
         go_wp2_with fail
         all_goals (go_end0; exact ⟨rfl, _, _, by rw [hr2.out, hwq]⟩)
        ·have dQ : ¬ (mid : Int) < (e : Int) := by omega
         have gm : decide ((mid : Int) < (e : Int)) = false := decide_eq_false dQ
         go_wp2_with fail
         all_goals (go_end0; exact ⟨rfl, _, _, by rw [hr2.out, hwq]⟩)
      ·have ug : d2 = d1 := by rw [hd2.out, if_neg c4]
       subst ug
       by_cases tZ : a < i
       ·have uf : decide ((a : Int) < (i : Int)) = true := decide_eq_true (by omega)
        have pI : ¬ (i : Int) < (mid : Int) := by omega
        have Bn : decide ((i : Int) < (mid : Int)) = false := decide_eq_false pI
        by_cases c5 : mid < e ∧ e < b
        ·have fZ : (mid : Int) < (e : Int) := by omega
         have jW : (e : Int) < (b : Int) := by omega
         have gm : decide ((mid : Int) < (e : Int)) = true := decide_eq_true fZ
         have jX : decide ((e : Int) < (b : Int)) = true := decide_eq_true jW
         have hc3 := IH.out mid e b qi oi d2 (by omega) (by omega) (by omega) hb z2
         replace hr2 : Hid (r = Sb.symF (ltOf cf) f mid e b d2) := by show _ = _; rw [hr2.out, if_pos c5]
         generalize sortWorldK enc k w blk off qi d2 oi = wq at hc3 ⊢
         go_wp2_with (go_at_call 180; go_must (refine hc3.mono ?_); rintro e9 w9 ⟨rfl, q9, o9, rfl⟩)
         all_goals (go_end0; exact ⟨rfl, q9, o9, by rw [hr2.out]⟩)
        ·replace hr2 : Hid (r = d2) := by show _ = _; rw [hr2.out, if_neg c5]
         generalize hwq : sortWorldK enc k w blk off qi d2 oi = wq
         by_cases fZ : mid < e
         ·have gm : decide ((mid : Int) < (e : Int)) = true := decide_eq_true (by omega)
          have dQ : ¬ (e : Int) < (b : Int) := by omega
          have jX : decide ((e : Int) < (b : Int)) = false := decide_eq_false dQ
          go_wp2_with fail
          all_goals (go_end0; exact ⟨rfl, _, _, by rw [hr2.out, hwq]⟩)
         ·have dQ : ¬ (mid : Int) < (e : Int) := by omega
          have gm : decide ((mid : Int) < (e : Int)) = false := decide_eq_false dQ
          go_wp2_with fail
          all_goals (go_end0; exact ⟨rfl, _, _, by rw [hr2.out, hwq]⟩)
       ·have pI : ¬ (a : Int) < (i : Int) := by omega
        have uf : decide ((a : Int) < (i : Int)) = false := decide_eq_false pI
        by_cases c5 : mid < e ∧ e < b
        ·have fZ : (mid : Int) < (e : Int) := by omega
         have jW : (e : Int) < (b : Int) := by omega
         have gm : decide ((mid : Int) < (e : Int)) = true := decide_eq_true fZ
         have jX : decide ((e : Int) < (b : Int)) = true := decide_eq_true jW
         have hc3 := IH.out mid e b qi oi d2 (by omega) (by omega) (by omega) hb z2
         replace hr2 : Hid (r = Sb.symF (ltOf cf) f mid e b d2) := by show _ = _; rw [hr2.out, if_pos c5]
         generalize sortWorldK enc k w blk off qi d2 oi = wq at hc3 ⊢
         go_wp2_with (go_at_call 180; go_must (refine hc3.mono ?_); rintro e9 w9 ⟨rfl, q9, o9, rfl⟩)
         all_goals (go_end0; exact ⟨rfl, q9, o9, by rw [hr2.out]⟩)
        ·replace hr2 : Hid (r = d2) := by show _ = _; rw [hr2.out, if_neg c5]
         generalize hwq : sortWorldK enc k w blk off qi d2 oi = wq
         by_cases fZ : mid < e
         ·have gm : decide ((mid : Int) < (e : Int)) = true := decide_eq_true (by omega)
          have dQ : ¬ (e : Int) < (b : Int) := by omega
          have jX : decide ((e : Int) < (b : Int)) = false := decide_eq_false dQ
          go_wp2_with fail
          all_goals (go_end0; exact ⟨rfl, _, _, by rw [hr2.out, hwq]⟩)
         ·have dQ : ¬ (mid : Int) < (e : Int) := by omega
          have gm : decide ((mid : Int) < (e : Int)) = false := decide_eq_false dQ
          go_wp2_with fail
          all_goals (go_end0; exact ⟨rfl, _, _, by rw [hr2.out, hwq]⟩)
     ·have Kq : ¬ (i : Int) < (m : Int) := by omega
      have Qw : decide ((i : Int) < (m : Int)) = false := decide_eq_false Kq
      by_cases c4 : a < i ∧ i < mid
      ·have tZ : (a : Int) < (i : Int) := by omega
       have Bl : (i : Int) < (mid : Int) := by omega
       have uf : decide ((a : Int) < (i : Int)) = true := decide_eq_true tZ
       have Bn : decide ((i : Int) < (mid : Int)) = true := decide_eq_true Bl
       have hc2 := IH.out a i mid qi oi d1 (by omega) c4.1 c4.2 (by omega) z1
       replace hd2 : Hid (d2 = Sb.symF (ltOf cf) f a i mid d1) := by show _ = _; rw [hd2.out, if_pos c4]
       rw [← hd2.out] at hc2
       generalize sortWorldK enc k w blk off qi d1 oi = wq at hc2 ⊢
       go_wp2_with fail
       go_at_call 180
       refine hc2.mono ?_
       clear hc2
       rintro e8 w8 ⟨rfl, q8, o8, rfl⟩
       by_cases c5 : mid < e ∧ e < b
       ·have fZ : (mid : Int) < (e : Int) := by omega
        have jW : (e : Int) < (b : Int) := by omega
        have gm : decide ((mid : Int) < (e : Int)) = true := decide_eq_true fZ
        have jX : decide ((e : Int) < (b : Int)) = true := decide_eq_true jW
        have hc3 := IH.out mid e b q8 o8 d2 (by omega) (by omega) (by omega) hb z2
        replace hr2 : Hid (r = Sb.symF (ltOf cf) f mid e b d2) := by show _ = _; rw [hr2.out, if_pos c5]
        generalize sortWorldK enc k w blk off q8 d2 o8 = wq at hc3 ⊢
        go_wp2_with (go_at_call 180; go_must (refine hc3.mono ?_); rintro e9 w9 ⟨rfl, q9, o9, rfl⟩)
        all_goals (go_end0; exact ⟨rfl, q9, o9, by rw [hr2.out]⟩)
       ·replace hr2 : Hid (r = d2) := by show _ = _; rw [hr2.out, if_neg c5]
        generalize hwq : sortWorldK enc k w blk off q8 d2 o8 = wq
        by_cases fZ : mid < e
        ·have gm : decide ((mid : Int) < (e : Int)) = true := decide_eq_true (by omega)
         have dQ : ¬ (e : Int) < (b : Int) := by omega
         have jX : decide ((e : Int) < (b : Int)) = false := decide_eq_false dQ
         go_wp2_with fail
         all_goals (go_end0; exact ⟨rfl, _, _, by rw [hr2.out, hwq]⟩)
        ·have dQ : ¬ (mid : Int) < (e : Int) := by omega
         have gm : decide ((mid : Int) < (e : Int)) = false := decide_eq_false dQ
         go_wp2_with fail
         all_goals (go_end0; exact ⟨rfl, _, _, by rw [hr2.out, hwq]⟩)
      ·have ug : d2 = d1 := by rw [hd2.out, if_neg c4]
       subst ug
       by_cases tZ : a < i
       ·have uf : decide ((a : Int) < (i : Int)) = true := decide_eq_true (by omega)
        have pI : ¬ (i : Int) < (mid : Int) := by omega
        have Bn : decide ((i : Int) < (mid : Int)) = false := decide_eq_false pI
        by_cases c5 : mid < e ∧ e < b
        ·have fZ : (mid : Int) < (e : Int) := by omega
         have jW : (e : Int) < (b : Int) := by omega
         have gm : decide ((mid : Int) < (e : Int)) = true := decide_eq_true fZ
         have jX : decide ((e : Int) < (b : Int)) = true := decide_eq_true jW
         have hc3 := IH.out mid e b qi oi d2 (by omega) (by omega) (by omega) hb z2
         replace hr2 : Hid (r = Sb.symF (ltOf cf) f mid e b d2) := by show _ = _; rw [hr2.out, if_pos c5]
         generalize sortWorldK enc k w blk off qi d2 oi = wq at hc3 ⊢
         go_wp2_with (go_at_call 180; go_must (refine hc3.mono ?_); rintro e9 w9 ⟨rfl, q9, o9, rfl⟩)
         all_goals (go_end0; exact ⟨rfl, q9, o9, by rw [hr2.out]⟩)
        ·replace hr2 : Hid (r = d2) := by show _ = _; rw [hr2.out, if_neg c5]
         generalize hwq : sortWorldK enc k w blk off qi d2 oi = wq
         by_cases fZ : mid < e
         ·have gm : decide ((mid : Int) < (e : Int)) = true := decide_eq_true (by omega)
          have dQ : ¬ (e : Int) < (b : Int) := by omega
          have jX : decide ((e : Int) < (b : Int)) = false := decide_eq_false dQ
          go_wp2_with fail
          all_goals (go_end0; exact ⟨rfl, _, _, by rw [hr2.out, hwq]⟩)
         ·have dQ : ¬ (mid : Int) < (e : Int) := by omega
          have gm : decide ((mid : Int) < (e : Int)) = false := decide_eq_false dQ
          go_wp2_with fail
          all_goals (go_end0; exact ⟨rfl, _, _, by rw [hr2.out, hwq]⟩)
       ·have pI : ¬ (a : Int) < (i : Int) := by omega
        have uf : decide ((a : Int) < (i : Int)) = false := decide_eq_false pI
        by_cases c5 : mid < e ∧ e < b
        ·have fZ : (mid : Int) < (e : Int) := by omega
         have jW : (e : Int) < (b : Int) := by omega
         have gm : decide ((mid : Int) < (e : Int)) = true := decide_eq_true fZ
         have jX : decide ((e : Int) < (b : Int)) = true := decide_eq_true jW
         have hc3 := IH.out mid e b qi oi d2 (by omega) (by omega) (by omega) hb z2
         replace hr2 : Hid (r = Sb.symF (ltOf cf) f mid e b d2) := by show _ = _; rw [hr2.out, if_pos c5]
         generalize sortWorldK enc k w blk off qi d2 oi = wq at hc3 ⊢
         go_wp2_with (go_at_call 180; go_must (refine hc3.mono ?_); rintro e9 w9 ⟨rfl, q9, o9, rfl⟩)
         all_goals (go_end0; exact ⟨rfl, q9, o9, by rw [hr2.out]⟩)
        ·replace hr2 : Hid (r = d2) := by show _ = _; rw [hr2.out, if_neg c5]
         generalize hwq : sortWorldK enc k w blk off qi d2 oi = wq
         by_cases fZ : mid < e
         ·have gm : decide ((mid : Int) < (e : Int)) = true := decide_eq_true (by omega)
          have dQ : ¬ (e : Int) < (b : Int) := by omega
          have jX : decide ((e : Int) < (b : Int)) = false := decide_eq_false dQ
          go_wp2_with fail
          all_goals (go_end0; exact ⟨rfl, _, _, by rw [hr2.out, hwq]⟩)
         ·have dQ : ¬ (mid : Int) < (e : Int) := by omega
          have gm : decide ((mid : Int) < (e : Int)) = false := decide_eq_false dQ
          go_wp2_with fail
          all_goals (go_end0; exact ⟨rfl, _, _, by rw [hr2.out, hwq]⟩)
theorem TG (k : Nat) (zE : ∀ w, Sem.run Tryz.prog (Go.sizeOf 92) w = .ok k w) (hE : ma enc k) (hC : pF Tryz.prog g enc k cf blk off d0.size w) (hH : HoldsK enc k w blk off d0) (hs : d.size = d0.size) (hblk : blk < w.heap.size) (hsz : d.size < 4611686018427387904) :
 ∀ (f a m b q : Nat) (os : Array Obj) (di : Array α), b - a ≤ f → a < m → m < b → b ≤ d.size → di.size = d.size →
  Calls Tryz.prog 180 #[.slice (some ⟨blk, off, none⟩) d.size cap, .int .i64 a, .int .i64 m, .int .i64 b, .func (.func g) #[] #[]] (sortWorldK enc k w blk off q di os) (qW enc k w blk off (Sb.symF (ltOf cf) f a m b di)) := by
 intro f
 induction f with
 | zero => intro a m b q os di hf h1 h2; omega
 | succ f ih =>
   intro a m b q os di hf h1 h2 h3 h4
   have hs' := h4.trans hs
   rw [← h4] at h3 hsz
   rw [← h4]
   by_cases c1 : m - a = 1
   ·have := Qs (cap := cap) k zE a m b q os hE hC hH hs' hblk (by omega) h2 h3 hsz
    rw [Sb.symF, if_pos c1]
    exact this
   ·by_cases c2 : b - m = 1
    ·have := Qt (cap := cap) k zE a m b q os hE hC hH hs' hblk (by omega) (by omega) h3 hsz
     rw [Sb.symF, if_neg c1, if_pos c2]
     exact this
    ·exact Qu k zE f a m b q os hE hC hH hs' hblk (by omega) (by omega) h3 hsz (fun a m b q os dj e1 e2 e3 e4 e5 => by
      have := ih a m b q os dj e1 e2 e3 (by rw [← h4]; exact e4) (e5.trans h4)
      rw [h4]
      exact this) hf
end
end Go.Proofs.YtelnhablglomjaaGreat


namespace Go.Proofs
open Go.Shelf
def Tryz.insJ_ren : Go.Shelf.Ren := ⟨fun | 20 => 179 | n => n, fun | 24 => 92 | 22 => 60 | 3 => 3 | 25 => 188 | 4 => 4 | 0 => 0 | n => n, fun | n => n⟩
theorem Tryz.insJ : Go.Proofs.SlLaysF0.n20 Tryz.prog Tryz.insJ_ren := {
 mixed := by kernel_rfl
 f20 := ⟨Tryz.f179.name, by decide, Tryz.func179.trans (congrArg some (by kernel_rfl))⟩
 t0 := Tryz.underlying0
 a0 := Tryz.isAgg0
 z0 := Tryz.sizeOf0
 v0 := Tryz.zeroValue0
 t3 := Tryz.underlying3
 a3 := Tryz.isAgg3
 z3 := Tryz.sizeOf3
 v3 := Tryz.zeroValue3
 t4 := Tryz.underlying4
 a4 := Tryz.isAgg4
 z4 := Tryz.sizeOf4
 v4 := Tryz.zeroValue4
 t22 := Tryz.underlying60
 a22 := Tryz.isAgg60
 z22 := Tryz.sizeOf60
 v22 := Tryz.zeroValue60
 t25 := Tryz.underlying188
 a25 := Tryz.isAgg188
 z25 := Tryz.sizeOf188
 v25 := Tryz.zeroValue188 }
end Go.Proofs

namespace Go.Proofs.YtelnhablglomjaaGreat
open Go.RowKit Go.Sort Go.Lib Go.Shelf
namespace Sb
variable {α : Type} [Inhabited α] {lt : α → α → Bool}
theorem Qy {n a : Nat} {d : Array α} (h : a + 20 ≤ n) : nZ lt n a d = nZ lt n (a + 20) (insertionSort lt d a (a + 20)) := by rw [nZ, if_pos h]
theorem Kr {n a : Nat} {d : Array α} (h : ¬ a + 20 ≤ n) : nZ lt n a d = insertionSort lt d a n := by rw [nZ, if_neg h]
theorem Qz {s n a : Nat} {d : Array α} (hs : 0 < s) (h : a + 2 * s ≤ n) : mM lt s n a d = mM lt s n (a + 2 * s) (symF lt (2 * s) a (a + s) (a + 2 * s) d) := by rw [mM, if_pos ⟨hs, h⟩]
theorem Kt {s n a : Nat} {d : Array α} (h : ¬ a + 2 * s ≤ n) (h2 : a + s < n) : mM lt s n a d = symF lt (n - a) a (a + s) n d := by rw [mM, if_neg (by omega), if_pos h2]
theorem Ku {s n a : Nat} {d : Array α} (h : ¬ a + 2 * s ≤ n) (h2 : ¬ a + s < n) : mM lt s n a d = d := by rw [mM, if_neg (by omega), if_neg h2]
theorem QA {n s : Nat} {d : Array α} (hs : 0 < s) (h : s < n) : qf lt n s d = qf lt n (2 * s) (mM lt s n 0 d) := by rw [qf, if_pos ⟨hs, h⟩]
theorem Kv {n s : Nat} {d : Array α} (h : ¬ s < n) : qf lt n s d = d := by rw [qf, if_neg (by omega)]
theorem Bo (a : Nat) : ∀ (j : Nat) (d : Array α), (insInner lt a j d).size = d.size := by
 intro j
 induction j with
 | zero => intro d; rfl
 | succ j ih =>
   intro d
   unfold insInner
   split
   ·rw [ih, swp_size]
   ·rfl
theorem Bp (a b : Nat) : ∀ (t i : Nat) (d : Array α), b - i = t → (insOuter lt a b i d).size = d.size := by
 intro t
 induction t with
 | zero => intro i d ht; rw [insOuter_stop lt a b i d (by omega)]
 | succ t ih => intro i d ht; rw [insOuter_go lt a b i d (by omega), ih (i + 1) _ (by omega), Bo]
theorem yz (a b : Nat) (d : Array α) : (insertionSort lt d a b).size = d.size := Bp a b _ (a + 1) d rfl
end Sb
section
variable {α : Type} [Inhabited α] {enc : α → List Value} {w : World} {blk off cap : Nat} {d d0 : Array α} {cf : α → α → Int} {g : Nat}
theorem pF.on {k q : Nat} {os : Array Obj} (hC : pF Tryz.prog g enc k cf blk off d0.size w) (hs : d.size = d0.size) (hblk : blk < w.heap.size) : CmpLays Tryz.prog g #[] enc k cf blk off d.size (sortWorldK enc k w blk off q d os) := by
 intro m os' dk hk x y
 rw [sortWorldK_on enc k w blk off q m d dk os os' hblk hk]
 exact hC.lays (q + m) (os ++ os') dk (hk.trans hs) x y
theorem TH (k : Nat) (aE : ∀ w, Sem.run Tryz.prog (isAgg 92) w = .ok true w) (zE : ∀ w, Sem.run Tryz.prog (Go.sizeOf 92) w = .ok k w) (a b q : Nat) (os : Array Obj) (hE : ma enc k) (hC : pF Tryz.prog g enc k cf blk off d0.size w) (hH : HoldsK enc k w blk off d0) (hs : d.size = d0.size) (hblk : blk < w.heap.size) (hab : a ≤ b) (hb : b ≤ d.size) (hsz : d.size < 4611686018427387904) :
 Calls Tryz.prog 179 #[.slice (some ⟨blk, off, none⟩) d.size cap, .int .i64 a, .int .i64 b, .func (.func g) #[] #[]] (sortWorldK enc k w blk off q d os) (qW enc k w blk off (insertionSort (ltOf cf) d a b)) := by
 have hW : HoldsK enc k (sortWorldK enc k w blk off q d os) blk off d := holdsK_sortWorldK_c enc k w blk off d0 d q os hH hblk hs
 have hb2 := size_sortWorldK_c enc k w blk off q d os
 refine (AnyQ.insertionSortCmpFunc Tryz.insJ k aE zE enc hE.len hE.one cf g #[] blk off cap a b d _ hC.eg (hC.on hs hblk) hW (by omega) hab hb hsz).mono ?_
 rintro e w' ⟨rfl, n, os', rfl⟩
 refine ⟨rfl, q + n, os ++ os', ?_⟩
 rw [sortWorldK_on enc k w blk off q n d _ os os' hblk (Sb.yz a b d)]
theorem Kw (k : Nat) (aE : ∀ w, Sem.run Tryz.prog (isAgg 92) w = .ok true w) (zE : ∀ w, Sem.run Tryz.prog (Go.sizeOf 92) w = .ok k w) (hE : ma enc k) (hC : pF Tryz.prog g enc k cf blk off d.size w) (hH : HoldsK enc k w blk off d) (hblk : blk < w.heap.size) (hsz : d.size < 1152921504606846976) :
 Calls Tryz.prog 177 #[.slice (some ⟨blk, off, none⟩) d.size cap, .int .i64 d.size, .func (.func g) #[] #[]] w (qW enc k w blk off (Sb.xH (ltOf cf) d)) := by
 have h0 := sortWorldK_start enc k w blk off d hH
 have INS : Aside _ := fun (a b q : Nat) (os : Array Obj) (di : Array α) (h1 : di.size = d.size) (h2 : a ≤ b) (h3 : b ≤ di.size) => TH (cap := cap) (d := di) k aE zE a b q os hE hC hH h1 hblk h2 h3 (by omega)
 have WG : Aside _ := TG (cap := cap) (d := d) (d0 := d) k zE hE hC hH rfl hblk (by omega)
 clear hC hH
 obtain ⟨n, hn⟩ : ∃ n, n = d.size := ⟨_, rfl⟩
 rw [← hn]
 have hst : Hid (Sb.xH (ltOf cf) d = Sb.qf (ltOf cf) n 20 (Sb.nZ (ltOf cf) n 0 d)) := by rw [hn]; rfl
 replace hsz : n < 1152921504606846976 := by omega
 replace hn := Lib.hid hn
 obtain ⟨lt, hlt⟩ : ∃ lt, lt = ltOf cf := ⟨_, rfl⟩
 rw [← hlt] at hst ⊢
 replace hlt := Lib.hid hlt
 replace h0 := Lib.hid h0
 go_enter Tryz.func177, Tryz.ntmps177
 go_wp2_with fail
 go_loopw [7, 8] (fun aa bb wr => ∃ (a qi : Nat) (di : Array α) (oi : Array Obj), aa = .int .i64 a ∧ bb = .int .i64 ((a : Int) + 20) ∧ a ≤ n ∧ di.size = n ∧ wr = sortWorldK enc k w blk off qi di oi ∧ Hid (Sb.nZ lt n a di = Sb.nZ lt n 0 d)) (fun aa _ _ => n - (intOf aa).toNat)
 case atStart => exact ⟨0, 0, d, #[], rfl, rfl, Nat.zero_le _, hn.out.symm, h0.out.symm, rfl⟩
 case round =>
  obtain ⟨a, qi, di, oi, rfl, rfl, HZ, hsi, rfl, HI⟩ := hrel
  by_cases hgo : a + 20 ≤ n
  ·have b2 : (a : Int) + 20 ≤ (n : Int) := by omega
   have wa : IntKind.i64.wrap ((a : Int) + 20 + 20) = (a : Int) + 20 + 20 := by rw [IntKind.wrap_i64]; omega
   have hc := INS.out a (a + 20) qi oi di (hsi.trans hn.out) (by omega) (by omega)
   rw [hsi, ← hlt.out] at hc
   rw [show ((a + 20 : Nat) : Int) = (a : Int) + 20 by omega] at hc
   have hz : (insertionSort lt di a (a + 20)).size = n := by rw [Sb.yz]; exact hsi
   rw [Sb.Qy hgo] at HI
   generalize sortWorldK enc k w blk off qi di oi = wq at hc ⊢
   generalize insertionSort lt di a (a + 20) = dj at hc hz HI
   go_wp2_with (go_at_call 179; go_must (refine hc.mono ?_); rintro e9 w9 ⟨rfl, q9, o9, rfl⟩)
   go_roundw
   case rel => exact ⟨a + 20, q9, dj, o9, by go_num, by go_num, hgo, hz, rfl, HI⟩
   case measure => simp [intOf]; omega
  ·have b2 : ¬ (a : Int) + 20 ≤ (n : Int) := by omega
   have hc := INS.out a n qi oi di (hsi.trans hn.out) HZ (by omega)
   rw [hsi, ← hlt.out] at hc
   have hz : (insertionSort lt di a n).size = n := by rw [Sb.yz]; exact hsi
   rw [Sb.Kr hgo] at HI
   generalize sortWorldK enc k w blk off qi di oi = wq at hc ⊢
   generalize insertionSort lt di a n = dj at hc hz HI
   rw [← HI.out] at hst
   clear HI
   go_wp2_with fail
   go_at_call 179
   refine hc.mono ?_
   clear hc
   rintro e9 w9 ⟨rfl, q9, o9, rfl⟩
   generalize yA : sortWorldK enc k w blk off q9 dj o9 = w9
   go_wp2_with fail
   go_loopw [6] (fun ss wr => ∃ (s qi : Nat) (di : Array α) (oi : Array Obj), ss = .int .i64 s ∧ 0 < s ∧ s < 2305843009213693952 ∧ di.size = n ∧ wr = sortWorldK enc k w blk off qi di oi ∧ Hid (Sb.qf lt n s di = Sb.xH lt d)) (fun ss _ => n - (intOf ss).toNat)
   case atStart => exact ⟨20, q9, dj, o9, rfl, by omega, by omega, hz, yA.symm, hst.out.symm⟩
   case round =>
    obtain ⟨s, qj, dk, oj, rfl, hs0, hsm, hsk, rfl, HD⟩ := hrel
    clear yA hst hz
    by_cases hsn : s < n
    ·have b3 : (s : Int) < (n : Int) := by omega
     have ws : IntKind.i64.wrap (2 * (s : Int)) = 2 * (s : Int) := by rw [IntKind.wrap_i64]; omega
     have ws' : IntKind.i64.wrap ((s : Int) * 2) = (s : Int) * 2 := by rw [IntKind.wrap_i64]; omega
     rw [Sb.QA hs0 hsn] at HD
     generalize WH : sortWorldK enc k w blk off qj dk oj = wj
     go_wp2_with fail
     go_loopw [7, 8] (fun aa bb wr => ∃ (a qi : Nat) (di : Array α) (oi : Array Obj), aa = .int .i64 a ∧ bb = .int .i64 ((a : Int) + 2 * (s : Int)) ∧ a ≤ n ∧ di.size = n ∧ wr = sortWorldK enc k w blk off qi di oi ∧ Hid (Sb.mM lt s n a di = Sb.mM lt s n 0 dk)) (fun aa _ _ => n - (intOf aa).toNat)
     case atStart => exact ⟨0, qj, dk, oj, rfl, by go_num, Nat.zero_le _, hsk, WH.symm, rfl⟩
     case round =>
      obtain ⟨a, qi, di, oi, rfl, rfl, HZ, hsi, rfl, HI⟩ := hrel
      clear WH
      have wm : IntKind.i64.wrap ((a : Int) + (s : Int)) = (a : Int) + (s : Int) := by rw [IntKind.wrap_i64]; omega
      by_cases hgo : a + 2 * s ≤ n
      ·have b4 : (a : Int) + 2 * (s : Int) ≤ (n : Int) := by omega
       have wa : IntKind.i64.wrap ((a : Int) + 2 * (s : Int) + 2 * (s : Int)) = (a : Int) + 2 * (s : Int) + 2 * (s : Int) := by rw [IntKind.wrap_i64]; omega
       have hc := WG.out (2 * s) a (a + s) (a + 2 * s) qi oi di (by omega) (by omega) (by omega) (by have := hn.out; omega) (hsi.trans hn.out)
       rw [← hn.out, ← hlt.out, show ((a + s : Nat) : Int) = (a : Int) + (s : Int) by omega, show ((a + 2 * s : Nat) : Int) = (a : Int) + 2 * (s : Int) by omega] at hc
       have hz : (Sb.symF lt (2 * s) a (a + s) (a + 2 * s) di).size = n := by rw [Sb.wy _ _ _ _ _ (by omega) (by omega) (by omega)]; exact hsi
       rw [Sb.Qz hs0 hgo] at HI
       generalize sortWorldK enc k w blk off qi di oi = wq at hc ⊢
       generalize Sb.symF lt (2 * s) a (a + s) (a + 2 * s) di = VB at hc hz HI
       go_wp2_with (go_at_call 180; go_must (refine hc.mono ?_); rintro e9 w9 ⟨rfl, q9, o9, rfl⟩)
       go_roundw
       case rel => exact ⟨a + 2 * s, q9, VB, o9, by go_num, by go_num, hgo, hz, rfl, HI⟩
       case measure => simp [intOf]; omega
      ·have b4 : ¬ (a : Int) + 2 * (s : Int) ≤ (n : Int) := by omega
       by_cases hl : a + s < n
       ·have b5 : (a : Int) + (s : Int) < (n : Int) := by omega
        have hc := WG.out (n - a) a (a + s) n qi oi di (by omega) (by omega) (by omega) (by have := hn.out; omega) (hsi.trans hn.out)
        rw [← hn.out, ← hlt.out, show ((a + s : Nat) : Int) = (a : Int) + (s : Int) by omega] at hc
        have hz : (Sb.symF lt (n - a) a (a + s) n di).size = n := by rw [Sb.wy _ _ _ _ _ (by omega) (by omega) (by omega)]; exact hsi
        rw [Sb.Kt hgo hl] at HI
        generalize sortWorldK enc k w blk off qi di oi = wq at hc ⊢
        generalize Sb.symF lt (n - a) a (a + s) n di = VB at hc hz HI
        rw [← HI.out] at HD
        clear HI
        go_wp2_with (go_at_call 180; go_must (refine hc.mono ?_); rintro e9 w9 ⟨rfl, q9, o9, rfl⟩)
        go_roundw
        case rel => exact ⟨2 * s, q9, VB, o9, by go_num, by omega, by omega, hz, rfl, HD⟩
        case measure => simp [intOf]; omega
       ·have b5 : ¬ (a : Int) + (s : Int) < (n : Int) := by omega
        rw [Sb.Ku hgo hl] at HI
        rw [← HI.out] at HD
        clear HI
        generalize hwq : sortWorldK enc k w blk off qi di oi = wq
        go_wp2_with fail
        go_roundw
        case rel => exact ⟨2 * s, qi, di, oi, by go_num, by omega, by omega, hsi, hwq.symm, HD⟩
        case measure => simp [intOf]; omega
    ·have b3 : ¬ (s : Int) < (n : Int) := by omega
     rw [Sb.Kv hsn] at HD
     generalize hwq : sortWorldK enc k w blk off qj dk oj = wq
     go_wp2_with fail
     go_end0
     exact ⟨rfl, qj, oj, by rw [← HD.out, hwq]⟩
theorem Bq (k : Nat) (aE : ∀ w, Sem.run Tryz.prog (isAgg 92) w = .ok true w) (zE : ∀ w, Sem.run Tryz.prog (Go.sizeOf 92) w = .ok k w) (hE : ma enc k) (hC : pF Tryz.prog g enc k cf blk off d.size w) (hH : HoldsK enc k w blk off d) (hblk : blk < w.heap.size) (hsz : d.size < 1152921504606846976) :
 Calls Tryz.prog 172 #[.slice (some ⟨blk, off, none⟩) d.size cap, .func (.func g) #[] #[]] w (qW enc k w blk off (Sb.xH (ltOf cf) d)) := by
 have hc := Kw (cap := cap) k aE zE hE hC hH hblk hsz
 clear hC hH hE
 go_enter Tryz.func172, Tryz.ntmps172
 go_wp2_with (go_at_call 177; go_must (refine hc.mono ?_); rintro e9 w9 ⟨rfl, q9, o9, rfl⟩)
 go_end0
 exact ⟨rfl, q9, o9, rfl⟩
end
end Go.Proofs.YtelnhablglomjaaGreat
