/-
 Own words and walks, merged: part 5 of 9.
-/
import Derived.RegionTactic
import Derived.ChangeAlike
import Derived.Deep.QuietTactic
import Derived.BigQuiet
import Derived.OwnWalk
import Derived.Test.YtelnhablglomjaaGreatChecked
import Derived.WalkKit
import Derived.WalkSpells
import Derived.WalkLawsBesides
import Derived.Deep.DeepMust
import Derived.Lib.Hide
import Derived.Lib.MinMax
import Derived.Laws.AppendOwn
import Derived.Lib.AppendZerosOnto
import Derived.Lib.Overlaps
import Derived.Laws.CopyRow
import Derived.Laws.Externs
import Derived.ArgAppend
import Derived.Test.YtelnhablglomjaaGreatZa4
set_option maxRecDepth 1000000
set_option maxHeartbeats 8000000
set_option linter.all false
namespace Go.Proofs.YtelnhablglomjaaGreat
open Go.RowKit
def jg (l : List Int) : Nat → Bool := fun i => decide (i < l.length)
def bW (l : List Int) : Nat → Bool := fun i => decide (l.getD i 0 = 2) || decide (l.getD i 0 = 3)
def bX (l : List Int) : Nat → Bool := fun i => decide (l.getD i 0 = 3) || decide (l.getD i 0 = 4)
structure iC (l : List Int) : Prop where
 one : 1 ≤ l.length
 few : l.length ≤ 64
 st : ∀ i, i < l.length → 1 ≤ l.getD i 0 ∧ l.getD i 0 ≤ 4
theorem nu {l : List Int} {i : Nat} (h : l.length ≤ i) : l.getD i 0 = 0 := by simp [List.getD_eq_getElem?_getD, List.getElem?_eq_none h]
theorem oM (f : Nat → Int → Int) (l : List Int) (i : Nat) : (l.mapIdx f).getD i 0 = if i < l.length then f i (l.getD i 0) else 0 := by
 by_cases h : i < l.length
 ·simp [List.getD_eq_getElem?_getD, h]
 ·simp [List.getD_eq_getElem?_getD, h]
theorem yE {u : Nat} (hu : u < 18446744073709551616) : aP u.testBit = u := kX hu fun _ _ => rfl
theorem MF (f g : Nat → Bool) : bits .or .u64 (aP f : Nat) (aP g : Nat) = ((aP fun i => f i || g i : Nat) : Int) := by
 rw [bits_or_u64_nat _ _ (eB f) (eB g)]
 congr 1
 refine (kX (Nat.or_lt_two_pow (n := 64) (eB f) (eB g)) fun i hi => ?_).symm
 rw [Nat.testBit_or, aZ, aZ]; simp [hi]
theorem uo (f g : Nat → Bool) : bits .andNot .u64 (aP f : Nat) (aP g : Nat) = ((aP fun i => f i && !g i : Nat) : Int) := by
 rw [qC _ _ (eB f) (eB g)]
 congr 1
 refine fP fun i hi => ?_
 rw [aZ, aZ]; simp [hi]
theorem rq {f : Nat → Bool} : aP f = 0 ↔ ∀ i, i < 64 → f i = false := by
 constructor
 ·intro h i hi
  have := congrArg (fun x => x.testBit i) h
  simp only [Nat.zero_testBit] at this
  rw [aZ] at this
  simpa [hi] using this
 ·intro h
  exact kX (by decide) fun i hi => by rw [h i hi, Nat.zero_testBit]
theorem xM (f : Nat → Bool) : aO (aP f).testBit 64 = aO f 64 := uk 64 fun i hi => by rw [aZ]; simp [hi]
section
variable {l : List Int}
theorem KM (h : iC l) : bits .andNot .u64 (aP (jg l) : Nat) (bits .or .u64 (aP (bW l) : Nat) (aP (bX l) : Nat)) = ((aP (iq l) : Nat) : Int) := by
 rw [MF, uo]
 congr 1
 refine fP fun i hi => ?_
 unfold jg bW bX iq
 rcases Nat.lt_or_ge i l.length with h1 | h1
 ·have := h.st i h1
  rw [Bool.eq_iff_iff]
  simp only [Bool.and_eq_true, Bool.not_eq_true', Bool.or_eq_false_iff, decide_eq_true_eq, decide_eq_false_iff_not]
  omega
 ·rw [nu h1]
  simp; omega
theorem nN (h : iC l) : aP (jg l) ≠ 0 := fun e => by
 have := rq.1 e 0 (by omega)
 unfold jg at this
 have h1 := h.one
 simp at this
 subst this
 simp at h1
theorem NV {u : Nat} (hu : u < 18446744073709551616) : bits .andNot .u64 (u : Int) (aP (bW l) : Nat) = 0 ↔ Im l u 2 3 64 := by
 have e := uo u.testBit (bW l)
 rw [yE hu] at e
 rw [e]
 constructor
 ·intro h i hi hb
  have h0 : aP (fun i => u.testBit i && !bW l i) = 0 := by omega
  have := rq.1 h0 i hi
  rw [hb] at this
  have hI : bW l i = true := by simpa using this
  unfold bW at hI
  have h2 : l.getD i 0 = 2 ∨ l.getD i 0 = 3 := by simpa [-List.getD_eq_getElem?_getD] using hI
  refine ⟨?_, h2⟩
  rcases Nat.lt_or_ge i l.length with h1 | h1
  ·exact h1
  ·rw [nu h1] at h2; omega
 ·intro h
  have : aP (fun i => u.testBit i && !bW l i) = 0 := rq.2 fun i hi => by
   cases hb : u.testBit i with
   | false => rfl
   | true =>
     unfold bW
     rcases (h i hi hb).2 with h2 | h2 <;> (rw [h2]; rfl)
  rw [this]; rfl
theorem NW {u : Nat} (hu : u < 18446744073709551616) : bits .andNot .u64 (aP (bW l) : Nat) (u : Int) = ((aP (bW (l.mapIdx (pO u))) : Nat) : Int) := by
 have e := uo (bW l) u.testBit
 rw [yE hu] at e
 rw [e]
 congr 1
 refine fP fun i hi => ?_
 unfold bW
 rw [oM]
 unfold pO
 cases hb : u.testBit i with
 | true =>
   rcases Nat.lt_or_ge i l.length with h1 | h1
   ·rw [if_pos h1]
    by_cases h2 : l.getD i 0 = 2
    ·rw [h2]; simp
    ·rw [if_pos rfl, if_neg h2]; simp
   ·rw [if_neg (by omega), nu h1]; simp
 | false =>
   rcases Nat.lt_or_ge i l.length with h1 | h1
   ·rw [if_pos h1]; simp
   ·rw [if_neg (by omega), nu h1]; simp
theorem NY {u : Nat} (h : Im l u 2 3 64) : aP (bX (l.mapIdx (pO u))) = aP (bX l) := by
 refine fP fun i hi => ?_
 unfold bX
 rw [oM]
 unfold pO
 cases hb : u.testBit i with
 | true =>
   rw [if_pos (h i hi hb).1]
   rcases (h i hi hb).2 with h2 | h2 <;> (rw [h2]; simp)
 | false =>
   rcases Nat.lt_or_ge i l.length with h1 | h1
   ·rw [if_pos h1]; simp
   ·rw [if_neg (by omega), nu h1]
theorem QU {u : Nat} (h : iC l) : iC (l.mapIdx (pO u)) := by
 refine ⟨by simpa using h.one, by simpa using h.few, fun i hi => ?_⟩
 rw [List.length_mapIdx] at hi
 rw [oM, if_pos hi]
 have := h.st i hi
 unfold pO
 split
 ·split <;> omega
 ·exact this
theorem NZ {u : Nat} (hu : u < 18446744073709551616) : bits .andNot .u64 (u : Int) (aP (bX l) : Nat) = ((aP fun i => u.testBit i && !bX l i : Nat) : Int) := by
 have e := uo u.testBit (bX l)
 rw [yE hu] at e
 exact e
theorem KN (u k : Nat) (hk : k ≤ 64) (h : Im l u 2 3 64) : aO (fun i => u.testBit i && !bX l i) k = pQ l u k := by
 induction k with
 | zero => rfl
 | succ k ih =>
   rw [zD, ← ih (by omega)]
   have e : (u.testBit k && !bX l k) = (u.testBit k && decide (l.getD k 0 = 2)) := by
    cases hb : u.testBit k with
    | false => rfl
    | true =>
      unfold bX
      rcases (h k (by omega) hb).2 with h2 | h2 <;> (rw [h2]; rfl)
   simp only [aO, e]
theorem KO (u : Nat) : ∀ k, l.length ≤ k → pQ l u k = pQ l u l.length := by
 intro k hk
 induction k with
 | zero => rw [show l.length = 0 by omega]
 | succ k ih =>
   by_cases e : l.length = k + 1
   ·rw [e]
   ·rw [zD, ih (by omega), nu (show l.length ≤ k by omega)]
    simp
theorem N7 {u : Nat} (h : iC l) (hP : Im l u 2 3 64) : aO (aP fun i => u.testBit i && !bX l i).testBit 64 = pQ l u l.length := by
 rw [xM, KN u 64 (Nat.le_refl _) hP, KO u 64 h.few]
theorem N8 (n : Int) : aP (Il (aP (iq l)) n) = aP (iB l n) := by
 refine fP fun i hi => ?_
 unfold Il iB
 rw [aZ, uk (g := iq l) i fun j hj => by rw [aZ]; simp [show j < 64 by omega]]
 simp [hi]
theorem wG (n : Int) (i : Nat) : (fo l n).getD i 0 = if iB l n i = true then 2 else l.getD i 0 := by
 unfold fo
 rw [oM]
 by_cases h : iB l n i = true
 ·have hI : iq l i = true := by
   unfold iB at h
   simp only [Bool.and_eq_true] at h
   exact h.1
  rw [if_pos (ME hI), if_pos h]
 ·rw [if_neg h]
  rcases Nat.lt_or_ge i l.length with h1 | h1
  ·rw [if_pos h1]
  ·rw [if_neg (by omega), nu h1]
theorem N9 (n : Int) : bits .or .u64 (aP (bW l) : Nat) (aP (iB l n) : Nat) = ((aP (bW (fo l n)) : Nat) : Int) := by
 rw [MF]
 congr 1
 refine fP fun i hi => ?_
 unfold bW
 rw [wG]
 cases h : iB l n i with
 | true => simp
 | false => simp
theorem Oa (n : Int) : aP (bX (fo l n)) = aP (bX l) := by
 refine fP fun i hi => ?_
 unfold bX
 rw [wG]
 cases h : iB l n i with
 | true =>
   have hI : iq l i = true := by
    unfold iB at h
    simp only [Bool.and_eq_true] at h
    exact h.1
   have h2 : l.getD i 0 = 1 := by unfold iq at hI; simpa [-List.getD_eq_getElem?_getD] using hI
   rw [h2]; simp
 | false => simp
theorem kR (n : Int) : (fo l n).length = l.length := by simp [fo]
theorem QV (n : Int) (h : iC l) : iC (fo l n) := by
 refine ⟨by rw [kR]; exact h.one, by rw [kR]; exact h.few, fun i hi => ?_⟩
 rw [kR] at hi
 rw [wG]
 have := h.st i hi
 split
 ·omega
 ·exact this
theorem zF {l' : List Int} (h : l'.length = l.length) : aP (jg l') = aP (jg l) := by unfold jg; rw [h]
theorem Ob (h : iC l) : aO (aP (iq l)).testBit 64 = aO (iq l) l.length := by rw [xM, QT l h.few]
theorem Oc {i : Nat} (hi : i < l.length) (h : iC l) : bX l i = !decide (l.getD i 0 < 3) := by
 have := h.st i hi
 unfold bX
 rw [Bool.eq_iff_iff]
 simp only [Bool.or_eq_true, decide_eq_true_eq, Bool.not_eq_true', decide_eq_false_iff_not]
 omega
theorem Io {i : Nat} (h : iC l) : iC (l.set i (kI (l.getD i 0))) := by
 refine ⟨by simpa using h.one, by simpa using h.few, fun j hj => ?_⟩
 rw [List.length_set] at hj
 rw [mo]
 have := h.st j hj
 split
 ·unfold kI
  repeat' split
  all_goals omega
 ·exact this
theorem Ed {i : Nat} (h : iC l) : aP (bW (l.set i (kI (l.getD i 0)))) = aP (bW l) := by
 refine fP fun j hj => ?_
 unfold bW
 rw [mo]
 by_cases e : j = i ∧ i < l.length
 ·rw [if_pos e]
  obtain ⟨rfl, e⟩ := e
  have := h.st j e
  rcases (by omega : l.getD j 0 = 1 ∨ l.getD j 0 = 2 ∨ l.getD j 0 = 3 ∨ l.getD j 0 = 4) with h1 | h1 | h1 | h1 <;> (rw [h1]; rfl)
 ·rw [if_neg e]
theorem KP {i : Nat} (hi : i < l.length) (h : iC l) (hd : l.getD i 0 < 3) : (aP fun j => decide ((j : Int) = (i : Int)) || (aP (bX l)).testBit j) = aP (bX (l.set i (kI (l.getD i 0)))) := by
 refine fP fun j hj => ?_
 rw [aZ]
 unfold bX
 rw [mo]
 by_cases e : j = i
 ·subst e
  rw [if_pos ⟨rfl, hi⟩]
  have := h.st j hi
  rcases (by omega : l.getD j 0 = 1 ∨ l.getD j 0 = 2) with h1 | h1 <;> (rw [h1]; simp [kI])
 ·rw [if_neg (by omega)]
  have : ¬ ((j : Int) = (i : Int)) := by omega
  simp [this, hj]
theorem Ip {i : Nat} (hi : i < l.length) (h : iC l) (hd : ¬ l.getD i 0 < 3) : (aP fun j => !decide ((j : Int) = (i : Int)) && (aP (bX l)).testBit j) = aP (bX (l.set i (kI (l.getD i 0)))) := by
 refine fP fun j hj => ?_
 rw [aZ]
 unfold bX
 rw [mo]
 by_cases e : j = i
 ·subst e
  rw [if_pos ⟨rfl, hi⟩]
  have := h.st j hi
  rcases (by omega : l.getD j 0 = 3 ∨ l.getD j 0 = 4) with h1 | h1 <;> (rw [h1]; simp [kI])
 ·rw [if_neg (by omega)]
  have : ¬ ((j : Int) = (i : Int)) := by omega
  simp [this, hj]
end
end Go.Proofs.YtelnhablglomjaaGreat

namespace Go.Proofs.YtelnhablglomjaaGreat
open Go.RowKit Go.Lib Go.Sort
theorem mq {w : World} {p : Nat} {o : Obj} (h : w.heap[p]? = some o) : p < w.heap.size := by
 rcases Nat.lt_or_ge p w.heap.size with h' | h'
 ·exact h'
 ·rw [Array.getElem?_eq_none h'] at h; cases h
def T3 (w : World) (p : Nat) (a u b : Nat) : Prop := w.heap[p]? = some (.cells #[.int .u64 a, .int .u64 u, .int .u64 b] 126 (0, 0))
def TW (w : World) (p : Nat) (l : List Int) : Prop := T3 w p (aP (jg l)) (aP (bW l)) (aP (bX l))
structure TY (w : World) (p a u b : Nat) : Prop where
 c0 : w.cell? ⟨p, 0, none⟩ = some (.int .u64 a)
 c1 : w.cell? ⟨p, 1, none⟩ = some (.int .u64 u)
 c2 : w.cell? ⟨p, 2, none⟩ = some (.int .u64 b)
 fz : ∀ j, w.frozen? ⟨p, j, none⟩ = false
 pl : p < w.heap.size
section
variable {w w' : World} {p a u b : Nat} {l : List Int}
theorem T3.facts (h : T3 w p a u b) : TY w p a u b := by
 unfold T3 at h
 exact ⟨by simp [World.cell?, h], by simp [World.cell?, h], by simp [World.cell?, h], fun j => by simp [World.frozen?, h], mq h⟩
theorem T3.kept (h : T3 w p a u b) (hb : Below w.heap.size w w') : T3 w' p a u b := by
 unfold T3 at *
 rw [hb.block p (mq h)]
 exact h
theorem T3.drew (h : T3 w p a u b) : T3 w.drew p a u b := h
theorem T3.used (u' : Nat) (h : T3 w p a u b) : T3 (w.setCell ⟨p, 1, none⟩ (.int .u64 u')) p a u' b := by
 have hlt := mq h
 have h1 : w.heap[p]? = _ := h
 rw [Array.getElem?_eq_getElem hlt] at h1
 replace h1 := Option.some.inj h1
 unfold T3
 simp [World.setCell, hlt, Array.getElem_modify, h1]
theorem T3.TZ (b' : Nat) (h : T3 w p a u b) : T3 (w.setCell ⟨p, 2, none⟩ (.int .u64 b')) p a u b' := by
 have hlt := mq h
 have h1 : w.heap[p]? = _ := h
 rw [Array.getElem?_eq_getElem hlt] at h1
 replace h1 := Option.some.inj h1
 unfold T3
 simp [World.setCell, hlt, Array.getElem_modify, h1]
theorem iJ (h : T3 w p a u b) (ha : a ≠ 0) :
 Calls Tryz.prog 76 #[.pointer (some ⟨p, 0, none⟩)] w fun e w' => e = .returned (.bool false) ∧ w = w' := by
 have c0 := h.facts.c0
 have hne : ((a : Int) == 0) = false := beq_eq_false_iff_ne.2 (by omega)
 clear h
 go_enter Tryz.func76, Tryz.ntmps76
 go_wp2_with fail
 go_ret
 exact ⟨rfl, rfl⟩
theorem ru (h : TW w p l) (hl : iC l) :
 Calls Tryz.prog 119 #[.pointer (some ⟨p, 0, none⟩)] w fun e w' => e = .returned (.int .i64 l.length) ∧ w = w' := by
 have hn := iJ h (nN hl)
 have c0 := h.facts.c0
 have hc : aO (aP (jg l)).testBit 64 = l.length := by
  rw [xM]
  have key : ∀ k, aO (jg l) k = min k l.length := by
   intro k
   induction k with
   | zero => simp [aO]
   | succ k ih =>
     simp only [aO, ih]
     unfold jg
     by_cases h1 : k < l.length
     ·simp [h1]; omega
     ·simp [h1]; omega
  rw [key]; have := hl.few; omega
 have hlen := rZ (aP (jg l)) (eB _) w
 rw [hc] at hlen
 clear hc h
 generalize aP (jg l) = A at *
 go_enter Tryz.func119, Tryz.ntmps119
 go_wp2_with (first | (go_at_call 76; go_must (refine hn.mono ?_); rintro e w' ⟨rfl, rfl⟩) | (go_at_call 93; go_must (refine hlen.mono ?_); rintro e w' ⟨rfl, rfl⟩))
 go_ret
 exact ⟨rfl, rfl⟩
theorem Ee (h : TW w p l) (hl : iC l) :
 Calls Tryz.prog 94 #[.pointer (some ⟨p, 0, none⟩)] w fun e w' => e = .returned (.int .u64 (aP (iq l))) ∧ w.drew = w' := by
 have hn := iJ h (nN hl)
 have c0 := h.facts.c0
 have c1 := h.facts.c1
 have c2 := h.facts.c2
 have e := KM hl
 clear h
 generalize aP (bW l) = U at *
 generalize aP (jg l) = A at *
 generalize aP (bX l) = B at *
 generalize aP (iq l) = I at *
 replace e := Lib.hid e
 go_enter Tryz.func94, Tryz.ntmps94
 go_wp2_with (go_at_call 76; go_must (refine hn.mono ?_); rintro e w' ⟨rfl, rfl⟩)
 go_region
 go_wp2_with fail
 go_ret
 exact ⟨congrArg (fun n => Ending.returned (.int .u64 n)) e.out, rfl⟩
def qE (l : List Int) (n : Int) : Int := if 0 ≤ n ∧ n < l.length then l.getD n.toNat 0 else 0
theorem Iq {n : Int} (hl : iC l) : sP (aP (jg l)) n = decide (0 ≤ n ∧ n < l.length) := by
 have := hl.few
 by_cases h : 0 ≤ n ∧ n < 64
 ·obtain ⟨i, rfl⟩ := Int.eq_ofNat_of_zero_le h.1
  rw [oL (by omega), aZ]
  unfold jg
  rw [Bool.eq_iff_iff]
  simp
  omega
 ·unfold sP
  rw [Bool.eq_iff_iff]
  simp
  omega
theorem QW {i : Nat} (hi : i < 64) : sP (aP (bW l)) (i : Int) = bW l i := by rw [oL hi, aZ]; simp [hi]
theorem Ir {i : Nat} (hi : i < 64) : sP (aP (bX l)) (i : Int) = bX l i := by rw [oL hi, aZ]; simp [hi]
theorem ry {P : Program} {f : FuncId} {args : Array Value} {w : World} {n : Nat} {v : Value} (h : Calls P f args (w.drewN n) fun e w' => e = .returned v ∧ w.drewN n = w') : Calls P f args (w.drewN n) fun e w'' => e = .returned v ∧ ∃ m, w'' = w.drewN m :=
 h.mono fun _ _ ⟨he, hm⟩ => ⟨he, n, hm.symm⟩
theorem wH (n : Int) (hn : -9223372036854775808 ≤ n ∧ n ≤ 9223372036854775807) (h : TW w p l) (hl : iC l) :
 Calls Tryz.prog 105 #[.pointer (some ⟨p, 0, none⟩), .int .i64 n] w fun e w' => e = .returned (.int .i64 (qE l n)) ∧ ∃ m, w' = w.drewN m := by
 have hno := iJ h (nN hl)
 have c0 := h.facts.c0
 have c1 := h.facts.c1
 have c2 := h.facts.c2
 have hA := zq6 (aP (jg l)) (eB _) n w hn
 have hU := fun W => zq6 (aP (bW l)) (eB _) n W hn
 have hB := fun W => zq6 (aP (bX l)) (eB _) n W hn
 rw [Iq hl] at hA
 clear h
 by_cases hin : 0 ≤ n ∧ n < l.length
 ·have e0 : qE l n = l.getD n.toNat 0 := by unfold qE; rw [if_pos hin]
  rw [e0]
  obtain ⟨i, rfl⟩ := Int.eq_ofNat_of_zero_le hin.1
  have hi : i < l.length := by omega
  have hf := hl.few
  rw [decide_eq_true hin] at hA
  rw [QW (by omega)] at hU
  rw [Ir (by omega)] at hB
  have hs := hl.st i hi
  rw [Int.toNat_natCast]
  unfold bW at hU
  unfold bX at hB
  obtain ⟨x, hx⟩ : ∃ x, x = l.getD i 0 := ⟨_, rfl⟩
  rw [← hx] at hU hB hs ⊢
  have cU : ∃ U, w.cell? ⟨p, 1, none⟩ = some (.int .u64 U) ∧ U = aP (bW l) := ⟨_, c1, rfl⟩
  obtain ⟨U, cU, WW⟩ := cU
  have cB : ∃ U, w.cell? ⟨p, 2, none⟩ = some (.int .u64 U) ∧ U = aP (bX l) := ⟨_, c2, rfl⟩
  obtain ⟨B, cB, WX⟩ := cB
  generalize aP (jg l) = A at *
  clear c1 c2
  have WY : ∀ W, Calls Tryz.prog 131 #[.int .u64 U, .int .i64 i] W fun e w' => e = .returned (.bool (decide (x = 2) || decide (x = 3))) ∧ W = w' := by
   rw [WW]; unfold bW; exact hU
  have hB' : ∀ W, Calls Tryz.prog 131 #[.int .u64 B, .int .i64 i] W fun e w' => e = .returned (.bool (decide (x = 3) || decide (x = 4))) ∧ W = w' := by
   rw [WX]; unfold bX; exact hB
  clear hx e0 hin hl hn hf hi hU hB WW WX
  rcases (by omega : x = 1 ∨ x = 2 ∨ x = 3 ∨ x = 4) with rfl | rfl | rfl | rfl
  all_goals
   simp only [Int.reduceEq, decide_true, decide_false, Bool.or_true, Bool.or_false] at WY hB'
   clear hs
   go_enter Tryz.func105, Tryz.ntmps105
   go_wp2_with (first | (go_at_call 76; go_must (refine hno.mono ?_); rintro e w' ⟨rfl, rfl⟩) | (go_at_call 131; go_must (refine hA.mono ?_); rintro e w' ⟨rfl, rfl⟩))
   go_quiet ((go_at_call 131; first | with_reducible exact ry (WY _) | with_reducible exact ry (hB' _)))
   go_wp2_with fail
   go_ret
   exact ⟨rfl, _, rfl⟩
 ·have e0 : qE l n = 0 := by unfold qE; rw [if_neg hin]
  rw [e0]
  rw [decide_eq_false hin] at hA
  generalize aP (jg l) = A at *
  clear hin e0 hU hB
  go_enter Tryz.func105, Tryz.ntmps105
  go_wp2_with (first | (go_at_call 76; go_must (refine hno.mono ?_); rintro e w' ⟨rfl, rfl⟩) | (go_at_call 131; go_must (refine hA.mono ?_); rintro e w' ⟨rfl, rfl⟩))
  go_ret
  exact ⟨rfl, 0, rfl⟩
theorem Iu (h : TW w p l) (hl : iC l) :
 Calls Tryz.prog 80 #[.pointer (some ⟨p, 0, none⟩)] w fun e w' => e = .returned (.tuple #[.int .i64 (aO (iq l) 64), .int .i64 (aO (bW l) 64), .int .i64 (aO (fun i => bX l i && !bW l i) 64)]) ∧ ∃ m, w' = w.drewN m := by
 have hno := iJ h (nN hl)
 have hid : ∀ (n : Nat), Calls Tryz.prog 94 #[.pointer (some ⟨p, 0, none⟩)] (w.drewN n) fun e w' => e = .returned (.int .u64 (aP (iq l))) ∧ ∃ m, w' = (w.drewN n).drewN m := fun n =>
  (Ee (w := w.drewN n) (p := p) (l := l) h hl).mono fun e w' ⟨h1, h2⟩ => ⟨h1, 1, h2.symm⟩
 have c1 := h.facts.c1
 have c2 := h.facts.c2
 have e := uo (bX l) (bW l)
 have l1 := fun W => rZ (aP (iq l)) (eB _) W
 have l2 := fun W => rZ (aP (bW l)) (eB _) W
 have l3 := fun W => rZ (aP (fun i => bX l i && !bW l i)) (eB _) W
 rw [xM] at l1 l2 l3
 clear h
 generalize aO (iq l) 64 = k1 at *
 generalize aO (bW l) 64 = k2 at *
 generalize aO (fun i => bX l i && !bW l i) 64 = k3 at *
 generalize aP (fun i => bX l i && !bW l i) = D at *
 generalize aP (bW l) = U at *
 generalize aP (iq l) = I at *
 generalize aP (bX l) = B at *
 go_enter Tryz.func80, Tryz.ntmps80
 go_wp2_with (go_at_call 76; go_must (refine hno.mono ?_); rintro e w' ⟨rfl, rfl⟩)
 go_quiet (first | (go_at_call 94; exact Calls.quiet_of (hid _)) | (go_at_call 93; first | with_reducible exact ry (l1 _) | with_reducible exact ry (l2 _) | with_reducible exact ry (l3 _)))
 go_wp2_with fail
 go_ret3
 exact ⟨rfl, _, rfl⟩
end
end Go.Proofs.YtelnhablglomjaaGreat

namespace Go.Proofs.YtelnhablglomjaaGreat
open Go.RowKit Go.Sort Go.Lib
section
variable {w w' : World} {q h : Nat} {l : List Int}
theorem jZ.drew (b : jZ h w w') : jZ h w w'.drew := ⟨b.os, b.tape, b.output, b.size, b.block⟩
end
end Go.Proofs.YtelnhablglomjaaGreat

namespace Go.Proofs.YtelnhablglomjaaGreat
open Go.RowKit Go.Lib Go.Sort
section
variable {w w' : World} {p : Nat} {l : List Int}
theorem MG {l' : List Int} (h : TW w p l) (hl : l'.length = l.length) (hb : aP (bX l') = aP (bX l)) : TW (w.setCell ⟨p, 1, none⟩ (.int .u64 (aP (bW l')))) p l' := by
 unfold TW
 rw [hb, zF hl]
 exact T3.used _ h
theorem MH {l' : List Int} (h : TW w p l) (hl : l'.length = l.length) (hb : aP (bW l') = aP (bW l)) : TW (w.setCell ⟨p, 2, none⟩ (.int .u64 (aP (bX l')))) p l' := by
 unfold TW
 rw [hb, zF hl]
 exact T3.TZ _ h
def FY (l : List Int) (n : Int) (p : Nat) (w : World) (e : Ending) (w' : World) : Prop := jZ p w w' ∧ ∃ (s : Nat) (x : Int) (l' : List Int), e = .returned (.tuple #[.int .u64 s, .int .i64 x]) ∧ qD l n s x l' ∧ TW w' p l' ∧ iC l' ∧ l'.length = l.length
theorem Od (n : Int) (hn : -9223372036854775808 ≤ n ∧ n ≤ 9223372036854775807) (h : TW w p l) (hl : iC l) :
 Calls Tryz.prog 167 #[.pointer (some ⟨p, 0, none⟩), .int .i64 n] w (FY l n p w) := by
 have hno := iJ h (nN hl)
 have hid := Ee h hl
 have hc := Ob hl
 by_cases h1 : n < 1
 ·have hg : Hid (FY l n p w (.returned (.tuple #[.int .u64 0, .int .i64 1])) w) := ⟨jZ.refl _ _, 0, 1, l, rfl, ⟨fun _ => ⟨rfl, rfl, rfl⟩, fun hx => by omega, fun hx => by omega⟩, h, hl, rfl⟩
  clear h hid hc
  go_enter Tryz.func167, Tryz.ntmps167
  go_wp2_with (go_at_call 76; go_must (refine hno.mono ?_); rintro e w' ⟨rfl, rfl⟩)
  go_ret2
  exact hg.out
 ·by_cases h2 : (aO (iq l) l.length : Int) < n
  ·have hg : Hid (FY l n p w (.returned (.tuple #[.int .u64 0, .int .i64 6])) w.drew) := ⟨(jZ.refl _ _).drew, 0, 6, l, rfl, ⟨fun hx => by omega, fun _ _ => ⟨rfl, rfl, rfl⟩, fun _ hx => by omega⟩, h.drew, hl, rfl⟩
   have hf := FX (aP (iq l)) (eB _) n w.drew hn (.inr (by rw [hc]; exact h2))
   clear h hc h2
   generalize aP (iq l) = I at *
   go_enter Tryz.func167, Tryz.ntmps167
   go_wp2_with (first | (go_at_call 76; go_must (refine hno.mono ?_); rintro e w' ⟨rfl, rfl⟩) | (go_at_call 94; go_must (refine hid.mono ?_); rintro e w' ⟨rfl, rfl⟩) | (go_at_call 173; go_must (refine hf.mono ?_); rintro e w' ⟨rfl, rfl⟩))
   go_ret2
   exact hg.out
  ·have hf := Da (aP (iq l)) (eB _) n w.drew (by omega) (by rw [hc]; omega)
   rw [N8] at hf
   have hu := N9 (l := l) n
   have hg : Hid (FY l n p w (.returned (.tuple #[.int .u64 (aP (iB l n)), .int .i64 0])) (w.drew.setCell ⟨p, 1, none⟩ (.int .u64 (aP (bW (fo l n)))))) :=
    ⟨((jZ.refl _ _).drew).setCell, _, 0, fo l n, rfl, ⟨fun hx => by omega, fun _ hx => by omega, fun _ _ => ⟨rfl, rfl, rfl⟩⟩, MG h.drew (kR n) (Oa n), QV n hl, kR n⟩
   have c1 : w.drew.cell? ⟨p, 1, none⟩ = _ := h.drew.facts.c1
   have fz : w.drew.frozen? ⟨p, 1, none⟩ = false := h.drew.facts.fz 1
   clear h hc h2
   generalize aP (iq l) = I at *
   generalize aP (bW l) = U at *
   generalize aP (iB l n) = S at *
   generalize aP (bW (fo l n)) = V at *
   generalize w.drew = wd at *
   go_enter Tryz.func167, Tryz.ntmps167
   go_wp2_with (first | (go_at_call 76; go_must (refine hno.mono ?_); rintro e w' ⟨rfl, rfl⟩) | (go_at_call 94; go_must (refine hid.mono ?_); rintro e w' ⟨rfl, rfl⟩) | (go_at_call 173; go_must (refine hf.mono ?_); rintro e w' ⟨rfl, rfl⟩))
   go_ret2
   exact hg.out
def KQ (l : List Int) (u : Nat) (p : Nat) (w : World) (e : Ending) (w' : World) : Prop := jZ p w w' ∧ ∃ (n x : Int) (l' : List Int), e = .returned (.tuple #[.int .i64 n, .int .i64 x]) ∧ BK l u n x l' ∧ TW w' p l' ∧ iC l' ∧ l'.length = l.length
theorem Oe (u : Nat) (hu : u < 18446744073709551616) (h : TW w p l) (hl : iC l) :
 Calls Tryz.prog 129 #[.pointer (some ⟨p, 0, none⟩), .int .u64 u] w (KQ l u p w) := by
 have hno := iJ h (nN hl)
 have hb := NV (l := l) hu
 have c1 : w.cell? ⟨p, 1, none⟩ = _ := h.facts.c1
 have fz : w.frozen? ⟨p, 1, none⟩ = false := h.facts.fz 1
 by_cases hP : Im l u 2 3 64
 ·have z : bits .andNot .u64 (u : Int) (aP (bW l) : Nat) = 0 := hb.2 hP
  have hc := NW (l := l) hu
  have hnw := NZ (l := l) hu
  have hcn := N7 hl hP
  have hlen := fun W => rZ (aP fun i => u.testBit i && !bX l i) (eB _) W
  rw [hcn] at hlen
  have hg : Hid (KQ l u p w (.returned (.tuple #[.int .i64 (pQ l u l.length), .int .i64 0])) (w.setCell ⟨p, 1, none⟩ (.int .u64 (aP (bW (l.mapIdx (pO u))))))) :=
   ⟨(jZ.refl _ _).setCell, _, 0, _, rfl, ⟨fun hx => absurd hP hx, fun _ => ⟨rfl, rfl, rfl⟩⟩, MG h (by simp) (NY hP), QU hl, by simp⟩
  have c2 : (w.setCell ⟨p, 1, none⟩ (.int .u64 (aP (bW (l.mapIdx (pO u)))))).cell? ⟨p, 2, none⟩ = _ := (T3.used _ h).facts.c2
  clear h hb hP hcn
  generalize pQ l u l.length = k at *
  generalize (aP fun i => u.testBit i && !bX l i) = D at *
  generalize aP (bX l) = B at *
  generalize aP (bW l) = U at *
  generalize aP (bW (l.mapIdx (pO u))) = V at *
  go_enter Tryz.func129, Tryz.ntmps129
  go_wp2_with (first | (go_at_call 76; go_must (refine hno.mono ?_); rintro e w' ⟨rfl, rfl⟩) | (go_at_call 93; go_must (refine (hlen _).mono ?_); rintro e w' ⟨rfl, rfl⟩))
  go_ret2
  exact hg.out
 ·obtain ⟨y, hy⟩ : ∃ y, bits .andNot .u64 (u : Int) (aP (bW l) : Nat) = y := ⟨_, rfl⟩
  have hy0 : (y != 0) = true := by
   rw [hy] at hb
   simp
   exact fun hx => hP (hb.1 hx)
  have hg : Hid (KQ l u p w (.returned (.tuple #[.int .i64 0, .int .i64 11])) w) := ⟨jZ.refl _ _, 0, 11, l, rfl, ⟨fun _ => ⟨rfl, rfl, rfl⟩, fun hx => absurd hx hP⟩, h, hl, rfl⟩
  clear h hb hP
  generalize aP (bW l) = U at *
  go_enter Tryz.func129, Tryz.ntmps129
  go_wp2_with (go_at_call 76; go_must (refine hno.mono ?_); rintro e w' ⟨rfl, rfl⟩)
  go_ret2
  exact hg.out
end
end Go.Proofs.YtelnhablglomjaaGreat

namespace Go.Proofs.YtelnhablglomjaaGreat
open Go.RowKit Go.Lib Go.Sort
theorem BM (u : Nat) (hu : u < 18446744073709551616) (n : Int) (w : World) (hn : -9223372036854775808 ≤ n ∧ n ≤ 9223372036854775807) :
 Calls Tryz.prog 135 #[.int .u64 u, .int .i64 n] w fun e w' => e = .returned (.int .u64 (aP fun i => !decide ((i : Int) = n) && u.testBit i)) ∧ w = w' := by
 have e := qC u (mh n) hu (BI n)
 have e2 : (aP fun i => u.testBit i && !(mh n).testBit i) = aP fun i => !decide ((i : Int) = n) && u.testBit i := fP fun i hi => by
  unfold mh
  rw [aZ, Bool.and_comm]
  simp [hi]
 rw [e2] at e
 replace e := Lib.hid e
 clear e2
 generalize (aP fun i => !decide ((i : Int) = n) && u.testBit i) = x at e ⊢
 have hb := fun w => BJ n w hn
 generalize mh n = b at *
 clear hu
 go_enter Tryz.func135, Tryz.ntmps135
 go_wp2_with (go_at_call 153; go_must (refine (hb _).mono ?_); rintro e w' ⟨rfl, rfl⟩)
 go_ret
 exact ⟨congrArg (fun n => Ending.returned (.int .u64 n)) e.out, rfl⟩
section
variable {w w' : World} {p : Nat} {l : List Int}
def KR (l : List Int) (n : Int) (d : Bool) : Int := if n < 0 ∨ (l.length : Int) ≤ n then 11 else if d = decide (l.getD n.toNat 0 < 3) then 8 else 0
theorem BN (n : Int) (d : Bool) (hn : -9223372036854775808 ≤ n ∧ n ≤ 9223372036854775807) (h : TW w p l) (hl : iC l) :
 Calls Tryz.prog 134 #[.pointer (some ⟨p, 0, none⟩), .int .i64 n, .bool d] w fun e w' => e = .returned (.int .i64 (KR l n d)) ∧ w = w' := by
 have hno := iJ h (nN hl)
 have c0 := h.facts.c0
 have c2 := h.facts.c2
 have hA := zq6 (aP (jg l)) (eB _) n w hn
 rw [Iq hl] at hA
 have hB := zq6 (aP (bX l)) (eB _) n w hn
 clear h
 by_cases hin : n < 0 ∨ (l.length : Int) ≤ n
 ·rw [decide_eq_false (by omega)] at hA
  rw [show KR l n d = 11 from if_pos hin]
  generalize aP (jg l) = A at *
  clear hin hB
  go_enter Tryz.func134, Tryz.ntmps134
  go_wp2_with (first | (go_at_call 76; go_must (refine hno.mono ?_); rintro e w' ⟨rfl, rfl⟩) | (go_at_call 131; go_must (refine hA.mono ?_); rintro e w' ⟨rfl, rfl⟩))
  go_ret
  exact ⟨rfl, rfl⟩
 ·rw [decide_eq_true (by omega)] at hA
  rw [show KR l n d = if d = decide (l.getD n.toNat 0 < 3) then 8 else 0 from if_neg hin]
  obtain ⟨i, rfl⟩ := Int.eq_ofNat_of_zero_le (show 0 ≤ n by omega)
  have hf := hl.few
  rw [Ir (by omega), Oc (by omega) hl] at hB
  rw [Int.toNat_natCast]
  generalize aP (jg l) = A at *
  generalize aP (bX l) = B at *
  generalize decide (l.getD i 0 < 3) = x at *
  clear hin hn hf hl
  cases d <;> cases x
  all_goals
   go_enter Tryz.func134, Tryz.ntmps134
   go_wp2_with fail
   go_at_call 76
   refine hno.mono ?_
   rintro e w' ⟨rfl, rfl⟩
   go_wp2_with fail
   go_at_call 131
   refine hA.mono ?_
   clear hA
   rintro e w' ⟨rfl, rfl⟩
   go_wp2_with fail
   go_at_call 131
   refine hB.mono ?_
   clear hB
   rintro e w' ⟨rfl, rfl⟩
   go_wp2_with fail
   go_ret
   exact ⟨rfl, rfl⟩
def uq (l : List Int) (n : Int) (d : Bool) (p : Nat) (w : World) (e : Ending) (w' : World) : Prop := jZ p w w' ∧ ∃ (x : Int) (l' : List Int), e = .returned (.int .i64 x) ∧ nk l n d x l' ∧ TW w' p l' ∧ iC l' ∧ l'.length = l.length
theorem KS (n : Int) (hn : -9223372036854775808 ≤ n ∧ n ≤ 9223372036854775807) (h : TW w p l) (hl : iC l) :
 Calls Tryz.prog 132 #[.pointer (some ⟨p, 0, none⟩), .int .i64 n] w (uq l n true p w) := by
 have hck := BN n false hn h hl
 by_cases hin : n < 0 ∨ (l.length : Int) ≤ n
 ·rw [show KR l n false = 11 from if_pos hin] at hck
  have hg : Hid (uq l n true p w (.returned (.int .i64 11)) w) := ⟨jZ.refl _ _, 11, l, rfl, ⟨fun _ => ⟨rfl, rfl⟩, fun _ _ => by omega, fun _ _ => by omega⟩, h, hl, rfl⟩
  clear h hin
  go_enter Tryz.func132, Tryz.ntmps132
  go_wp2_with (go_at_call 134; go_must (refine hck.mono ?_); rintro e w' ⟨rfl, rfl⟩)
  go_ret
  exact hg.out
 ·rw [show KR l n false = if false = decide (l.getD n.toNat 0 < 3) then 8 else 0 from if_neg hin] at hck
  obtain ⟨i, rfl⟩ := Int.eq_ofNat_of_zero_le (show 0 ≤ n by omega)
  have hil : i < l.length := by omega
  rw [Int.toNat_natCast] at hck
  by_cases h3 : l.getD i 0 < 3
  ·rw [decide_eq_true h3, if_neg (by simp)] at hck
   have hw := QS (aP (bX l)) (eB _) (i : Int) w hn
   rw [KP hil hl h3] at hw
   have c2 := h.facts.c2
   have fz := h.facts.fz 2
   have hg : Hid (uq l i true p w (.returned (.int .i64 0)) (w.setCell ⟨p, 2, none⟩ (.int .u64 (aP (bX (l.set i (kI (l.getD i 0)))))))) :=
    ⟨(jZ.refl _ _).setCell, 0, l.set i (kI (l.getD i 0)), rfl, ⟨fun hx => by omega, fun _ _ hx => absurd hx (by simpa using h3), fun _ _ _ => ⟨rfl, by simp⟩⟩, MH h (by simp) (Ed hl), Io hl, by simp⟩
   clear h hin
   generalize aP (bX l) = B at *
   generalize aP (bX (l.set i (kI (l.getD i 0)))) = V at *
   replace h3 := Lib.hid h3
   go_enter Tryz.func132, Tryz.ntmps132
   go_wp2_with (first | (go_at_call 134; go_must (refine hck.mono ?_); rintro e w' ⟨rfl, rfl⟩) | (go_at_call 154; go_must (refine hw.mono ?_); rintro e w' ⟨rfl, rfl⟩))
   go_ret
   exact hg.out
  ·rw [decide_eq_false h3, if_pos rfl] at hck
   have hg : Hid (uq l i true p w (.returned (.int .i64 8)) w) := ⟨jZ.refl _ _, 8, l, rfl, ⟨fun hx => by omega, fun _ _ _ => ⟨rfl, rfl⟩, fun _ _ hx => absurd hx (by simpa using h3)⟩, h, hl, rfl⟩
   clear h hin
   replace h3 := Lib.hid h3
   go_enter Tryz.func132, Tryz.ntmps132
   go_wp2_with (go_at_call 134; go_must (refine hck.mono ?_); rintro e w' ⟨rfl, rfl⟩)
   go_ret
   exact hg.out
theorem Iw (n : Int) (hn : -9223372036854775808 ≤ n ∧ n ≤ 9223372036854775807) (h : TW w p l) (hl : iC l) :
 Calls Tryz.prog 108 #[.pointer (some ⟨p, 0, none⟩), .int .i64 n] w (uq l n false p w) := by
 have hck := BN n true hn h hl
 by_cases hin : n < 0 ∨ (l.length : Int) ≤ n
 ·rw [show KR l n true = 11 from if_pos hin] at hck
  have hg : Hid (uq l n false p w (.returned (.int .i64 11)) w) := ⟨jZ.refl _ _, 11, l, rfl, ⟨fun _ => ⟨rfl, rfl⟩, fun _ _ => by omega, fun _ _ => by omega⟩, h, hl, rfl⟩
  clear h hin
  go_enter Tryz.func108, Tryz.ntmps108
  go_wp2_with (go_at_call 134; go_must (refine hck.mono ?_); rintro e w' ⟨rfl, rfl⟩)
  go_ret
  exact hg.out
 ·rw [show KR l n true = if true = decide (l.getD n.toNat 0 < 3) then 8 else 0 from if_neg hin] at hck
  obtain ⟨i, rfl⟩ := Int.eq_ofNat_of_zero_le (show 0 ≤ n by omega)
  have hil : i < l.length := by omega
  rw [Int.toNat_natCast] at hck
  by_cases h3 : l.getD i 0 < 3
  ·rw [decide_eq_true h3, if_pos rfl] at hck
   have hg : Hid (uq l i false p w (.returned (.int .i64 8)) w) := ⟨jZ.refl _ _, 8, l, rfl, ⟨fun hx => by omega, fun _ _ _ => ⟨rfl, rfl⟩, fun _ _ hx => absurd hx (by simpa using h3)⟩, h, hl, rfl⟩
   clear h hin
   replace h3 := Lib.hid h3
   go_enter Tryz.func108, Tryz.ntmps108
   go_wp2_with (go_at_call 134; go_must (refine hck.mono ?_); rintro e w' ⟨rfl, rfl⟩)
   go_ret
   exact hg.out
  ·rw [decide_eq_false h3, if_neg (by simp)] at hck
   have hw := BM (aP (bX l)) (eB _) (i : Int) w hn
   rw [Ip hil hl h3] at hw
   have c2 := h.facts.c2
   have fz := h.facts.fz 2
   have hg : Hid (uq l i false p w (.returned (.int .i64 0)) (w.setCell ⟨p, 2, none⟩ (.int .u64 (aP (bX (l.set i (kI (l.getD i 0)))))))) :=
    ⟨(jZ.refl _ _).setCell, 0, l.set i (kI (l.getD i 0)), rfl, ⟨fun hx => by omega, fun _ _ hx => absurd hx (by simpa using h3), fun _ _ _ => ⟨rfl, by simp⟩⟩, MH h (by simp) (Ed hl), Io hl, by simp⟩
   clear h hin
   generalize aP (bX l) = B at *
   generalize aP (bX (l.set i (kI (l.getD i 0)))) = V at *
   replace h3 := Lib.hid h3
   go_enter Tryz.func108, Tryz.ntmps108
   go_wp2_with (first | (go_at_call 134; go_must (refine hck.mono ?_); rintro e w' ⟨rfl, rfl⟩) | (go_at_call 135; go_must (refine hw.mono ?_); rintro e w' ⟨rfl, rfl⟩))
   go_ret
   exact hg.out
theorem Iy (n : Int) (w : World) (h : n < 1 ∨ 64 < n) : Calls Tryz.prog 61 #[.int .i64 n] w fun e w' => e = .returned (.tuple #[.pointer none, .int .i64 1]) ∧ w = w' := by
 by_cases h1 : n < 1
 ·go_enter Tryz.func61, Tryz.ntmps61
  go_wp2_with fail
  go_ret2
  exact ⟨rfl, rfl⟩
 ·have h2 : 64 < n := by omega
  clear h
  go_enter Tryz.func61, Tryz.ntmps61
  go_wp2_with fail
  go_ret2
  exact ⟨rfl, rfl⟩
theorem Iz (n i : Nat) : (List.replicate n (1 : Int)).getD i 0 = if i < n then 1 else 0 := by
 by_cases hi : i < n
 ·simp [List.getD_eq_getElem?_getD, hi]
 ·simp [List.getD_eq_getElem?_getD, hi]
theorem QX (n : Nat) : (aP fun i => decide ((i : Int) < (n : Int))) = aP (jg (List.replicate n 1)) := by
 refine fP fun i _ => ?_
 unfold jg
 rw [List.length_replicate, Bool.eq_iff_iff]
 simp
theorem QY (n : Nat) : aP (bW (List.replicate n 1)) = 0 := rq.2 fun i _ => by
 unfold bW
 rw [Iz]
 split <;> simp
theorem QZ (n : Nat) : aP (bX (List.replicate n 1)) = 0 := rq.2 fun i _ => by
 unfold bX
 rw [Iz]
 split <;> simp
def UI (n : Nat) (w : World) (e : Ending) (w' : World) : Prop := e = .returned (.tuple #[.pointer (some ⟨w.heap.size, 0, none⟩), .int .i64 0]) ∧ TW w' w.heap.size (List.replicate n 1) ∧ Below w.heap.size w w'
theorem IA (n : Nat) (w : World) (h1 : 1 ≤ n) (h2 : n ≤ 64) : Calls Tryz.prog 61 #[.int .i64 n] w (UI n w) := by
 have ha := TU (n : Int) w (by omega)
 rw [QX] at ha
 have hg : Hid (UI n w (.returned (.tuple #[.pointer (some ⟨w.heap.size, 0, none⟩), .int .i64 0])) (w.alloc (.cells #[.int .u64 (aP (jg (List.replicate n 1))), .int .u64 0, .int .u64 0] 126))) := by
  refine ⟨rfl, ?_, (Below.refl _ _).alloc (Nat.le_refl _) _⟩
  unfold TW
  rw [QY, QZ]
  exact heap_alloc_new w _
 generalize aP (jg (List.replicate n 1)) = A at *
 have b1 : ¬ ((n : Int) < 1) := by omega
 have b2 : ¬ (64 < (n : Int)) := by omega
 go_enter Tryz.func61, Tryz.ntmps61
 go_wp2_with (go_at_call 75; go_must (refine ha.mono ?_); rintro e w' ⟨rfl, rfl⟩)
 go_ret2
 exact hg.out
def VF (l : List Int) (w : World) (e : Ending) (w' : World) : Prop := e = .returned (.pointer (some ⟨w.heap.size, 0, none⟩)) ∧ TW w' w.heap.size l ∧ Below w.heap.size w w'
theorem FZ (h : TW w p l) (hl : iC l) : Calls Tryz.prog 65 #[.pointer (some ⟨p, 0, none⟩)] w (VF l w) := by
 have hno := iJ h (nN hl)
 have c0 := h.facts.c0
 have c1 := h.facts.c1
 have c2 := h.facts.c2
 have hb := h.facts.pl
 go_enter Tryz.func65, Tryz.ntmps65
 go_wp2_with (go_at_call 76; go_must (refine hno.mono ?_); rintro e w' ⟨rfl, rfl⟩)
 go_ret
 exact ⟨rfl, heap_alloc_new w _, (Below.refl _ _).alloc (Nat.le_refl _) _⟩
end
end Go.Proofs.YtelnhablglomjaaGreat

namespace Go.Proofs.YtelnhablglomjaaGreat
open Go.RowKit Go.Sort Go.Lib
theorem bY {w w' : World} {base : Nat} {e : TypeId} {size : Nat} {v : Value} {n : Nat} {xs : List Value} (h : w.ownsRow base e size v n xs) (hb : Below w.heap.size w w') : w'.ownsRow base e size v n xs :=
 ownsRow_below h hb fun k hk => (h.lt k hk).2
def enc2 (x : Int × Int) : List Value := [.int .i64 x.1, .int .i64 x.2]
def aT (l : List (Int × Int)) : List Value := l.flatMap enc2
theorem eF (l : List (Int × Int)) : (aT l).length = l.length * 2 := by
 induction l with
 | nil => rfl
 | cons a l ih => show (enc2 a ++ aT l).length = _; rw [List.length_append, ih, List.length_cons]; simp [enc2]; omega
theorem BO {l : List (Int × Int)} {i : Nat} {x : Int × Int} (h : l[i]? = some x) : (aT l)[i * 2]? = some (.int .i64 x.1) ∧ (aT l)[i * 2 + 1]? = some (.int .i64 x.2) := by
 induction l generalizing i with
 | nil => simp at h
 | cons a l ih =>
   have e : aT (a :: l) = enc2 a ++ aT l := by simp [aT]
   rw [e]
   rcases i with _ | i
   ·simp at h; subst h; exact ⟨rfl, rfl⟩
   ·have := ih (i := i) (by simpa using h)
    rw [List.getElem?_append_right (by simp [enc2]; omega), List.getElem?_append_right (by simp [enc2]; omega)]
    have e1 : (i + 1) * 2 - (enc2 a).length = i * 2 := by simp [enc2]; omega
    have e2 : (i + 1) * 2 + 1 - (enc2 a).length = i * 2 + 1 := by simp [enc2]; omega
    rw [e1, e2]
    exact this
theorem uu (l r : List (Int × Int)) : aT (l ++ r) = aT l ++ aT r := by simp [aT]
theorem zq7 (L : List (Int × Int)) (c : Nat) : aT (L.take c) = (aT L).take (c * 2) := by
 induction L generalizing c with
 | nil => simp [aT]
 | cons a L ih =>
   rcases c with _ | c
   ·simp [aT]
   ·have e : (c + 1) * 2 = c * 2 + 1 + 1 := by omega
    rw [e]
    have := ih c
    simp only [aT, enc2, List.flatMap_cons, xE, xD, List.take_succ_cons] at this ⊢
    rw [this]
theorem oN (L : List (Int × Int)) (c : Nat) : aT (L.drop c) = (aT L).drop (c * 2) := by
 induction L generalizing c with
 | nil => simp [aT]
 | cons a L ih =>
   rcases c with _ | c
   ·simp [aT]
   ·have e : (c + 1) * 2 = c * 2 + 1 + 1 := by omega
    rw [e]
    have := ih c
    simp only [aT, enc2, List.flatMap_cons, xE, xD, List.drop_succ_cons] at this ⊢
    rw [this]
theorem IB (L : List (Int × Int)) (c : Nat) (x : Int × Int) : aT (L.set c x) = ((aT L).set (c * 2) (.int .i64 x.1)).set (c * 2 + 1) (.int .i64 x.2) := by
 induction L generalizing c with
 | nil => simp [aT]
 | cons a L ih =>
   rcases c with _ | c
   ·simp [aT, enc2]
   ·have e : (c + 1) * 2 = c * 2 + 1 + 1 := by omega
    have e2 : (c + 1) * 2 + 1 = c * 2 + 1 + 1 + 1 := by omega
    rw [xC, e2, e]
    have := ih c
    simp only [aT, enc2, List.flatMap_cons, xE, xD, xC] at this ⊢
    rw [this]
theorem uw (L : List (Int × Int)) : ∀ u ∈ aT L, u.oneCell' = true := by
 intro u hu
 obtain ⟨x, _, hx⟩ := List.mem_flatMap.1 hu
 simp [enc2] at hx
 rcases hx with rfl | rfl <;> rfl
theorem BP {L : List (Int × Int)} {i : Nat} (h : i < L.length) : L[i]? = some (tA L i, tV L i) := by
 simp [tA, tV, h]
structure Off (p g : Nat) (w w' : World) : Prop where
 os : w'.os = w.os
 tape : w'.tape = w.tape
 output : w'.output = w.output
 size : w.heap.size ≤ w'.heap.size
 block : ∀ k, k < w.heap.size → k ≠ p → k ≠ g → w'.heap[k]? = w.heap[k]?
section
variable {p g g' : Nat} {w w' w'' : World}
theorem Off.refl (p g : Nat) (w : World) : Off p g w w := ⟨rfl, rfl, rfl, Nat.le_refl _, fun _ _ _ _ => rfl⟩
theorem Off.of_below (h : Below w.heap.size w w') : Off p g w w' := ⟨h.os, h.tape, h.output, h.size, fun k hk _ _ => h.block k hk⟩
theorem Off.trans (h : Off p g w w') (h' : Off p g' w' w'') (hg : g' = g ∨ w.heap.size ≤ g') : Off p g w w'' :=
 ⟨h'.os.trans h.os, h'.tape.trans h.tape, h'.output.trans h.output, Nat.le_trans h.size h'.size, fun k hk h1 h2 => by
  rw [h'.block k (Nat.lt_of_lt_of_le hk h.size) h1 (by omega), h.block k hk h1 h2]⟩
theorem Off.below {base : Nat} (h : Off p g w w') (hp : base ≤ p) (hg : base ≤ g) (hb : base ≤ w.heap.size) : Below base w w' := ⟨h.os, h.tape, h.output, h.size, fun k hk => h.block k (by omega) (by omega) (by omega)⟩
theorem Off.cell {a : Addr} (h : Off p g w w') (h1 : a.block < w.heap.size) (h2 : a.block ≠ p) (h3 : a.block ≠ g) : w'.cell? a = w.cell? a := by
 simp only [World.cell?, h.block _ h1 h2 h3]
theorem Off.setCell {b j : Nat} {v : Value} (h : Off p g w w') (hb : b = p ∨ b = g ∨ w.heap.size ≤ b) : Off p g w (w'.setCell ⟨b, j, none⟩ v) :=
 ⟨h.os, h.tape, h.output, by simpa using h.size, fun k hk h1 h2 => by
  rw [Below.heap_setCell w' ⟨b, j, none⟩ v k (by show k ≠ b; omega)]; exact h.block k hk h1 h2⟩
theorem Off.eu (h : Off p g w w') (h' : Below w'.heap.size w' w'') : Off p g w w'' := h.trans (Off.of_below h') (.inl rfl)
theorem Off.drew (h : Off p g w w') : Off p g w w'.drew := ⟨h.os, h.tape, h.output, h.size, h.block⟩
end
def PW (w : World) (p g : Nat) (L : List (Int × Int)) (aK : Int) : Prop :=
 ∃ cap, w.heap[p]? = some (.cells #[.slice (some ⟨g, 0, none⟩) L.length cap, .int .i64 aK] 108 (0, 0)) ∧ w.ownsRow 0 105 2 (.slice (some ⟨g, 0, none⟩) L.length cap) L.length (aT L)
theorem iV {w : World} {p : Nat} {o : Obj} (h : w.heap[p]? = some o) : p < w.heap.size := by
 rcases Nat.lt_or_ge p w.heap.size with h' | h'
 ·exact h'
 ·rw [Array.getElem?_eq_none h'] at h; cases h
theorem sQ {w : World} {p q : Nat} {a b : Array Value} {s t : TypeId} {x y : Nat × Nat} (h : w.heap[p]? = some (.cells a s x)) (h' : w.heap[q]? = some (.cells b t y)) (hne : s ≠ t) : p ≠ q := by
 intro e
 subst e
 rw [h] at h'
 injection h' with h'
 injection h' with _ h3
 exact hne h3
theorem jI {w : World} {base g n cap sz : Nat} {e : TypeId} {xs : List Value} (h : w.ownsRow base e sz (.slice (some ⟨g, 0, none⟩) n cap) n xs) : ∃ cur, w.heap[g]? = some (.cells cur e (0, 0)) ∧ n ≤ cap ∧ cap ≤ maxLen ∧ cur.size = cap * sz ∧ cur.toList.take (n * sz) = xs := by
 rcases h.2 with ⟨e0, _⟩ | ⟨g', cap', cur, e0, _, hg, hn, hm, hs, ht⟩
 ·cases e0
 ·cases e0
  exact ⟨cur, hg, hn, hm, hs, ht⟩
section
variable {w w' : World} {p g : Nat} {L : List (Int × Int)} {aK : Int}
structure MI (w : World) (p g : Nat) (L : List (Int × Int)) (aK : Int) (cap : Nat) : Prop where
 obj : w.heap[p]? = some (.cells #[.slice (some ⟨g, 0, none⟩) L.length cap, .int .i64 aK] 108 (0, 0))
 own : w.ownsRow 0 105 2 (.slice (some ⟨g, 0, none⟩) L.length cap) L.length (aT L)
 c0 : w.cell? ⟨p, 0, none⟩ = some (.slice (some ⟨g, 0, none⟩) L.length cap)
 c1 : w.cell? ⟨p, 1, none⟩ = some (.int .i64 aK)
 fz : ∀ j, w.frozen? ⟨p, j, none⟩ = false
 pl : p < w.heap.size
 gl : g < w.heap.size
 pg : p ≠ g
 lc : L.length ≤ cap
 cm : cap ≤ maxLen
theorem PW.facts (h : PW w p g L aK) : ∃ cap, MI w p g L aK cap := by
 obtain ⟨cap, h1, h2⟩ := h
 obtain ⟨cur, hg, hn, hm, _, _⟩ := jI h2
 refine ⟨cap, h1, h2, ?_, ?_, fun j => ?_, iV h1, iV hg, sQ h1 hg (by decide), hn, hm⟩
 ·simp [World.cell?, h1]
 ·simp [World.cell?, h1]
 ·simp [World.frozen?, h1]
theorem PW.kept (h : PW w p g L aK) (hb : Below w.heap.size w w') : PW w' p g L aK := by
 obtain ⟨cap, h1, h2⟩ := h
 exact ⟨cap, by rw [hb.block p (iV h1)]; exact h1, bY h2 hb⟩
theorem step_cells {cap i : Nat} (h : w.ownsRow 0 105 2 (.slice (some ⟨g, 0, none⟩) L.length cap) L.length (aT L)) (hi : i < L.length) :
 w.cell? ⟨g, i * 2, none⟩ = some (.int .i64 (tA L i)) ∧ w.cell? ⟨g, i * 2 + 1, none⟩ = some (.int .i64 (tV L i)) := by
 obtain ⟨h0, h1⟩ := BO (BP hi)
 have c0 := h.cells (g := g) rfl _ _ h0
 have c1 := h.cells (g := g) rfl _ _ h1
 rw [Go.WideShapes.add_plain] at c0 c1
 simp only [Nat.zero_add] at c0 c1
 exact ⟨c0, c1⟩
theorem eY (h : PW w p g L aK) (hp : 0 < L.length) :
 Calls Tryz.prog 51 #[.pointer (some ⟨p, 0, none⟩)] w fun e w' => e = .returned (.bool false) ∧ w = w' := by
 obtain ⟨cap, F⟩ := h.facts
 have c0 := F.c0
 have hne : ((L.length : Int) == 0) = false := beq_eq_false_iff_ne.2 (by omega)
 clear F h
 go_enter Tryz.func51, Tryz.ntmps51
 go_wp2_with fail
 go_ret
 exact ⟨rfl, rfl⟩
theorem pR (h : PW w p g L aK) (hp : 0 < L.length) :
 Calls Tryz.prog 95 #[.pointer (some ⟨p, 0, none⟩)] w fun e w' => e = .returned (.int .i64 (tA L 0)) ∧ w = w' := by
 have hn := eY h hp
 obtain ⟨cap, F⟩ := h.facts
 have c0 := F.c0
 have s0 := (step_cells F.own hp).1
 have hp' : (0 : Int) < (L.length : Int) := by omega
 rw [Nat.zero_mul] at s0
 clear F h
 go_enter Tryz.func95, Tryz.ntmps95
 go_wp2_with (go_at_call 51; go_must (refine hn.mono ?_); rintro e w' ⟨rfl, rfl⟩)
 go_ret
 exact ⟨rfl, rfl⟩
end
end Go.Proofs.YtelnhablglomjaaGreat

namespace Go.Proofs.YtelnhablglomjaaGreat
open Go.RowKit Go.Sort Go.Lib
def sS (x y : Int) : Int := if x < y then -1 else if x = y then 0 else 1
theorem BQ {x y : Int} (h : x < y) : sS x y = -1 := if_pos h
theorem IC {x y : Int} (h : x = y) : sS x y = 0 := by unfold sS; rw [if_neg (by omega), if_pos h]
theorem IE {x y : Int} (h : y < x) : sS x y = 1 := by unfold sS; rw [if_neg (by omega), if_neg (by omega)]
theorem wI (x : Int) (w : World) : Calls Tryz.prog 161 #[.int .i64 x] w fun e w' => e = .returned (.bool false) ∧ w' = w := by
 go_enter Tryz.func161, Tryz.ntmps161
 go_wp2_with fail
 go_ret
 exact ⟨by simp, rfl⟩
theorem Q0 (x y : Int) (w : World) : Calls Tryz.prog 148 #[.int .i64 x, .int .i64 y] w fun e w' => e = .returned (.int .i64 (sS x y)) ∧ w' = w := by
 rcases Int.lt_trichotomy x y with h | h | h
 ·rw [BQ h]
  go_enter Tryz.func148, Tryz.ntmps148
  go_wp2_with (go_at_call 161; refine (wI _ _).mono ?_; rintro e w' ⟨rfl, rfl⟩)
  go_ret
  exact ⟨rfl, rfl⟩
 ·subst h
  rw [IC rfl]
  have h1 : ¬ (x < x) := by omega
  go_enter Tryz.func148, Tryz.ntmps148
  go_wp2_with (go_at_call 161; refine (wI _ _).mono ?_; rintro e w' ⟨rfl, rfl⟩)
  go_ret
  exact ⟨rfl, rfl⟩
 ·rw [IE h]
  have h1 : ¬ (x < y) := by omega
  go_enter Tryz.func148, Tryz.ntmps148
  go_wp2_with (go_at_call 161; refine (wI _ _).mono ?_; rintro e w' ⟨rfl, rfl⟩)
  go_ret
  exact ⟨rfl, rfl⟩
theorem yF (a f t : Int) (w : World) : Calls Tryz.prog 147 #[.agg #[.int .i64 a, .int .i64 f], .int .i64 t] w fun e w' => e = .returned (.int .i64 (sS a t)) ∧ w' = w.alloc (.cells #[.int .i64 a, .int .i64 f] 105) := by
 go_enter Tryz.func147, Tryz.ntmps147
 go_wp2_with (go_at_call 148; refine (Q0 _ _ _).mono ?_; rintro e w' ⟨rfl, rfl⟩)
 go_ret
 exact ⟨rfl, rfl⟩
structure UJ (L : List (Int × Int)) (t : Int) (i : Nat) : Prop where
 le : i ≤ L.length
 lo : ∀ m, m < i → tA L m < t
 hi : ∀ m, i ≤ m → m < L.length → t ≤ tA L m
section
variable {w : World} {g : Nat} {L : List (Int × Int)} {now : Int} {f : Int → Int} {cap : Nat}
theorem T9 (t : Int) (hs : Sm L now f) (hl : L.length ≤ 1000) (ho : w.ownsRow 0 105 2 (.slice (some ⟨g, 0, none⟩) L.length cap) L.length (aT L)) :
 Calls Tryz.prog 146 #[.slice (some ⟨g, 0, none⟩) L.length cap, .int .i64 t, .func (.func 147) #[] #[]] w
  fun e w' => ∃ i : Nat, e = .returned (.tuple #[.int .i64 i, .bool (decide (i < L.length ∧ tA L i = t))]) ∧ UJ L t i ∧ Below w.heap.size w w' := by
 have hgw : g < w.heap.size := (ho.lt g rfl).2
 go_enter Tryz.func146, Tryz.ntmps146
 go_wp2_with fail
 go_loopw [9, 10] (fun i j wr => ∃ (lo hi : Nat), lo ≤ hi ∧ hi ≤ L.length ∧ i = .int .i64 lo ∧ j = .int .i64 hi ∧ (∀ m, m < lo → tA L m < t) ∧ (∀ m, hi ≤ m → m < L.length → t ≤ tA L m) ∧ Below w.heap.size w wr) (fun i j _ => (intOf j - intOf i).toNat)
 case atStart => exact ⟨0, L.length, Nat.zero_le _, Nat.le_refl _, rfl, rfl, fun m hm => by omega, fun m h1 h2 => by omega, Below.refl _ _⟩
 case round =>
  obtain ⟨lo, hi, hlh, VG, rfl, rfl, hlo, hhi, hb⟩ := hrel
  have hown := bY ho hb
  have hsz := hb.size
  by_cases hlt : lo < hi
  ·obtain ⟨h, hh⟩ : ∃ h, h = (lo + hi) / 2 := ⟨_, rfl⟩
   have h1 : lo ≤ h := by omega
   have h2 : h < hi := by omega
   obtain ⟨a0, a1⟩ := step_cells hown (show h < L.length by omega)
   obtain ⟨x, hx⟩ : ∃ x, x = tA L h := ⟨_, rfl⟩
   obtain ⟨y, hy⟩ : ∃ y, y = tV L h := ⟨_, rfl⟩
   rw [← hx] at a0
   rw [← hy] at a1
   have hw1 : IntKind.i64.wrap ((lo : Int) + hi) = (lo : Int) + hi := IntWalk.i64_in _ (by omega)
   have hw2 : IntKind.u64.wrap ((lo : Int) + hi) = (lo : Int) + hi := by rw [IntKind.wrap_u64]; omega
   have hw4 : ((lo : Int) + hi) / 2 = (h : Int) := by omega
   have wJ : IntKind.i64.wrap (h : Int) = h := IntWalk.i64_in _ (by omega)
   have xL : IntKind.i64.wrap ((h : Int) + 1) = (h : Int) + 1 := IntWalk.i64_in _ (by omega)
   have hb1 : (0 : Int) ≤ h := by omega
   have hb2 : (h : Int) < (L.length : Int) := by omega
   have hin : (lo : Int) < (hi : Int) := by omega
   have hbd : Below w.heap.size w (wr.alloc (.cells #[.int .i64 x, .int .i64 y] 105)) := hb.alloc hsz _
   replace hh := Lib.hid hh
   replace hx := Lib.hid hx
   replace hy := Lib.hid hy
   replace hlo := Lib.hid hlo
   replace hhi := Lib.hid hhi
   by_cases hc : x < t
   ·have e := BQ hc
    go_wp2_with (go_at_call 147; refine (yF _ _ _ _).mono ?_; rintro e w' ⟨rfl, rfl⟩; rw [e])
    go_roundw
    case rel => exact ⟨h + 1, hi, by omega, VG, by go_num, rfl, fun m hm => by
     rcases Nat.lt_or_ge m h with h3 | h3
     ·have := hs.le (i := m) (j := h) (by omega) (by have := h2; have := VG; omega)
      rw [← hx.out] at this; have := hc; omega
     ·have : m = h := by omega
      subst this; rw [← hx.out]; exact hc, hhi.out, hbd⟩
    case measure => simp [intOf]; omega
   ·have e : 0 ≤ sS x t := by unfold sS; rw [if_neg hc]; split <;> omega
    obtain ⟨c, hcc⟩ : ∃ c, sS x t = c := ⟨_, rfl⟩
    rw [hcc] at e
    have e2 : ¬ (c < 0) := by omega
    replace hc := Lib.hid hc
    go_wp2_with (go_at_call 147; refine (yF _ _ _ _).mono ?_; rintro e w' ⟨rfl, rfl⟩; rw [hcc])
    go_roundw
    case rel => exact ⟨lo, h, h1, by omega, rfl, by go_num, hlo.out, fun m hm1 hm2 => by
     have := hs.le (i := h) (j := m) hm1 hm2
     rw [← hx.out] at this
     have := hc.out
     omega, hbd⟩
    case measure => simp [intOf]; omega
  ·obtain rfl : lo = hi := by omega
   have WZ : Hid (UJ L t lo) := ⟨VG, hlo, hhi⟩
   replace hlo := Lib.hid hlo
   replace hhi := Lib.hid hhi
   by_cases hend : lo < L.length
   ·obtain ⟨a0, a1⟩ := step_cells hown hend
    obtain ⟨x, hx⟩ : ∃ x, x = tA L lo := ⟨_, rfl⟩
    obtain ⟨y, hy⟩ : ∃ y, y = tV L lo := ⟨_, rfl⟩
    have hbd : Below w.heap.size w (wr.alloc (.cells #[.int .i64 x, .int .i64 y] 105)) := hb.alloc hsz _
    rw [← hx] at a0
    rw [← hy] at a1
    have hb2 : (lo : Int) < (L.length : Int) := by omega
    have hd : decide ((lo : Int) < (L.length : Int)) = true := decide_eq_true hb2
    have hr : Hid (decide (lo < L.length ∧ tA L lo = t) = (sS x t == 0)) := by
     show _ = _
     rw [← hx]
     rcases Int.lt_trichotomy x t with h | h | h
     ·rw [BQ h, decide_eq_false (by omega)]; rfl
     ·rw [IC h, decide_eq_true ⟨hend, h⟩]; rfl
     ·rw [IE h, decide_eq_false (by omega)]; rfl
    replace hx := Lib.hid hx
    replace hy := Lib.hid hy
    replace hend := Lib.hid hend
    obtain ⟨c, hcc⟩ : ∃ c, sS x t = c := ⟨_, rfl⟩
    rw [hcc] at hr
    go_wp2_with (go_at_call 147; refine (yF _ _ _ _).mono ?_; rintro e w' ⟨rfl, rfl⟩; rw [hcc])
    go_ret2
    exact ⟨lo, by rw [hr.out]; rfl, WZ.out, hbd⟩
   ·have hd : decide ((lo : Int) < (L.length : Int)) = false := decide_eq_false (by omega)
    have hr : Hid (decide (lo < L.length ∧ tA L lo = t) = false) := decide_eq_false (by omega)
    replace hend := Lib.hid hend
    go_wp2_with fail
    go_ret2
    exact ⟨lo, by rw [hr.out]; rfl, WZ.out, hb⟩
end
section
variable {w : World} {p g : Nat} {L : List (Int × Int)} {aK now : Int} {f : Int → Int}
theorem KT (t : Int) (hs : Sm L now f) (hl : L.length ≤ 1000) (h : PW w p g L aK) :
 Calls Tryz.prog 118 #[.pointer (some ⟨p, 0, none⟩), .int .i64 t] w fun e w' => ∃ i : Nat, e = .returned (.int .i64 i) ∧ iR L t i ∧ Below w.heap.size w w' := by
 obtain ⟨cap, F⟩ := h.facts
 have c0 := F.c0
 have hbs := T9 t hs hl F.own
 have hpos := hs.pos
 clear F h
 go_enter Tryz.func118, Tryz.ntmps118
 go_wp2_with fail
 go_at_call 146
 refine hbs.mono ?_
 clear hbs
 rintro e w' ⟨i, rfl, hC, hb⟩
 have F3 := hC.le
 by_cases hd : i < L.length ∧ tA L i = t
 ·rw [decide_eq_true hd]
  have hi0 : (0 : Int) ≤ i := by omega
  have hI : Hid (iR L t i) := ⟨hd.1, fun _ => by rw [hd.2]; exact Int.le_refl _, fun hx => by rw [← hd.2]; exact hs.inc i hx⟩
  replace hd := Lib.hid hd
  clear c0
  go_wp2_with fail
  go_ret
  exact ⟨i, by go_num, hI.out, hb⟩
 ·rw [decide_eq_false hd]
  have hw : IntKind.i64.wrap ((i : Int) - 1) = (i : Int) - 1 := IntWalk.i64_in _ (by omega)
  have hI : Hid (iR L t (i - 1)) := by
   refine ⟨by omega, fun h0 => Int.le_of_lt (hC.lo _ (by omega)), fun hx => ?_⟩
   rcases Nat.eq_zero_or_pos i with h0 | h0
   ·subst h0
    have := hC.hi 0 (Nat.zero_le _) hpos
    have := hs.inc 0 (by omega)
    show t < tA L (0 + 1)
    omega
   ·rw [show i - 1 + 1 = i by omega] at hx ⊢
    have h1 := hC.hi i (Nat.le_refl _) hx
    have h2 : tA L i ≠ t := fun e => hd ⟨hx, e⟩
    omega
  have hm : Hid (max ((i : Int) - 1) 0 = ((i - 1 : Nat) : Int)) := by show _ = _; omega
  replace hd := Lib.hid hd
  clear c0
  go_wp2_with fail
  go_ret
  exact ⟨i - 1, by rw [← hm.out]; rfl, hI.out, hb⟩
end
end Go.Proofs.YtelnhablglomjaaGreat

namespace Go.Proofs.YtelnhablglomjaaGreat
open Go.RowKit Go.Sort Go.Lib
theorem mr : (Tryz.prog.info? 105).map (fun i => (i.zero, i.size, i.bytes)) = some (some (.agg #[.int .i64 0, .int .i64 0]), 2, 16) := by kernel_rfl
theorem BR {w : World} {base : Nat} {e : TypeId} {sz n : Nat} {v : Value} {xs : List Value} (h : w.ownsRow base e sz v n xs) (hn : 0 < n) : ∃ g cap, v = .slice (some ⟨g, 0, none⟩) n cap ∧ base ≤ g := by
 rcases h.2 with ⟨_, e0⟩ | ⟨g, cap, _, e, hb, _⟩
 ·omega
 ·exact ⟨g, cap, e, hb⟩
section
variable {w : World} {g : Nat} {L : List (Int × Int)} {cap : Nat}
theorem KU (ho : w.ownsRow 0 105 2 (.slice (some ⟨g, 0, none⟩) L.length cap) L.length (aT L)) (hp : 0 < L.length) (hl : L.length ≤ 1000) :
 Calls Tryz.prog 52 #[.slice (some ⟨g, 0, none⟩) L.length cap] w fun e w' => ∃ g' cap', e = .returned (.slice (some ⟨g', 0, none⟩) L.length cap') ∧ w.heap.size ≤ g' ∧ w'.ownsRow 0 105 2 (.slice (some ⟨g', 0, none⟩) L.length cap') L.length (aT L) ∧ Below w.heap.size w w' := by
 obtain ⟨i0, hi0, hz0, hz1, hz2⟩ := info_parts mr
 have hgw : g < w.heap.size := (ho.lt g rfl).2
 have hown : (w.alloc (.cells #[] 105)).ownsRow w.heap.size 105 2 (.slice (some ⟨w.heap.size, 0, none⟩) 0 0) 0 [] := wX (vs := []) rfl (Nat.le_refl _) rfl (Nat.zero_le _)
 have hcell : ∀ j u, (aT L)[j]? = some u → (w.alloc (.cells #[] 105)).cell? ((⟨g, 0, none⟩ : Addr).add j) = some u := fun j u hj => by
  have := ho.cells (g := g) rfl j u hj
  rw [Go.WideShapes.add_plain] at this ⊢
  rw [World.cell?_alloc_lt _ _ _ hgw]
  exact this
 have hnil : ∀ w : World, (binOp .eql 68 (.slice (some ⟨g, 0, none⟩) L.length cap) (.slice none 0 0)).run Tryz.prog w = .ok (.bool false) w := fun w => Lib.run_eql_slice_nil w _ _ _ _ _ _ _ Tryz.underlying68
 go_enter Tryz.func52, Tryz.ntmps52
 go_wp2_with (at_builtin; go_must (refine wpList_append_own _ rfl (.tmp 5) (.tmp 6) 68 rfl w.heap.size 105 i0 (.agg #[.int .i64 0, .int .i64 0]) 2 16 Tryz.underlying68 hi0 hz0 hz1 hz2 rfl (by decide) (.slice (some ⟨w.heap.size, 0, none⟩) 0 0) 0 [] rfl hown ⟨g, 0, none⟩ L.length cap (aT L) rfl (eF L) ?c0 ?c1 ?c2 ?c3 ?c4 ?c5))
 case c0 => exact hcell
 case c1 => exact uw L
 case c2 => unfold maxLen; omega
 case c3 => omega
 case c4 => simp
 case c5 =>
  intro v' w2 hown3 hgrow _
  have hb2 : Below w.heap.size w w2 := ((Below.refl _ w).alloc (Nat.le_refl _) _).grown hgrow (by simp) (fun q hq => by cases hq; exact Nat.le_refl _)
  clear hcell hown hgrow ho
  obtain ⟨g', cap', rfl, hg'⟩ := BR hown3 (by omega)
  go_wp2_with fail
  go_ret
  exact ⟨g', cap', by go_num, hg', qw hown3 (Nat.zero_le _), hb2⟩
end
section
variable {w : World} {p g : Nat} {L : List (Int × Int)} {aK : Int}
theorem vL (h : PW w p g L aK) (hp : 0 < L.length) (hl : L.length ≤ 1000) :
 Calls Tryz.prog 26 #[.pointer (some ⟨p, 0, none⟩)] w fun e w' => ∃ g' cap', e = .returned (.slice (some ⟨g', 0, none⟩) L.length cap') ∧ w.heap.size ≤ g' ∧ w'.ownsRow 0 105 2 (.slice (some ⟨g', 0, none⟩) L.length cap') L.length (aT L) ∧ Below w.heap.size w w' := by
 have hn := eY h hp
 obtain ⟨cap, F⟩ := h.facts
 have c0 := F.c0
 have hc := KU F.own hp hl
 clear F h
 go_enter Tryz.func26, Tryz.ntmps26
 go_wp2_with (go_at_call 51; go_must (refine hn.mono ?_); rintro e w' ⟨rfl, rfl⟩)
 go_at_call 52
 refine hc.mono ?_
 clear hc hn
 rintro e w' ⟨g', cap', rfl, h1, h2, h3⟩
 clear c0
 go_wp2_with fail
 go_ret
 exact ⟨g', cap', by go_num, h1, h2, h3⟩
end
end Go.Proofs.YtelnhablglomjaaGreat

namespace Go.Proofs.YtelnhablglomjaaGreat
open Go.RowKit Go.Sort Go.Lib
theorem iW : Tryz.prog.follows .mixedOrders = true := by kernel_rfl
section
variable {w : World} {p g : Nat} {L : List (Int × Int)} {aK now : Int} {f : Int → Int}
theorem iR.uniq (hs : Sm L now f) {t : Int} {i j : Nat} (h : iR L t i) (h' : iR L t j) : i = j := by
 have key : ∀ {i j : Nat}, iR L t i → iR L t j → ¬ i < j := by
  intro i j h h' hlt
  have h1 := h.nx (by have := h'.lt; omega)
  have h2 := h'.le (by omega)
  have h3 := hs.le (i := i + 1) (j := j) hlt h'.lt
  omega
 have := key h h'
 have := key h' h
 omega
theorem yG (t : Int) {i : Nat} (hi : iR L t i) (hs : Sm L now f) (hl : L.length ≤ 1000) (h : PW w p g L aK) :
 Calls Tryz.prog 118 #[.pointer (some ⟨p, 0, none⟩), .int .i64 t] w fun e w' => e = .returned (.int .i64 i) ∧ Below w.heap.size w w' := by
 refine (KT t hs hl h).mono ?_
 rintro e w' ⟨j, rfl, hj, hb⟩
 rw [hi.uniq hs hj]
 exact ⟨rfl, hb⟩
theorem F6 (h : PW w p g L aK) (hp : 0 < L.length) (hl : L.length ≤ 1000) :
 Calls Tryz.prog 66 #[.pointer (some ⟨p, 0, none⟩)] w fun e w' => ∃ p' g' : Nat, e = .returned (.pointer (some ⟨p', 0, none⟩)) ∧ PW w' p' g' L aK ∧ w.heap.size ≤ p' ∧ w.heap.size ≤ g' ∧ Below w.heap.size w w' := by
 have hn := eY h hp
 have nY := iW
 go_enter Tryz.func66, Tryz.ntmps66
 go_wp2_with (go_at_call 51; go_must (refine hn.mono ?_); rintro e w' ⟨rfl, rfl⟩)
 refine Reg2.rM 6 13 [[],[af],[ae,ae],[ae,ae,af],[ae,ae,af,af],[ae,ae,af,af,af]] [0, 1, 0, 0, 0, 1]
  [.pure, .minor (Nat × Nat) (0, 0) (fun x => .slice (some ⟨x.1, 0, none⟩) L.length x.2) (fun x W => w.heap.size ≤ x.1 ∧ W.ownsRow 0 105 2 (.slice (some ⟨x.1, 0, none⟩) L.length x.2) L.length (aT L)), .pure, .pure, .pure, .mU (.int .i64 aK)]
  (fun W => Below w.heap.size w W) (fun _ _ => True) (fun _ _ => False) (by kernel_rfl) (by kernel_rfl) rfl rfl (fun _ _ _ _ h => h) ?_ ?_ ?_ ?_ ?_ ?_
 ·intro w1 w2 he hb; exact hb.trans (he.mono hb.size)
 ·intro _ _ h; exact h.elim
 ·refine ⟨trivial, ⟨?_, ?_⟩, trivial, trivial, trivial, ⟨?_, ?_⟩, trivial⟩
  all_goals (first | exact fun _ _ _ _ h => h | exact fun _ _ _ h => h.elim | exact fun _ w1 w2 he hx => ⟨hx.1, bY hx.2 he⟩)
 ·exact (Below.refl _ _).drew
 ·exact trivial
 dsimp only [Reg2.mk, List.zip, List.zipWith, List.take]
 repeat (refine' Reg2.ak _ (by rfl) (fun wz => ?_) ?_; rotate_left; (go_simp; first | rfl | rw [if_neg (by omega)]); simp only [Act.put, xA, xB, xC]; (try simp only [xD]); (try simp only [xE]))
 refine Reg2.pm (fun wz hI hF => ?_) (fun x1 => ?_) (by rfl)
 ·go_wp2_with (go_at_call 26; go_must (refine (vL (h.kept hI) hp hl).mono ?_); rintro e w1 ⟨g1, Xa, rfl, h1, h2, h3⟩)
  exact ⟨_, rfl, ⟨(g1, Xa), rfl, Nat.le_trans hI.size h1, h2⟩, h3⟩
 simp only [Act.put, xA, xB, xC, xD, xE, id]
 repeat (refine' Reg2.ak _ (by rfl) (fun wz => ?_) ?_; rotate_left; (go_simp; first | rfl | rw [if_neg (by omega)]); simp only [Act.put, xA, xB, xC]; (try simp only [xD]); (try simp only [xE]))
 refine Reg2.pm (fun wz hI hF => ?_) (fun x5 => ?_) (by rfl)
 ·obtain ⟨cap, F⟩ := (h.kept hI).facts
  have c1 := F.c1
  clear F
  go_wp2_with fail
  exact ⟨_, rfl, ⟨(), rfl, trivial⟩, Reg2.Ext.refl _⟩
 simp only [Act.put, xA, xB, xC, xD, xE, id]
 refine Reg2.aA ?_
 intro w3 HI3 _ qB
 obtain ⟨g', cap'⟩ := x1
 have hg := qB.2.1
 clear qB
 have hsz := HI3.size
 have hn' : Hid (PW (w3.alloc (.cells #[.slice (some ⟨g', 0, none⟩) L.length cap', .int .i64 aK] 108)) w3.heap.size g' L aK) := ⟨cap', heap_alloc_new w3 _, bY hg.2 ((Below.refl _ _).alloc (Nat.le_refl _) _)⟩
 have hge := hg.1
 clear hg
 dsimp only [List.drop]
 go_wp2_with fail
 go_ret
 exact ⟨w3.heap.size, rfl, g', hn'.out, hsz, hge, HI3.alloc hsz _⟩
theorem Og (t : Int) {i : Nat} (hi : iR L t i) (hs : Sm L now f) (hl : L.length ≤ 1000) (h : PW w p g L aK) :
 Calls Tryz.prog 96 #[.pointer (some ⟨p, 0, none⟩), .int .i64 t] w fun e w' => e = .returned (.int .i64 (tV L i)) ∧ Below w.heap.size w w' := by
 have hn := eY h hs.pos
 have nY := iW
 have hil := hi.lt
 obtain ⟨cap, F⟩ := h.facts
 have pl := F.pl
 have c0 := F.c0
 clear F
 replace hi := Lib.hid hi
 go_enter Tryz.func96, Tryz.ntmps96
 go_wp2_with (go_at_call 51; go_must (refine hn.mono ?_); rintro e w' ⟨rfl, rfl⟩)
 refine Reg2.rM 7 17 [[],[af],[af,af],[af,af,af],[ae,ae,ae,ae],[ae,ae,ae,ae,ae],[ae,ae,ae,ae,af,af]] [0, 0, 0, 1, 0, 0, 1]
  [.pure, .pure, .pure, .mU (.slice (some ⟨g, 0, none⟩) L.length cap), .pure, .pure, .mU (.int .i64 i)]
  (fun W => Below w.heap.size w W) (fun _ _ => True) (fun _ _ => False) (by kernel_rfl) (by kernel_rfl) rfl rfl (fun _ _ _ _ h => h) ?_ ?_ ?_ ?_ ?_ ?_
 ·intro w1 w2 he hb; exact hb.trans (he.mono hb.size)
 ·intro _ _ h; exact h.elim
 ·refine ⟨trivial, trivial, trivial, ⟨?_, ?_⟩, trivial, trivial, ⟨?_, ?_⟩, trivial⟩
  all_goals (first | exact fun _ _ _ _ h => h | exact fun _ _ _ h => h.elim | exact fun _ w1 w2 he hx => ⟨hx.1, bY hx.2 he⟩)
 ·exact (Below.refl _ _).drew
 ·exact trivial
 dsimp only [Reg2.mk, List.zip, List.zipWith, List.take]
 repeat (refine' Reg2.ak _ (by rfl) (fun wz => ?_) ?_; rotate_left; (go_simp; first | rfl | rw [if_neg (by omega)]); simp only [Act.put, xA, xB, xC]; (try simp only [xD]); (try simp only [xE]))
 refine Reg2.pm (fun wz hI hF => ?_) (fun x3 => ?_) (by rfl)
 ·have d0 := (hI.cell (p := ⟨p, 0, none⟩) pl).trans c0
  go_wp2_with fail
  exact ⟨_, rfl, ⟨(), rfl, trivial⟩, Reg2.Ext.refl _⟩
 simp only [Act.put, xA, xB, xC, xD, xE, id]
 repeat (refine' Reg2.ak _ (by rfl) (fun wz => ?_) ?_; rotate_left; (go_simp; first | rfl | rw [if_neg (by omega)]); simp only [Act.put, xA, xB, xC]; (try simp only [xD]); (try simp only [xE]))
 refine Reg2.pm (fun wz hI hF => ?_) (fun x6 => ?_) (by rfl)
 ·go_wp2_with (go_at_call 118; go_must (refine (yG t hi.out hs hl (h.kept hI)).mono ?_); rintro e w1 ⟨rfl, BS⟩)
  exact ⟨_, rfl, ⟨(), rfl, trivial⟩, BS⟩
 simp only [Act.put, xA, xB, xC, xD, xE, id]
 refine Reg2.aA ?_
 intro w3 HI3 _ qB
 clear qB c0
 obtain ⟨cap', F'⟩ := (h.kept HI3).facts
 have s1 := (step_cells F'.own hil).2
 have b1 : (0 : Int) ≤ i := by omega
 have b2 : (i : Int) < (L.length : Int) := by omega
 clear F'
 dsimp only [List.drop]
 go_wp2_with fail
 go_ret
 exact ⟨rfl, HI3⟩
theorem BU (a b : Int) (h : PW w p g L aK) (hp : 0 < L.length) (hab : b ≤ max a (tA L 0)) :
 Calls Tryz.prog 142 #[.pointer (some ⟨p, 0, none⟩), .int .i64 a, .int .i64 b] w fun e w' => e = .returned (.slice none 0 0) ∧ w = w' := by
 have hn := pR h hp
 obtain ⟨m, hm⟩ : ∃ m, max a (tA L 0) = m := ⟨_, rfl⟩
 rw [hm] at hab
 go_enter Tryz.func142, Tryz.ntmps142
 go_wp2_with (go_at_call 95; go_must (refine hn.mono ?_); rintro e w' ⟨rfl, rfl⟩)
 go_ret
 exact ⟨rfl, rfl⟩
theorem BZ (a b m : Int) {i j cap : Nat} (hm : max a (tA L 0) = m) (hab : m < b) (Xb : -9223372036854775808 < b ∧ b ≤ 9223372036854775807) (hi : iR L m i) (hj : iR L (b - 1) j) (hij : i ≤ j) (hs : Sm L now f) (hl : L.length ≤ 1000) (h : PW w p g L aK) (F : MI w p g L aK cap) :
 Calls Tryz.prog 142 #[.pointer (some ⟨p, 0, none⟩), .int .i64 a, .int .i64 b] w fun e w' => e = .returned (.slice (some ⟨g, i * 2, none⟩) (j + 1 - i) (cap - i)) ∧ Below w.heap.size w w' := by
 have hn := pR h hs.pos
 have nY := iW
 have hjl := hj.lt
 have hlc := F.lc
 have pl := F.pl
 have c0 := F.c0
 have hw1 : IntKind.i64.wrap (b - 1) = b - 1 := IntWalk.i64_in _ (by omega)
 have hw2 : IntKind.i64.wrap ((j : Int) + 1) = (j : Int) + 1 := IntWalk.i64_in _ (by omega)
 have Zi : ¬ (b ≤ m) := by omega
 clear F
 replace hi := Lib.hid hi
 replace hj := Lib.hid hj
 go_enter Tryz.func142, Tryz.ntmps142
 go_wp2_with (go_at_call 95; go_must (refine hn.mono ?_); rintro e w' ⟨rfl, rfl⟩)
 refine Reg2.rM 12 27 [[],[af],[af,af],[af,af,af],[ae,ae,ae,ae],[ae,ae,ae,ae,ae],[ae,ae,ae,ae,af,af],[ae,ae,ae,ae,ae,ae,ae],[ae,ae,ae,ae,ae,ae,ae,ae],[ae,ae,ae,ae,ae,ae,ae,ae,af],[ae,ae,ae,ae,af,af,af,af,af,af],[ae,ae,ae,ae,af,af,af,af,af,af,af]] [0, 0, 0, 1, 0, 0, 1, 0, 0, 0, 1, 0]
  [.pure, .pure, .pure, .mU (.slice (some ⟨g, 0, none⟩) L.length cap), .pure, .pure, .mU (.int .i64 i), .pure, .pure, .pure, .mU (.int .i64 j), .pure]
  (fun W => Below w.heap.size w W) (fun _ _ => True) (fun _ _ => False) (by kernel_rfl) (by kernel_rfl) rfl rfl (fun _ _ _ _ h => h) ?_ ?_ ?_ ?_ ?_ ?_
 ·intro w1 w2 he hb; exact hb.trans (he.mono hb.size)
 ·intro _ _ h; exact h.elim
 ·refine ⟨trivial, trivial, trivial, ⟨?_, ?_⟩, trivial, trivial, ⟨?_, ?_⟩, trivial, trivial, trivial, ⟨?_, ?_⟩, trivial, trivial⟩
  all_goals (first | exact fun _ _ _ _ h => h | exact fun _ _ _ h => h.elim | exact fun _ w1 w2 he hx => ⟨hx.1, bY hx.2 he⟩)
 ·exact (Below.refl _ _).drew
 ·exact trivial
 dsimp only [Reg2.mk, List.zip, List.zipWith, List.take]
 repeat (refine' Reg2.ak _ (by rfl) (fun wz => ?_) ?_; rotate_left; (go_simp; first | rfl | rw [if_neg (by omega)]); simp only [Act.put, xA, xB, xC]; (try simp only [xD]); (try simp only [xE]))
 refine Reg2.pm (fun wz hI hF => ?_) (fun x3 => ?_) (by rfl)
 ·have d0 := (hI.cell (p := ⟨p, 0, none⟩) pl).trans c0
  go_wp2_with fail
  exact ⟨_, rfl, ⟨(), rfl, trivial⟩, Reg2.Ext.refl _⟩
 simp only [Act.put, xA, xB, xC, xD, xE, id]
 repeat (refine' Reg2.ak _ (by rfl) (fun wz => ?_) ?_; rotate_left; (go_simp; first | rfl | rw [if_neg (by omega)]); simp only [Act.put, xA, xB, xC]; (try simp only [xD]); (try simp only [xE]))
 refine Reg2.pm (fun wz hI hF => ?_) (fun x6 => ?_) (by rfl)
 ·go_wp2_with (go_at_call 118; go_must (refine (yG m hi.out hs hl (h.kept hI)).mono ?_); rintro e w1 ⟨rfl, BS⟩)
  exact ⟨_, rfl, ⟨(), rfl, trivial⟩, BS⟩
 simp only [Act.put, xA, xB, xC, xD, xE, id]
 repeat (refine' Reg2.ak _ (by rfl) (fun wz => ?_) ?_; rotate_left; (go_simp; first | rfl | rw [if_neg (by omega)]); simp only [Act.put, xA, xB, xC]; (try simp only [xD]); (try simp only [xE]))
 refine Reg2.pm (fun wz hI hF => ?_) (fun KV => ?_) (by rfl)
 ·go_wp2_with (go_at_call 118; go_must (refine (yG (b - 1) hj.out hs hl (h.kept hI)).mono ?_); rintro e w1 ⟨rfl, BS⟩)
  exact ⟨_, rfl, ⟨(), rfl, trivial⟩, BS⟩
 simp only [Act.put, xA, xB, xC, xD, xE, id]
 repeat (refine' Reg2.ak _ (by rfl) (fun wz => ?_) ?_; rotate_left; (go_simp; first | rfl | rw [if_neg (by omega)]); simp only [Act.put, xA, xB, xC]; (try simp only [xD]); (try simp only [xE]))
 refine Reg2.aA ?_
 intro w3 HI3 _ qB
 clear qB c0
 have b1 : (0 : Int) ≤ i := by omega
 have b2 : (i : Int) ≤ (j : Int) + 1 := by omega
 have b3 : (j : Int) + 1 ≤ (cap : Int) := by omega
 have b4 : ((j : Int) + 1).toNat = j + 1 := by omega
 have b5 : ¬ (cap = i) := by omega
 have b6 : i ≤ j + 1 := by omega
 have b7 : j + 1 ≤ cap := by omega
 dsimp only [List.drop]
 go_wp2_with fail
 go_ret
 exact ⟨by go_num, HI3⟩
end
end Go.Proofs.YtelnhablglomjaaGreat

namespace Go.Proofs.YtelnhablglomjaaGreat
open Go.RowKit Go.Sort Go.Lib
theorem F7 (w : World) : (zeroValue 105).run Tryz.prog w = .ok (.agg #[.int .i64 0, .int .i64 0]) w := by kernel_rfl
theorem sU {P : Program} (w : World) {ops : Array Oper} {rest : List Oper} {o : Oper} {a : Act} {Q : Exit → Act → World → Prop} (hgd : o.guard = none) (d s : Operand) (t t' : TypeId)
 (ho : o.op = .call { callee := .builtin .copy, args := #[d, s], argTypes := #[t, t'] }) (v u : Value) (hd : a.eval d = v) (hs : a.eval s = u) {v' : Value} {w' : World}
 (hr : (Builtin.copy_ #[t, t'] o.type #[v, u]).run P w = .ok v' w') (h : wpList P ops Q rest (a.put o.dst v') w') : wpList P ops Q (o :: rest) a w := by
 refine wpList_plain hgd fun K hK => ?_
 unfold Oper.wp execOp
 simp only [ho, resolve, invoke, builtin, Sem.run_bind, Sem.run_pure, Result.andThen_ok, List.map_toArray, List.map_cons, List.map_nil, hd, hs, hr]
 exact hK _ _ h
theorem Off.mono {g p : Nat} {w w' : World} (h : Off g g w w') : Off p g w w' := ⟨h.os, h.tape, h.output, h.size, fun k hk _ h2 => h.block k hk h2 h2⟩
theorem uy {α : Type} (l vs : List α) (o : Nat) (h : o + vs.length ≤ l.length) (j : Nat) : (l.take o ++ vs ++ l.drop (o + vs.length))[j]? = if j < o then l[j]? else if j < o + vs.length then vs[j - o]? else l[j]? := by
 have hl1 : (l.take o).length = o := by rw [List.length_take]; omega
 rw [List.append_assoc]
 by_cases h1 : j < o
 ·rw [if_pos h1, List.getElem?_append_left (by omega), List.getElem?_take, if_pos h1]
 ·rw [if_neg h1, List.getElem?_append_right (by omega), hl1]
  by_cases h2 : j < o + vs.length
  ·rw [if_pos h2, List.getElem?_append_left (by omega)]
  ·rw [if_neg h2, List.getElem?_append_right (by omega), List.getElem?_drop]
   congr 1
   omega
section
variable {w : World} {base g n cap sz : Nat} {e : TypeId} {xs : List Value}
theorem Ca (h : w.ownsRow base e sz (.slice (some ⟨g, 0, none⟩) n cap) n xs) (o : Nat) (vs : List Value) (hfit : o + vs.length ≤ n * sz) (h1 : ∀ u ∈ vs, u.oneCell' = true) :
 ∃ w', (∀ P : Program, (storeCells ⟨g, o, none⟩ vs).run P w = .ok () w') ∧ w'.ownsRow base e sz (.slice (some ⟨g, 0, none⟩) n cap) n (xs.take o ++ vs ++ xs.drop (o + vs.length)) ∧ Off g g w w' := by
 have hl := h.1
 rcases h.2 with ⟨e0, _⟩ | ⟨g', cap', cur, e0, hb, hg, hn, hm, hs, ht⟩
 ·cases e0
 ·cases e0
  have hcs : n * sz ≤ cur.size := by rw [hs]; exact Nat.mul_le_mul_right _ hn
  refine ⟨w.setRow g (cur.toList.take o ++ vs ++ cur.toList.drop (o + vs.length)).toArray, fun P => ?_, ⟨?_, .inr ⟨g, cap, _, rfl, hb, setRow_heap w g cur _ e _ hg, hn, hm, ?_, ?_⟩⟩, ⟨rfl, rfl, rfl, by simp, fun k hk _ hne => setRow_other w g k _ hne⟩⟩
  ·have := run_storeCells_at P g o e vs 0 cur w hg (by omega) h1
   simpa using this
  ·simp only [List.length_append, List.length_take, List.length_drop]; omega
  ·simp only [List.size_toArray, List.length_append, List.length_take, List.length_drop, Array.length_toList]; omega
  ·rw [← ht]
   apply List.ext_getElem?
   intro j
   show (List.take (n * sz) (cur.toList.take o ++ vs ++ cur.toList.drop (o + vs.length)))[j]? = _
   have hcl : cur.toList.length = cur.size := Array.length_toList
   rw [uy (cur.toList.take (n * sz)) vs o (by rw [List.length_take, hcl]; omega), List.getElem?_take, uy cur.toList vs o (by rw [hcl]; omega), List.getElem?_take]
   by_cases h2 : j < n * sz
   ·rw [if_pos h2, if_pos h2]
   ·rw [if_neg h2, if_neg h2, if_neg (by omega), if_neg (by omega)]
theorem ve {P : Program} (dT sT : TypeId) (hu : P.underlying dT = some (.slice e)) (hs : (P.info? e).map (·.size) = some sz) (h : w.ownsRow base e sz (.slice (some ⟨g, 0, none⟩) n cap) n xs) (o : Nat) (vs : List Value) (hfit : o + vs.length ≤ n * sz) (h1 : ∀ u ∈ vs, u.oneCell' = true)
 (a : Addr) (m : Nat) (hvl : vs.length = m * sz) (hsrc : ∀ j v, vs[j]? = some v → w.cell? (a.add j) = some v) :
 ∃ w', (∀ ty dLen dCap sLen sCap, m = Nat.min sLen dLen → (Builtin.copy_ #[dT, sT] ty #[.slice (some ⟨g, o, none⟩) dLen dCap, .slice (some a) sLen sCap]).run P w = .ok (goInt m) w') ∧ w'.ownsRow base e sz (.slice (some ⟨g, 0, none⟩) n cap) n (xs.take o ++ vs ++ xs.drop (o + vs.length)) ∧ Off g g w w' := by
 obtain ⟨w', hst, h2, h3⟩ := Ca h o vs hfit h1
 refine ⟨w', fun ty dLen dCap sLen sCap hm => ?_, h2, h3⟩
 have hl := run_loadCells_list (P := P) w a vs hsrc
 cases hq : P.info? e with
 | none => simp [hq] at hs
 | some i =>
   have hi : i.size = sz := by simpa [hq] using hs
   simp [Builtin.copy_, run_underlying hu, Builtin.lenOf, Builtin.firstCells, sizeOf, typeInfo, hq, hi, ← hm, ← hvl, hl, hst]
theorem KW {P : Program} {t : TypeId} {z : Value} {c : Nat} (ht : P.underlying t = some (.slice e)) (hv : ∀ w, (zeroValue e).run P w = .ok z w) (hz : z.cells.size = sz) (h1 : ∀ v ∈ z.cells.toList, v.oneCell' = true)
 (h : w.ownsRow base e sz (.slice (some ⟨g, 0, none⟩) n cap) n xs) (hc : c < n) (hs0 : 0 < sz) :
 ∃ w', (∀ ty m, (Builtin.clear_ #[t] ty #[.slice (some ⟨g, c * sz, none⟩) (n - c) m]).run P w = .ok (.tuple #[]) w') ∧ w'.ownsRow base e sz (.slice (some ⟨g, 0, none⟩) c cap) c (xs.take (c * sz)) ∧ Off g g w w' := by
 have hzl : (Builtin.zeroCells z.cells (n - c)).toList.length = (n - c) * sz := by rw [Array.length_toList, size_zeroCells, hz]
 have hmul : c * sz + (n - c) * sz = n * sz := by rw [← Nat.add_mul]; congr 1; omega
 have hz1 : ∀ v ∈ (Builtin.zeroCells z.cells (n - c)).toList, v.oneCell' = true := by
  intro v hv'
  simp [Builtin.zeroCells] at hv'
  obtain ⟨i, hi, rfl⟩ := hv'
  have hlt : i % z.cells.size < z.cells.size := Nat.mod_lt _ (by omega)
  rw [Array.getElem!_eq_getD, Array.getD, dif_pos hlt]
  exact h1 _ (by simp)
 have hxl := h.1
 obtain ⟨w', hst, h2, h3⟩ := Ca h (c * sz) (Builtin.zeroCells z.cells (n - c)).toList (by omega) hz1
 refine ⟨w', fun ty m => ?_, ?_, h3⟩
 ·have hst := hst P
  obtain ⟨q, hq⟩ : ∃ q, n - c = q + 1 := ⟨n - c - 1, by omega⟩
  rw [hq] at hst ⊢
  simp [Builtin.clear_, run_underlying ht, hv, hst]
 ·have := PX h2 (c := c) (by omega)
  rw [List.append_assoc, List.take_append_of_le_length (by rw [List.length_take]; omega), List.take_take, Nat.min_self] at this
  exact this
theorem zG {P : Program} (t tx : TypeId) (i0 : TypeInfo) (hu : P.underlying t = some (.slice e)) (hi : P.info? e = some i0) (hsz : i0.size = sz) (h : w.ownsRow base e sz (.slice (some ⟨g, 0, none⟩) n cap) n xs) (i m : Nat) (vs : List Value) (hfit : i + m ≤ n) (x : Value) (hs : Src P sz tx x m vs w) :
 ∃ w', (∀ ty, (Builtin.append_ #[t, tx] ty #[.slice (some ⟨g, 0, none⟩) i cap, x]).run P w = .ok (.slice (some ⟨g, 0, none⟩) (i + m) cap) w') ∧ w'.ownsRow base e sz (.slice (some ⟨g, 0, none⟩) n cap) n (xs.take (i * sz) ++ vs ++ xs.drop (i * sz + vs.length)) ∧ Off g g w w' := by
 obtain ⟨_, _, hnc, _⟩ := jI h
 have hmul : i * sz + m * sz ≤ n * sz := by rw [← Nat.add_mul]; exact Nat.mul_le_mul_right _ hfit
 obtain ⟨w', hst, h2, h3⟩ := Ca h (i * sz) vs (by rw [hs.newsLen]; exact hmul) hs.one
 have hroom : i + m ≤ cap := by omega
 refine ⟨w', fun ty => ?_, h2, h3⟩
 subst hsz
 rcases hs.kind with ⟨e', hk⟩ | hk <;> simp [Builtin.append_, run_underlying hu, run_underlying hk, sizeOf, typeInfo, hi, hs.len, hroom, hs.cells, Addr.add_lit, hst]
end
section
variable {w : World} {g cap : Nat} {L : List (Int × Int)}
theorem KX (ho : w.ownsRow 0 105 2 (.slice (some ⟨g, 0, none⟩) L.length cap) L.length (aT L)) {j : Nat} (hj : j ≤ L.length) (c : Nat) :
 Src Tryz.prog 2 68 (.slice (if cap = j then some ⟨g, 0, none⟩ else some ⟨g, j * 2, none⟩) (L.length - j) c) (L.length - j) (aT (L.drop j)) w := by
 obtain ⟨_, _, hnc, _⟩ := jI ho
 have hlen : (aT (L.drop j)).length = (L.length - j) * 2 := by rw [eF, List.length_drop]
 by_cases hc : cap = j
 ·rw [if_pos hc]
  refine Src.ofSlice w Tryz.underlying68 _ _ _ _ hlen (fun q u hq => ?_) (uw _)
  have := (List.getElem?_eq_some_iff.1 hq).1
  omega
 ·rw [if_neg hc]
  refine Src.ofSlice w Tryz.underlying68 _ _ _ _ hlen (fun q u hq => ?_) (uw _)
  rw [oN, List.getElem?_drop] at hq
  have := ho.cells (g := g) rfl _ _ hq
  rw [Go.WideShapes.add_plain] at this ⊢
  simpa using this
theorem zH (i j : Nat) (ho : w.ownsRow 0 105 2 (.slice (some ⟨g, 0, none⟩) L.length cap) L.length (aT L)) (hl : L.length ≤ 1000) (hij : i ≤ j) (hj : j ≤ L.length) :
 Calls Tryz.prog 158 #[.slice (some ⟨g, 0, none⟩) L.length cap, .int .i64 i, .int .i64 j] w fun e w' => e = .returned (.slice (some ⟨g, 0, none⟩) (L.take i ++ L.drop j).length cap) ∧ w'.ownsRow 0 105 2 (.slice (some ⟨g, 0, none⟩) (L.take i ++ L.drop j).length cap) (L.take i ++ L.drop j).length (aT (L.take i ++ L.drop j)) ∧ Off g g w w' := by
 have nY := iW
 obtain ⟨i0, hi0, hz0, hz1, hz2⟩ := info_parts mr
 obtain ⟨_, _, hnc, hcm, _⟩ := jI ho
 have hlen : (L.take i ++ L.drop j).length = i + (L.length - j) := by rw [List.length_append, List.length_take, List.length_drop]; omega
 have hcm' : cap ≤ 9223372036854775807 := by unfold maxLen at hcm; omega
 clear hcm
 by_cases heq : i = j
 ·subst heq
  have hn : (L.take i ++ L.drop i) = L := List.take_append_drop i L
  rw [hn]
  have b1 : (i : Int) ≤ (L.length : Int) := by omega
  have b2 : (0 : Int) ≤ (i : Int) := by omega
  clear hn hlen
  by_cases YE : L.length = i
  ·subst YE
   go_enter Tryz.func158, Tryz.ntmps158
   go_wp2_with fail
   go_ret
   exact ⟨rfl, ho, Off.refl _ _ _⟩
  ·go_enter Tryz.func158, Tryz.ntmps158
   go_wp2_with fail
   go_ret
   exact ⟨rfl, ho, Off.refl _ _ _⟩
 ·have hlt : i < j := by omega
  rw [hlen]
  have hne : ¬ ((i : Int) = (j : Int)) := by omega
  obtain ⟨A, hA⟩ : ∃ A : Addr, (if cap = j then some (⟨g, 0, none⟩ : Addr) else some ⟨g, j * 2, none⟩) = some A := by
   by_cases h : cap = j
   ·exact ⟨_, if_pos h⟩
   ·exact ⟨_, if_neg h⟩
  have hcj : j ≤ cap := by omega
  have hci : i ≤ cap := by omega
  have hbi : (i : Int) ≤ (j : Int) := by omega
  have hbj : (j : Int) ≤ (L.length : Int) := by omega
  have hbc : (L.length : Int) ≤ (cap : Int) := by omega
  replace hlen := Lib.hid hlen
  go_enter Tryz.func158, Tryz.ntmps158
  go_wp2_with fail
  refine Reg2.rM 6 33 [[],[ae],[af,af],[ae,ae,ae],[ae,ae,ae,ae],[ae,ae,ae,af,af]] [0, 0, 0, 0, 0, 0]
   [.pure, .pure, .pure, .pure, .pure, .pure]
   (fun W => Below w.heap.size w W) (fun _ _ => True) (fun _ _ => False) (by kernel_rfl) (by kernel_rfl) rfl rfl (fun _ _ _ _ h => h) ?_ ?_ ?_ ?_ ?_ ?_
  ·intro w1 w2 he hb; exact hb.trans (he.mono hb.size)
  ·intro _ _ h; exact h.elim
  ·refine ⟨trivial, trivial, trivial, trivial, trivial, trivial, trivial⟩
  ·exact (Below.refl _ _).drew
  ·exact trivial
  dsimp only [Reg2.mk, List.zip, List.zipWith, List.take]
  repeat (refine' Reg2.ak _ (by rfl) (fun wz => ?_) ?_; rotate_left; (go_simp; first | rfl | rw [if_neg (by omega)]); simp only [Act.put, xA, xB, xC]; (try simp only [xD]); (try simp only [xE]))
  refine Reg2.aA ?_
  intro w3 HI3 _ qB
  clear qB
  have ho3 := bY ho HI3
  have hsrc := KX ho3 hj (cap - j)
  rw [hA] at hsrc
  obtain ⟨w4, hrun, uz, hoff⟩ := zG 68 68 i0 Tryz.underlying68 hi0 hz1 ho3 i (L.length - j) _ (by omega) _ hsrc
  have hcl : i + (L.length - j) < L.length := by omega
  obtain ⟨w5, Zj, KY, hb5⟩ := KW (P := Tryz.prog) (sz := 2) (c := i + (L.length - j)) Tryz.underlying68 F7 rfl (by simp [Value.cells, Value.oneCell']) uz hcl (by decide)
  have hfin : w5.ownsRow 0 105 2 (.slice (some ⟨g, 0, none⟩) (i + (L.length - j)) cap) (i + (L.length - j)) (aT (L.take i ++ L.drop j)) := by
   have e1 : ((aT L).take (i * 2) ++ aT (L.drop j) ++ (aT L).drop (i * 2 + (aT (L.drop j)).length)).take ((i + (L.length - j)) * 2) = aT (L.take i ++ L.drop j) := by
    have hA1 : ((aT L).take (i * 2) ++ aT (L.drop j)).length = (i + (L.length - j)) * 2 := by
     rw [List.length_append, List.length_take, eF, eF, List.length_drop]; omega
    rw [← hA1, List.take_left, uu, zq7]
   rw [e1] at KY
   exact KY
  have qF : Off g g w w5 := by
   exact ((Off.of_below HI3).trans hoff (.inl rfl)).trans hb5 (.inl rfl)
  have b1 : ¬ (cap = i + (L.length - j)) := by omega
  have b2 : (i : Int) + ((L.length - j : Nat) : Int) ≤ (L.length : Int) := by omega
  have b3 : i + (L.length - j) ≤ L.length := by omega
  clear hb5 KY uz hoff hsrc ho3 ho
  dsimp only [List.drop]
  go_wp2_with (at_builtin; refine Lib.wpList_append_run _ rfl _ _ _ _ rfl _ _ rfl rfl _ _ (hrun _) ?_)
  go_ret
  exact ⟨by go_num, hfin, qF⟩
end
end Go.Proofs.YtelnhablglomjaaGreat

namespace Go.Proofs.YtelnhablglomjaaGreat
open Go.RowKit Go.Sort Go.Lib
section
variable {w : World} {g cap : Nat} {L : List (Int × Int)}
def og (w : World) (vb : Nat) (x : Int × Int) : Prop := w.heap[vb]? = some (.cells #[.int .i64 x.1, .int .i64 x.2] 105 (0, 0))
theorem og.cells {vb : Nat} {x : Int × Int} (h : og w vb x) : ∀ j v, (enc2 x)[j]? = some v → w.cell? ((⟨vb, 0, none⟩ : Addr).add j) = some v := by
 intro j v hj
 rw [Go.WideShapes.add_plain]
 have hj2 : j < 2 := (List.getElem?_eq_some_iff.1 hj).1
 rcases (by omega : j = 0 ∨ j = 1) with rfl | rfl
 ·simp [enc2] at hj; subst hj; simp [World.cell?, show w.heap[vb]? = _ from h]
 ·simp [enc2] at hj; subst hj; simp [World.cell?, show w.heap[vb]? = _ from h]
theorem og.off {w' : World} {vb p q : Nat} {x : Int × Int} (h : og w vb x) (ho : Off p q w w') (hp : vb ≠ p ∧ vb ≠ q) : og w' vb x := by
 unfold og
 rw [ho.block vb (iV h) hp.1 hp.2]
 exact h
theorem vg (L : List (Int × Int)) (k : Nat) (x : Int × Int) : aT (jO L k x) = (aT L).take (k * 2) ++ enc2 x ++ (aT L).drop (k * 2) := by
 unfold jO
 rw [uu, show x :: L.drop k = [x] ++ L.drop k from rfl, uu, zq7, oN]
 simp [aT]
theorem yH (x : Int × Int) : ∀ u ∈ enc2 x, u.oneCell' = true := by intro u hu; simp [enc2] at hu; rcases hu with rfl | rfl <;> rfl
def mD (w : World) (g : Nat) (L : List (Int × Int)) (k : Nat) (x : Int × Int) (e : Ending) (w' : World) : Prop :=
 ∃ g' cap', e = .returned (.slice (some ⟨g', 0, none⟩) (L.length + 1) cap') ∧ (g' = g ∨ w.heap.size ≤ g') ∧ w'.ownsRow 0 105 2 (.slice (some ⟨g', 0, none⟩) (L.length + 1) cap') (L.length + 1) (aT (jO L k x)) ∧ Off g g w w'
theorem Ef (ho : w.ownsRow 0 105 2 (.slice (some ⟨g, 0, none⟩) L.length cap) L.length (aT L)) (hr : L.length + 1 ≤ cap) : ∃ ys : List Value, ys.length = 2 ∧ w.ownsRow 0 105 2 (.slice (some ⟨g, 0, none⟩) (L.length + 1) cap) (L.length + 1) (aT L ++ ys) := by
 rcases ho.2 with ⟨e0, _⟩ | ⟨g', cap', cur, e0, hb, hg, hn, hm, hs, ht⟩
 ·cases e0
 ·cases e0
  have hcl : cur.toList.length = cur.size := Array.length_toList
  have e1 : aT L ++ (cur.toList.drop (L.length * 2)).take 2 = cur.toList.take ((L.length + 1) * 2) := by
   rw [← ht, Nat.add_mul, List.take_add]
  have hy : ((cur.toList.drop (L.length * 2)).take 2).length = 2 := by rw [List.length_take, List.length_drop, hcl]; omega
  refine ⟨(cur.toList.drop (L.length * 2)).take 2, hy, ?_, .inr ⟨g, cap, cur, rfl, hb, hg, hr, hm, hs, e1.symm⟩⟩
  rw [List.length_append, hy, eF]; omega
theorem yI (x : Int × Int) (vb : Nat) (ho : w.ownsRow 0 105 2 (.slice (some ⟨g, 0, none⟩) L.length cap) L.length (aT L)) (hl : L.length ≤ 1000) (hr : L.length + 1 ≤ cap) (hv : og w vb x) :
 Calls Tryz.prog 171 #[.slice (some ⟨g, 0, none⟩) L.length cap, .int .i64 L.length, .slice (some ⟨vb, 0, none⟩) 1 1] w (mD w g L L.length x) := by
 obtain ⟨i0, hi0, hz0, hz1, hz2⟩ := info_parts mr
 obtain ⟨_, _, hnc, hcm, _⟩ := jI ho
 have hcm' : cap ≤ 9223372036854775807 := by unfold maxLen at hcm; omega
 clear hcm
 obtain ⟨ys, hys, IG⟩ := Ef ho hr
 have hsrc : Src Tryz.prog 2 68 (.slice (some ⟨vb, 0, none⟩) 1 1) 1 (enc2 x) w := Src.ofSlice w Tryz.underlying68 _ 1 1 _ rfl hv.cells (yH x)
 obtain ⟨w2, hrun, ho2, hoff⟩ := zG 68 68 i0 Tryz.underlying68 hi0 hz1 IG L.length 1 _ (Nat.le_refl _) _ hsrc
 have hfin : w2.ownsRow 0 105 2 (.slice (some ⟨g, 0, none⟩) (L.length + 1) cap) (L.length + 1) (aT (jO L L.length x)) := by
  have e1 : (aT L ++ ys).take (L.length * 2) ++ enc2 x ++ (aT L ++ ys).drop (L.length * 2 + (enc2 x).length) = aT (jO L L.length x) := by
   rw [vg, ← eF, List.take_left, List.drop_eq_nil_of_le (by simp [enc2, hys]), List.take_length, List.drop_length]
  rw [e1] at ho2
  exact ho2
 have hpost : Hid (mD w g L L.length x (.returned (.slice (some ⟨g, 0, none⟩) (L.length + 1) cap)) w2) := ⟨g, cap, rfl, .inl rfl, hfin, hoff⟩
 have b1 : (0 : Int) ≤ (L.length : Int) := by omega
 clear ho hsrc ho2 hoff hfin IG hv
 by_cases hc : cap = L.length
 ·omega
 ·go_enter Tryz.func171, Tryz.ntmps171
  go_wp2_with (at_builtin; refine Lib.wpList_append_run _ rfl _ _ _ _ rfl _ _ rfl rfl _ _ (hrun _) ?_)
  go_ret
  exact hpost.out
theorem yJ (x : Int × Int) (vb : Nat) (ho : w.ownsRow 0 105 2 (.slice (some ⟨g, 0, none⟩) L.length cap) L.length (aT L)) (hl : L.length ≤ 1000) (hr : cap < L.length + 1) (hv : og w vb x) :
 Calls Tryz.prog 171 #[.slice (some ⟨g, 0, none⟩) L.length cap, .int .i64 L.length, .slice (some ⟨vb, 0, none⟩) 1 1] w (mD w g L L.length x) := by
 obtain ⟨i0, hi0, hz0, hz1, hz2⟩ := info_parts mr
 obtain ⟨_, _, hnc, hcm, _⟩ := jI ho
 obtain rfl : cap = L.length := by omega
 clear hcm
 obtain ⟨v', w2, hrun, ho2, hgrow⟩ := run_append_arg_grows (P := Tryz.prog) w 68 68 105 i0 (.agg #[.int .i64 0, .int .i64 0]) 2 16 Tryz.underlying68 hi0 hz0 hz1 hz2 rfl (by decide) ⟨g, 0, none⟩ L.length L.length (aT L) (eF L) (fun j u hj => ho.cells (g := g) rfl j u hj) ⟨vb, 0, none⟩ 1 1 (enc2 x) rfl hv.cells hr (by unfold maxLen; omega) (by omega)
 obtain ⟨g', cap', rfl, hg'⟩ := BR ho2 (by omega)
 have hfin : w2.ownsRow 0 105 2 (.slice (some ⟨g', 0, none⟩) (L.length + 1) cap') (L.length + 1) (aT (jO L L.length x)) := by
  have e1 : aT (jO L L.length x) = aT L ++ enc2 x := by rw [vg, ← eF, List.take_length, List.drop_length, List.append_nil]
  rw [e1]
  exact qw ho2 (Nat.zero_le _)
 have hpost : Hid (mD w g L L.length x (.returned (.slice (some ⟨g', 0, none⟩) (L.length + 1) cap')) w2) := ⟨g', cap', rfl, .inr hg', hfin, ⟨hgrow.os, hgrow.tape, hgrow.output, hgrow.size, fun k hk _ _ => hgrow.block k hk (by simp)⟩⟩
 have b1 : (0 : Int) ≤ (L.length : Int) := by omega
 clear ho ho2 hgrow hfin hv
 go_enter Tryz.func171, Tryz.ntmps171
 go_wp2_with (at_builtin; refine Lib.wpList_append_run _ rfl _ _ _ _ rfl _ _ rfl rfl _ _ hrun ?_)
 go_ret
 exact hpost.out
end
end Go.Proofs.YtelnhablglomjaaGreat

namespace Go.Proofs.YtelnhablglomjaaGreat
open Go.RowKit Go.Sort Go.Lib
section
variable {w : World} {g cap : Nat} {L : List (Int × Int)}
theorem F8 {w : World} (vb g o lb cb : Nat) (x : Int × Int) (hv : og w vb x) (hne : vb ≠ g) (hg : ∃ t k, w.shape? g = some (t, k) ∧ k ≠ 0) :
 (callFunc 175 #[.slice (some ⟨vb, 0, none⟩) 1 1, .slice (some ⟨g, o, none⟩) lb cb]).run Tryz.prog w = .ok (.value (.bool false)) w := by
 obtain ⟨t, k, hs, hk⟩ := hg
 have hfr : ∀ j, w.frozen? ⟨vb, j, none⟩ = false := fun j => by simp [World.frozen?, show w.heap[vb]? = _ from hv]
 rw [run_callFunc_extern Tryz.func175 (by kernel_rfl) (by kernel_rfl) (by kernel_rfl) (e := Extern.SlicesOverlaps.overlaps #[68, 68] #[4]) (by kernel_rfl),
  Lib.run_overlaps_apart w 68 4 105 Tryz.underlying68 2 (fun w => by kernel_rfl) ⟨vb, 0, none⟩ ⟨g, o, none⟩ 1 1 lb cb hne 105 t 2 k (by simp [World.shape?, show w.heap[vb]? = _ from hv]) hs hk (hfr 0) (hfr 2)]
 rfl
theorem yK (x : Int × Int) (k vb : Nat) (ho : w.ownsRow 0 105 2 (.slice (some ⟨g, 0, none⟩) L.length cap) L.length (aT L)) (hl : L.length ≤ 1000) (hk : k < L.length) (hr : L.length + 1 ≤ cap) (hv : og w vb x) (hne : vb ≠ g) :
 Calls Tryz.prog 171 #[.slice (some ⟨g, 0, none⟩) L.length cap, .int .i64 k, .slice (some ⟨vb, 0, none⟩) 1 1] w (mD w g L k x) := by
 have nY := iW
 obtain ⟨_, _, hnc, hcm, _⟩ := jI ho
 have hcm' : cap ≤ 9223372036854775807 := by unfold maxLen at hcm; omega
 clear hcm
 have hov : ∀ o lb cb, (callFunc 175 #[.slice (some ⟨vb, 0, none⟩) 1 1, .slice (some ⟨g, o, none⟩) lb cb]).run Tryz.prog w = .ok (.value (.bool false)) w := fun o lb cb => by
  obtain ⟨cur, hg, _, _, hs, _⟩ := jI ho
  exact F8 vb g o lb cb x hv hne ⟨105, cur.size, by simp [World.shape?, hg], by omega⟩
 have b0 : (0 : Int) ≤ (k : Int) := by omega
 have b1 : ¬ ((k : Int) = (L.length : Int)) := by omega
 have b2 : (k : Int) ≤ (L.length : Int) := by omega
 have b3 : ¬ ((cap : Int) < (L.length : Int) + 1) := by omega
 have b4 : ¬ (cap = k) := by omega
 have b5 : ¬ (cap = k + 1) := by omega
 have w1 : IntKind.i64.wrap ((L.length : Int) + 1) = (L.length : Int) + 1 := IntWalk.i64_in _ (by omega)
 have w2 : IntKind.i64.wrap ((k : Int) + 1) = (k : Int) + 1 := IntWalk.i64_in _ (by omega)
 have b6 : (0 : Int) ≤ (L.length : Int) + 1 := by omega
 have b7 : (L.length : Int) + 1 ≤ (cap : Int) := by omega
 have b8 : ((L.length : Int) + 1).toNat = L.length + 1 := by omega
 have b9 : (0 : Int) ≤ (k : Int) + 1 := by omega
 have b10 : ((k : Int) + 1).toNat = k + 1 := by omega
 have b11 : (k : Int) + 1 ≤ (L.length : Int) + 1 := by omega
 have b12 : (k : Int) ≤ (L.length : Int) + 1 := by omega
 have b13 : k ≤ L.length + 1 := by omega
 have b14 : k + 1 ≤ L.length + 1 := by omega
 go_enter Tryz.func171, Tryz.ntmps171
 go_wp2_with (simp only [hov])
 refine Reg2.rM 8 95 [[],[ae],[ae,ae],[ae,af,af],[af,af,af,af],[ae,ae,ae,ae,ae],[ae,ae,ae,ae,ae,ae],[ae,ae,ae,ae,ae,af,af]] [0, 0, 0, 0, 0, 0, 0, 0]
  [.pure, .pure, .pure, .pure, .pure, .pure, .pure, .pure]
  (fun W => Below w.heap.size w W) (fun _ _ => True) (fun _ _ => False) (by kernel_rfl) (by kernel_rfl) rfl rfl (fun _ _ _ _ h => h) ?_ ?_ ?_ ?_ ?_ ?_
 ·intro w1 w2 he hb; exact hb.trans (he.mono hb.size)
 ·intro _ _ h; exact h.elim
 ·refine ⟨trivial, trivial, trivial, trivial, trivial, trivial, trivial, trivial, trivial⟩
 ·exact (Below.refl _ _).drew
 ·exact trivial
 dsimp only [Reg2.mk, List.zip, List.zipWith, List.take]
 repeat (refine' Reg2.ak _ (by rfl) (fun wz => ?_) ?_; rotate_left; (go_simp; first | rfl | rw [if_neg (by omega)]); simp only [Act.put, xA, xB, xC]; (try simp only [xD]); (try simp only [xE]))
 refine Reg2.aA ?_
 intro w3 HI3 _ qB
 clear qB hov
 have ho3 := bY ho HI3
 have hv3 : og w3 vb x := hv.off (p := g) (q := g) (Off.of_below HI3) ⟨hne, hne⟩
 obtain ⟨ys, hys, IG⟩ := Ef ho3 hr
 have hpl := eF L
 have hdl : (aT (L.drop k)).length = (L.length - k) * 2 := by rw [eF, List.length_drop]
 obtain ⟨w4, hcp1, uz, si⟩ := ve (P := Tryz.prog) (sz := 2) 68 68 Tryz.underlying68 (by kernel_rfl) IG ((k + 1) * 2) (aT (L.drop k)) (by omega) (uw _) ⟨g, k * 2, none⟩ (L.length - k) hdl (fun j v hj => by
  rw [oN, List.getElem?_drop] at hj
  have := ho3.cells (g := g) rfl _ _ hj
  rw [Go.WideShapes.add_plain] at this ⊢
  simpa using this)
 have hv4 : og w4 vb x := hv3.off si ⟨hne, hne⟩
 obtain ⟨w5, hcp2, Cb, qF⟩ := ve (P := Tryz.prog) (sz := 2) 68 68 Tryz.underlying68 (by kernel_rfl) uz (k * 2) (enc2 x) (by simp [enc2]; omega) (yH x) ⟨vb, 0, none⟩ 1 rfl hv4.cells
 have hfin : w5.ownsRow 0 105 2 (.slice (some ⟨g, 0, none⟩) (L.length + 1) cap) (L.length + 1) (aT (jO L k x)) := by
  have e1 : ((aT L ++ ys).take ((k + 1) * 2) ++ aT (L.drop k) ++ (aT L ++ ys).drop ((k + 1) * 2 + (aT (L.drop k)).length)).take (k * 2) ++ enc2 x ++ ((aT L ++ ys).take ((k + 1) * 2) ++ aT (L.drop k) ++ (aT L ++ ys).drop ((k + 1) * 2 + (aT (L.drop k)).length)).drop (k * 2 + (enc2 x).length) = aT (jO L k x) := by
   have hnil : (aT L ++ ys).drop ((k + 1) * 2 + (aT (L.drop k)).length) = [] := List.drop_eq_nil_of_le (by rw [List.length_append, hys, hpl, hdl]; omega)
   rw [hnil, List.append_nil]
   have hA : ((aT L ++ ys).take ((k + 1) * 2)).length = (k + 1) * 2 := by rw [List.length_take, List.length_append, hys, hpl]; omega
   rw [List.take_append_of_le_length (by omega), List.take_take, Nat.min_eq_left (by omega), List.take_append_of_le_length (by omega)]
   rw [show k * 2 + (enc2 x).length = ((aT L ++ ys).take ((k + 1) * 2)).length by rw [hA]; simp [enc2]; omega, List.drop_left]
   rw [vg, oN]
  rw [e1] at Cb
  exact Cb
 have hpost : Hid (mD w g L k x (.returned (.slice (some ⟨g, 0, none⟩) (L.length + 1) cap)) w5) := ⟨g, cap, rfl, .inl rfl, hfin, ((Off.of_below HI3).trans si (.inl rfl)).trans qF (.inl rfl)⟩
 clear ho hv ho3 hv3 IG uz si hv4 Cb qF hfin HI3 hys hpl hdl
 dsimp only [List.drop]
 have hc2 := fun ty dc sc => hcp2 ty (L.length + 1 - k) dc 1 sc (by simp only [Nat.min_def]; split <;> omega)
 clear hcp2
 show wpList _ _ _ [_] _ _
 refine sU _ rfl _ _ _ _ rfl _ _ rfl rfl (hcp1 _ _ _ _ _ ?hm1) ?_
 case hm1 => simp only [Nat.min_def]; split <;> omega
 clear hcp1
 go_wp2_with fail
 go_ret
 exact hpost.out
end
end Go.Proofs.YtelnhablglomjaaGreat

namespace Go.Proofs.YtelnhablglomjaaGreat
open Go.RowKit Go.Sort Go.Lib
section
variable {w : World} {g cap : Nat} {L : List (Int × Int)}
theorem yL (x : Int × Int) (k vb : Nat) (ho : w.ownsRow 0 105 2 (.slice (some ⟨g, 0, none⟩) L.length cap) L.length (aT L)) (hl : L.length ≤ 1000) (hk : k < L.length) (hr : cap < L.length + 1) (hv : og w vb x) :
 Calls Tryz.prog 171 #[.slice (some ⟨g, 0, none⟩) L.length cap, .int .i64 k, .slice (some ⟨vb, 0, none⟩) 1 1] w (mD w g L k x) := by
 have nY := iW
 obtain ⟨i0, hi0, hz0, hz1, hz2⟩ := info_parts mr
 obtain ⟨_, _, hnc, hcm, _⟩ := jI ho
 obtain rfl : cap = L.length := by omega
 clear hcm
 have hgw : g < w.heap.size := (ho.lt g rfl).2
 have hvw : vb < w.heap.size := iV hv
 have hpl := eF L
 have hold : (Builtin.firstCells i0.size k (.slice (some ⟨g, 0, none⟩) k L.length)).run Tryz.prog w.drew = .ok (aT (L.take k)).toArray w.drew := by
  rw [hz1]
  exact run_firstCells_some w.drew 2 k ⟨g, 0, none⟩ k L.length (aT (L.take k)) (by rw [eF, List.length_take]; omega) (fun j v hj => by
   rw [zq7, List.getElem?_take] at hj
   split at hj
   ·exact ho.cells (g := g) rfl _ _ hj
   ·cases hj)
 have hik : k + (L.length + 1 - k) = L.length + 1 := by omega
 have hkk : (L.length : Int) + 1 - (k : Int) = ((L.length + 1 - k : Nat) : Int) := by omega
 have hrz : ∀ ty, (Builtin.append_ #[68, 3] ty #[.slice (some ⟨g, 0, none⟩) k L.length, .int .i64 ((L.length : Int) + 1 - (k : Int))]).run Tryz.prog w =
  .ok (.slice (some ⟨w.heap.size, 0, none⟩) (L.length + 1) (grownCap w (L.length + 1) L.length 105)) (w.drew.alloc (.cells ((aT (L.take k)).toArray ++ Builtin.zeroCells (Value.agg #[.int .i64 0, .int .i64 0]).cells (L.length + 1 - k) ++ Builtin.zeroCells (Value.agg #[.int .i64 0, .int .i64 0]).cells (grownCap w (L.length + 1) L.length 105 - (L.length + 1))) 105)) := fun ty => by
  have h := Lib.run_append_grow_zeros (P := Tryz.prog) w 68 3 ty 105 i0 _ .i64 .i64 Tryz.underlying68 Tryz.underlying3 hi0 hz0 (some ⟨g, 0, none⟩) k L.length (aT (L.take k)) hold (L.length + 1 - k) (by omega) (by omega) (by omega) (by omega) (by rw [hz2]; omega) (by rw [hz2, hik]; exact growslice_fits hr (by omega))
  rw [hik] at h
  rw [hkk]
  exact h
 obtain ⟨G, hG⟩ : ∃ G, G = grownCap w (L.length + 1) L.length 105 := ⟨_, rfl⟩
 have hGn : L.length + 1 ≤ G := by rw [hG]; exact grownCap_ge w _ _ _
 have Xc : G ≤ maxLen := by rw [hG]; exact grownCap_le_maxLen w _ _ _ (by unfold maxLen; omega)
 have hG63 : G ≤ 9223372036854775807 := by unfold maxLen at Xc; omega
 rw [← hG] at hrz
 obtain ⟨ROW, hROW⟩ : ∃ ROW : Array Value, ROW = (aT (L.take k)).toArray ++ Builtin.zeroCells (Value.agg #[.int .i64 0, .int .i64 0]).cells (L.length + 1 - k) ++ Builtin.zeroCells (Value.agg #[.int .i64 0, .int .i64 0]).cells (G - (L.length + 1)) := ⟨_, rfl⟩
 rw [← hROW] at hrz
 obtain ⟨Z, hZ⟩ : ∃ Z : List Value, Z = (Builtin.zeroCells (Value.agg #[.int .i64 0, .int .i64 0]).cells (L.length + 1 - k)).toList := ⟨_, rfl⟩
 have Ua : Z.length = (L.length + 1 - k) * 2 := by rw [hZ, Array.length_toList, size_zeroCells]; rfl
 have htl : (aT (L.take k)).length = k * 2 := by rw [eF, List.length_take]; omega
 obtain ⟨W1, hW1⟩ : ∃ W1, W1 = w.drew.alloc (.cells ROW 105) := ⟨_, rfl⟩
 rw [← hW1] at hrz
 have IG : W1.ownsRow 0 105 2 (.slice (some ⟨w.heap.size, 0, none⟩) (L.length + 1) G) (L.length + 1) (aT (L.take k) ++ Z) := by
  rw [hW1]
  refine ⟨by rw [List.length_append, htl, Ua]; omega, .inr ⟨w.heap.size, G, ROW, rfl, Nat.zero_le _, heap_alloc_new w.drew _, hGn, Xc, ?_, ?_⟩⟩
  ·rw [hROW, Array.size_append, Array.size_append, size_zeroCells, size_zeroCells, List.size_toArray, htl]
   have : (Value.agg #[Value.int .i64 0, Value.int .i64 0]).cells.size = 2 := rfl
   rw [this]; omega
  ·rw [hROW, Array.toList_append, Array.toList_append, ← hZ]
   have : (L.length + 1) * 2 = ((aT (L.take k)).toArray.toList ++ Z).length := by rw [List.length_append, Ua]; simp only [htl]; omega
   rw [this, List.take_left]
 have hb1 : Below w.heap.size w W1 := by rw [hW1]; exact ((Below.refl _ w).drew).alloc (Nat.le_refl _) _
 have hv1 : og W1 vb x := hv.off (p := w.heap.size) (q := w.heap.size) (Off.of_below hb1) ⟨by omega, by omega⟩
 obtain ⟨W2, hcp1, ho2, qG⟩ := ve (P := Tryz.prog) (sz := 2) 68 68 Tryz.underlying68 (by kernel_rfl) IG (k * 2) (enc2 x) (by simp [enc2]; omega) (yH x) ⟨vb, 0, none⟩ 1 rfl hv1.cells
 have hdl : (aT (L.drop k)).length = (L.length - k) * 2 := by rw [eF, List.length_drop]
 have hfin : ∀ W : World, W.ownsRow 0 105 2 (.slice (some ⟨w.heap.size, 0, none⟩) (L.length + 1) G) (L.length + 1) (((aT (L.take k) ++ Z).take (k * 2) ++ enc2 x ++ (aT (L.take k) ++ Z).drop (k * 2 + (enc2 x).length)).take ((k + 1) * 2) ++ aT (L.drop k) ++ ((aT (L.take k) ++ Z).take (k * 2) ++ enc2 x ++ (aT (L.take k) ++ Z).drop (k * 2 + (enc2 x).length)).drop ((k + 1) * 2 + (aT (L.drop k)).length)) → W.ownsRow 0 105 2 (.slice (some ⟨w.heap.size, 0, none⟩) (L.length + 1) G) (L.length + 1) (aT (jO L k x)) := by
  intro W hW
  have e1 : ((aT (L.take k) ++ Z).take (k * 2) ++ enc2 x ++ (aT (L.take k) ++ Z).drop (k * 2 + (enc2 x).length)).take ((k + 1) * 2) ++ aT (L.drop k) ++ ((aT (L.take k) ++ Z).take (k * 2) ++ enc2 x ++ (aT (L.take k) ++ Z).drop (k * 2 + (enc2 x).length)).drop ((k + 1) * 2 + (aT (L.drop k)).length) = aT (jO L k x) := by
   have hA : (aT (L.take k) ++ Z).take (k * 2) = aT (L.take k) := by rw [← htl, List.take_left]
   rw [hA]
   have hB : (aT (L.take k) ++ enc2 x ++ (aT (L.take k) ++ Z).drop (k * 2 + (enc2 x).length)).drop ((k + 1) * 2 + (aT (L.drop k)).length) = [] := List.drop_eq_nil_of_le (by
    simp only [List.length_append, List.length_drop, htl, Ua, hdl]; simp [enc2]; omega)
   have hC : (aT (L.take k) ++ enc2 x).length = (k + 1) * 2 := by rw [List.length_append, htl]; simp [enc2]; omega
   rw [hB, List.append_nil, ← hC, List.take_left, vg, zq7, oN]
  rw [e1] at hW
  exact hW
 have hpost : Hid (∀ (W3 W4 : World), Below W2.heap.size W2 W3 → W4.ownsRow 0 105 2 (.slice (some ⟨w.heap.size, 0, none⟩) (L.length + 1) G) (L.length + 1) (aT (jO L k x)) → Off w.heap.size w.heap.size W3 W4 → mD w g L k x (.returned (.slice (some ⟨w.heap.size, 0, none⟩) (L.length + 1) G)) W4) := by
  intro W3 W4 h3 h4 h5
  refine ⟨w.heap.size, G, rfl, .inr (Nat.le_refl _), h4, ?_⟩
  have hall : Below w.heap.size w W4 := (hb1.trans (qG.below (Nat.le_refl _) (Nat.le_refl _) hb1.size)).trans ((h3.mono (Nat.le_trans hb1.size qG.size)).trans (h5.below (Nat.le_refl _) (Nat.le_refl _) (Nat.le_trans hb1.size (Nat.le_trans qG.size h3.size))))
  exact Off.of_below hall
 have hsrc : Hid (∀ (W3 : World), Below W2.heap.size W2 W3 → ∀ j v, (aT (L.drop k))[j]? = some v → W3.cell? ((⟨g, k * 2, none⟩ : Addr).add j) = some v) := by
  intro W3 h3 j v hj
  rw [oN, List.getElem?_drop] at hj
  have := ho.cells (g := g) rfl _ _ hj
  rw [Go.WideShapes.add_plain] at this ⊢
  have Xd : g < W2.heap.size := by have := qG.size; have := hb1.size; omega
  rw [h3.cell (p := ⟨g, _, none⟩) Xd, qG.cell (a := ⟨g, _, none⟩) (by have := hb1.size; show g < _; omega) (by show g ≠ _; omega) (by show g ≠ _; omega), hb1.cell (p := ⟨g, _, none⟩) hgw]
  simpa using this
 have hc1 := fun ty dc sc => hcp1 ty (L.length + 1 - k) dc 1 sc (by simp only [Nat.min_def]; split <;> omega)
 have w1 : IntKind.i64.wrap ((L.length : Int) + 1) = (L.length : Int) + 1 := IntWalk.i64_in _ (by omega)
 have w2 : IntKind.i64.wrap ((k : Int) + 1) = (k : Int) + 1 := IntWalk.i64_in _ (by omega)
 have w3' : IntKind.i64.wrap ((L.length : Int) + 1 - (k : Int)) = (L.length : Int) + 1 - (k : Int) := IntWalk.i64_in _ (by omega)
 have b0 : (0 : Int) ≤ (k : Int) := by omega
 have b1 : ¬ ((k : Int) = (L.length : Int)) := by omega
 have b2 : (k : Int) ≤ (L.length : Int) := by omega
 have b3 : ((L.length : Int) < (L.length : Int) + 1) := by omega
 have b4 : ¬ (L.length = k) := by omega
 have b5 : ¬ (G = k) := by omega
 have b6 : ¬ (G = k + 1) := by omega
 have b7 : (0 : Int) ≤ (k : Int) + 1 := by omega
 have b8 : ((k : Int) + 1).toNat = k + 1 := by omega
 have b9 : (k : Int) + 1 ≤ (L.length : Int) + 1 := by omega
 have b10 : (k : Int) ≤ (L.length : Int) + 1 := by omega
 have b11 : k ≤ L.length + 1 := by omega
 have b12 : k + 1 ≤ L.length + 1 := by omega
 have UK := Lib.hid ho2
 have Q3 := Lib.hid hfin
 clear ho hr hcp1 hkk hik hold hROW hG hZ Ua IG hb1 hv1 hv hfin ho2 qG hW1 hpl htl
 replace hdl := Lib.hid hdl
 go_enter Tryz.func171, Tryz.ntmps171
 go_wp2_with (at_builtin; refine Lib.wpList_append_run _ rfl _ _ _ _ rfl _ _ rfl rfl _ _ (hrz _) ?_)
 refine Reg2.rM 8 95 [[],[ae],[ae,ae],[ae,af,af],[af,af,af,af],[ae,ae,ae,ae,ae],[ae,ae,ae,ae,ae,ae],[ae,ae,ae,ae,ae,af,af]] [0, 0, 0, 0, 0, 0, 0, 0]
  [.pure, .pure, .pure, .pure, .pure, .pure, .pure, .pure]
  (fun W => Below W2.heap.size W2 W) (fun _ _ => True) (fun _ _ => False) (by kernel_rfl) (by kernel_rfl) rfl rfl (fun _ _ _ _ h => h) ?_ ?_ ?_ ?_ ?_ ?_
 ·intro w1 w2 he hb; exact hb.trans (he.mono hb.size)
 ·intro _ _ h; exact h.elim
 ·refine ⟨trivial, trivial, trivial, trivial, trivial, trivial, trivial, trivial, trivial⟩
 ·exact (Below.refl _ _).drew
 ·exact trivial
 dsimp only [Reg2.mk, List.zip, List.zipWith, List.take]
 repeat (refine' Reg2.ak _ (by rfl) (fun wz => ?_) ?_; rotate_left; (go_simp; first | rfl | rw [if_neg (by omega)]); simp only [Act.put, xA, xB, xC]; (try simp only [xD]); (try simp only [xE]))
 refine Reg2.aA ?_
 intro w3 HI3 _ qB
 clear qB
 have ho3 := bY UK.out HI3
 obtain ⟨w4, hcp2, uz, si⟩ := ve (P := Tryz.prog) (sz := 2) 68 68 Tryz.underlying68 (by kernel_rfl) ho3 ((k + 1) * 2) (aT (L.drop k)) (by rw [hdl.out]; omega) (uw _) ⟨g, k * 2, none⟩ (L.length - k) hdl.out (hsrc.out w3 HI3)
 have hp := hpost.out w3 w4 HI3 (Q3.out w4 uz) si
 replace hp := Lib.hid hp
 clear hpost ho3 uz si hsrc Q3 UK HI3
 dsimp only [List.drop]
 show wpList _ _ _ [_] _ _
 refine sU _ rfl _ _ _ _ rfl _ _ rfl rfl (hcp2 _ _ _ _ _ ?hm1) ?_
 case hm1 => simp only [Nat.min_def]; split <;> omega
 clear hcp2 hc1 hrz
 go_wp2_with fail
 go_ret
 exact hp.out
theorem II (x : Int × Int) (k vb : Nat) (ho : w.ownsRow 0 105 2 (.slice (some ⟨g, 0, none⟩) L.length cap) L.length (aT L)) (hl : L.length ≤ 1000) (hk : k ≤ L.length) (hv : og w vb x) (hne : vb ≠ g) :
 Calls Tryz.prog 171 #[.slice (some ⟨g, 0, none⟩) L.length cap, .int .i64 k, .slice (some ⟨vb, 0, none⟩) 1 1] w (mD w g L k x) := by
 by_cases hlt : k < L.length
 ·by_cases hr : L.length + 1 ≤ cap
  ·exact yK x k vb ho hl hlt hr hv hne
  ·exact yL x k vb ho hl hlt (by omega) hv
 ·obtain rfl : k = L.length := by omega
  by_cases hr : L.length + 1 ≤ cap
  ·exact yI x vb ho hl hr hv
  ·exact yJ x vb ho hl (by omega) hv
end
end Go.Proofs.YtelnhablglomjaaGreat

namespace Go.Proofs.YtelnhablglomjaaGreat
open Go.RowKit Go.Sort Go.Lib
section
variable {w : World} {p g : Nat} {L : List (Int × Int)} {aK now : Int} {f : Int → Int}
theorem F9 {g' cap' : Nat} {L' : List (Int × Int)} {s : Value} (h1 : w.heap[p]? = some (.cells #[s, .int .i64 aK] 108 (0, 0))) (h2 : w.ownsRow 0 105 2 (.slice (some ⟨g', 0, none⟩) L'.length cap') L'.length (aT L')) :
 PW (w.setCell ⟨p, 0, none⟩ (.slice (some ⟨g', 0, none⟩) L'.length cap')) p g' L' aK := by
 obtain ⟨cur, hg, _, _, _, _⟩ := jI h2
 have YF : p ≠ g' := sQ h1 hg (by decide)
 have hlt := iV h1
 refine ⟨cap', ?_, Aw h2 (fun k hk => by cases hk; exact fun e => YF e.symm) 0 _⟩
 have h1' : w.heap[p] = .cells #[s, .int .i64 aK] 108 (0, 0) := (Array.getElem?_eq_some_iff.1 h1).2
 simp [World.setCell, hlt, Array.getElem_modify, h1']
theorem Q4 (i : Nat) (h : PW w p g L aK) (hl : L.length ≤ 1000) (hil : i ≤ L.length) (hno : ¬ (0 < i ∧ i < L.length ∧ tV L i = tV L (i - 1))) :
 Calls Tryz.prog 165 #[.pointer (some ⟨p, 0, none⟩), .int .i64 i] w fun e w' => e = .returned (.tuple #[]) ∧ Below w.heap.size w w' := by
 have nY := iW
 obtain ⟨cap, F⟩ := h.facts
 have c0 := F.c0
 have pl := F.pl
 have hbe : Below w.heap.size w w := Below.refl _ _
 by_cases h0 : 0 < i
 ·have d0 : decide ((0 : Int) < (i : Int)) = true := decide_eq_true (by omega)
  by_cases h1 : i < L.length
  ·have d1 : decide ((i : Int) < (L.length : Int)) = true := decide_eq_true (by omega)
   have hne : tV L i ≠ tV L (i - 1) := fun e => hno ⟨h0, h1, e⟩
   obtain ⟨q, hq⟩ : ∃ q, q = i - 1 := ⟨i - 1, rfl⟩
   rw [← hq] at hne
   have s1 := (step_cells F.own h1).2
   have s0 := (step_cells F.own (show q < L.length by omega)).2
   obtain ⟨x, hx⟩ : ∃ x, x = tV L i := ⟨_, rfl⟩
   obtain ⟨y, hy⟩ : ∃ y, y = tV L q := ⟨_, rfl⟩
   rw [← hx] at s1 hne
   rw [← hy] at s0 hne
   replace hx := Lib.hid hx
   replace hy := Lib.hid hy
   have e1 : (x == y) = false := beq_eq_false_iff_ne.2 hne
   have hw : IntKind.i64.wrap ((i : Int) - 1) = (q : Int) := by rw [IntWalk.i64_in _ (by omega)]; omega
   have b1 : (0 : Int) ≤ (i : Int) := by omega
   have b2 : (i : Int) < (L.length : Int) := by omega
   have b3 : (0 : Int) ≤ (q : Int) := by omega
   have b4 : (q : Int) < (L.length : Int) := by omega
   replace hq := Lib.hid hq
   clear hno h F hne
   go_enter Tryz.func165, Tryz.ntmps165
   go_wp2_with fail
   go_quiet (fail)
   go_wp2_with fail
   go_end0
   exact ⟨rfl, below_drewN hbe nq⟩
  ·have d1 : decide ((i : Int) < (L.length : Int)) = false := decide_eq_false (by omega)
   clear hno h F
   go_enter Tryz.func165, Tryz.ntmps165
   go_wp2_with fail
   go_quiet (fail)
   go_wp2_with fail
   go_end0
   exact ⟨rfl, below_drewN hbe nq⟩
 ·obtain rfl : i = 0 := by omega
  have d0 : decide ((0 : Int) < ((0 : Nat) : Int)) = false := by decide
  clear hno h F
  go_enter Tryz.func165, Tryz.ntmps165
  go_wp2_with fail
  go_quiet (fail)
  go_wp2_with fail
  go_end0
  exact ⟨rfl, below_drewN hbe nq⟩
theorem Oh (i : Nat) (h : PW w p g L aK) (hl : L.length ≤ 1000) (h0 : 0 < i) (h1 : i < L.length) (he : tV L i = tV L (i - 1)) :
 Calls Tryz.prog 165 #[.pointer (some ⟨p, 0, none⟩), .int .i64 i] w fun e w' => e = .returned (.tuple #[]) ∧ PW w' p g (qL L i) aK ∧ Off p g w w' := by
 have nY := iW
 obtain ⟨cap, F⟩ := h.facts
 have c0 := F.c0
 have pl := F.pl
 have hbe : Below w.heap.size w w := Below.refl _ _
 have d0 : decide ((0 : Int) < (i : Int)) = true := decide_eq_true (by omega)
 have d1 : decide ((i : Int) < (L.length : Int)) = true := decide_eq_true (by omega)
 obtain ⟨q, hq⟩ : ∃ q, q = i - 1 := ⟨i - 1, rfl⟩
 rw [← hq] at he
 have s1 := (step_cells F.own h1).2
 have s0 := (step_cells F.own (show q < L.length by omega)).2
 rw [← he] at s0
 obtain ⟨x, hx⟩ : ∃ x, x = tV L i := ⟨_, rfl⟩
 rw [← hx] at s1 s0
 replace hx := Lib.hid hx
 have e1 : (x == x) = true := by simp
 have hw : IntKind.i64.wrap ((i : Int) - 1) = (q : Int) := by rw [IntWalk.i64_in _ (by omega)]; omega
 have hw2 : IntKind.i64.wrap ((i : Int) + 1) = (i : Int) + 1 := IntWalk.i64_in _ (by omega)
 have b1 : (0 : Int) ≤ (i : Int) := by omega
 have b2 : (i : Int) < (L.length : Int) := by omega
 have b3 : (0 : Int) ≤ (q : Int) := by omega
 have b4 : (q : Int) < (L.length : Int) := by omega
 replace hq := Lib.hid hq
 replace he := Lib.hid he
 clear F
 go_enter Tryz.func165, Tryz.ntmps165
 go_wp2_with fail
 go_quiet (fail)
 have hb2 : Below w.heap.size w (w.drewN nq) := below_drewN hbe nq
 obtain ⟨wq, hwq⟩ : ∃ wq, wq = w.drewN nq := ⟨_, rfl⟩
 rw [← hwq] at hb2 ⊢
 clear hwq c0 s0 s1
 have hq2 := h.kept hb2
 obtain ⟨cap2, F2⟩ := hq2.facts
 have c0 := F2.c0
 have KZ := zH i (i + 1) F2.own hl (by omega) (by omega)
 rw [show ((i + 1 : Nat) : Int) = (i : Int) + 1 by omega] at KZ
 obtain ⟨n, hn⟩ : ∃ n, n = (qL L i).length := ⟨_, rfl⟩
 have hdel : Calls Tryz.prog 158 #[.slice (some ⟨g, 0, none⟩) L.length cap2, .int .i64 i, .int .i64 ((i : Int) + 1)] wq fun e w' => e = .returned (.slice (some ⟨g, 0, none⟩) n cap2) ∧ w'.ownsRow 0 105 2 (.slice (some ⟨g, 0, none⟩) n cap2) n (aT (qL L i)) ∧ Off g g wq w' := by rw [hn]; exact KZ
 clear KZ
 have hwp : Hid (∀ (w2 : World), w2.ownsRow 0 105 2 (.slice (some ⟨g, 0, none⟩) n cap2) n (aT (qL L i)) → Off g g wq w2 → PW (w2.setCell ⟨p, 0, none⟩ (.slice (some ⟨g, 0, none⟩) n cap2)) p g (qL L i) aK ∧ Off p g w (w2.setCell ⟨p, 0, none⟩ (.slice (some ⟨g, 0, none⟩) n cap2)) ∧ w2.cell? ⟨p, 0, none⟩ = wq.cell? ⟨p, 0, none⟩ ∧ w2.frozen? ⟨p, 0, none⟩ = false) := by
  intro w2 ho2 hoff
  subst hn
  have hp2 := F2.obj
  rw [← hoff.block p F2.pl F2.pg F2.pg] at hp2
  refine ⟨F9 hp2 ho2, ((Off.of_below hb2).trans hoff.mono (.inl rfl)).setCell (.inl rfl), hoff.cell (a := ⟨p, 0, none⟩) F2.pl F2.pg F2.pg, by simp [World.frozen?, hp2]⟩
 replace hn := Lib.hid hn
 clear h hq2 F2 hb2 hbe
 go_wp2_with fail
 go_at_call 158
 refine hdel.mono ?_
 clear hdel
 rintro e w2 ⟨rfl, ho2, hoff⟩
 obtain ⟨r1, r2, r3, r4⟩ := hwp.out w2 ho2 hoff
 rw [← r3] at c0
 replace r1 := Lib.hid r1
 replace r2 := Lib.hid r2
 clear hwp ho2 hoff r3
 go_wp2_with fail
 go_end0
 exact ⟨rfl, r1.out, r2.out⟩
end
end Go.Proofs.YtelnhablglomjaaGreat

namespace Go.Proofs.YtelnhablglomjaaGreat
open Go.RowKit Go.Sort Go.Lib
section
variable {w : World} {p g : Nat} {L : List (Int × Int)} {aK now : Int} {f : Int → Int}
theorem Ga (h : PW w p g L aK) : Calls Tryz.prog 164 #[.pointer (some ⟨p, 0, none⟩), .int .i64 1152921504606846976] w fun e w' => e = .returned (.int .i64 L.length) ∧ w = w' := by
 obtain ⟨cap, F⟩ := h.facts
 have c0 := F.c0
 clear F h
 go_enter Tryz.func164, Tryz.ntmps164
 go_wp2_with fail
 go_ret
 exact ⟨rfl, rfl⟩
theorem K3 (t : Int) {i : Nat} (ht : t < 1152921504606846976) (hi : iR L t i) (he : tA L i = t) (hs : Sm L now f) (hl : L.length ≤ 1000) (h : PW w p g L aK) :
 Calls Tryz.prog 164 #[.pointer (some ⟨p, 0, none⟩), .int .i64 t] w fun e w' => e = .returned (.int .i64 i) ∧ Below w.heap.size w w' := by
 have hat := yG t hi hs hl h
 have hil := hi.lt
 have hne : (t == 1152921504606846976) = false := beq_eq_false_iff_ne.2 (by omega)
 have b1 : (0 : Int) ≤ i := by omega
 have b2 : (i : Int) < (L.length : Int) := by omega
 replace hi := Lib.hid hi
 replace he := Lib.hid he
 go_enter Tryz.func164, Tryz.ntmps164
 go_wp2_with fail
 go_at_call 118
 refine hat.mono ?_
 clear hat
 rintro e w2 ⟨rfl, hb⟩
 obtain ⟨cap, F⟩ := (h.kept hb).facts
 have c0 := F.c0
 have s0 := (step_cells F.own hil).1
 rw [he.out] at s0
 clear F
 go_wp2_with fail
 go_ret
 exact ⟨rfl, hb⟩
def IJ (w : World) (g : Nat) (L : List (Int × Int)) (k : Nat) (x : Int × Int) : List Value → World → Prop
 | [], W => Below w.heap.size w W
 | v :: _, W => ∃ g' cap', v = .slice (some ⟨g', 0, none⟩) (L.length + 1) cap' ∧ (g' = g ∨ w.heap.size ≤ g') ∧ W.ownsRow 0 105 2 (.slice (some ⟨g', 0, none⟩) (L.length + 1) cap') (L.length + 1) (aT (jO L k x)) ∧ Off g g w W
theorem IJ.ext {w : World} {g : Nat} {L : List (Int × Int)} {k : Nat} {x : Int × Int} : ∀ (vs : List Value) (W W' : World), Reg2.Ext W W' → IJ w g L k x vs W → IJ w g L k x vs W' := by
 intro vs W W' he h
 cases vs with
 | nil => exact Below.trans h (he.mono (Below.size h))
 | cons v vs =>
   obtain ⟨g', cap', h1, h2, h3, h4⟩ := h
   exact ⟨g', cap', h1, h2, bY h3 he, h4.eu he⟩
theorem Q5 (t : Int) {i : Nat} (ht : t < 1152921504606846976) (hi : iR L t i) (he : tA L i ≠ t) (hs : Sm L now f) (hl : L.length ≤ 900) (h : PW w p g L aK) :
 Calls Tryz.prog 164 #[.pointer (some ⟨p, 0, none⟩), .int .i64 t] w fun e w' => e = .returned (.int .i64 ((i : Int) + 1)) ∧ ∃ g', PW w' p g' (jO L (i + 1) (t, tV L i)) aK ∧ (g' = g ∨ w.heap.size ≤ g') ∧ Off p g w w' := by
 have nY := iW
 have hat := yG t hi hs (by omega) h
 have hil := hi.lt
 have hne : (t == 1152921504606846976) = false := beq_eq_false_iff_ne.2 (by omega)
 have b1 : (0 : Int) ≤ i := by omega
 have b2 : (i : Int) < (L.length : Int) := by omega
 obtain ⟨k, hk⟩ : ∃ k, k = i + 1 := ⟨_, rfl⟩
 obtain ⟨fv, Ub⟩ : ∃ fv, fv = tV L i := ⟨_, rfl⟩
 obtain ⟨av, Uc⟩ : ∃ av, av = tA L i := ⟨_, rfl⟩
 rw [← Uc] at he
 have e1 : (av == t) = false := beq_eq_false_iff_ne.2 he
 have hw1 : IntKind.i64.wrap ((i : Int) + 1) = (k : Int) := by rw [IntWalk.i64_in _ (by omega)]; omega
 have hk2 : Hid ((i : Int) + 1 = (k : Int)) := by show _ = _; omega
 have hkl : k ≤ L.length := by omega
 rw [← hk, ← Ub]
 rw [hk2.out]
 replace hi := Lib.hid hi
 replace he := Lib.hid he
 replace hk := Lib.hid hk
 replace Ub := Lib.hid Ub
 replace Uc := Lib.hid Uc
 go_enter Tryz.func164, Tryz.ntmps164
 go_wp2_with fail
 go_at_call 118
 refine hat.mono ?_
 clear hat
 rintro e w1 ⟨rfl, hb1⟩
 obtain ⟨cap, F⟩ := (h.kept hb1).facts
 have c0 := F.c0
 have s0 := (step_cells F.own hil).1
 rw [← Uc.out] at s0
 have pl := F.pl
 have pg := F.pg
 have sV := F.own
 have IK := F.obj
 clear F h
 go_wp2_with fail
 refine Reg2.rM 19 50 [[],[ae],[ae,af],[ae,af,af],[ae,af,af,af],[ae,ae,ae,ae,ae],[ae,ae,ae,ae,ae,af],[ae,ae,ae,ae,ae,ae,ae],[ae,ae,ae,ae,ae,ae,ae,ae],[ae,ae,ae,ae,ae,ae,ae,ae,af],[ae,ae,ae,ae,ae,ae,ae,ae,af,af],[ae,ae,ae,ae,ae,ae,ae,ae,af,af,af],[ae,ae,ae,ae,ae,ae,ae,ae,ae,ae,ae,ae],[ae,ae,ae,ae,ae,ae,ae,ae,af,af,af,af,af],[ae,ae,ae,ae,ae,ae,ae,ae,af,af,af,af,af,af],[ae,ae,ae,ae,ae,ae,ae,ae,af,af,af,af,af,af,af],[ae,ae,ae,ae,ae,ae,ae,af,af,af,af,af,af,af,af,af],[ae,ae,ae,ae,ae,ae,ae,af,af,af,af,af,af,af,af,af,af],[ae,af,af,af,af,af,af,af,af,af,af,af,af,af,af,af,af,af]] [0, 0, 0, 0, 1, 0, 0, 0, 0, 0, 0, 1, 0, 0, 0, 2, 0, 1, 3]
  [.pure, .pure, .pure, .pure, .mU (.slice (some ⟨g, 0, none⟩) L.length cap), .pure, .pure, .pure, .pure, .pure, .pure, .mU (.slice (some ⟨g, 0, none⟩) L.length cap), .pure, .pure, .pure, .pinned Unit () (fun _ => .int .i64 fv) (fun _ _ => True), .pure, .minor Nat 0 (fun b => .slice (some ⟨b, 0, none⟩) 1 1) (fun b W => og W b (t, fv) ∧ b ≠ g), .major Value undef id]
  (fun W => Off g g w1 W) (IJ w1 g L k (t, fv)) (fun W W' => Off g g W W') (by kernel_rfl) (by kernel_rfl) rfl rfl IJ.ext ?_ ?_ ?_ ?_ ?_ ?_
 ·intro a b he hb; exact hb.eu he
 ·intro a b hg hb; exact hb.trans hg (.inl rfl)
 ·refine ⟨trivial, trivial, trivial, trivial, ⟨?_, ?_⟩, trivial, trivial, trivial, trivial, trivial, trivial, ⟨?_, ?_⟩, trivial, trivial, trivial, ⟨?_, ?_⟩, trivial, ⟨?_, ?_⟩, trivial, trivial⟩
  all_goals (intro x a b hk hx; first | exact trivial | exact ⟨hx.1.off (p := g) (q := g) (Off.of_below hk) ⟨hx.2, hx.2⟩, hx.2⟩ | exact ⟨hx.1.off hk ⟨hx.2, hx.2⟩, hx.2⟩)
 ·exact (Off.refl _ _ _).drew
 ·exact (Below.refl _ _).drew
 dsimp only [Reg2.mk, List.zip, List.zipWith, List.take]
 repeat (refine' Reg2.ak _ (by rfl) (fun wz => ?_) ?_; rotate_left; (go_simp; first | rfl | rw [if_neg (by omega)]); simp only [Act.put, xA, xB, xC]; (try simp only [xD]); (try simp only [xE]))
 refine Reg2.pm (fun wz hI hF => ?_) (fun x4 => ?_) (by rfl)
 ·have d0 : wz.cell? ⟨p, 0, none⟩ = _ := (hI.cell (a := ⟨p, 0, none⟩) pl pg pg).trans c0
  go_wp2_with fail
  exact ⟨_, rfl, ⟨(), rfl, trivial⟩, Reg2.Ext.refl _⟩
 simp only [Act.put, xA, xB, xC, xD, xE, id]
 repeat (refine' Reg2.ak _ (by rfl) (fun wz => ?_) ?_; rotate_left; (go_simp; first | rfl | rw [if_neg (by omega)]); simp only [Act.put, xA, xB, xC]; (try simp only [xD]); (try simp only [xE]))
 refine Reg2.pm (fun wz hI hF => ?_) (fun Xe => ?_) (by rfl)
 ·have d0 : wz.cell? ⟨p, 0, none⟩ = _ := (hI.cell (a := ⟨p, 0, none⟩) pl pg pg).trans c0
  go_wp2_with fail
  exact ⟨_, rfl, ⟨(), rfl, trivial⟩, Reg2.Ext.refl _⟩
 simp only [Act.put, xA, xB, xC, xD, xE, id]
 repeat (refine' Reg2.ak _ (by rfl) (fun wz => ?_) ?_; rotate_left; (go_simp; first | rfl | rw [if_neg (by omega)]); simp only [Act.put, xA, xB, xC]; (try simp only [xD]); (try simp only [xE]))
 refine Reg2.pp (fun wz hI hS hF => ?_) (fun ZM => ?_) (by rfl)
 ·have hS1 : Below w1.heap.size w1 wz := hS
  have d1 := (step_cells (bY sV hS1) hil).2
  rw [← Ub.out] at d1
  go_wp2_with fail
  exact ⟨_, rfl, ⟨(), rfl, trivial⟩, Reg2.Ext.refl _⟩
 simp only [Act.put, xA, xB, xC, xD, xE, id]
 repeat (refine' Reg2.ak _ (by rfl) (fun wz => ?_) ?_; rotate_left; (go_simp; first | rfl | rw [if_neg (by omega)]); simp only [Act.put, xA, xB, xC]; (try simp only [xD]); (try simp only [xE]))
 refine Reg2.pm (fun wz hI hF => ?_) (fun ZN => ?_) (by rfl)
 ·go_wp2_with fail
  exact ⟨_, rfl, ⟨wz.heap.size, rfl, heap_alloc_new wz _, by have := hI.size; have := (sV.lt g rfl).2; omega⟩, (Below.refl _ _).alloc (Nat.le_refl _) _⟩
 simp only [Act.put, xA, xB, xC, xD, xE, id]
 refine Reg2.pj (fun wz hI hS hF => ?_) (fun ZO => ?_) (by rfl)
 ·have hS1 : Below w1.heap.size w1 wz := hS
  have hone := hF.2.2.2.2.2.2.2.2.2.2.2.2.2.2.2.2.1
  go_wp2_with (go_at_call 171; go_must (refine (II (t, fv) k _ (bY sV hS1) (by omega) hkl hone.1 hone.2).mono ?_); rintro e w5 ⟨g5, cap5, rfl, ZP, VH, Q6⟩)
  exact ⟨_, rfl, ⟨⟨_, rfl⟩, ⟨g5, cap5, rfl, by have := hS1.size; omega, VH, (Off.of_below hS1).trans Q6 (.inl rfl)⟩⟩, Q6⟩
 simp only [Act.put, xA, xB, xC, xD, xE, id]
 refine Reg2.aA ?_
 intro w3 HI3 KE _
 obtain ⟨g', cap', rfl, hg', ho3, sj⟩ := KE
 have hp3 := IK
 rw [← sj.block p pl pg pg] at hp3
 have d0 : w3.cell? ⟨p, 0, none⟩ = _ := (sj.cell (a := ⟨p, 0, none⟩) pl pg pg).trans c0
 have dz : w3.frozen? ⟨p, 0, none⟩ = false := by simp [World.frozen?, hp3]
 have hlen := ou (L := L) (k := k) (x := (t, fv)) hkl
 obtain ⟨n, hn⟩ : ∃ n, n = L.length + 1 := ⟨_, rfl⟩
 have hfin : Hid (PW (w3.setCell ⟨p, 0, none⟩ (.slice (some ⟨g', 0, none⟩) (L.length + 1) cap')) p g' (jO L k (t, fv)) aK) := by
  rw [← hlen] at ho3 ⊢
  exact F9 hp3 ho3
 have hoff : Hid (Off p g w (w3.setCell ⟨p, 0, none⟩ (.slice (some ⟨g', 0, none⟩) (L.length + 1) cap'))) := ((Off.of_below hb1).trans sj.mono (.inl rfl)).setCell (.inl rfl)
 have hgg : Hid (g' = g ∨ w.heap.size ≤ g') := by show _ ∨ _; have := hb1.size; omega
 clear HI3 ho3 sj hp3 hlen c0 s0 sV IK hg' hn
 dsimp only [List.drop]
 go_wp2_with fail
 go_ret
 exact ⟨rfl, g', hfin.out, hgg.out, hoff.out⟩
end
end Go.Proofs.YtelnhablglomjaaGreat

namespace Go.Proofs.YtelnhablglomjaaGreat
open Go.RowKit Go.Sort Go.Lib
structure Xf (L L' : List (Int × Int)) (now : Int) (f : Int → Int) (t : Int) (i : Nat) : Prop where
 sm : Sm L' now f
 here : (i < L'.length ∧ tA L' i = t) ∨ (i = L'.length ∧ t = 1152921504606846976)
 alt : ∀ X Y : Int → Prop, jT L X → (∀ s, X s → Y s) → Y t → jT L' Y
 len : L'.length ≤ L.length + 1
 pre : ∀ m, m < L.length → tA L m < t → m < L'.length ∧ tA L' m = tA L m
structure VI (L L' : List (Int × Int)) (now : Int) (f : Int → Int) (i : Nat) : Prop where
 sm : Sm L' now f
 alt : ∀ X Y : Int → Prop, jT L X → (∀ s, X s → Y s ∨ (i < L.length ∧ s = tA L i)) → jT L' Y
 len : L'.length ≤ L.length
 pre : ∀ m, m < i → m < L.length → m < L'.length ∧ tA L' m = tA L m
section
variable {w : World} {p g : Nat} {L : List (Int × Int)} {aK now : Int} {f : Int → Int}
theorem jT.mono {X Y : Int → Prop} (h : jT L X) (hX : ∀ s, X s → Y s) : jT L Y := fun i hi hY => h i hi fun hx => hY (hX _ hx)
theorem IL (t : Int) (hs : Sm L now f) (hn : now ≤ t) (ht : t ≤ 1152921504606846976) (hl : L.length ≤ 900) (h : PW w p g L aK) :
 Calls Tryz.prog 164 #[.pointer (some ⟨p, 0, none⟩), .int .i64 t] w fun e w' => ∃ (i g' : Nat) (L' : List (Int × Int)), e = .returned (.int .i64 i) ∧ PW w' p g' L' aK ∧ (g' = g ∨ w.heap.size ≤ g') ∧ Off p g w w' ∧ Xf L L' now f t i := by
 by_cases hF : t = 1152921504606846976
 ·subst hF
  refine (Ga h).mono ?_
  rintro e w' ⟨rfl, rfl⟩
  exact ⟨L.length, g, L, rfl, h, .inl rfl, Off.refl _ _ _, ⟨hs, .inr ⟨rfl, rfl⟩, fun X Y hX Gb _ => hX.mono Gb, by omega, fun m hm _ => ⟨hm, rfl⟩⟩⟩
 ·obtain ⟨i, hi⟩ := hs.ix t
  by_cases he : tA L i = t
  ·refine (K3 t (by omega) hi he hs (by omega) h).mono ?_
   rintro e w' ⟨rfl, hb⟩
   exact ⟨i, g, L, rfl, h.kept hb, .inl rfl, Off.of_below hb, ⟨hs, .inl ⟨hi.lt, he⟩, fun X Y hX Gb _ => hX.mono Gb, by omega, fun m hm _ => ⟨hm, rfl⟩⟩⟩
  ·refine (Q5 t (by omega) hi he hs hl h).mono ?_
   rintro e w' ⟨rfl, g', h1, h2, h3⟩
   have hil := hi.lt
   have hll := ou (L := L) (k := i + 1) (x := (t, tV L i)) (by omega)
   have hle := hi.wZ hs hn
   refine ⟨i + 1, g', jO L (i + 1) (t, tV L i), by rw [show ((i + 1 : Nat) : Int) = (i : Int) + 1 by omega], h1, h2, h3, ⟨hs.ins hi hn he (by omega), .inl ⟨by omega, ?_⟩, fun X Y hX Gb hY => jT.ins hX hil Gb hY, by omega, fun m hm hlt => ⟨by omega, ?_⟩⟩⟩
   ·rw [Ao (by omega), if_neg (by omega), if_pos rfl]
   ·have H6 : m ≤ i := by
     rcases Nat.lt_or_ge i m with h4 | h4
     ·have := hi.nx (by omega)
      have := hs.le (i := i + 1) (j := m) h4 hm
      omega
     ·exact h4
    rw [Ao (by omega), if_pos (by omega)]
theorem Eg (i : Nat) (hs : Sm L now f) (hl : L.length ≤ 1000) (hil : i ≤ L.length) (h : PW w p g L aK) :
 Calls Tryz.prog 165 #[.pointer (some ⟨p, 0, none⟩), .int .i64 i] w fun e w' => ∃ L' : List (Int × Int), e = .returned (.tuple #[]) ∧ PW w' p g L' aK ∧ Off p g w w' ∧ VI L L' now f i := by
 by_cases hy : 0 < i ∧ i < L.length ∧ tV L i = tV L (i - 1)
 ·obtain ⟨h0, h1, h2⟩ := hy
  refine (Oh i h hl h0 h1 h2).mono ?_
  rintro e w' ⟨rfl, h3, h4⟩
  have hll := rF h1
  refine ⟨_, rfl, h3, h4, ⟨hs.del h0 h1 h2, fun X Y hX Gb => jT.del hX h0 h1 h2 (fun s hx => ?_) (fun m hm vT => ?_) (fun m hm => ?_), by omega, fun m hm vT => ⟨by omega, ?_⟩⟩⟩
  ·rcases Gb s hx with h5 | ⟨_, h5⟩
   ·exact .inl h5
   ·exact .inr h5
  ·have := hs.lt hm vT; omega
  ·have := hs.lt hm h1; omega
  ·rw [EX h1, if_pos hm]
 ·refine (Q4 i h hl hil hy).mono ?_
  rintro e w' ⟨rfl, hb⟩
  refine ⟨L, rfl, h.kept hb, Off.of_below hb, ⟨hs, fun X Y hX Gb m hm hY => ?_, Nat.le_refl _, fun m _ vT => ⟨vT, rfl⟩⟩⟩
  by_cases hx : X (tA L (m + 1))
  ·rcases Gb _ hx with h5 | ⟨h5, h6⟩
   ·exact absurd h5 hY
   ·have e1 : m + 1 = i := by
     rcases Nat.lt_trichotomy (m + 1) i with h7 | h7 | h7
     ·have := hs.lt h7 h5; omega
     ·exact h7
     ·have := hs.lt h7 hm; omega
    intro e2
    refine hy ⟨by omega, h5, ?_⟩
    rw [← e1, Nat.add_sub_cancel]
    exact e2.symm
  ·exact hX m hm hx
theorem Ud {i : Nat} (v : Int) (h : PW w p g L aK) (hi : i < L.length) : PW (w.setCell ⟨g, i * 2 + 1, none⟩ (.int .i64 v)) p g (L.set i (tA L i, v)) aK := by
 obtain ⟨cap, F⟩ := h.facts
 refine ⟨cap, ?_, ?_⟩
 ·rw [List.length_set, Below.heap_setCell w ⟨g, i * 2 + 1, none⟩ _ p F.pg]
  exact F.obj
 ·have h1 := (F.own.stored (i * 2 + 1) (.int .i64 v)).1
  rw [IB, List.length_set]
  have e : (aT L).set (i * 2) (.int .i64 (tA L i)) = aT L := by
   have hg := (BO (BP hi)).1
   obtain ⟨hlt, hv⟩ := List.getElem?_eq_some_iff.1 hg
   rw [← hv]
   exact List.set_getElem_self hlt
  show World.ownsRow _ 0 _ 2 _ _ (((aT L).set (i * 2) (.int .i64 (tA L i))).set (i * 2 + 1) (.int .i64 v))
  rw [e]
  exact h1
theorem Ue {i : Nat} {v : Int} (hi : i < L.length) (m : Nat) : tA (L.set i (tA L i, v)) m = tA L m := by
 unfold tA
 rw [List.getD_eq_getElem?_getD, List.getD_eq_getElem?_getD, List.getElem?_set]
 split
 ·rename_i e; subst e; simp [hi]
 ·rfl
theorem MJ {i : Nat} {a v : Int} (hi : i < L.length) (m : Nat) : tV (L.set i (a, v)) m = if m = i then v else tV L m := by
 unfold tV
 rw [List.getD_eq_getElem?_getD, List.getD_eq_getElem?_getD, List.getElem?_set]
 by_cases e : i = m
 ·subst e; simp [hi]
 ·rw [if_neg e, if_neg (by omega)]
theorem K4 (a b n : Int) (hC : Can L now f) (ha : now ≤ a) (hab : a < b) (hb : b ≤ 1152921504606846976) (hf : ∀ t, now ≤ t → -1000 ≤ f t ∧ f t ≤ 1000) (hn : -1000 ≤ n ∧ n ≤ 1000) (hl : L.length ≤ 800) (h : PW w p g L aK) :
 Calls Tryz.prog 152 #[.pointer (some ⟨p, 0, none⟩), .int .i64 a, .int .i64 b, .int .i64 n] w fun e w' => e = .returned (.tuple #[]) ∧ ∃ (g' : Nat) (L' : List (Int × Int)), PW w' p g' L' aK ∧ (g' = g ∨ w.heap.size ≤ g') ∧ Off p g w w' ∧ Can L' now (fun t => f t + had a b n t) ∧ L'.length ≤ L.length + 2 := by
 have nY := iW
 have hcut := IL a hC.sm ha (by omega) (by omega) h
 go_enter Tryz.func152, Tryz.ntmps152
 go_wp2_with fail
 go_at_call 164
 refine hcut.mono ?_
 clear hcut
 rintro e w1 ⟨i, g1, L1, rfl, h1, hg1, ho1, qH⟩
 have hl1 := qH.len
 have hcut := IL b qH.sm (by omega) hb (by omega) h1
 go_wp2_with fail
 go_at_call 164
 refine hcut.mono ?_
 clear hcut
 rintro e w2 ⟨j, g2, L2, rfl, h2, hg2, ho2, hC2⟩
 have hl2 := hC2.len
 have hi1 : i < L1.length ∧ tA L1 i = a := by
  rcases qH.here with h3 | ⟨h3, h4⟩
  ·exact h3
  ·omega
 obtain ⟨hi2, hia⟩ := hC2.pre i hi1.1 (by omega)
 rw [hi1.2] at hia
 have hij : i ≤ j := by
  rcases hC2.here with ⟨h3, h4⟩ | ⟨h3, _⟩
  ·exact Nat.le_of_lt (hC2.sm.P9 hi2 h3 (by omega))
  ·omega
 have hjl : j ≤ L2.length := by
  rcases hC2.here with ⟨h3, _⟩ | ⟨h3, _⟩ <;> omega
 have K5 : jT L2 (fun s => s = a ∨ s = b) := hC2.alt (fun s => s = a) _ (qH.alt _ _ hC.alt (fun s hs => hs.elim) rfl) (fun s hs => .inl hs) (.inr rfl)
 have hgw : g2 = g ∨ w.heap.size ≤ g2 := by have := ho1.size; omega
 have qG : Off p g w w2 := ho1.trans ho2 hg1
 have hv2 : ∀ m, m < L2.length → -1000 ≤ tV L2 m ∧ tV L2 m ≤ 1000 := fun m hm => by
  rw [← hC2.sm.rep m (tA L2 m) hm (Int.le_refl _) (fun hx => hC2.sm.inc m hx)]
  exact hf _ (hC2.sm.Am hm)
 have Xg := Lib.hid hl1
 have Xh := Lib.hid hl2
 replace hi1 := Lib.hid hi1
 replace hia := Lib.hid hia
 replace K5 := Lib.hid K5
 replace hgw := Lib.hid hgw
 replace qG := Lib.hid qG
 replace hf := Lib.hid hf
 replace hv2 := Lib.hid hv2
 clear h h1 ho1 ho2 hg1 hg2
 have hL2 : L2.length ≤ 900 := by omega
 clear hl1 hl2
 go_wp2_with fail
 go_loopw [10] (fun kk wr => ∃ (q : Nat) (Lk : List (Int × Int)), i ≤ q ∧ q ≤ j ∧ kk = .int .i64 q ∧ PW wr p g2 Lk aK ∧ Ap L2 Lk i q n ∧ Off p g2 w2 wr) (fun kk _ => j - (intOf kk).toNat)
 case atStart => exact ⟨i, L2, Nat.le_refl _, hij, rfl, h2, ⟨rfl, fun _ => rfl, fun m _ => by rw [if_neg (by omega)]; omega⟩, Off.refl _ _ _⟩
 case round =>
  obtain ⟨q, Lk, ZQ, hqj, rfl, Uf, hR, hoff⟩ := hrel
  by_cases hlt : q < j
  ·have Oi : q < Lk.length := by rw [hR.len]; omega
   obtain ⟨cap, F⟩ := Uf.facts
   have c0 := F.c0
   have s1 := (step_cells F.own Oi).2
   have fz := F.own.frozenAt (q * 2 + 1)
   have hv : tV Lk q = tV L2 q := by rw [hR.v q (by omega), if_neg (by omega)]; omega
   rw [hv] at s1
   have hvb := hv2.out q (by omega)
   obtain ⟨x, hx⟩ : ∃ x, x = tV L2 q := ⟨_, rfl⟩
   rw [← hx] at s1 hvb
   have hw1 : IntKind.i64.wrap (x + n) = x + n := IntWalk.i64_in _ (by omega)
   have hw2 : IntKind.i64.wrap ((q : Int) + 1) = (q : Int) + 1 := IntWalk.i64_in _ (by omega)
   have b1 : (0 : Int) ≤ q := by omega
   have b2 : (q : Int) < (Lk.length : Int) := by omega
   have b3 : (q : Int) < (j : Int) := by omega
   have hnew := Ud (x + n) Uf Oi
   have K6 : Off p g2 w2 (wr.setCell ⟨g2, q * 2 + 1, none⟩ (.int .i64 (x + n))) := hoff.setCell (.inr (.inl rfl))
   have VJ : Ap L2 (Lk.set q (tA Lk q, x + n)) i (q + 1) n := by
    refine ⟨by rw [List.length_set]; exact hR.len, fun m => by rw [Ue Oi]; exact hR.a m, fun m hm => ?_⟩
    rw [MJ Oi]
    by_cases e : m = q
    ·subst e; rw [if_pos rfl, if_pos (by omega), ← hx]
    ·rw [if_neg e, hR.v m hm]
     by_cases hc : i ≤ m ∧ m < q
     ·rw [if_pos hc, if_pos (by omega)]
     ·rw [if_neg hc, if_neg (by omega)]
   replace hnew := Lib.hid hnew
   replace K6 := Lib.hid K6
   replace VJ := Lib.hid VJ
   replace hx := Lib.hid hx
   replace hv := Lib.hid hv
   clear F Uf hR hoff
   go_wp2_with fail
   go_roundw
   case rel => exact ⟨q + 1, _, by omega, by omega, by go_num, hnew.out, VJ.out, K6.out⟩
   case measure => simp [intOf]; omega
  ·obtain rfl : q = j := by omega
   have hs3 : Sm Lk now (fun t => f t + had a b n t) := hC2.sm.raise hR hi2 hia.out hC2.here
   have K7 : jT Lk (fun s => s = a ∨ s = b) := K5.out.raise hR hia.out hC2.here (fun s hs => hs) (.inl rfl) (.inr rfl)
   have hll := hR.len
   have hj1 := Eg q hs3 (by omega) (by omega) Uf
   have hlt' : ¬ ((q : Int) < (q : Int)) := by omega
   have Xi := Lib.hid hR.a
   clear hR
   replace hs3 := Lib.hid hs3
   replace K7 := Lib.hid K7
   replace hll := Lib.hid hll
   go_wp2_with fail
   go_at_call 165
   refine hj1.mono ?_
   clear hj1
   rintro e w4 ⟨L4, rfl, h4, uz, Ug⟩
   have hb4 : (q < Lk.length ∧ b = tA Lk q) ∨ b = 1152921504606846976 := by
    rcases hC2.here with ⟨h5, h6⟩ | ⟨_, h6⟩
    ·exact .inl ⟨by rw [hll.out]; exact h5, by rw [Xi.out]; exact h6.symm⟩
    ·exact .inr h6
   have K8 : jT L4 (fun s => s = a ∨ s = 1152921504606846976) := Ug.alt _ _ K7.out fun s hs => by
    rcases hs with rfl | rfl
    ·exact .inl (.inl rfl)
    ·rcases hb4 with ⟨h5, h6⟩ | h6
     ·exact .inr ⟨h5, h6⟩
     ·exact .inl (.inr h6)
   have Xj : i < q := by
    rcases hC2.here with ⟨h5, h6⟩ | ⟨h5, h6⟩
    ·exact hC2.sm.P9 hi2 h5 (by have := hia.out; omega)
    ·omega
   obtain ⟨hi4, MK⟩ := Ug.pre i Xj (by rw [hll.out]; exact hi2)
   rw [Xi.out, hia.out] at MK
   have hl4 := Ug.len
   have hj2 := Eg i Ug.sm (by have := hll.out; omega) (Nat.le_of_lt hi4) h4
   replace MK := Lib.hid MK
   replace K8 := Lib.hid K8
   replace hb4 := Lib.hid hb4
   go_wp2_with fail
   go_at_call 165
   refine hj2.mono ?_
   clear hj2
   rintro e w5 ⟨L5, rfl, h5, Cb, Q7⟩
   have Q8 : jT L5 (fun s => s = 1152921504606846976) := Q7.alt _ _ K8.out fun s hs => by
    rcases hs with rfl | rfl
    ·exact .inr ⟨hi4, MK.out.symm⟩
    ·exact .inl rfl
   have ML : Hid (Can L5 now (fun t => f t + had a b n t)) := ⟨Q7.sm, fun m hm _ => Q8 m hm fun e => by have := Q7.sm.top (m + 1) hm; omega⟩
   have hl5 : Hid (L5.length ≤ L.length + 2) := by
    show _ ≤ _
    have := Q7.len
    have := hll.out
    have := Xg.out
    have := Xh.out
    omega
   have qF : Hid (Off p g w w5) := (qG.out.trans (((hoff.trans uz (.inl rfl)).trans Cb (.inl rfl))) hgw.out)
   clear Q8 Q7 Cb uz h4
   replace h5 := Lib.hid h5
   go_wp2_with fail
   go_end0
   exact ⟨rfl, g2, L5, h5.out, hgw.out, qF.out, ML.out, hl5.out⟩
end
end Go.Proofs.YtelnhablglomjaaGreat

namespace Go.Proofs.YtelnhablglomjaaGreat
open Go.RowKit Go.Sort Go.Lib
section
variable {L : List (Int × Int)} {now : Int} {f : Int → Int}
theorem iR.mono (hs : Sm L now f) {s t : Int} {i j : Nat} (hi : iR L s i) (hj : iR L t j) (hst : s ≤ t) : i ≤ j := by
 rcases Nat.lt_or_ge j i with h1 | h1
 ·have h2 := hj.nx (by have := hi.lt; omega)
  have h3 := hi.le (by omega)
  have h4 := hs.le (i := j + 1) (j := i) h1 hi.lt
  omega
 ·exact h1
theorem Eh (hs : Sm L now f) {lo hi : Int} {i j : Nat} (h1 : iR L lo i) (h2 : iR L (hi - 1) j) (hn : now ≤ lo) (hlt : lo < hi) :
 i ≤ j ∧ (∀ t, lo ≤ t → t < hi → ∃ q, i ≤ q ∧ q ≤ j ∧ f t = tV L q) ∧ ∀ q, i ≤ q → q ≤ j → ∃ t, lo ≤ t ∧ t < hi ∧ f t = tV L q := by
 have hij := h1.mono hs h2 (by omega)
 refine ⟨hij, fun t h3 h4 => ?_, fun q h3 h4 => ?_⟩
 ·obtain ⟨q, hq⟩ := hs.ix t
  exact ⟨q, h1.mono hs hq h3, hq.mono hs h2 (by omega), hq.val hs (by omega)⟩
 ·have hjl := h2.lt
  have Oi : q < L.length := by omega
  have hjle := h2.wZ hs (by omega)
  have hqj := hs.le h4 hjl
  have hnx : q + 1 < L.length → lo < tA L (q + 1) := fun hx => by
   have h5 := h1.nx (by omega)
   have h6 := hs.le (i := i + 1) (j := q + 1) (by omega) hx
   omega
  refine ⟨max (tA L q) lo, by omega, by omega, hs.rep q _ Oi (by omega) fun hx => ?_⟩
  have := hnx hx
  have := hs.inc q hx
  omega
end
section
variable {w : World} {p g : Nat} {L : List (Int × Int)} {aK now : Int} {f : Int → Int}
theorem Db (a b : Int) (Xb : -9223372036854775808 ≤ b ∧ b ≤ 9223372036854775807) (hs : Sm L now f) (hn : 0 ≤ now) (hl : L.length ≤ 1000) (h : PW w p g L aK) :
 Calls Tryz.prog 113 #[.pointer (some ⟨p, 0, none⟩), .int .i64 a, .int .i64 b] w fun e w' => ∃ m : Int, e = .returned (.int .i64 m) ∧ BL f (max a now) b m ∧ Below w.heap.size w w' := by
 have hno := eY h hs.pos
 by_cases hab : b ≤ max a now
 ·have hp := BU a b h hs.pos (by rw [hs.hd]; exact hab)
  have hB : Hid (BL f (max a now) b 64) := ⟨Int.le_refl _, fun t h1 h2 => by omega, .inl rfl⟩
  go_enter Tryz.func113, Tryz.ntmps113
  go_wp2_with (first | (go_at_call 51; go_must (refine hno.mono ?_); rintro e w' ⟨rfl, rfl⟩) | (go_at_call 142; go_must (refine hp.mono ?_); rintro e w' ⟨rfl, rfl⟩))
  go_loopw [7, 17] (fun u i wr => u = .int .i64 64 ∧ i = .int .i64 0 ∧ wr = w) (fun _ _ _ => 0)
  case atStart => exact ⟨rfl, rfl, rfl⟩
  case round =>
   obtain ⟨rfl, rfl, rfl⟩ := hrel
   go_wp2_with fail
   go_ret
   exact ⟨64, rfl, hB.out, Below.refl _ _⟩
 ·obtain ⟨m0, hm0⟩ : ∃ m0, m0 = max a now := ⟨_, rfl⟩
  obtain ⟨i, hi⟩ := hs.ix m0
  obtain ⟨j, hj⟩ := hs.ix (b - 1)
  obtain ⟨hij, hall, hone⟩ := Eh hs hi hj (by omega) (by omega)
  rw [← hm0] at hab ⊢
  obtain ⟨cap, F⟩ := h.facts
  have hp := BZ a b m0 (by rw [hs.hd]; exact hm0.symm) (by omega) (by omega) hi hj hij hs hl h F
  have hjl := hj.lt
  obtain ⟨c, hc⟩ : ∃ c, c = j + 1 - i := ⟨_, rfl⟩
  obtain ⟨cc, hcc⟩ : ∃ cc, cc = cap - i := ⟨_, rfl⟩
  rw [← hc, ← hcc] at hp
  have sV := F.own
  clear F
  replace hi := Lib.hid hi
  replace hj := Lib.hid hj
  replace hall := Lib.hid hall
  replace hone := Lib.hid hone
  replace hc := Lib.hid hc
  replace hcc := Lib.hid hcc
  replace hm0 := Lib.hid hm0
  go_enter Tryz.func113, Tryz.ntmps113
  go_wp2_with (go_at_call 51; go_must (refine hno.mono ?_); rintro e w' ⟨rfl, rfl⟩)
  go_at_call 142
  refine hp.mono ?_
  clear hp hno
  rintro e w1 ⟨rfl, hb1⟩
  go_wp2_with fail
  go_loopw [7, 17] (fun u k wr => ∃ (q : Nat) (m : Int), q ≤ c ∧ k = .int .i64 q ∧ u = .int .i64 m ∧ m ≤ 64 ∧ (∀ r, r < q → m ≤ tV L (i + r)) ∧ (m = 64 ∨ ∃ r, r < q ∧ m = tV L (i + r)) ∧ Below w.heap.size w wr) (fun _ k _ => c - (intOf k).toNat)
  case atStart => exact ⟨0, 64, Nat.zero_le _, rfl, rfl, Int.le_refl _, fun r hr => by omega, .inl rfl, hb1⟩
  case round =>
   obtain ⟨q, m, hq, rfl, rfl, Xk, hlo, hex, hbr⟩ := hrel
   by_cases hlt : q < c
   ·have hcv := hc.out
    have hown := bY sV hbr
    obtain ⟨s0, s1⟩ := step_cells hown (show i + q < L.length by omega)
    rw [Nat.add_mul] at s0 s1
    obtain ⟨x, hx⟩ : ∃ x, x = tV L (i + q) := ⟨_, rfl⟩
    obtain ⟨y, hy⟩ : ∃ y, y = tA L (i + q) := ⟨_, rfl⟩
    rw [← hx] at s1
    rw [← hy] at s0
    have hsz := hbr.size
    have hw2 : IntKind.i64.wrap ((q : Int) + 1) = (q : Int) + 1 := IntWalk.i64_in _ (by omega)
    have b1 : (0 : Int) ≤ q := by omega
    have b2 : (q : Int) < (c : Int) := by omega
    have hbd : Below w.heap.size w (wr.alloc (.cells #[.int .i64 y, .int .i64 x] 105)) := hbr.alloc hsz _
    have hlo2 : Hid (∀ r, r < q + 1 → min m x ≤ tV L (i + r)) := fun r hr => by
     rcases Nat.lt_or_ge r q with h5 | h5
     ·have := hlo r h5; omega
     ·have : r = q := by omega
      subst this; rw [← hx]; omega
    have Xl : Hid (min m x = 64 ∨ ∃ r, r < q + 1 ∧ min m x = tV L (i + r)) := by
     show _ ∨ _
     rcases Int.lt_or_le x m with h5 | h5
     ·exact .inr ⟨q, by omega, by rw [← hx]; omega⟩
     ·have e : min m x = m := by omega
      rw [e]
      rcases hex with h6 | ⟨r, h6, h7⟩
      ·exact .inl h6
      ·exact .inr ⟨r, by omega, h7⟩
    replace hx := Lib.hid hx
    replace hy := Lib.hid hy
    clear hlo hex hcv hown
    go_wp2_with fail
    go_roundw
    case rel => exact ⟨q + 1, min m x, by omega, by go_num, rfl, by omega, hlo2.out, Xl.out, hbd⟩
    case measure => simp [intOf]; omega
   ·obtain rfl : q = c := by omega
    have hB : Hid (BL f m0 b m) := by
     refine ⟨Xk, fun t h1 h2 => ?_, ?_⟩
     ·obtain ⟨r, h3, h4, h5⟩ := hall.out t h1 h2
      have := hlo (r - i) (by have := hc.out; omega)
      rw [show i + (r - i) = r by omega] at this
      omega
     ·rcases hex with h6 | ⟨r, h6, h7⟩
      ·exact .inl h6
      ·obtain ⟨t, h3, h4, h5⟩ := hone.out (i + r) (by omega) (by have := hc.out; omega)
       exact .inr ⟨t, h3, h4, by omega⟩
    clear hlo hex
    go_wp2_with fail
    go_ret
    exact ⟨m, rfl, hB.out, hbr⟩
end
def Q9 (f : Int → Int) (now a b n e : Int) (f' : Int → Int) (dv : Int) : Prop :=
 ((b ≤ a ∨ 1152921504606846976 < b ∨ n < -64 ∨ 64 < n) ∧ e = 1 ∧ f' = f ∧ dv = 0) ∨
 (¬ (b ≤ a ∨ 1152921504606846976 < b ∨ n < -64 ∨ 64 < n) ∧ (b ≤ max a now ∨ n = 0) ∧ e = 0 ∧ f' = f ∧ dv = 0) ∨
 (¬ (b ≤ a ∨ 1152921504606846976 < b ∨ n < -64 ∨ 64 < n) ∧ ¬ (b ≤ max a now ∨ n = 0) ∧ (∃ t, max a now ≤ t ∧ t < b ∧ (f t + n < 0 ∨ 64 < f t + n)) ∧ e = 5 ∧ f' = f ∧ dv = 0) ∨
 (¬ (b ≤ a ∨ 1152921504606846976 < b ∨ n < -64 ∨ 64 < n) ∧ ¬ (b ≤ max a now ∨ n = 0) ∧ (∀ t, max a now ≤ t → t < b → 0 ≤ f t + n ∧ f t + n ≤ 64) ∧ e = 0 ∧ f' = (fun t => f t + had (max a now) b n t) ∧ dv = 1)
end Go.Proofs.YtelnhablglomjaaGreat

namespace Go.Proofs.YtelnhablglomjaaGreat
open Go.RowKit Go.Sort Go.Lib
section
variable {w : World} {p g : Nat} {L : List (Int × Int)} {aK now : Int} {f : Int → Int}
theorem MM (v : Int) (h : PW w p g L aK) : PW (w.setCell ⟨p, 1, none⟩ (.int .i64 v)) p g L v := by
 obtain ⟨cap, F⟩ := h.facts
 have hlt := F.pl
 have h1' : w.heap[p] = _ := (Array.getElem?_eq_some_iff.1 F.obj).2
 refine ⟨cap, by simp [World.setCell, hlt, Array.getElem_modify, h1'], Aw F.own (fun k hk => by cases hk; exact fun e => F.pg e.symm) 1 _⟩
def bZ (w : World) (p g : Nat) (L : List (Int × Int)) (aK now : Int) (f : Int → Int) (a b n : Int) (e : Ending) (w' : World) : Prop :=
 ∃ (r dv : Int) (f' : Int → Int) (g' : Nat) (L' : List (Int × Int)), e = .returned (.int .i64 r) ∧ Q9 f now a b n r f' dv ∧ PW w' p g' L' (aK + dv) ∧ Can L' now f' ∧ (g' = g ∨ w.heap.size ≤ g') ∧ Off p g w w' ∧ L'.length ≤ L.length + 2
theorem bZ.same {a b n r : Int} {w' : World} (h : PW w p g L aK) (hC : Can L now f) (hR : Q9 f now a b n r f 0) (hb : Below w.heap.size w w') : bZ w p g L aK now f a b n (.returned (.int .i64 r)) w' :=
 ⟨r, 0, f, g, L, rfl, hR, by rw [Int.add_zero]; exact h.kept hb, hC, .inl rfl, Off.of_below hb, by omega⟩
theorem Ra (a b n : Int) (hC : Can L now f) (h : PW w p g L aK) (hbad : b ≤ a ∨ 1152921504606846976 < b ∨ n < -64 ∨ 64 < n) :
 Calls Tryz.prog 130 #[.pointer (some ⟨p, 0, none⟩), .int .i64 a, .int .i64 b, .int .i64 n] w (bZ w p g L aK now f a b n) := by
 have hno := eY h hC.sm.pos
 have hfin : Hid (bZ w p g L aK now f a b n (.returned (.int .i64 1)) w) := bZ.same h hC (.inl ⟨hbad, rfl, rfl, rfl⟩) (Below.refl _ _)
 by_cases h1 : b ≤ a
 ·go_enter Tryz.func130, Tryz.ntmps130
  go_wp2_with (go_at_call 51; go_must (refine hno.mono ?_); rintro e w' ⟨rfl, rfl⟩)
  go_ret
  exact hfin.out
 ·by_cases h2 : 1152921504606846976 < b
  ·go_enter Tryz.func130, Tryz.ntmps130
   go_wp2_with (go_at_call 51; go_must (refine hno.mono ?_); rintro e w' ⟨rfl, rfl⟩)
   go_ret
   exact hfin.out
  ·by_cases h3 : n < -64
   ·go_enter Tryz.func130, Tryz.ntmps130
    go_wp2_with (go_at_call 51; go_must (refine hno.mono ?_); rintro e w' ⟨rfl, rfl⟩)
    go_ret
    exact hfin.out
   ·have h4 : 64 < n := by omega
    go_enter Tryz.func130, Tryz.ntmps130
    go_wp2_with (go_at_call 51; go_must (refine hno.mono ?_); rintro e w' ⟨rfl, rfl⟩)
    go_ret
    exact hfin.out
theorem Oj (a b n : Int) (hC : Can L now f) (h : PW w p g L aK) (hok : ¬ (b ≤ a ∨ 1152921504606846976 < b ∨ n < -64 ∨ 64 < n)) (hz : b ≤ max a now) :
 Calls Tryz.prog 130 #[.pointer (some ⟨p, 0, none⟩), .int .i64 a, .int .i64 b, .int .i64 n] w (bZ w p g L aK now f a b n) := by
 have hno := eY h hC.sm.pos
 have hp := BU a b h hC.sm.pos (by rw [hC.sm.hd]; exact hz)
 have hfin : Hid (bZ w p g L aK now f a b n (.returned (.int .i64 0)) w) := bZ.same h hC (.inr (.inl ⟨hok, .inl hz, rfl, rfl, rfl⟩)) (Below.refl _ _)
 have h1 : ¬ (b ≤ a) := by omega
 have h2 : ¬ (1152921504606846976 < b) := by omega
 have h3 : ¬ (n < -64) := by omega
 have h4 : ¬ (64 < n) := by omega
 clear hok hz
 go_enter Tryz.func130, Tryz.ntmps130
 go_wp2_with (first | (go_at_call 51; go_must (refine hno.mono ?_); rintro e w' ⟨rfl, rfl⟩) | (go_at_call 142; go_must (refine hp.mono ?_); rintro e w' ⟨rfl, rfl⟩))
 go_ret
 exact hfin.out
theorem Ol (a b n : Int) (hC : Can L now f) (hn0 : 0 ≤ now) (hf : ∀ t, now ≤ t → 0 ≤ f t ∧ f t ≤ 64) (xN : 0 ≤ aK ∧ aK ≤ 1000000) (hl : L.length ≤ 800) (h : PW w p g L aK) (hok : ¬ (b ≤ a ∨ 1152921504606846976 < b ∨ n < -64 ∨ 64 < n)) (hz : ¬ b ≤ max a now) :
 Calls Tryz.prog 130 #[.pointer (some ⟨p, 0, none⟩), .int .i64 a, .int .i64 b, .int .i64 n] w (bZ w p g L aK now f a b n) := by
 have hno := eY h hC.sm.pos
 obtain ⟨m0, hm0⟩ : ∃ m0, m0 = max a now := ⟨_, rfl⟩
 obtain ⟨i, hi⟩ := hC.sm.ix m0
 obtain ⟨j, hj⟩ := hC.sm.ix (b - 1)
 obtain ⟨hij, hall, hone⟩ := Eh hC.sm hi hj (by omega) (by omega)
 obtain ⟨cap, F⟩ := h.facts
 have hp := BZ a b m0 (by rw [hC.sm.hd]; exact hm0.symm) (by omega) (by omega) hi hj hij hC.sm (by omega) h F
 have hjl := hj.lt
 obtain ⟨c, hc⟩ : ∃ c, c = j + 1 - i := ⟨_, rfl⟩
 obtain ⟨cc, hcc⟩ : ∃ cc, cc = cap - i := ⟨_, rfl⟩
 rw [← hc, ← hcc] at hp
 have sV := F.own
 clear F
 have h1 : ¬ (b ≤ a) := by omega
 have h2 : ¬ (1152921504606846976 < b) := by omega
 have h3 : ¬ (n < -64) := by omega
 have h4 : ¬ (64 < n) := by omega
 have hc0 : ((c : Int) == 0) = false := beq_eq_false_iff_ne.2 (by omega)
 have hc0' : ¬ ((c : Int) = 0) := by omega
 have VK : Hid (now ≤ m0 ∧ m0 < b) := by show _ ∧ _; omega
 replace hi := Lib.hid hi
 replace hj := Lib.hid hj
 replace hall := Lib.hid hall
 replace hone := Lib.hid hone
 replace hc := Lib.hid hc
 replace hcc := Lib.hid hcc
 replace hf := Lib.hid hf
 by_cases hn : n = 0
 ·have hfin : Hid (∀ w1, Below w.heap.size w w1 → bZ w p g L aK now f a b n (.returned (.int .i64 0)) w1) := fun w1 hb => bZ.same h hC (.inr (.inl ⟨hok, .inr hn, rfl, rfl, rfl⟩)) hb
  clear hok hz
  subst hn
  replace hm0 := Lib.hid hm0
  go_enter Tryz.func130, Tryz.ntmps130
  go_wp2_with (first | (go_at_call 51; go_must (refine hno.mono ?_); rintro e w' ⟨rfl, rfl⟩) | (go_at_call 142; go_must (refine hp.mono ?_); rintro e w1 ⟨rfl, hb1⟩))
  go_ret
  exact hfin.out _ hb1
 ·have hn' : (n == 0) = false := beq_eq_false_iff_ne.2 hn
  have hz' : ¬ (b ≤ max a now ∨ n = 0) := by omega
  have hbad : Hid (∀ w1 t, Below w.heap.size w w1 → m0 ≤ t → t < b → (f t + n < 0 ∨ 64 < f t + n) → bZ w p g L aK now f a b n (.returned (.int .i64 5)) w1) := fun w1 t hb h5 h6 h7 => bZ.same h hC (.inr (.inr (.inl ⟨hok, hz', ⟨t, by omega, h6, h7⟩, rfl, rfl, rfl⟩))) hb
  have hgood : Hid ((∀ t, m0 ≤ t → t < b → 0 ≤ f t + n ∧ f t + n ≤ 64) → Q9 f now a b n 0 (fun t => f t + had m0 b n t) 1) := fun hx => .inr (.inr (.inr ⟨hok, hz', fun t h5 h6 => hx t (by omega) h6, rfl, by rw [hm0], rfl⟩))
  have YG : max a (tA L 0) = m0 := by rw [hC.sm.hd]; exact hm0.symm
  clear hok hz hz'
  replace hm0 := Lib.hid hm0
  go_enter Tryz.func130, Tryz.ntmps130
  go_wp2_with (go_at_call 51; go_must (refine hno.mono ?_); rintro e w' ⟨rfl, rfl⟩)
  go_at_call 142
  refine hp.mono ?_
  clear hp hno
  rintro e w1 ⟨rfl, hb1⟩
  go_wp2_with fail
  go_loopw [43] (fun k wr => ∃ (q : Nat), q ≤ c ∧ k = .int .i64 q ∧ (∀ r, r < q → 0 ≤ tV L (i + r) + n ∧ tV L (i + r) + n ≤ 64) ∧ Below w.heap.size w wr) (fun k _ => c - (intOf k).toNat)
  case atStart => exact ⟨0, Nat.zero_le _, rfl, fun r hr => by omega, hb1⟩
  case round =>
   obtain ⟨q, hq, rfl, hlo, hbr⟩ := hrel
   by_cases hlt : q < c
   ·have hcv := hc.out
    have hown := bY sV hbr
    obtain ⟨s0, s1⟩ := step_cells hown (show i + q < L.length by omega)
    rw [Nat.add_mul] at s0 s1
    have Xm := hone.out (i + q) (by omega) (by omega)
    obtain ⟨x, hx⟩ : ∃ x, x = tV L (i + q) := ⟨_, rfl⟩
    obtain ⟨y, hy⟩ : ∃ y, y = tA L (i + q) := ⟨_, rfl⟩
    rw [← hx] at s1 Xm
    rw [← hy] at s0
    obtain ⟨t, ht1, ht2, ht3⟩ := Xm
    have qY := hf.out t (by have := VK.out; omega)
    rw [ht3] at qY
    have hsz := hbr.size
    have hw1 : IntKind.i64.wrap (x + n) = x + n := IntWalk.i64_in _ (by omega)
    have hw2 : IntKind.i64.wrap ((q : Int) + 1) = (q : Int) + 1 := IntWalk.i64_in _ (by omega)
    have b1 : (0 : Int) ≤ q := by omega
    have b2 : (q : Int) < (c : Int) := by omega
    have hbd : Below w.heap.size w (wr.alloc (.cells #[.int .i64 y, .int .i64 x] 105)) := hbr.alloc hsz _
    have Cc : Hid (x + n < 0 ∨ 64 < x + n → ∀ w1, Below w.heap.size w w1 → bZ w p g L aK now f a b n (.returned (.int .i64 5)) w1) := fun h5 w1 h6 => hbad.out w1 t h6 ht1 ht2 (by rw [ht3]; exact h5)
    clear hbad
    by_cases h5 : x + n < 0
    ·have hh := Cc.out (.inl h5) _ hbd
     replace hh := Lib.hid hh
     replace hx := Lib.hid hx
     replace hy := Lib.hid hy
     replace ht3 := Lib.hid ht3
     clear hlo hcv hown Cc
     go_wp2_with fail
     go_ret
     exact hh.out
    ·by_cases h6 : 64 < x + n
     ·have hh := Cc.out (.inr h6) _ hbd
      replace hh := Lib.hid hh
      replace hx := Lib.hid hx
      replace hy := Lib.hid hy
      replace ht3 := Lib.hid ht3
      clear hlo hcv hown Cc
      go_wp2_with fail
      go_ret
      exact hh.out
     ·have hlo2 : Hid (∀ r, r < q + 1 → 0 ≤ tV L (i + r) + n ∧ tV L (i + r) + n ≤ 64) := fun r hr => by
       rcases Nat.lt_or_ge r q with h7 | h7
       ·exact hlo r h7
       ·have : r = q := by omega
        subst this; rw [← hx]; omega
      replace hx := Lib.hid hx
      replace hy := Lib.hid hy
      replace ht3 := Lib.hid ht3
      clear hlo hcv hown Cc
      go_wp2_with fail
      go_roundw
      case rel => exact ⟨q + 1, by omega, by go_num, hlo2.out, hbd⟩
      case measure => simp [intOf]; omega
   ·obtain rfl : q = c := by omega
    have hR := hgood.out fun t h5 h6 => by
     obtain ⟨r, h7, h8, h9⟩ := hall.out t h5 h6
     have := hlo (r - i) (by have := hc.out; omega)
     rw [show i + (r - i) = r by omega] at this
     rw [h9]; exact this
    have VL := h.kept hbr
    have hnw := pR VL hC.sm.pos
    have hsh := K4 m0 b n hC VK.out.1 VK.out.2 (by omega) (fun t ht => by have := hf.out t ht; omega) (by omega) hl VL
    have hwv : IntKind.i64.wrap (aK + 1) = aK + 1 := IntWalk.i64_in _ (by omega)
    replace hR := Lib.hid hR
    clear hlo hbad hgood h sV VL
    go_wp2_with (go_at_call 95; go_must (refine hnw.mono ?_); rintro e w' ⟨rfl, rfl⟩)
    go_at_call 152
    refine hsh.mono ?_
    clear hsh hnw
    rintro e w5 ⟨rfl, g5, L5, h5, hg5, Cb, gJ, hl5⟩
    obtain ⟨cap5, F5⟩ := h5.facts
    have c1 := F5.c1
    have fz := F5.fz 1
    clear F5
    have hnew := MM (aK + 1) h5
    have hpost : Hid (bZ w p g L aK now f a b n (.returned (.int .i64 0)) (w5.setCell ⟨p, 1, none⟩ (.int .i64 (aK + 1)))) :=
     ⟨0, 1, _, g5, L5, rfl, hR.out, hnew, gJ, by have := hbr.size; omega, ((Off.of_below hbr).trans Cb (.inl rfl)).setCell (.inl rfl), hl5⟩
    clear hnew h5 gJ Cb hg5 hl5 hR
    go_wp2_with fail
    go_ret
    exact hpost.out
theorem zI (a b n : Int) (hC : Can L now f) (hn0 : 0 ≤ now) (hf : ∀ t, now ≤ t → 0 ≤ f t ∧ f t ≤ 64) (xN : 0 ≤ aK ∧ aK ≤ 1000000) (hl : L.length ≤ 800) (h : PW w p g L aK) :
 Calls Tryz.prog 130 #[.pointer (some ⟨p, 0, none⟩), .int .i64 a, .int .i64 b, .int .i64 n] w (bZ w p g L aK now f a b n) := by
 by_cases hbad : b ≤ a ∨ 1152921504606846976 < b ∨ n < -64 ∨ 64 < n
 ·exact Ra a b n hC h hbad
 ·by_cases hz : b ≤ max a now
  ·exact Oj a b n hC h hbad hz
  ·exact Ol a b n hC hn0 hf xN hl h hbad hz
end
end Go.Proofs.YtelnhablglomjaaGreat

namespace Go.Proofs.YtelnhablglomjaaGreat
open Go.RowKit Go.Sort Go.Lib
section
variable {w : World} {p g : Nat} {L : List (Int × Int)} {aK now : Int} {f : Int → Int}
theorem bZ.ahead {a b n : Int} {w0 w' : World} {e : Ending} (h : bZ w p g L aK now f a b n e w') (hb : Below w0.heap.size w0 w) : bZ w0 p g L aK now f a b n e w' := by
 obtain ⟨r, dv, f', g', L', h1, h2, h3, h4, h5, h6, h7⟩ := h
 exact ⟨r, dv, f', g', L', h1, h2, h3, h4, by have := hb.size; omega, (Off.of_below hb).trans h6 (.inl rfl), h7⟩
theorem zK (a b n k : Int) (hn : 0 ≤ n ∧ n ≤ 64) (hk : k = 1 ∨ k = -1) (hC : Can L now f) (hn0 : 0 ≤ now) (hf : ∀ t, now ≤ t → 0 ≤ f t ∧ f t ≤ 64) (xN : 0 ≤ aK ∧ aK ≤ 1000000) (hl : L.length ≤ 800) (h : PW w p g L aK) :
 Calls Tryz.prog 143 #[.pointer (some ⟨p, 0, none⟩), .agg #[.int .i64 a, .int .i64 b, .int .i64 n], .int .i64 k] w (bZ w p g L aK now f a b (k * n)) := by
 obtain ⟨m, hm⟩ : ∃ m, m = k * n := ⟨_, rfl⟩
 have hmw : IntKind.i64.wrap (k * n) = m := by rw [← hm]; exact IntWalk.i64_in _ (by rcases hk with rfl | rfl <;> omega)
 have hb1 : Below w.heap.size w (w.alloc (.cells #[.int .i64 a, .int .i64 b, .int .i64 n] 148)) := (Below.refl _ _).alloc (Nat.le_refl _) _
 have h1 := h.kept hb1
 have hno := eY h1 hC.sm.pos
 have hadd := zI a b m hC hn0 hf xN hl h1
 rw [← hm]
 have hn1 : ¬ (n < 0) := by omega
 have hn2 : ¬ (64 < n) := by omega
 replace hm := Lib.hid hm
 replace hf := Lib.hid hf
 clear hk hn h
 go_enter Tryz.func143, Tryz.ntmps143
 go_wp2_with (go_at_call 51; go_must (refine hno.mono ?_); rintro e w' ⟨rfl, rfl⟩)
 go_at_call 130
 refine hadd.mono ?_
 clear hadd hno
 intro e w2 hp
 obtain ⟨r, dv, f', g', L', rfl, hrest⟩ := hp
 have hfin : Hid (bZ w p g L aK now f a b m (.returned (.int .i64 r)) w2) := bZ.ahead (w := w.alloc (.cells #[.int .i64 a, .int .i64 b, .int .i64 n] 148)) ⟨r, dv, f', g', L', rfl, hrest⟩ hb1
 clear hrest h1 hb1
 go_wp2_with fail
 go_ret
 exact hfin.out
theorem Gc (a b n : Int) (hn : 0 ≤ n ∧ n ≤ 64) (hC : Can L now f) (hn0 : 0 ≤ now) (hf : ∀ t, now ≤ t → 0 ≤ f t ∧ f t ≤ 64) (xN : 0 ≤ aK ∧ aK ≤ 1000000) (hl : L.length ≤ 800) (h : PW w p g L aK) :
 Calls Tryz.prog 144 #[.pointer (some ⟨p, 0, none⟩), .agg #[.int .i64 a, .int .i64 b, .int .i64 n]] w (bZ w p g L aK now f a b (-n)) := by
 have hb1 : Below w.heap.size w (w.alloc (.cells #[.int .i64 a, .int .i64 b, .int .i64 n] 148)) := (Below.refl _ _).alloc (Nat.le_refl _) _
 have hch := zK a b n (-1) hn (.inr rfl) hC hn0 hf xN hl (h.kept hb1)
 rw [show (-1 : Int) * n = -n by omega] at hch
 replace hf := Lib.hid hf
 clear hn h
 go_enter Tryz.func144, Tryz.ntmps144
 go_wp2_with fail
 go_at_call 143
 refine hch.mono ?_
 clear hch
 intro e w2 hp
 obtain ⟨r, dv, f', g', L', rfl, hrest⟩ := hp
 have hfin : Hid (bZ w p g L aK now f a b (-n) (.returned (.int .i64 r)) w2) := bZ.ahead (w := w.alloc (.cells #[.int .i64 a, .int .i64 b, .int .i64 n] 148)) ⟨r, dv, f', g', L', rfl, hrest⟩ hb1
 clear hrest hb1
 go_wp2_with fail
 go_ret
 exact hfin.out
theorem Gd (a b n : Int) (hn : 0 ≤ n ∧ n ≤ 64) (hC : Can L now f) (hn0 : 0 ≤ now) (hf : ∀ t, now ≤ t → 0 ≤ f t ∧ f t ≤ 64) (xN : 0 ≤ aK ∧ aK ≤ 1000000) (hl : L.length ≤ 800) (h : PW w p g L aK) :
 Calls Tryz.prog 114 #[.pointer (some ⟨p, 0, none⟩), .agg #[.int .i64 a, .int .i64 b, .int .i64 n]] w (bZ w p g L aK now f a b n) := by
 have hb1 : Below w.heap.size w (w.alloc (.cells #[.int .i64 a, .int .i64 b, .int .i64 n] 148)) := (Below.refl _ _).alloc (Nat.le_refl _) _
 have hch := zK a b n 1 hn (.inl rfl) hC hn0 hf xN hl (h.kept hb1)
 rw [show (1 : Int) * n = n by omega] at hch
 replace hf := Lib.hid hf
 clear hn h
 go_enter Tryz.func114, Tryz.ntmps114
 go_wp2_with fail
 go_at_call 143
 refine hch.mono ?_
 clear hch
 intro e w2 hp
 obtain ⟨r, dv, f', g', L', rfl, hrest⟩ := hp
 have hfin : Hid (bZ w p g L aK now f a b n (.returned (.int .i64 r)) w2) := bZ.ahead (w := w.alloc (.cells #[.int .i64 a, .int .i64 b, .int .i64 n] 148)) ⟨r, dv, f', g', L', rfl, hrest⟩ hb1
 clear hrest hb1
 go_wp2_with fail
 go_ret
 exact hfin.out
theorem IM (n : Int) (w : World) (h : 0 ≤ n ∧ n ≤ 64) : Calls Tryz.prog 62 #[.int .i64 n] w fun e w' => ∃ p g : Nat, e = .returned (.tuple #[.pointer (some ⟨p, 0, none⟩), .int .i64 0]) ∧ PW w' p g [(0, n)] 0 ∧ w.heap.size ≤ p ∧ w.heap.size ≤ g ∧ Below w.heap.size w w' := by
 have h1 : ¬ (n < 0) := by omega
 have h2 : ¬ (64 < n) := by omega
 have hp : Hid (∀ w2, w2 = ((w.alloc (.cells #[.int .i64 0, .int .i64 n] 105)).alloc (.cells #[.slice (some ⟨w.heap.size, 0, none⟩) 1 1, .int .i64 0] 108)) → PW w2 (w.heap.size + 1) w.heap.size [(0, n)] 0) := by
  rintro w2 rfl
  have ho : (w.alloc (.cells #[.int .i64 0, .int .i64 n] 105)).ownsRow 0 105 2 (.slice (some ⟨w.heap.size, 0, none⟩) 1 1) 1 (aT [(0, n)]) := wX (vs := [.int .i64 0, .int .i64 n]) rfl (Nat.zero_le _) rfl (by decide)
  refine ⟨1, ?_, bY ho ((Below.refl _ _).alloc (Nat.le_refl _) _)⟩
  have := heap_alloc_new (w.alloc (.cells #[.int .i64 0, .int .i64 n] 105)) (.cells #[.slice (some ⟨w.heap.size, 0, none⟩) 1 1, .int .i64 0] 108)
  simpa using this
 have hb : Below w.heap.size w ((w.alloc (.cells #[.int .i64 0, .int .i64 n] 105)).alloc (.cells #[.slice (some ⟨w.heap.size, 0, none⟩) 1 1, .int .i64 0] 108)) := ((Below.refl _ _).alloc (Nat.le_refl _) _).alloc (by simp) _
 clear h
 go_enter Tryz.func62, Tryz.ntmps62
 go_wp2_with fail
 go_ret2
 exact ⟨w.heap.size + 1, rfl, w.heap.size, hp.out _ rfl, by omega, Nat.le_refl _, hb⟩
theorem Rb (n : Int) : Can [(0, n)] 0 (fun _ => n) :=
 ⟨⟨by simp, rfl, fun i hi => by simp at hi, fun i hi => by simp at hi; subst hi; simp [tA], fun i t hi _ _ => by simp at hi; subst hi; simp [tV]⟩, fun i hi => by simp at hi⟩
end
end Go.Proofs.YtelnhablglomjaaGreat

namespace Go.Proofs.YtelnhablglomjaaGreat
open Go.RowKit Go.Sort Go.Lib
def UL (now t e now' dv : Int) : Prop :=
 ((t < now ∨ 1099511627776 < t) ∧ e = 5 ∧ now' = now ∧ dv = 0) ∨ (¬ (t < now ∨ 1099511627776 < t) ∧ t = now ∧ e = 0 ∧ now' = now ∧ dv = 0) ∨ (¬ (t < now ∨ 1099511627776 < t) ∧ t ≠ now ∧ e = 0 ∧ now' = t ∧ dv = 1)
section
variable {w : World} {p g : Nat} {L : List (Int × Int)} {aK now : Int} {f : Int → Int}
theorem Rc {cap : Nat} (k : Nat) (ho : w.ownsRow 0 105 2 (.slice (some ⟨g, 0, none⟩) L.length cap) L.length (aT L)) (hl : L.length ≤ 1000) (hk : k ≤ L.length) :
 Calls Tryz.prog 158 #[.slice (some ⟨g, 0, none⟩) L.length cap, .int .i64 0, .int .i64 k] w fun e w' => e = .returned (.slice (some ⟨g, 0, none⟩) (L.length - k) cap) ∧ w'.ownsRow 0 105 2 (.slice (some ⟨g, 0, none⟩) (L.length - k) cap) (L.length - k) (aT (L.drop k)) ∧ Off g g w w' := by
 have h := zH 0 k ho hl (Nat.zero_le _) hk
 rw [List.take_zero, xD, List.length_drop] at h
 exact h
theorem Re (t : Int) (h : PW w p g L aK) (hi : 0 < L.length) : PW (w.setCell ⟨g, 0, none⟩ (.int .i64 t)) p g (L.set 0 (t, tV L 0)) aK := by
 obtain ⟨cap, F⟩ := h.facts
 refine ⟨cap, ?_, ?_⟩
 ·rw [List.length_set, Below.heap_setCell w ⟨g, 0, none⟩ _ p F.pg]
  exact F.obj
 ·have h1 := (F.own.stored 0 (.int .i64 t)).1
  rw [IB, List.length_set]
  have e : ((aT L).set 0 (.int .i64 t)).set 1 (.int .i64 (tV L 0)) = (aT L).set 0 (.int .i64 t) := by
   have hg := (BO (BP hi)).2
   obtain ⟨hlt, hv⟩ := List.getElem?_eq_some_iff.1 hg
   rw [List.set_comm _ _ (by decide)]
   have h2 : (aT L).set 1 (.int .i64 (tV L 0)) = aT L := by
    have hv' : (aT L)[1]'(by simpa using hlt) = .int .i64 (tV L 0) := by simpa using hv
    rw [← hv']
    exact List.set_getElem_self _
   rw [h2]
  show World.ownsRow _ 0 _ 2 _ _ (((aT L).set 0 (.int .i64 t)).set 1 (.int .i64 (tV L 0)))
  rw [e]
  exact h1
def IP (w : World) (g : Nat) (L : List (Int × Int)) (k cap : Nat) : List Value → World → Prop
 | [], W => Below w.heap.size w W
 | _ :: _, W => W.ownsRow 0 105 2 (.slice (some ⟨g, 0, none⟩) (L.length - k) cap) (L.length - k) (aT (L.drop k)) ∧ Off g g w W
theorem IP.ext {w : World} {g : Nat} {L : List (Int × Int)} {k cap : Nat} : ∀ (vs : List Value) (W W' : World), Reg2.Ext W W' → IP w g L k cap vs W → IP w g L k cap vs W' := by
 intro vs W W' he h
 cases vs with
 | nil => exact Below.trans h (he.mono (Below.size h))
 | cons v vs => exact ⟨bY h.1 he, h.2.eu he⟩
def pU (w : World) (p g : Nat) (L : List (Int × Int)) (aK now : Int) (f : Int → Int) (t : Int) (e : Ending) (w' : World) : Prop :=
 ∃ (r dv now' : Int) (L' : List (Int × Int)), e = .returned (.int .i64 r) ∧ UL now t r now' dv ∧ PW w' p g L' (aK + dv) ∧ Can L' now' f ∧ Off p g w w' ∧ L'.length ≤ L.length
theorem Xn (t : Int) (hC : Can L now f) (h : PW w p g L aK) (hbad : t < now ∨ 1099511627776 < t) :
 Calls Tryz.prog 138 #[.pointer (some ⟨p, 0, none⟩), .int .i64 t] w (pU w p g L aK now f t) := by
 have hno := eY h hC.sm.pos
 have hnw := pR h hC.sm.pos
 rw [hC.sm.hd] at hnw
 have hfin : Hid (pU w p g L aK now f t (.returned (.int .i64 5)) w) := ⟨5, 0, now, L, rfl, .inl ⟨hbad, rfl, rfl, rfl⟩, by rw [Int.add_zero]; exact h, hC, Off.refl _ _ _, Nat.le_refl _⟩
 by_cases h1 : t < now
 ·go_enter Tryz.func138, Tryz.ntmps138
  go_wp2_with (first | (go_at_call 51; go_must (refine hno.mono ?_); rintro e w' ⟨rfl, rfl⟩) | (go_at_call 95; go_must (refine hnw.mono ?_); rintro e w' ⟨rfl, rfl⟩))
  go_ret
  exact hfin.out
 ·have h2 : 1099511627776 < t := by omega
  clear hbad
  go_enter Tryz.func138, Tryz.ntmps138
  go_wp2_with (first | (go_at_call 51; go_must (refine hno.mono ?_); rintro e w' ⟨rfl, rfl⟩) | (go_at_call 95; go_must (refine hnw.mono ?_); rintro e w' ⟨rfl, rfl⟩))
  go_ret
  exact hfin.out
theorem Om (hC : Can L now f) (h : PW w p g L aK) (hm : now ≤ 1099511627776) :
 Calls Tryz.prog 138 #[.pointer (some ⟨p, 0, none⟩), .int .i64 now] w (pU w p g L aK now f now) := by
 have hno := eY h hC.sm.pos
 have hnw := pR h hC.sm.pos
 rw [hC.sm.hd] at hnw
 have hfin : Hid (pU w p g L aK now f now (.returned (.int .i64 0)) w) := ⟨0, 0, now, L, rfl, .inr (.inl ⟨by omega, rfl, rfl, rfl, rfl⟩), by rw [Int.add_zero]; exact h, hC, Off.refl _ _ _, Nat.le_refl _⟩
 have h1 : ¬ (now < now) := by omega
 have h2 : ¬ (1099511627776 < now) := by omega
 go_enter Tryz.func138, Tryz.ntmps138
 go_wp2_with (first | (go_at_call 51; go_must (refine hno.mono ?_); rintro e w' ⟨rfl, rfl⟩) | (go_at_call 95; go_must (refine hnw.mono ?_); rintro e w' ⟨rfl, rfl⟩))
 go_ret
 exact hfin.out
theorem Uh (t : Int) (hC : Can L now f) (h : PW w p g L aK) (xN : 0 ≤ aK ∧ aK ≤ 1000000) (hl : L.length ≤ 1000) (hlt : now < t) (hm : t ≤ 1099511627776) :
 Calls Tryz.prog 138 #[.pointer (some ⟨p, 0, none⟩), .int .i64 t] w (pU w p g L aK now f t) := by
 have nY := iW
 have hno := eY h hC.sm.pos
 have hnw := pR h hC.sm.pos
 rw [hC.sm.hd] at hnw
 obtain ⟨k, hk⟩ := hC.sm.ix t
 have hkl := hk.lt
 obtain ⟨cap, F⟩ := h.facts
 have c0 := F.c0
 have pl := F.pl
 have pg := F.pg
 have sV := F.own
 have IK := F.obj
 clear F
 have h1 : ¬ (t < now) := by omega
 have h2 : ¬ (1099511627776 < t) := by omega
 have h3 : (t == now) = false := beq_eq_false_iff_ne.2 (by omega)
 have hwv : IntKind.i64.wrap (aK + 1) = aK + 1 := IntWalk.i64_in _ (by omega)
 have ML : Hid (∀ L' : List (Int × Int), L' = (L.drop k).set 0 (t, tV (L.drop k) 0) → Can L' t f ∧ L'.length ≤ L.length ∧ 0 < L'.length) := by
  rintro L' rfl
  have hdl : (L.drop k).length = L.length - k := List.length_drop
  have hd0 : 0 < (L.drop k).length := by omega
  have gD : ∀ m, tA (L.drop k) m = tA L (m + k) ∧ tV (L.drop k) m = tV L (m + k) := fun m => by
   unfold tA tV
   rw [List.getD_eq_getElem?_getD, List.getD_eq_getElem?_getD, List.getElem?_drop, Nat.add_comm]
   exact ⟨rfl, rfl⟩
  refine ⟨hC.later hk (by omega) (by omega) (by rw [List.length_set]; exact hdl) ?_ (fun m hm0 => ?_) (fun m => ?_), by rw [List.length_set]; omega, by rw [List.length_set]; omega⟩
  ·unfold tA; rw [List.getD_eq_getElem?_getD, List.getElem?_set_self hd0]; rfl
  ·rw [← (gD m).1]
   unfold tA; rw [List.getD_eq_getElem?_getD, List.getD_eq_getElem?_getD, List.getElem?_set, if_neg (by omega)]
  ·rw [MJ hd0, ← (gD m).2]
   split
   ·rename_i e; subst e; rfl
   ·rfl
 replace hk := Lib.hid hk
 go_enter Tryz.func138, Tryz.ntmps138
 go_wp2_with (first | (go_at_call 51; go_must (refine hno.mono ?_); rintro e w' ⟨rfl, rfl⟩) | (go_at_call 95; go_must (refine hnw.mono ?_); rintro e w' ⟨rfl, rfl⟩))
 refine Reg2.rM 9 44 [[],[ae],[ae,af],[ae,af,af],[ae,af,af,af],[ae,ae,ae,ae,ae],[ae,ae,ae,ae,ae,ae],[ae,ae,ae,ae,ae,af,af],[ae,af,af,af,af,af,af,af]] [0, 0, 0, 0, 1, 0, 0, 2, 3]
  [.pure, .pure, .pure, .pure, .mU (.slice (some ⟨g, 0, none⟩) L.length cap), .pure, .pure, .pinned Unit () (fun _ => .int .i64 k) (fun _ _ => True), .major Unit () (fun _ => .slice (some ⟨g, 0, none⟩) (L.length - k) cap)]
  (fun W => Off g g w W) (IP w g L k cap) (fun W W' => Off g g W W') (by kernel_rfl) (by kernel_rfl) rfl rfl IP.ext ?_ ?_ ?_ ?_ ?_ ?_
 ·intro a b he hb; exact hb.eu he
 ·intro a b hg hb; exact hb.trans hg (.inl rfl)
 ·refine ⟨trivial, trivial, trivial, trivial, ⟨?_, ?_⟩, trivial, trivial, ⟨?_, ?_⟩, trivial, trivial⟩
  all_goals (intro x a b hk hx; exact trivial)
 ·exact (Off.refl _ _ _).drew
 ·exact (Below.refl _ _).drew
 dsimp only [Reg2.mk, List.zip, List.zipWith, List.take]
 repeat (refine' Reg2.ak _ (by rfl) (fun wz => ?_) ?_; rotate_left; (go_simp; first | rfl | rw [if_neg (by omega)]); simp only [Act.put, xA, xB, xC]; (try simp only [xD]); (try simp only [xE]))
 refine Reg2.pm (fun wz hI hF => ?_) (fun x4 => ?_) (by rfl)
 ·have d0 : wz.cell? ⟨p, 0, none⟩ = _ := (hI.cell (a := ⟨p, 0, none⟩) pl pg pg).trans c0
  go_wp2_with fail
  exact ⟨_, rfl, ⟨(), rfl, trivial⟩, Reg2.Ext.refl _⟩
 simp only [Act.put, xA, xB, xC, xD, xE, id]
 repeat (refine' Reg2.ak _ (by rfl) (fun wz => ?_) ?_; rotate_left; (go_simp; first | rfl | rw [if_neg (by omega)]); simp only [Act.put, xA, xB, xC]; (try simp only [xD]); (try simp only [xE]))
 refine Reg2.pp (fun wz hI hS hF => ?_) (fun x7 => ?_) (by rfl)
 ·have hS1 : Below w.heap.size w wz := hS
  go_wp2_with (go_at_call 118; go_must (refine (yG t hk.out hC.sm hl (h.kept hS1)).mono ?_); rintro e w1 ⟨rfl, BS⟩)
  exact ⟨_, rfl, ⟨(), rfl, trivial⟩, BS⟩
 simp only [Act.put, xA, xB, xC, xD, xE, id]
 refine Reg2.pj (fun wz hI hS hF => ?_) (fun x8 => ?_) (by rfl)
 ·have hS1 : Below w.heap.size w wz := hS
  go_wp2_with (go_at_call 158; go_must (refine (Rc k (bY sV hS1) hl (Nat.le_of_lt hkl)).mono ?_); rintro e w5 ⟨rfl, VH, Q6⟩)
  exact ⟨_, rfl, ⟨⟨(), rfl⟩, VH, (Off.of_below hS1).trans Q6 (.inl rfl)⟩, Q6⟩
 simp only [Act.put, xA, xB, xC, xD, xE, id]
 refine Reg2.aA ?_
 intro w3 HI3 KE _
 obtain ⟨ho3, sj⟩ := KE
 have hp3 := IK
 rw [← sj.block p pl pg pg] at hp3
 have d0 : w3.cell? ⟨p, 0, none⟩ = _ := (sj.cell (a := ⟨p, 0, none⟩) pl pg pg).trans c0
 have dz : w3.frozen? ⟨p, 0, none⟩ = false := by simp [World.frozen?, hp3]
 obtain ⟨w4, hw4⟩ : ∃ w4, w4 = w3.setCell ⟨p, 0, none⟩ (.slice (some ⟨g, 0, none⟩) (L.length - k) cap) := ⟨_, rfl⟩
 have VM : PW w4 p g (L.drop k) aK := by
  rw [hw4]
  have := F9 (L' := L.drop k) hp3 (cap' := cap) (g' := g) (by rw [List.length_drop]; exact ho3)
  rw [List.length_drop] at this
  exact this
 have si : Off p g w w4 := by rw [hw4]; exact sj.mono.setCell (.inl rfl)
 have hd0 : 0 < (L.drop k).length := by rw [List.length_drop]; omega
 have Ui := Re t VM hd0
 have qF := si.setCell (j := 0) (v := .int .i64 t) (.inr (.inl rfl))
 obtain ⟨cap4, F4⟩ := VM.facts
 have k0 := F4.c0
 have s0 := (step_cells F4.own hd0).1
 have z0 := F4.own.frozenAt 0
 rw [Nat.zero_mul] at s0
 obtain ⟨w5, wJ⟩ : ∃ w5, w5 = w4.setCell ⟨g, 0, none⟩ (.int .i64 t) := ⟨_, rfl⟩
 rw [← wJ] at Ui qF
 obtain ⟨cap5, F5⟩ := Ui.facts
 have k1 := F5.c1
 have z1 := F5.fz 1
 have Xo := MM (aK + 1) Ui
 have Rf := qF.setCell (j := 1) (v := .int .i64 (aK + 1)) (.inl rfl)
 obtain ⟨hc1, hc2, hc3⟩ := ML.out _ rfl
 have hfin : Hid (pU w p g L aK now f t (.returned (.int .i64 0)) (w5.setCell ⟨p, 1, none⟩ (.int .i64 (aK + 1)))) := ⟨0, 1, t, _, rfl, .inr (.inr ⟨by omega, by omega, rfl, rfl, rfl⟩), Xo, hc1, Rf, hc2⟩
 have hdp : (0 : Int) < ((L.drop k).length : Int) := by omega
 obtain ⟨nn, hnn⟩ : ∃ nn, nn = (L.drop k).length := ⟨_, rfl⟩
 obtain ⟨xx, Oo⟩ : ∃ xx, xx = tA (L.drop k) 0 := ⟨_, rfl⟩
 rw [← hnn] at k0 hdp
 rw [← Oo] at s0
 clear HI3 ho3 sj hp3 c0 sV IK VM si Ui qF F4 F5 Xo Rf hc1 hc2 hc3 ML h hnw hno
 replace hnn := Lib.hid hnn
 replace Oo := Lib.hid Oo
 dsimp only [List.drop]
 show wpList _ _ _ [_, _, _] _ _
 subst hw4
 subst wJ
 go_wp2_with fail
 go_ret
 exact hfin.out
end
end Go.Proofs.YtelnhablglomjaaGreat

namespace Go.Proofs.YtelnhablglomjaaGreat
open Go.RowKit Go.Lib Go.Sort
structure Pg where
 now : Int
 J : List Jb
 T : List Int
 f : Int → Int
 cl : Bool
def dC (c t d p : Nat) (v : Value) (g : Nat) (k : Nat) : Prop := k = c ∨ k = t ∨ k = d ∨ k = p ∨ v.ownBlock = some k ∨ k = g
def PR (w : World) (p g : Nat) (a : Nat) (m : Int) (now : Int) (f : Int → Int) : Prop :=
 ∃ S aK, PW w p g S aK ∧ Can S now f ∧ S.length ≤ a ∧ 0 ≤ aK ∧ aK ≤ m
structure CW (w : World) (c t d p : Nat) (v : Value) (g : Nat) (a : Nat) (m : Int) (P : Pg) : Prop where
 cell : w.heap[c]? = some (.cells #[.pointer (some ⟨t, 0, none⟩), .pointer (some ⟨d, 0, none⟩), .pointer (some ⟨p, 0, none⟩), .bool true, .bool P.cl] 65 (0, 0))
 eU : TV w t v P.J
 nodes : TW w d P.T
 lL : PR w p g a m P.now P.f
structure CS (w w' : World) (c t d p : Nat) (v : Value) (g : Nat) (v' : Value) (g' : Nat) : Prop where
 off : bu (dC c t d p v g) w w'
 grew : jP w (dC c t d p v g) (dC c t d p v' g')
section
variable {w w' w1 w2 : World} {c t d p g g' g1 g2 a a' : Nat} {v v' v1 v2 : Value} {m m' : Int} {P : Pg}
theorem CS.refl (w : World) : CS w w c t d p v g v g := ⟨bu.refl _ _, jP.refl _ _⟩
theorem CS.of_below (h : Below w.heap.size w w1) : CS w w1 c t d p v g v g := ⟨bu.of_below h, jP.refl _ _⟩
theorem CS.trans (h : CS w w1 c t d p v g v1 g1) (h' : CS w1 w2 c t d p v1 g1 v2 g2) : CS w w2 c t d p v g v2 g2 :=
 ⟨h.off.trans h'.off h.grew, h.grew.trans h'.grew h.off.size⟩
theorem CS.heap (h : CS w w1 c t d p v g v1 g1) {k : Nat} (hk : k < w.heap.size) (hn : ¬ dC c t d p v g k) : w1.heap[k]? = w.heap[k]? := h.off.block k hk hn
theorem CS.below {B : Nat} (h : CS w w1 c t d p v g v1 g1) (hS : ∀ k, dC c t d p v g k → B ≤ k) (hB : B ≤ w.heap.size) : Below B w w1 := h.off.below hS hB
theorem CS.lo {B : Nat} (h : CS w w1 c t d p v g v1 g1) (hS : ∀ k, dC c t d p v g k → B ≤ k) (hB : B ≤ w.heap.size) : ∀ k, dC c t d p v1 g1 k → B ≤ k := fun k hk => (h.grew k hk).elim (hS k) (fun hle => Nat.le_trans hB hle)
theorem PW.at {S : List (Int × Int)} {aK : Int} (h : PW w p g S aK) : ∃ cs, w.heap[p]? = some (.cells cs 108 (0, 0)) := by obtain ⟨cap, h1, _⟩ := h; exact ⟨_, h1⟩
theorem PW.Xp {S : List (Int × Int)} {aK : Int} (h : PW w p g S aK) : ∃ cs, w.heap[g]? = some (.cells cs 105 (0, 0)) := by
 obtain ⟨cap, _, h2⟩ := h
 exact qz h2 rfl
theorem CW.types (h : CW w c t d p v g a m P) {k : Nat} (hk : dC c t d p v g k) : ∃ cs T, w.heap[k]? = some (.cells cs T (0, 0)) ∧
 ((k = c ∧ T = 65) ∨ (k = t ∧ T = 103) ∨ (k = d ∧ T = 126) ∨ (k = p ∧ T = 108) ∨ (v.ownBlock = some k ∧ T = 92) ∨ (k = g ∧ T = 105)) := by
 obtain ⟨S, aK, hp, _⟩ := h.lL
 rcases hk with rfl | rfl | rfl | rfl | hv | rfl
 ·exact ⟨_, _, h.cell, .inl ⟨rfl, rfl⟩⟩
 ·exact ⟨_, _, h.eU.cell, .inr (.inl ⟨rfl, rfl⟩)⟩
 ·exact ⟨_, _, h.nodes, .inr (.inr (.inl ⟨rfl, rfl⟩))⟩
 ·obtain ⟨cs, h1⟩ := hp.at; exact ⟨_, _, h1, .inr (.inr (.inr (.inl ⟨rfl, rfl⟩)))⟩
 ·obtain ⟨cs, h1⟩ := qz h.eU.own hv; exact ⟨_, _, h1, .inr (.inr (.inr (.inr (.inl ⟨hv, rfl⟩))))⟩
 ·obtain ⟨cs, h1⟩ := hp.Xp; exact ⟨_, _, h1, .inr (.inr (.inr (.inr (.inr ⟨rfl, rfl⟩))))⟩
theorem CW.lt (h : CW w c t d p v g a m P) {k : Nat} (hk : dC c t d p v g k) : k < w.heap.size := by
 obtain ⟨cs, T, h1, _⟩ := h.types hk
 exact aD h1
theorem CW.other (h : CW w c t d p v g a m P) {k : Nat} {cs : Array Value} {T : TypeId} {fz : Nat × Nat} (hk : w.heap[k]? = some (.cells cs T fz)) (hT : T ≠ 65 ∧ T ≠ 103 ∧ T ≠ 126 ∧ T ≠ 108 ∧ T ≠ 92 ∧ T ≠ 105) : ¬ dC c t d p v g k := by
 intro hf
 obtain ⟨cs', T', h1, h2⟩ := h.types hf
 rw [hk] at h1
 have e := (Obj.cells.inj (Option.some.inj h1)).2.1
 subst e
 obtain ⟨a1, a2, a3, a4, a5, a6⟩ := hT
 rcases h2 with ⟨_, e⟩ | ⟨_, e⟩ | ⟨_, e⟩ | ⟨_, e⟩ | ⟨_, e⟩ | ⟨_, e⟩
 ·exact a1 e
 ·exact a2 e
 ·exact a3 e
 ·exact a4 e
 ·exact a5 e
 ·exact a6 e
theorem CW.kept (h : CW w c t d p v g a m P) (hb : Below w.heap.size w w') : CW w' c t d p v g a m P := by
 obtain ⟨S, aK, hp, hrest⟩ := h.lL
 exact ⟨(hb.block c (h.lt (.inl rfl))).trans h.cell, h.eU.kept hb, h.nodes.kept hb, S, aK, hp.kept hb, hrest⟩
theorem CW.wider (h : CW w c t d p v g a m P) (ha : a ≤ a') (hm : m ≤ m') : CW w c t d p v g a' m' P := by
 obtain ⟨S, aK, hp, h1, h2, h3, h4⟩ := h.lL
 exact ⟨h.cell, h.eU, h.nodes, S, aK, hp, h1, by omega, h3, by omega⟩
theorem CW.ne (h : CW w c t d p v g a m P) : c ≠ t ∧ c ≠ d ∧ c ≠ p ∧ c ≠ g ∧ t ≠ d ∧ t ≠ p ∧ t ≠ g ∧ d ≠ p ∧ d ≠ g ∧ p ≠ g ∧ v.ownBlock ≠ some c ∧ v.ownBlock ≠ some t ∧ v.ownBlock ≠ some d ∧ v.ownBlock ≠ some p ∧ v.ownBlock ≠ some g := by
 obtain ⟨S, aK, hp, _⟩ := h.lL
 obtain ⟨c1, hp1⟩ := hp.at
 obtain ⟨c2, hp2⟩ := hp.Xp
 have hv : ∀ k, v.ownBlock = some k → ∃ cur, w.heap[k]? = some (.cells cur 92 (0, 0)) := fun k hk => qz h.eU.own hk
 have hc := h.cell
 have hj := h.eU.cell
 have hn : w.heap[d]? = _ := h.nodes
 refine ⟨Put.aI hc hj (by decide), Put.aI hc hn (by decide), Put.aI hc hp1 (by decide), Put.aI hc hp2 (by decide), Put.aI hj hn (by decide), Put.aI hj hp1 (by decide), Put.aI hj hp2 (by decide), Put.aI hn hp1 (by decide), Put.aI hn hp2 (by decide), Put.aI hp1 hp2 (by decide), ?_, ?_, ?_, ?_, ?_⟩ <;> (intro e; obtain ⟨cur, hc1⟩ := hv _ e)
 ·exact Put.aI hc1 hc (by decide) rfl
 ·exact Put.aI hc1 hj (by decide) rfl
 ·exact Put.aI hc1 hn (by decide) rfl
 ·exact Put.aI hc1 hp1 (by decide) rfl
 ·exact Put.aI hc1 hp2 (by decide) rfl
theorem CW.aC (h : CW w c t d p v g a m P) {J' : List Jb} (ht : TV w' t v' J') (hq : dL t v.ownBlock w w') (hn : dV w v.ownBlock v'.ownBlock) : CW w' c t d p v' g a m { P with J := J' } ∧ CS w w' c t d p v g v' g := by
 obtain ⟨S, aK, hp, hrest⟩ := h.lL
 obtain ⟨n1, n2, n3, n4, n5, n6, n7, n8, n9, n10, n11, n12, n13, n14, n15⟩ := h.ne
 have lt := fun {k : Nat} (hk : dC c t d p v g k) => h.lt hk
 obtain ⟨cap, hp1, hp2⟩ := hp
 refine ⟨⟨(hq.block c (lt (.inl rfl)) n1 n11).trans h.cell, ht, ?_, S, aK, ⟨cap, (hq.block p (lt (.inr (.inr (.inr (.inl rfl))))) (Ne.symm n6) n14).trans hp1, bA hp2 fun k hk => ?_⟩, hrest⟩, ⟨hq.os, hq.tape, hq.output, hq.size, fun k hk hf => hq.block k hk (fun e => hf (.inr (.inl e))) (fun e => hf (.inr (.inr (.inr (.inr (.inl e))))))⟩, fun k hk => ?_⟩
 ·exact (hq.block d (lt (.inr (.inr (.inl rfl)))) (Ne.symm n5) n13).trans h.nodes
 ·have e : k = g := by simpa [Value.ownBlock] using hk.symm
  subst e
  exact hq.block k (lt (.inr (.inr (.inr (.inr (.inr rfl)))))) (Ne.symm n7) n15
 ·rcases hk with e | e | e | e | e | e
  ·exact .inl (.inl e)
  ·exact .inl (.inr (.inl e))
  ·exact .inl (.inr (.inr (.inl e)))
  ·exact .inl (.inr (.inr (.inr (.inl e))))
  ·rcases hn with hn | ⟨q, hq1, hq2⟩
   ·exact .inl (.inr (.inr (.inr (.inr (.inl (hn ▸ e))))))
   ·rw [hq1] at e; cases e; exact .inr hq2
  ·exact .inl (.inr (.inr (.inr (.inr (.inr e)))))
theorem CW.node (h : CW w c t d p v g a m P) {T' : List Int} (ht : TW w' d T') (ho : jZ d w w') : CW w' c t d p v g a m { P with T := T' } ∧ CS w w' c t d p v g v g := by
 obtain ⟨S, aK, hp, hrest⟩ := h.lL
 obtain ⟨n1, n2, n3, n4, n5, n6, n7, n8, n9, n10, n11, n12, n13, n14, n15⟩ := h.ne
 obtain ⟨cap, hp1, hp2⟩ := hp
 refine ⟨⟨(ho.block c n2).trans h.cell, ⟨(ho.block t n5).trans h.eU.cell, bA h.eU.own fun k hk => ho.block k (fun e => n13 (e ▸ hk))⟩, ht, S, aK, ⟨cap, (ho.block p (Ne.symm n8)).trans hp1, bA hp2 fun k hk => ?_⟩, hrest⟩, ⟨ho.os, ho.tape, ho.output, Nat.le_of_eq ho.size.symm, fun k _ hf => ho.block k (fun e => hf (.inr (.inr (.inl e))))⟩, jP.refl _ _⟩
 have e : k = g := by simpa [Value.ownBlock] using hk.symm
 subst e
 exact ho.block k (Ne.symm n9)
theorem CW.profile (h : CW w c t d p v g a m P) {now' : Int} {f' : Int → Int} (hp' : PR w' p g' a' m' now' f') (ho : Off p g w w') (hg : g' = g ∨ w.heap.size ≤ g') : CW w' c t d p v g' a' m' { P with now := now', f := f' } ∧ CS w w' c t d p v g v g' := by
 obtain ⟨n1, n2, n3, n4, n5, n6, n7, n8, n9, n10, n11, n12, n13, n14, n15⟩ := h.ne
 have lt := fun {k : Nat} (hk : dC c t d p v g k) => h.lt hk
 refine ⟨⟨(ho.block c (lt (.inl rfl)) n3 n4).trans h.cell, ⟨(ho.block t (lt (.inr (.inl rfl))) n6 n7).trans h.eU.cell, bA h.eU.own fun k hk => ho.block k (lt (.inr (.inr (.inr (.inr (.inl hk)))))) (fun e => n14 (e ▸ hk)) (fun e => n15 (e ▸ hk))⟩, (ho.block d (lt (.inr (.inr (.inl rfl)))) n8 n9).trans h.nodes, hp'⟩, ⟨ho.os, ho.tape, ho.output, ho.size, fun k hk hf => ho.block k hk (fun e => hf (.inr (.inr (.inr (.inl e))))) (fun e => hf (.inr (.inr (.inr (.inr (.inr e))))))⟩, fun k hk => ?_⟩
 rcases hk with e | e | e | e | e | e
 ·exact .inl (.inl e)
 ·exact .inl (.inr (.inl e))
 ·exact .inl (.inr (.inr (.inl e)))
 ·exact .inl (.inr (.inr (.inr (.inl e))))
 ·exact .inl (.inr (.inr (.inr (.inr (.inl e)))))
 ·rcases hg with hg | hg
  ·exact .inl (.inr (.inr (.inr (.inr (.inr (e.trans hg))))))
  ·exact .inr (e ▸ hg)
theorem CW.close (h : CW w c t d p v g a m P) : CW (w.setCell ⟨c, 4, none⟩ (.bool true)) c t d p v g a m { P with cl := true } ∧ CS w (w.setCell ⟨c, 4, none⟩ (.bool true)) c t d p v g v g := by
 obtain ⟨S, aK, hp, hrest⟩ := h.lL
 obtain ⟨n1, n2, n3, n4, n5, n6, n7, n8, n9, n10, n11, n12, n13, n14, n15⟩ := h.ne
 obtain ⟨cap, hp1, hp2⟩ := hp
 have blk : ∀ k, k ≠ c → (w.setCell ⟨c, 4, none⟩ (.bool true)).heap[k]? = w.heap[k]? := fun k hk => Below.heap_setCell w ⟨c, 4, none⟩ _ k hk
 refine ⟨⟨?_, ⟨(blk t (Ne.symm n1)).trans h.eU.cell, bA h.eU.own fun k hk => blk k (fun e => n11 (e ▸ hk))⟩, (blk d (Ne.symm n2)).trans h.nodes, S, aK, ⟨cap, (blk p (Ne.symm n3)).trans hp1, bA hp2 fun k hk => ?_⟩, hrest⟩, ⟨rfl, rfl, rfl, by simp, fun k _ hf => blk k (fun e => hf (.inl e))⟩, jP.refl _ _⟩
 ·have hlt := h.lt (.inl rfl)
  have hc := h.cell
  have h1 : w.heap[c] = _ := (Array.getElem?_eq_some_iff.1 hc).2
  simp [World.setCell, hlt, Array.getElem_modify, h1]
 ·have e : k = g := by simpa [Value.ownBlock] using hk.symm
  subst e
  exact blk k (Ne.symm n4)
theorem CW.c0 (h : CW w c t d p v g a m P) : w.cell? ⟨c, 0, none⟩ = some (.pointer (some ⟨t, 0, none⟩)) := by simp [World.cell?, h.cell]
theorem CW.c1 (h : CW w c t d p v g a m P) : w.cell? ⟨c, 1, none⟩ = some (.pointer (some ⟨d, 0, none⟩)) := by simp [World.cell?, h.cell]
theorem CW.c2 (h : CW w c t d p v g a m P) : w.cell? ⟨c, 2, none⟩ = some (.pointer (some ⟨p, 0, none⟩)) := by simp [World.cell?, h.cell]
theorem CW.c3 (h : CW w c t d p v g a m P) : w.cell? ⟨c, 3, none⟩ = some (.bool true) := by simp [World.cell?, h.cell]
theorem CW.c4 (h : CW w c t d p v g a m P) : w.cell? ⟨c, 4, none⟩ = some (.bool P.cl) := by simp [World.cell?, h.cell]
theorem CW.fz (h : CW w c t d p v g a m P) (j : Nat) : w.frozen? ⟨c, j, none⟩ = false := by simp [World.frozen?, h.cell]
end
end Go.Proofs.YtelnhablglomjaaGreat

namespace Go.Proofs.YtelnhablglomjaaGreat
open Go.RowKit Go.Lib Go.Sort
section
variable {w w' w1 w2 : World} {c t d p g a : Nat} {v : Value} {m : Int} {P : Pg}
structure PK (P : Pg) : Prop where
 now : 0 ≤ P.now ∧ P.now ≤ 1099511627776
 few : P.J.length ≤ 900
 st : ∀ j ∈ P.J, 1 ≤ j.st ∧ j.st ≤ 6
 lim : ∀ j ∈ P.J, 1 ≤ j.lim ∧ j.lim ≤ 1048576
 rz : iC P.T
 f : ∀ t, P.now ≤ t → 0 ≤ P.f t ∧ P.f t ≤ 64
def fw (w : World) (c t d p : Nat) (v : Value) (g a : Nat) (m : Int) (r : Value) (P' : Pg) (e : Ending) (w' : World) : Prop :=
 e = .returned r ∧ ∃ v' g', CW w' c t d p v' g' a m P' ∧ CS w w' c t d p v g v' g'
theorem yM (h : CW w c t d p v g a m P) {x y n : Int} {e : Ending} {S : List (Int × Int)} {aK : Int} (hl : S.length ≤ a) (hv0 : 0 ≤ aK) (hv : aK ≤ m) (hp : bZ w p g S aK P.now P.f x y n e w') (F : Int → Int)
 (hxy : x < y) (hy : y ≤ 1152921504606846976) (hn : -64 ≤ n ∧ n ≤ 64) (hF : ∀ t, P.now ≤ t → F t = P.f t + had (max x P.now) y n t) (hr : ∀ t, P.now ≤ t → 0 ≤ F t ∧ F t ≤ 64) :
 fw w c t d p v g (a + 2) (m + 1) (.int .i64 0) { P with f := F } e w' := by
 obtain ⟨r, dv, f', g', L', rfl, hA, hP, hC, hg, ho, hlen⟩ := hp
 have key : r = 0 ∧ (∀ t, P.now ≤ t → f' t = F t) ∧ 0 ≤ dv ∧ dv ≤ 1 := by
  rcases hA with ⟨h1, _⟩ | ⟨_, h2, rfl, rfl, rfl⟩ | ⟨_, _, ⟨u, h3, h4, h5⟩, _⟩ | ⟨_, _, _, rfl, rfl, rfl⟩
  ·omega
  ·refine ⟨rfl, fun t ht => ?_, by omega, by omega⟩
   rw [hF t ht]
   have e0 : had (max x P.now) y n t = 0 := by
    rcases h2 with h2 | h2
    ·unfold had
     rw [if_neg]
     rintro ⟨h3, h4⟩
     have hy0 : y ≤ P.now := by omega
     rcases h4 with h4 | h4
     ·omega
     ·have := hC.sm.top 0 hC.sm.pos
      rw [hC.sm.hd] at this
      omega
    ·unfold had; rw [h2]; split <;> rfl
   omega
  ·exfalso
   have h6 := hF u (by omega)
   have h7 : had (max x P.now) y n u = n := by unfold had; rw [if_pos ⟨h3, .inl h4⟩]
   have h8 := hr u (by omega)
   omega
  ·exact ⟨rfl, fun t ht => (hF t ht).symm, by omega, by omega⟩
 obtain ⟨rfl, hf, d1, d2⟩ := key
 obtain ⟨hC2, hS⟩ := h.profile (now' := P.now) (f' := F) (a' := a + 2) (m' := m + 1) ⟨L', aK + dv, hP, hC.congr hf, by omega, by omega, by omega⟩ ho hg
 exact ⟨rfl, v, g', hC2, hS⟩
theorem uD (h : CW w c t d p v g a m P) (hk : PK P) (ha : a ≤ 800) (hm : m ≤ 1000000) (x y n : Int) (F : Int → Int) (hxy : x < y) (hy : y ≤ 1152921504606846976) (hn : 0 ≤ n ∧ n ≤ 64)
 (hF : ∀ t, P.now ≤ t → F t = P.f t + had (max x P.now) y n t) (hr : ∀ t, P.now ≤ t → 0 ≤ F t ∧ F t ≤ 64) :
 Calls Tryz.prog 114 #[.pointer (some ⟨p, 0, none⟩), .agg #[.int .i64 x, .int .i64 y, .int .i64 n]] w (fw w c t d p v g (a + 2) (m + 1) (.int .i64 0) { P with f := F }) := by
 obtain ⟨S, aK, hp, hC, hl, h0, h1⟩ := h.lL
 exact (Gd x y n hn hC hk.now.1 hk.f ⟨h0, by omega⟩ (by omega) hp).mono fun e w2 hq => yM h hl h0 h1 hq F hxy hy (by omega) hF hr
theorem IQ (h : CW w c t d p v g a m P) (hk : PK P) (ha : a ≤ 800) (hm : m ≤ 1000000) (x y n : Int) (F : Int → Int) (hxy : x < y) (hy : y ≤ 1152921504606846976) (hn : 0 ≤ n ∧ n ≤ 64)
 (hF : ∀ t, P.now ≤ t → F t = P.f t + had (max x P.now) y (-n) t) (hr : ∀ t, P.now ≤ t → 0 ≤ F t ∧ F t ≤ 64) :
 Calls Tryz.prog 144 #[.pointer (some ⟨p, 0, none⟩), .agg #[.int .i64 x, .int .i64 y, .int .i64 n]] w (fw w c t d p v g (a + 2) (m + 1) (.int .i64 0) { P with f := F }) := by
 obtain ⟨S, aK, hp, hC, hl, h0, h1⟩ := h.lL
 exact (Gc x y n hn hC hk.now.1 hk.f ⟨h0, by omega⟩ (by omega) hp).mono fun e w2 hq => yM h hl h0 h1 hq F hxy hy (by omega) hF hr
theorem MN (h : CW w c t d p v g a m P) (hk : PK P) (ha : a ≤ 800) (hm : m ≤ 1000000) (x y n : Int) (F : Int → Int) (hxy : x < y) (hy : y ≤ 1152921504606846976) (hn : -64 ≤ n ∧ n ≤ 64)
 (hF : ∀ t, P.now ≤ t → F t = P.f t + had (max x P.now) y n t) (hr : ∀ t, P.now ≤ t → 0 ≤ F t ∧ F t ≤ 64) :
 Calls Tryz.prog 130 #[.pointer (some ⟨p, 0, none⟩), .int .i64 x, .int .i64 y, .int .i64 n] w (fw w c t d p v g (a + 2) (m + 1) (.int .i64 0) { P with f := F }) := by
 obtain ⟨S, aK, hp, hC, hl, h0, h1⟩ := h.lL
 exact (zI x y n hC hk.now.1 hk.f ⟨h0, by omega⟩ (by omega) hp).mono fun e w2 hq => yM h hl h0 h1 hq F hxy hy hn hF hr
theorem zL (h : CW w c t d p v g a m P) (hk : PK P) (ha : a ≤ 800) (hm : m ≤ 1000000) (x : Int) (h1 : P.now ≤ x) (h2 : x ≤ 1099511627776) :
 Calls Tryz.prog 138 #[.pointer (some ⟨p, 0, none⟩), .int .i64 x] w (fw w c t d p v g a (m + 1) (.int .i64 0) { P with now := x }) := by
 obtain ⟨S, aK, hp, hC, hl, v0, v1⟩ := h.lL
 have fin : ∀ {e : Ending} {w2 : World}, pU w p g S aK P.now P.f x e w2 → fw w c t d p v g a (m + 1) (.int .i64 0) { P with now := x } e w2 := by
  rintro e w2 ⟨r, dv, now', L', rfl, hA, hP, hC2, ho, hlen⟩
  have key : r = 0 ∧ now' = x ∧ 0 ≤ dv ∧ dv ≤ 1 := by unfold UL at hA; omega
  obtain ⟨rfl, rfl, d1, d2⟩ := key
  obtain ⟨a1, a2⟩ := h.profile (now' := now') (f' := P.f) (g' := g) (a' := a) (m' := m + 1) ⟨L', aK + dv, hP, hC2, by omega, by omega, by omega⟩ ho (.inl rfl)
  exact ⟨rfl, v, g, a1, a2⟩
 rcases Int.lt_or_eq_of_le h1 with h3 | h3
 ·exact (Uh x hC hp ⟨v0, by omega⟩ (by omega) h3 h2).mono fun e w2 hq => fin hq
 ·subst h3
  exact (Om hC hp h2).mono fun e w2 hq => fin hq
theorem gK (h : CW w c t d p v g a m P) : Calls Tryz.prog 95 #[.pointer (some ⟨p, 0, none⟩)] w fun e w' => e = .returned (.int .i64 P.now) ∧ w = w' := by
 obtain ⟨S, aK, hp, hC, _⟩ := h.lL
 have := pR hp hC.sm.pos
 rw [hC.sm.hd] at this
 exact this
theorem pV (h : CW w c t d p v g a m P) {e0 id : Int} {ok : Jb → Bool} {ch : Jb → Jb} {e : Ending} (hp : lG w t v P.J e0 id ok ch e w') : fw w c t d p v g a m (.int .i64 (bN P.J e0 id ok)) { P with J := cz P.J e0 id ok ch } e w' := by
 obtain ⟨rfl, h1, h2⟩ := hp
 obtain ⟨a1, a2⟩ := h.aC h1 h2 (.inl rfl)
 exact ⟨rfl, v, g, a1, a2⟩
theorem Ei (h : CW w c t d p v g a m P) (id : Int) : Calls Tryz.prog 102 #[.pointer (some ⟨t, 0, none⟩), .int .i64 id] w (fw w c t d p v g a m (.int .i64 (bN P.J 0 id fun j : Jb => decide (j.state = 1))) { P with J := cz P.J 0 id (fun j : Jb => decide (j.state = 1)) qA }) :=
 (QI h.eU id).mono fun _ _ hp => pV h hp
theorem Ej (h : CW w c t d p v g a m P) (id : Int) : Calls Tryz.prog 104 #[.pointer (some ⟨t, 0, none⟩), .int .i64 id] w (fw w c t d p v g a m (.int .i64 (bN P.J 0 id fun j : Jb => decide (j.state = 2))) { P with J := cz P.J 0 id (fun j : Jb => decide (j.state = 2)) pJ }) :=
 (Ie h.eU id).mono fun _ _ hp => pV h hp
theorem El (h : CW w c t d p v g a m P) (id x : Int) : Calls Tryz.prog 149 #[.pointer (some ⟨t, 0, none⟩), .int .i64 id, .int .i64 x] w (fw w c t d p v g a m (.int .i64 (bN P.J (gZ x) id fun j : Jb => decide (j.state = 1))) { P with J := cz P.J (gZ x) id (fun j : Jb => decide (j.state = 1)) (lq x) }) :=
 (QJ h.eU id x).mono fun _ _ hp => pV h hp
theorem K9 (h : CW w c t d p v g a m P) (hk : PK P) (id x n : Int) : Calls Tryz.prog 168 #[.pointer (some ⟨t, 0, none⟩), .int .i64 id, .int .i64 x, .int .u64 n] w (fw w c t d p v g a m (.int .i64 (bN P.J (gF x) id fun j : Jb => decide (j.state = 1))) { P with J := cz P.J (gF x) id (fun j : Jb => decide (j.state = 1)) (mg x n) }) :=
 (NL h.eU id x n hk.lim).mono fun _ _ hp => pV h hp
theorem uE (h : CW w c t d p v g a m P) (hk : PK P) (id s x : Int) : Calls Tryz.prog 100 #[.pointer (some ⟨t, 0, none⟩), .int .i64 id, .int .i64 s, .int .i64 x] w (fw w c t d p v g a m (.int .i64 (bN P.J (bB s x) id (fe s))) { P with J := cz P.J (bB s x) id (fe s) (bR s x) }) :=
 (KG h.eU id s x hk.st).mono fun _ _ hp => pV h hp
theorem qo (h : CW w c t d p v g a m P) (hk : PK P) (r : Rq) : Calls Tryz.prog 98 #[.pointer (some ⟨t, 0, none⟩), .agg (encR r).toArray] w (fw w c t d p v g a m (.tuple #[.int .i64 (mf P.J r), .int .i64 (je P.J r)]) { P with J := ql P.J r }) :=
 (KA h.eU hk.st hk.few r).mono fun _ _ hp => by
  obtain ⟨rfl, v', h1, h2, h3⟩ := hp
  obtain ⟨a1, a2⟩ := h.aC h1 h2 h3
  exact ⟨rfl, v', g, a1, a2⟩
theorem Oq (h : CW w c t d p v g a m P) (hk : PK P) (n : Int) (hn : -9223372036854775808 ≤ n ∧ n ≤ 9223372036854775807) : Calls Tryz.prog 167 #[.pointer (some ⟨d, 0, none⟩), .int .i64 n] w fun e w' => ∃ (s : Nat) (x : Int) (T' : List Int), qD P.T n s x T' ∧ iC T' ∧ fw w c t d p v g a m (.tuple #[.int .u64 s, .int .i64 x]) { P with T := T' } e w' :=
 (Od n hn h.nodes hk.rz).mono fun _ _ hp => by
  obtain ⟨ho, s, x, l', rfl, h1, h2, h3, h4⟩ := hp
  obtain ⟨a1, a2⟩ := h.node h2 ho
  exact ⟨s, x, l', h1, h3, rfl, v, g, a1, a2⟩
theorem Em (h : CW w c t d p v g a m P) (hk : PK P) (u : Nat) (hu : u < 18446744073709551616) : Calls Tryz.prog 129 #[.pointer (some ⟨d, 0, none⟩), .int .u64 u] w fun e w' => ∃ (n x : Int) (T' : List Int), BK P.T u n x T' ∧ iC T' ∧ fw w c t d p v g a m (.tuple #[.int .i64 n, .int .i64 x]) { P with T := T' } e w' :=
 (Oe u hu h.nodes hk.rz).mono fun _ _ hp => by
  obtain ⟨ho, n, x, l', rfl, h1, h2, h3, h4⟩ := hp
  obtain ⟨a1, a2⟩ := h.node h2 ho
  exact ⟨n, x, l', h1, h3, rfl, v, g, a1, a2⟩
theorem La (h : CW w c t d p v g a m P) (hk : PK P) (n : Int) (hn : -9223372036854775808 ≤ n ∧ n ≤ 9223372036854775807) : Calls Tryz.prog 132 #[.pointer (some ⟨d, 0, none⟩), .int .i64 n] w fun e w' => ∃ (x : Int) (T' : List Int), nk P.T n true x T' ∧ iC T' ∧ fw w c t d p v g a m (.int .i64 x) { P with T := T' } e w' :=
 (KS n hn h.nodes hk.rz).mono fun _ _ hp => by
  obtain ⟨ho, x, l', rfl, h1, h2, h3, h4⟩ := hp
  obtain ⟨a1, a2⟩ := h.node h2 ho
  exact ⟨x, l', h1, h3, rfl, v, g, a1, a2⟩
theorem IU (h : CW w c t d p v g a m P) (hk : PK P) (n : Int) (hn : -9223372036854775808 ≤ n ∧ n ≤ 9223372036854775807) : Calls Tryz.prog 108 #[.pointer (some ⟨d, 0, none⟩), .int .i64 n] w fun e w' => ∃ (x : Int) (T' : List Int), nk P.T n false x T' ∧ iC T' ∧ fw w c t d p v g a m (.int .i64 x) { P with T := T' } e w' :=
 (Iw n hn h.nodes hk.rz).mono fun _ _ hp => by
  obtain ⟨ho, x, l', rfl, h1, h2, h3, h4⟩ := hp
  obtain ⟨a1, a2⟩ := h.node h2 ho
  exact ⟨x, l', h1, h3, rfl, v, g, a1, a2⟩
end
end Go.Proofs.YtelnhablglomjaaGreat
