/-
 Own words and walks, merged: part 7 of 9.
-/
import Derived.Test.YtelnhablglomjaaGreatZa6
set_option maxRecDepth 1000000
set_option maxHeartbeats 8000000
set_option linter.all false
namespace Go.Proofs.YtelnhablglomjaaGreat
open Go.RowKit Go.Lib Go.Sort
def Lm (now : Int) (j : Jb) : List Int := [j.fin, j.aN].filter fun t => decide (now < t)
def sI (now : Int) (l : List Jb) : List Int := l.flatMap (Lm now)
theorem RX (now : Int) (j : Jb) : (Lm now j).length ≤ 2 := Nat.le_trans (List.length_filter_le _ _) (by simp)
theorem RY (now : Int) (l : List Jb) : (sI now l).length ≤ 2 * l.length := by
 unfold sI
 induction l with
 | nil => simp
 | cons a l ih => rw [List.flatMap_cons, List.length_append, List.length_cons]; have := RX now a; omega
theorem RZ : (Tryz.prog.info? 2).map (fun i => (i.zero, i.size, i.bytes)) = some (some (.int .i64 0), 1, 8) := by kernel_rfl
theorem OI (now : Int) {l : List Jb} {i : Nat} (hi : i < l.length) : sI now (l.take (i + 1)) = sI now (l.take i) ++ Lm now l[i]! := by
 unfold sI
 rw [List.take_succ_eq_append_getElem hi, List.flatMap_append, getElem!_pos l i hi]
 simp
theorem Cn (a b : List Int) : nV (a ++ b) = nV a ++ nV b := by simp [nV]
theorem R3 (l : List Int) : nV l = l.flatMap fun x : Int => [Value.int .i64 x] := by
 induction l with
 | nil => rfl
 | cons a l ih => rw [List.flatMap_cons, ← ih]; rfl
theorem OJ {w : World} {base : Nat} {v : Value} {n : Nat} {l : List Int} {e : TypeId} (h : w.ownsRow base e 1 v n (nV l)) (hn : n = l.length) (hf : ∀ z ∈ l, -9223372036854775808 ≤ z ∧ z ≤ 9223372036854775807) : qm w v l := by
 subst hn
 refine ⟨?_, hf⟩
 obtain ⟨ao, cap, rfl, hg⟩ := gH h
 have hr : aB (fun x : Int => [Value.int .i64 x]) 1 w (.slice ao l.length cap) l := aB.jk h (fun _ => rfl) (R3 l) rfl
 obtain ⟨Nb, cap', e0, q1, q2, q3⟩ := hr
 injection e0 with e1 _ e2
 subst e1; subst e2
 refine ⟨ao, cap, rfl, q1, q2, fun hz => ?_⟩
 obtain ⟨b, off, e3, e4, e5⟩ := q3 (List.length_pos_iff.2 hz)
 refine ⟨b, off, e3, e4, fun i hi => ?_⟩
 have := (e5 i (l.getD i 0) 0 (.int .i64 (l.getD i 0)) (by simp [List.getD, hi]) rfl)
 simpa using this
section
variable {w : World} {c t d p g a : Nat} {v : Value} {m : Int} {P : Pg}
theorem Eu (h : CW w c t d p v g a m P) (hk : PK P) (hfn : ∀ j ∈ P.J, -1 ≤ j.fin ∧ j.fin ≤ 1099512676352) (hpn : ∀ j ∈ P.J, -1 ≤ j.aN ∧ j.aN ≤ 1099511627776) :
 Calls Tryz.prog 137 #[.pointer (some ⟨c, 0, none⟩)] w fun e w' => e = .returned (.int .i64 (kY (sI P.now (P.J.filter fun j : Jb => decide (j.state ∈ [(1 : Int), 3]))))) ∧ Below w.heap.size w w' := by
 have zE := bJ
 obtain ⟨k, hk1⟩ : ∃ k, k = 10 := ⟨_, rfl⟩
 rw [← hk1] at zE
 have hk0 : ¬ k = 0 := by omega
 replace hk1 := Lib.hid hk1
 obtain ⟨i0, hi0, hz0, hz1, hz2⟩ := info_parts RZ
 obtain ⟨wA, aJ⟩ : ∃ wA, wA = w.alloc (.cells #[.int .i64 1, .int .i64 3] 3) := ⟨_, rfl⟩
 have bS : Below w.heap.size w wA := by rw [aJ]; exact (Below.refl _ _).alloc (Nat.le_refl _) _
 have Ll : aB enc1 1 wA (.slice (some ⟨w.heap.size, 0, none⟩) 2 2) [1, 3] := by rw [aJ]; exact gB w w.heap.size [1, 3] rfl (by decide)
 have hin := wE (h.kept bS).eU (by have := hk.few; omega) Ll
 have c0 := h.c0
 generalize hL1 : (P.J.filter fun j : Jb => decide (j.state ∈ [(1 : Int), 3])) = l at *
 have hn1 : l.length ≤ 900 := by rw [← hL1]; exact Nat.le_trans (List.length_filter_le _ _) hk.few
 have hmem : Hid (∀ i, i < l.length → l[i]! ∈ P.J) := fun i hi => by
  have h1 : l[i]! ∈ l := by rw [getElem!_pos l i hi]; exact List.getElem_mem _
  have h2 : l[i]! ∈ P.J.filter fun j : Jb => decide (j.state ∈ [(1 : Int), 3]) := hL1 ▸ h1
  exact (List.mem_filter.1 h2).1
 have hfit : Hid (∀ z ∈ sI P.now l, -9223372036854775808 ≤ z ∧ z ≤ 9223372036854775807) := fun z hz => by
  unfold sI at hz
  obtain ⟨j, hj, hz⟩ := List.mem_flatMap.1 hz
  rw [← hL1] at hj
  have hj := (List.mem_filter.1 hj).1
  have h1 := hfn j hj
  have h2 := hpn j hj
  have hz := (List.mem_filter.1 hz).1
  simp at hz
  rcases hz with rfl | rfl <;> omega
 have hC := Lib.hid (fun (W : World) (hW : Below w.heap.size w W) => h.kept hW)
 replace hL1 := Lib.hid hL1
 rw [aJ] at hin
 clear h
 go_enter Tryz.func137, Tryz.ntmps137
 go_wp2_with fail
 go_at_call 125
 refine hin.mono ?_
 clear hin c0
 rw [← aJ]
 rintro e w0 ⟨u, rfl, ho, hb0⟩
 have hbw0 : Below w.heap.size w w0 := bS.trans (hb0.mono bS.size)
 replace aJ := Lib.hid aJ
 have hr := aB.jk ho ax rfl rfl
 obtain ⟨ao, cap, rfl, q1, q2, q3⟩ := hr
 obtain ⟨n, hn⟩ : ∃ n, l.length = n := ⟨_, rfl⟩
 rw [hn] at q1 q3 hn1 ho ⊢
 have HQ : Hid (0 < n → ∃ b off, ao = some ⟨b, off, none⟩ ∧ nM w0 b off l) := fun hp => by
  obtain ⟨b, off, e1, e2, e3⟩ := q3 hp
  exact ⟨b, off, e1, e2, e3⟩
 have EO : cap ≤ 9223372036854775807 := by unfold maxLen at q2; omega
 replace hn := Lib.hid hn
 clear q2 q3 ho hb0
 go_wp2_with fail
 go_loopw [3, 15] (fun tt ii wr => ∃ (i : Nat), i ≤ n ∧ ii = .int .i64 i ∧ wr.ownsRow w0.heap.size 2 1 tt (sI P.now (l.take i)).length (nV (sI P.now (l.take i))) ∧ Below w0.heap.size w0 wr) (fun _ ii _ => n - (intOf ii).toNat)
 case atStart => exact ⟨0, Nat.zero_le _, rfl, World.ownsRow_nil w0 w0.heap.size 2 1, Below.refl _ _⟩
 case round =>
  obtain ⟨i, hin, rfl, hown, hbr⟩ := hrel
  by_cases hlt2 : i < n
  ·have b2 : (i : Int) < (n : Int) := by omega
   have wi : IntKind.i64.wrap ((i : Int) + 1) = (i : Int) + 1 := by rw [IntKind.wrap_i64]; omega
   obtain ⟨gb, off, rfl, hJ⟩ := HQ.out (by omega)
   have sW := hJ.below hbr
   have iM : i < l.length := by have := hn.out; omega
   have LI := sW.load hk1.out iM
   have hsn := Lib.hid (OI P.now iM)
   have XE := RY P.now (l.take i)
   rw [List.length_take] at XE
   have hxm := hmem.out i iM
   obtain ⟨x, hx⟩ : ∃ x, x = l[i]! := ⟨_, rfl⟩
   rw [← hx] at LI hsn hxm
   replace hx := Lib.hid hx
   obtain ⟨T, hT⟩ : ∃ T, T = sI P.now (l.take i) := ⟨_, rfl⟩
   rw [← hT] at hsn hown XE
   replace hT := Lib.hid hT
   have lI := ax x
   rw [← hk1.out] at lI
   have e7 : (ai x)[7]? = some (.int .i64 x.fin) := rfl
   have e8 : (ai x)[8]? = some (.int .i64 x.aN) := rfl
   have st := boxed wr x
   obtain ⟨w1, hw1⟩ : ∃ w1, w1 = wr.alloc (.cells (ai x).toArray 92) := ⟨_, rfl⟩
   have hb1 : Below w0.heap.size w0 w1 := by rw [hw1]; exact hbr.alloc hbr.size _
   have hown1 := hown.alloc (.cells (ai x).toArray 92)
   rw [← hw1] at hown1
   have hz1 : w1.heap[wr.heap.size]? = some (.cells (ai x).toArray 92 (0, 0)) := by rw [hw1]; exact heap_alloc_new wr _
   have c7 : w1.cell? ⟨wr.heap.size, 7, none⟩ = some (.int .i64 x.fin) := by simp [World.cell?, hz1, e7]
   have c8 : w1.cell? ⟨wr.heap.size, 8, none⟩ = some (.int .i64 x.aN) := by simp [World.cell?, hz1, e8]
   clear hz1 hown
   rw [← hw1] at st
   replace hw1 := Lib.hid hw1
   have YP : Hid (Lm P.now x = [x.fin, x.aN].filter fun t => decide (P.now < t)) := rfl
   generalize x.fin = xf at *
   generalize x.aN = xp at *
   generalize ai x = cI at *
   have Zk : ∀ W, Sem.run Tryz.prog (Instr.index 185 (.agg #[.int .i64 xf, .int .i64 xp]) (.int .i64 0)) W = .ok (.int .i64 xf) W := fun W => rfl
   have Zl : ∀ W, Sem.run Tryz.prog (Instr.index 185 (.agg #[.int .i64 xf, .int .i64 xp]) (.int .i64 1)) W = .ok (.int .i64 xp) W := fun W => rfl
   go_wp2_with fail
   go_loopw [3, 24] (fun tt mm ws => ∃ (q : Nat), q ≤ 2 ∧ mm = .int .i64 q ∧ ws.ownsRow w0.heap.size 2 1 tt (T ++ ([xf, xp].take q).filter fun t => decide (P.now < t)).length (nV (T ++ ([xf, xp].take q).filter fun t => decide (P.now < t))) ∧ Below w0.heap.size w0 ws) (fun _ mm _ => 2 - (intOf mm).toNat)
   case atStart => exact ⟨0, Nat.zero_le _, rfl, by simpa using hown1, hb1⟩
   case round =>
    obtain ⟨q, hq, rfl, hoq, hbq⟩ := hrel
    by_cases hq2 : q < 2
    ·have XF := hC.out wr (hbw0.trans (hbq.mono hbw0.size))
     have c2 := XF.c2
     have kG := gK XF
     obtain ⟨X, hX⟩ : ∃ X, X = T ++ ([xf, xp].take q).filter fun t => decide (P.now < t) := ⟨_, rfl⟩
     have WL : X.length ≤ 2000 := by
      rw [hX, List.length_append]
      have := List.length_filter_le (fun t => decide (P.now < t)) ([xf, xp].take q)
      have h9 : ([xf, xp].take q).length ≤ 2 := by rw [List.length_take]; exact Nat.min_le_right _ _
      omega
     obtain ⟨y, hy⟩ : ∃ y, y = if q = 0 then xf else xp := ⟨_, rfl⟩
     have htk : Hid ((T ++ ([xf, xp].take (q + 1)).filter fun t => decide (P.now < t)) = X ++ [y].filter fun t => decide (P.now < t)) := by
      show _ = _
      rw [hX, hy]
      rcases (show q = 0 ∨ q = 1 by omega) with rfl | rfl
      ·rw [if_pos rfl, List.append_assoc, ← List.filter_append]; rfl
      ·rw [if_neg (by decide), List.append_assoc, ← List.filter_append]; rfl
     rw [← hX] at hoq
     replace hX := Lib.hid hX
     have XG : Hid (y = if q = 0 then xf else xp) := hy
     rcases (show q = 0 ∨ q = 1 by omega) with rfl | rfl
     ·clear hy
      have hyv := XG.out
      rw [if_pos rfl] at hyv
      subst hyv
      by_cases hgt : P.now < y
      ·have d1 : decide (y > P.now) = true := decide_eq_true hgt
       have hF : Hid ([y].filter (fun t => decide (P.now < t)) = [y]) := by show _ = _; simp [hgt]
       replace hgt := Lib.hid hgt
       go_wp2_with (first | (go_at_call 95; go_must (refine kG.mono ?_); rintro e w' ⟨rfl, rfl⟩) | (at_builtin; go_must (refine wpList_append_own _ rfl (.tmp 34) (.tmp 36) 184 rfl w0.heap.size 2 i0 (.int .i64 0) 1 8 Tryz.underlying184 hi0 hz0 hz1 hz2 rfl (by decide) u3 X.length (nV X) rfl (hoq.alloc _) ⟨wr.heap.size, 0, none⟩ 1 1 [.int .i64 y] rfl rfl ?_ ?_ ?_ ?_ ?_ ?_)))
       ·exact vP (vs := [.int .i64 y]) rfl
       ·simp [Value.oneCell']
       ·unfold maxLen; omega
       ·omega
       ·have hh : ∀ o, (wr.alloc o).heap.size = wr.heap.size + 1 := fun o => by simp
        have hsz := hbq.size
        first | omega | (rw [hh]; omega)
       ·intro v' w2 hown3 hgrow _
        have hb2 : Below w0.heap.size w0 w2 := (hbq.alloc hbq.size _).grown hgrow (by
         have hh : ∀ o, (wr.alloc o).heap.size = wr.heap.size + 1 := fun o => by simp
         have hsz := hbq.size
         first | omega | (rw [hh]; omega)) (fun z hz => (hoq.lt z hz).1)
        have hfin : Hid (w2.ownsRow w0.heap.size 2 1 v' (T ++ ([y, xp].take (0 + 1)).filter fun t => decide (P.now < t)).length (nV (T ++ ([y, xp].take (0 + 1)).filter fun t => decide (P.now < t)))) := by
         show World.ownsRow _ _ _ _ _ _ _
         rw [htk.out, hF.out, Cn, List.length_append]
         exact hown3
        clear hown3 hgrow hoq hbq
        go_wp2_with fail
        go_roundw
        case rel => exact ⟨1, by omega, by go_num, hfin.out, hb2⟩
        case measure => simp [intOf]
      ·have d1 : decide (y > P.now) = false := decide_eq_false hgt
       have hF : Hid ([y].filter (fun t => decide (P.now < t)) = []) := by show _ = _; simp [hgt]
       have hfin : Hid (wr.ownsRow w0.heap.size 2 1 u3 (T ++ ([y, xp].take (0 + 1)).filter fun t => decide (P.now < t)).length (nV (T ++ ([y, xp].take (0 + 1)).filter fun t => decide (P.now < t)))) := by
        show World.ownsRow _ _ _ _ _ _ _
        rw [htk.out, hF.out, List.append_nil]
        exact hoq
       replace hgt := Lib.hid hgt
       go_wp2_with (first | (go_at_call 95; go_must (refine kG.mono ?_); rintro e w' ⟨rfl, rfl⟩))
       go_roundw
       case rel => exact ⟨1, by omega, by go_num, hfin.out, hbq⟩
       case measure => simp [intOf]
     ·clear hy
      have hyv := XG.out
      rw [if_neg (by decide)] at hyv
      subst hyv
      by_cases hgt : P.now < y
      ·have d1 : decide (y > P.now) = true := decide_eq_true hgt
       have hF : Hid ([y].filter (fun t => decide (P.now < t)) = [y]) := by show _ = _; simp [hgt]
       replace hgt := Lib.hid hgt
       go_wp2_with (first | (go_at_call 95; go_must (refine kG.mono ?_); rintro e w' ⟨rfl, rfl⟩) | (at_builtin; go_must (refine wpList_append_own _ rfl (.tmp 34) (.tmp 36) 184 rfl w0.heap.size 2 i0 (.int .i64 0) 1 8 Tryz.underlying184 hi0 hz0 hz1 hz2 rfl (by decide) u3 X.length (nV X) rfl (hoq.alloc _) ⟨wr.heap.size, 0, none⟩ 1 1 [.int .i64 y] rfl rfl ?_ ?_ ?_ ?_ ?_ ?_)))
       ·exact vP (vs := [.int .i64 y]) rfl
       ·simp [Value.oneCell']
       ·unfold maxLen; omega
       ·omega
       ·have hh : ∀ o, (wr.alloc o).heap.size = wr.heap.size + 1 := fun o => by simp
        have hsz := hbq.size
        first | omega | (rw [hh]; omega)
       ·intro v' w2 hown3 hgrow _
        have hb2 : Below w0.heap.size w0 w2 := (hbq.alloc hbq.size _).grown hgrow (by
         have hh : ∀ o, (wr.alloc o).heap.size = wr.heap.size + 1 := fun o => by simp
         have hsz := hbq.size
         first | omega | (rw [hh]; omega)) (fun z hz => (hoq.lt z hz).1)
        have hfin : Hid (w2.ownsRow w0.heap.size 2 1 v' (T ++ ([xf, y].take (1 + 1)).filter fun t => decide (P.now < t)).length (nV (T ++ ([xf, y].take (1 + 1)).filter fun t => decide (P.now < t)))) := by
         show World.ownsRow _ _ _ _ _ _ _
         rw [htk.out, hF.out, Cn, List.length_append]
         exact hown3
        clear hown3 hgrow hoq hbq
        go_wp2_with fail
        go_roundw
        case rel => exact ⟨2, by omega, by go_num, hfin.out, hb2⟩
        case measure => simp [intOf]
      ·have d1 : decide (y > P.now) = false := decide_eq_false hgt
       have hF : Hid ([y].filter (fun t => decide (P.now < t)) = []) := by show _ = _; simp [hgt]
       have hfin : Hid (wr.ownsRow w0.heap.size 2 1 u3 (T ++ ([xf, y].take (1 + 1)).filter fun t => decide (P.now < t)).length (nV (T ++ ([xf, y].take (1 + 1)).filter fun t => decide (P.now < t)))) := by
        show World.ownsRow _ _ _ _ _ _ _
        rw [htk.out, hF.out, List.append_nil]
        exact hoq
       replace hgt := Lib.hid hgt
       go_wp2_with (first | (go_at_call 95; go_must (refine kG.mono ?_); rintro e w' ⟨rfl, rfl⟩))
       go_roundw
       case rel => exact ⟨2, by omega, by go_num, hfin.out, hbq⟩
       case measure => simp [intOf]
    ·obtain rfl : q = 2 := by omega
     have hfin : Hid (wr.ownsRow w0.heap.size 2 1 u3 (sI P.now (l.take (i + 1))).length (nV (sI P.now (l.take (i + 1))))) := by
      show World.ownsRow _ _ _ _ _ _ _
      rw [hsn.out, YP.out]
      exact hoq
     go_wp2_with fail
     go_roundw
     case rel => exact ⟨i + 1, by omega, by go_num, hfin.out, hbq⟩
     case measure => simp [intOf]; omega
  ·have e : i = n := by omega
   subst e
   have e1 : l.take i = l := List.take_of_length_le (by rw [hn.out]; exact Nat.le_refl _)
   rw [e1] at hown
   have hle := Ld u3 (sI P.now l) wr (OJ hown rfl hfit.out)
   have hfin := hbw0.trans (hbr.mono hbw0.size)
   replace e1 := Lib.hid e1
   go_wp2_with (go_at_call 157; go_must (refine hle.mono ?_); rintro e w' ⟨rfl, rfl⟩)
   go_ret
   exact ⟨rfl, hfin⟩
end
end Go.Proofs.YtelnhablglomjaaGreat

namespace Go.Proofs.YtelnhablglomjaaGreat
open Go.RowKit Go.Lib Go.Sort
def Ev (n : Int) (j : Jb) : Bool := sP j.bQ.toNat n
def kZ (L : List Jb) (n : Int) : Jb := match L.findIdx? (fun j => decide (j.state ∈ [(3 : Int)]) && Ev n j) with | some i => L.getD i default | none => iD
section
variable {w : World} {c t d p g a : Nat} {v : Value} {m : Int} {P : Pg}
theorem Jn (h : CW w c t d p v g a m P) (hll : P.J.length ≤ 900) (hnd : ∀ j ∈ P.J, 0 ≤ j.bQ ∧ j.bQ ≤ 18446744073709551615) (x : Int) (hx : -9223372036854775808 ≤ x ∧ x ≤ 9223372036854775807) :
 Calls Tryz.prog 155 #[.pointer (some ⟨c, 0, none⟩), .int .i64 x] w fun e w' => e = .returned (.agg (ai (kZ P.J x)).toArray) ∧ Below w.heap.size w w' := by
 have zE := bJ
 obtain ⟨k, hk⟩ : ∃ k, k = 10 := ⟨_, rfl⟩
 rw [← hk] at zE
 have hk0 : ¬ k = 0 := by omega
 replace hk := Lib.hid hk
 obtain ⟨wA, aJ⟩ : ∃ wA, wA = w.alloc (.cells #[.int .i64 0, .int .i64 0, .int .i64 0, .int .i64 0, .int .i64 0, .int .i64 0, .int .i64 0, .int .i64 0, .int .i64 0, .int .u64 0] 92) := ⟨_, rfl⟩
 have bS : Hid (Below w.heap.size w wA) := by show Below _ _ _; rw [aJ]; exact (Below.refl _ _).alloc (Nat.le_refl _) _
 have hsA : wA.heap.size = w.heap.size + 1 := by rw [aJ]; simp
 have VO : Hid (wA.heap[w.heap.size]? = some (.cells (ai iD).toArray 92 (0, 0))) := by show _ = _; rw [aJ]; exact heap_alloc_new w _
 have hA := h.kept bS.out
 have hno := kT hA
 obtain ⟨wB, Af⟩ : ∃ wB, wB = wA.alloc (.cells #[.int .i64 3] 3) := ⟨_, rfl⟩
 have OL : Below wA.heap.size wA wB := by rw [Af]; exact (Below.refl _ _).alloc (Nat.le_refl _) _
 have YQ : aB enc1 1 wB (.slice (some ⟨w.heap.size + 1, 0, none⟩) 1 1) [3] := by rw [← hsA, Af]; exact gB wA wA.heap.size [3] rfl (by decide)
 have hin := wE (hA.kept OL).eU (by omega) YQ
 have c0 := hA.c0
 generalize hL1 : (P.J.filter fun j : Jb => decide (j.state ∈ [(3 : Int)])) = l at *
 have hn1 : l.length ≤ 900 := by rw [← hL1]; exact Nat.le_trans (List.length_filter_le _ _) hll
 have hmem : Hid (∀ i, i < l.length → l[i]! ∈ P.J) := fun i hi => by
  have h1 : l[i]! ∈ l := by rw [getElem!_pos l i hi]; exact List.getElem_mem _
  have h2 : l[i]! ∈ P.J.filter fun j : Jb => decide (j.state ∈ [(3 : Int)]) := hL1 ▸ h1
  exact (List.mem_filter.1 h2).1
 replace hL1 := Lib.hid hL1
 rw [aJ] at hno c0
 rw [Af, aJ] at hin
 clear h
 go_enter Tryz.func155, Tryz.ntmps155
 go_wp2_with (first | (go_at_call 41; go_must (refine hno.mono ?_); rintro e w' ⟨rfl, rfl⟩))
 go_at_call 125
 refine hin.mono ?_
 clear hin hno c0
 rw [← aJ, ← Af]
 rintro e w0 ⟨u, rfl, ho, hb0⟩
 have hbw0 : Hid (Below w.heap.size w w0) := bS.out.trans ((OL.trans (hb0.mono OL.size)).mono bS.out.size)
 have hx0 : w0.heap[w.heap.size]? = some (.cells (ai iD).toArray 92 (0, 0)) := (hb0.block _ (by have := OL.size; omega)).trans ((OL.block _ (by omega)).trans VO.out)
 have hsz0 : w.heap.size < w0.heap.size := aD hx0
 replace aJ := Lib.hid aJ
 replace Af := Lib.hid Af
 have hr := aB.jk ho ax rfl rfl
 obtain ⟨ao, cap, rfl, q1, q2, q3⟩ := hr
 obtain ⟨n, hn⟩ : ∃ n, l.length = n := ⟨_, rfl⟩
 rw [hn] at q1 q3 hn1 ⊢
 have HQ : Hid (0 < n → ∃ b off, ao = some ⟨b, off, none⟩ ∧ nM w0 b off l) := fun hp => by
  obtain ⟨b, off, e1, e2, e3⟩ := q3 hp
  exact ⟨b, off, e1, e2, e3⟩
 have EO : cap ≤ 9223372036854775807 := by unfold maxLen at q2; omega
 replace hn := Lib.hid hn
 clear q2 q3 ho hb0 OL
 go_wp2_with fail
 go_loopw [17] (fun ii wr => ∃ (i : Nat), i ≤ n ∧ ii = .int .i64 i ∧ Below w0.heap.size w0 wr ∧ Hid (∀ j, j < i → Ev x l[j]! = false)) (fun ii _ => n - (intOf ii).toNat)
 case atStart => exact ⟨0, Nat.zero_le _, rfl, Below.refl _ _, Lib.hid fun j hj => absurd hj (Nat.not_lt_zero _)⟩
 case round =>
  obtain ⟨i, hin, rfl, hbr, hno⟩ := hrel
  have qY : wr.heap[w.heap.size]? = some (.cells (ai iD).toArray 92 (0, 0)) := (hbr.block _ hsz0).trans hx0
  have R4 := hbw0.out.trans (hbr.mono (Nat.le_of_lt hsz0))
  by_cases hlt2 : i < n
  ·have b2 : (i : Int) < (n : Int) := by omega
   have wi : IntKind.i64.wrap ((i : Int) + 1) = (i : Int) + 1 := by rw [IntKind.wrap_i64]; omega
   obtain ⟨gb, off, rfl, hJ⟩ := HQ.out (by omega)
   have sW := hJ.below hbr
   have iM : i < l.length := by have := hn.out; omega
   have LI := sW.load hk.out iM
   have hxm := hmem.out i iM
   obtain ⟨y, hy⟩ : ∃ y, y = l[i]! := ⟨_, rfl⟩
   rw [← hy] at LI hxm
   replace hy := Lib.hid hy
   have lI := ax y
   have hny := hnd y hxm
   rw [← hk.out] at lI
   have st : Sem.run Tryz.prog (storeCells ⟨wr.heap.size, 0, none⟩ (ai y) 0) (wr.alloc (.cells #[.int .i64 0, .int .i64 0, .int .i64 0, .int .i64 0, .int .i64 0, .int .i64 0, .int .i64 0, .int .i64 0, .int .i64 0, .int .u64 0] 92)) = .ok () (wr.alloc (.cells (ai y).toArray 92)) := dE wr wr.heap.size (ai y) (ai iD) 92 rfl rfl (dJ y)
   obtain ⟨w1, hw1⟩ : ∃ w1, w1 = wr.alloc (.cells (ai y).toArray 92) := ⟨_, rfl⟩
   have hb1 : Below wr.heap.size wr w1 := by rw [hw1]; exact (Below.refl _ _).alloc (Nat.le_refl _) _
   have hz1 : w1.heap[wr.heap.size]? = some (.cells (ai y).toArray 92 (0, 0)) := by rw [hw1]; exact heap_alloc_new wr _
   have PV := hbr.size
   have hx1 : w1.heap[w.heap.size]? = some (.cells (ai iD).toArray 92 (0, 0)) := (hb1.block _ (by omega)).trans qY
   have ld1 := fu hz1 lI
   have c9 : w1.cell? ⟨wr.heap.size, 9, none⟩ = some (.int .u64 y.bQ) := by simp [World.cell?, hz1]; rfl
   have hhas := zq6 y.bQ.toNat (by omega) x w1 hx
   rw [show ((y.bQ.toNat : Nat) : Int) = y.bQ by omega] at hhas
   have JS : Sem.run Tryz.prog (storeCells ⟨w.heap.size, 0, none⟩ (ai y) 0) w1 = .ok () (w1.setRow w.heap.size (ai y).toArray) := oV hx1
   have hx2 := xO hx1 (ai y).toArray
   have VP := Lib.hid (show (ai y).toArray.size = 10 from rfl)
   have hb2 : Below w.heap.size w (w1.setRow w.heap.size (ai y).toArray) := rA (R4.trans (hb1.mono R4.size)) (Nat.le_refl _) _
   generalize hcI : ai y = cI at *
   replace hcI := Lib.hid hcI
   rw [← hw1] at st
   replace hw1 := Lib.hid hw1
   replace hz1 := Lib.hid hz1
   cases hP : sP y.bQ.toNat x with
   | false =>
     rw [hP] at hhas
     go_wp2_with (go_at_call 131; go_must (refine hhas.mono ?_); rintro e w' ⟨rfl, rfl⟩)
     go_roundw
     case rel => exact ⟨i + 1, by omega, by go_num, hbr.trans (hb1.mono hbr.size), Lib.hid fun j hj => by
      rcases Nat.lt_succ_iff_lt_or_eq.1 hj with h5 | h5
      ·exact hno.out j h5
      ·subst h5; rw [← hy.out]; exact hP⟩
     case measure => simp [intOf]; omega
   | true =>
     rw [hP] at hhas
     obtain ⟨f, hf1, hf2, hf3⟩ := Er (q := fun j : Jb => decide (j.state ∈ [(3 : Int)])) (p := Ev x) (L := P.J) (i := i) (by rw [hL1.out]; exact iM) (fun j hj => by rw [hL1.out]; exact hno.out j hj) (by rw [hL1.out, ← hy.out]; exact hP)
     rw [hL1.out, ← hy.out] at hf3
     have hres : Hid (kZ P.J x = y) := by show _ = _; unfold kZ; rw [hf1]; exact hf3
     go_wp2_with (go_at_call 131; go_must (refine hhas.mono ?_); rintro e w' ⟨rfl, rfl⟩)
     refine bG rfl rfl rfl hx2 Tryz.underlying92 rfl (by rw [VP.out]; kernel_rfl) ⟨?_, hb2⟩
     rw [hres.out, hcI.out]
  ·have e : i = n := by omega
   subst e
   have hfi := I4 (q := fun j : Jb => decide (j.state ∈ [(3 : Int)])) (p := Ev x) (L := P.J) (fun j hj => by rw [hL1.out]; exact hno.out j (by rw [← hn.out]; rw [hL1.out] at hj; exact hj))
   have hres : Hid (kZ P.J x = iD) := by show _ = _; unfold kZ; rw [hfi]
   obtain ⟨k0, f0, s0⟩ := bH qY 0 (.int .i64 0) rfl
   obtain ⟨k1, f1, s1⟩ := bH qY 1 (.int .i64 0) rfl
   obtain ⟨k2, f2, s2⟩ := bH qY 2 (.int .i64 0) rfl
   obtain ⟨k3, f3, s3⟩ := bH qY 3 (.int .i64 0) rfl
   obtain ⟨k4, f4, s4⟩ := bH qY 4 (.int .i64 0) rfl
   obtain ⟨k5, f5, s5⟩ := bH qY 5 (.int .i64 0) rfl
   obtain ⟨k6, f6, s6⟩ := bH qY 6 (.int .i64 0) rfl
   obtain ⟨k7, f7, s7⟩ := bH qY 7 (.int .i64 0) rfl
   obtain ⟨k8, f8, s8⟩ := bH qY 8 (.int .i64 0) rfl
   obtain ⟨k9, f9, s9⟩ := bH qY 9 (.int .u64 0) rfl
   obtain rfl := hk.out
   replace qY := Lib.hid qY
   go_wp2_with fail
   refine bG rfl rfl rfl qY.out Tryz.underlying92 rfl (by kernel_rfl) ⟨?_, R4⟩
   rw [hres.out]
end
end Go.Proofs.YtelnhablglomjaaGreat

namespace Go.Proofs.YtelnhablglomjaaGreat
open Go.RowKit Go.Lib Go.Sort
theorem wO {L : List Jb} {e0 id : Int} {ok : Jb → Bool} {ch : Jb → Jb} (h : bN L e0 id ok ≠ 0) : cz L e0 id ok ch = L := by unfold cz; rw [if_neg h]
section
variable {w : World} {b c t d p g a : Nat} {v : Value} {m : Int} {P : Pg} {R : Wk}
theorem Ew (h : SW w b c t d p v g a m R P) (e1 : Int) (he1 : e1 ≠ 0) (hE : bN P.J 0 R.ag.id (fun j : Jb => decide (j.state = 1)) = e1) :
 Calls Tryz.prog 85 #[.pointer (some ⟨b, 0, none⟩), .pointer (some ⟨c, 0, none⟩)] w (az w b c t d p v g a m .nilFunc { ({ R with aC := bO P.J R.ag.id } : Wk) with rep := kK e1, ok := false } P) := by
 have zJ := bJ
 obtain ⟨k, hk1⟩ : ∃ k, k = 10 := ⟨_, rfl⟩
 rw [← hk1] at zJ
 have hk0 : ¬ k = 0 := by omega
 have hS := Lib.hid h
 have hcon := fun (W : World) (v1 : Value) (g1 : Nat) (R1 : Wk) (hW : SW W b c t d p v1 g1 a m R1 P) => Ei hW.cw R.ag.id
 obtain ⟨L1, hL1⟩ : ∃ L1, L1 = cz P.J 0 R.ag.id (fun j : Jb => decide (j.state = 1)) qA := ⟨_, rfl⟩
 have hL2 : L1 = P.J := hL1.trans (wO (by rw [hE]; exact he1))
 rw [← hL1, hE, hL2, show ({ P with J := P.J } : Pg) = P from rfl] at hcon
 have d0 : (e1 != 0) = true := by simp [he1]
 replace hL2 := Lib.hid hL2
 replace he1 := Lib.hid he1
 replace hE := Lib.hid hE
 replace hL1 := Lib.hid hL1
 have hget := gY h.drew.cw.eU R.ag.id
 unfold iU at hget
 obtain ⟨x, hx⟩ : ∃ x, x = bO P.J R.ag.id := ⟨_, rfl⟩
 rw [← hx] at hget
 rw [← hx]
 replace hx := Lib.hid hx
 have lJ := ax x
 rw [← hk1] at lJ
 have hj := fun (W : World) (hW : SW W b c t d p v g a m R P) => hW.wk.uG x
 generalize ai x = cJ at *
 have c0 := h.cw.c0
 have q1 := h.wk.at 1 (.int .i64 R.ag.id) rfl
 obtain ⟨W9, kL⟩ : ∃ W9, W9 = gG { R with aC := x } := ⟨_, rfl⟩
 rw [← kL] at hj
 replace kL := Lib.hid kL
 replace hk1 := Lib.hid hk1
 clear h
 go_enter Tryz.func85, Tryz.ntmps85
 go_wp2_with fail
 go_region_with (go_at_call 77; go_must (refine hget.mono ?_); rintro e w' ⟨rfl, hgr⟩; have sJ := hS.out.drew.kept hgr.below; obtain ⟨Aj, qp⟩ := hj w' sJ)
 all_goals
  have gy := sJ.work qp (cK w' W9.toArray)
  have hfr : WS w (w'.setRow b W9.toArray) b c t d p v g v g := ((WS.of_below hgr.below : WS w.drew w' b c t d p v g v g).trans (WS.bD (cK w' W9.toArray))).yT
  clear Aj qp sJ hgr hget c0 q1
  generalize w'.setRow b W9.toArray = w9 at *
  replace gy := Lib.hid gy
  go_wp2_with fail
  refine Reg2.ro w9 9 45 [.p 0, .p 1, .p 3, .m 7, .p 0, .p 16, .p 48, .p 112, .m 240] [.pointer (some ⟨t, 0, none⟩), .int .i64 R.ag.id] (by kernel_rfl) (by kernel_rfl) rfl rfl ⟨rfl, rfl, rfl, Nat.le_refl _, fun _ _ => rfl⟩ ?_
  dsimp only [Reg2.gU]
  repeat ((first
   | (refine' Reg2.ak _ (by rfl) (fun wz => ?_) ?_; rotate_left; (go_simp; first | rfl | rw [if_neg (by omega)]))
   | (refine Reg2.au (by rfl) (fun wz hI hF => ?_) (fun _ => ?_)
      ·unfold Reg2.One
       have c0 := (gy.out.cw.kept hI).c0
       have q0 := (gy.out.kept hI).wk.at 1 (.int .i64 R.ag.id) rfl
       go_wp2_with fail
       first | exact ⟨_, rfl, rfl, Reg2.Ext.refl _⟩ | exact ⟨_, rfl, ⟨(), rfl, trivial⟩, Reg2.Ext.refl _⟩)); simp only [Act.put, xA, xB, xC, xD, xE, id])
  refine Reg2.aA ?_
  intro w4 HI4 _ dY
  clear dY
  dsimp only [List.drop]
  have bM := gy.out.kept HI4
  have hc4 := hcon w4 _ _ _ bM
  go_wp2_with fail
  go_at_call 102
  refine hc4.mono ?_
  clear hc4
  rintro e w5 ⟨rfl, v5, g5, gJ, hS5⟩
  have eX := bM.core gJ hS5
  have uI := (hfr.trans (WS.of_below HI4)).trans (WS.dD hS5)
  have hf := iK eX.wk e1
  go_wp2_with (go_at_call 42; go_must (refine hf.mono ?_); rintro e w8 ⟨rfl, dS, gq⟩)
  go_ret
  exact ⟨rfl, v5, g5, eX.work dS gq, uI.trans (WS.bD gq)⟩
theorem R5 (h : SW w b c t d p v g a m R P) (hE : bN P.J 0 R.ag.id (fun j : Jb => decide (j.state = 1)) = 0) :
 Calls Tryz.prog 85 #[.pointer (some ⟨b, 0, none⟩), .pointer (some ⟨c, 0, none⟩)] w (az w b c t d p v g a m (fG 103) { R with aC := bO P.J R.ag.id, rep := jh (bO (cz P.J 0 R.ag.id (fun j : Jb => decide (j.state = 1)) qA) R.ag.id) } { P with J := cz P.J 0 R.ag.id (fun j : Jb => decide (j.state = 1)) qA }) := by
 have zJ := bJ
 obtain ⟨k, hk1⟩ : ∃ k, k = 10 := ⟨_, rfl⟩
 rw [← hk1] at zJ
 have hk0 : ¬ k = 0 := by omega
 have hS := Lib.hid h
 have hcon := fun (W : World) (v1 : Value) (g1 : Nat) (R1 : Wk) (hW : SW W b c t d p v1 g1 a m R1 P) => Ei hW.cw R.ag.id
 obtain ⟨L1, hL1⟩ : ∃ L1, L1 = cz P.J 0 R.ag.id (fun j : Jb => decide (j.state = 1)) qA := ⟨_, rfl⟩
 rw [← hL1]
 rw [← hL1, hE] at hcon
 replace hE := Lib.hid hE
 replace hL1 := Lib.hid hL1
 have hget := gY h.drew.cw.eU R.ag.id
 unfold iU at hget
 obtain ⟨x, hx⟩ : ∃ x, x = bO P.J R.ag.id := ⟨_, rfl⟩
 rw [← hx] at hget
 rw [← hx]
 replace hx := Lib.hid hx
 have lJ := ax x
 rw [← hk1] at lJ
 have hj := fun (W : World) (hW : SW W b c t d p v g a m R P) => hW.wk.uG x
 generalize ai x = cJ at *
 have c0 := h.cw.c0
 have q1 := h.wk.at 1 (.int .i64 R.ag.id) rfl
 obtain ⟨W9, kL⟩ : ∃ W9, W9 = gG { R with aC := x } := ⟨_, rfl⟩
 rw [← kL] at hj
 replace kL := Lib.hid kL
 replace hk1 := Lib.hid hk1
 clear h
 go_enter Tryz.func85, Tryz.ntmps85
 go_wp2_with fail
 go_region_with (go_at_call 77; go_must (refine hget.mono ?_); rintro e w' ⟨rfl, hgr⟩; have sJ := hS.out.drew.kept hgr.below; obtain ⟨Aj, qp⟩ := hj w' sJ)
 all_goals
  have gy := sJ.work qp (cK w' W9.toArray)
  have hfr : WS w (w'.setRow b W9.toArray) b c t d p v g v g := ((WS.of_below hgr.below : WS w.drew w' b c t d p v g v g).trans (WS.bD (cK w' W9.toArray))).yT
  clear Aj qp sJ hgr hget c0 q1
  generalize w'.setRow b W9.toArray = w9 at *
  replace gy := Lib.hid gy
  go_wp2_with fail
  refine Reg2.ro w9 9 45 [.p 0, .p 1, .p 3, .m 7, .p 0, .p 16, .p 48, .p 112, .m 240] [.pointer (some ⟨t, 0, none⟩), .int .i64 R.ag.id] (by kernel_rfl) (by kernel_rfl) rfl rfl ⟨rfl, rfl, rfl, Nat.le_refl _, fun _ _ => rfl⟩ ?_
  dsimp only [Reg2.gU]
  repeat ((first
   | (refine' Reg2.ak _ (by rfl) (fun wz => ?_) ?_; rotate_left; (go_simp; first | rfl | rw [if_neg (by omega)]))
   | (refine Reg2.au (by rfl) (fun wz hI hF => ?_) (fun _ => ?_)
      ·unfold Reg2.One
       have c0 := (gy.out.cw.kept hI).c0
       have q0 := (gy.out.kept hI).wk.at 1 (.int .i64 R.ag.id) rfl
       go_wp2_with fail
       first | exact ⟨_, rfl, rfl, Reg2.Ext.refl _⟩ | exact ⟨_, rfl, ⟨(), rfl, trivial⟩, Reg2.Ext.refl _⟩)); simp only [Act.put, xA, xB, xC, xD, xE, id])
  refine Reg2.aA ?_
  intro w4 HI4 _ dY
  clear dY
  dsimp only [List.drop]
  have bM := gy.out.kept HI4
  have hc4 := hcon w4 _ _ _ bM
  go_wp2_with fail
  go_at_call 102
  refine hc4.mono ?_
  clear hc4
  rintro e w5 ⟨rfl, v5, g5, gJ, hS5⟩
  have eX := bM.core gJ hS5
  have uI := (hfr.trans (WS.of_below HI4)).trans (WS.dD hS5)
  have kM := oO eX R.ag.id
  have q1 := eX.wk.at 1 (.int .i64 R.ag.id) rfl
  go_wp2_with fail
  go_at_call 78
  refine kM.mono ?_
  clear kM
  rintro e w8 ⟨rfl, dS, gq⟩
  have gL := eX.work dS gq
  have Lp := uI.trans (WS.bD gq)
  go_wp2_with fail
  go_ret
  exact ⟨rfl, v5, g5, gL, Lp⟩
theorem xR (h : SW w b c t d p v g a m R P) (e1 : Int) (he1 : e1 ≠ 0) (hE : bN P.J 0 R.ag.id (fun j : Jb => decide (j.state = 2)) = e1) :
 Calls Tryz.prog 86 #[.pointer (some ⟨b, 0, none⟩), .pointer (some ⟨c, 0, none⟩)] w (az w b c t d p v g a m .nilFunc { R with rep := kK e1, ok := false } P) := by
 have zJ := bJ
 obtain ⟨k, hk1⟩ : ∃ k, k = 10 := ⟨_, rfl⟩
 rw [← hk1] at zJ
 have hk0 : ¬ k = 0 := by omega
 have hS := Lib.hid h
 have hcon := fun (W : World) (v1 : Value) (g1 : Nat) (R1 : Wk) (hW : SW W b c t d p v1 g1 a m R1 P) => Ej hW.cw R.ag.id
 obtain ⟨L1, hL1⟩ : ∃ L1, L1 = cz P.J 0 R.ag.id (fun j : Jb => decide (j.state = 2)) pJ := ⟨_, rfl⟩
 have hL2 : L1 = P.J := hL1.trans (wO (by rw [hE]; exact he1))
 rw [← hL1, hE, hL2, show ({ P with J := P.J } : Pg) = P from rfl] at hcon
 have d0 : (e1 != 0) = true := by simp [he1]
 replace hL2 := Lib.hid hL2
 replace he1 := Lib.hid he1
 replace hE := Lib.hid hE
 replace hL1 := Lib.hid hL1
 replace hk1 := Lib.hid hk1
 clear h
 go_enter Tryz.func86, Tryz.ntmps86
 go_wp2_with fail
 have gy := Lib.hid hS.out
 have hfr : WS w w b c t d p v g v g := WS.refl _
 refine Reg2.ro w 9 32 [.p 0, .p 1, .p 3, .m 7, .p 0, .p 16, .p 48, .p 112, .m 240] [.pointer (some ⟨t, 0, none⟩), .int .i64 R.ag.id] (by kernel_rfl) (by kernel_rfl) rfl rfl ⟨rfl, rfl, rfl, Nat.le_refl _, fun _ _ => rfl⟩ ?_
 dsimp only [Reg2.gU]
 repeat ((first
  | (refine' Reg2.ak _ (by rfl) (fun wz => ?_) ?_; rotate_left; (go_simp; first | rfl | rw [if_neg (by omega)]))
  | (refine Reg2.au (by rfl) (fun wz hI hF => ?_) (fun _ => ?_)
     ·unfold Reg2.One
      have c0 := (gy.out.cw.kept hI).c0
      have q0 := (gy.out.kept hI).wk.at 1 (.int .i64 R.ag.id) rfl
      go_wp2_with fail
      first | exact ⟨_, rfl, rfl, Reg2.Ext.refl _⟩ | exact ⟨_, rfl, ⟨(), rfl, trivial⟩, Reg2.Ext.refl _⟩)); simp only [Act.put, xA, xB, xC, xD, xE, id])
 refine Reg2.aA ?_
 intro w4 HI4 _ dY
 clear dY
 dsimp only [List.drop]
 have bM := gy.out.kept HI4
 have hc4 := hcon w4 _ _ _ bM
 go_wp2_with fail
 go_at_call 104
 refine hc4.mono ?_
 clear hc4
 rintro e w5 ⟨rfl, v5, g5, gJ, hS5⟩
 have eX := bM.core gJ hS5
 have uI := (hfr.trans (WS.of_below HI4)).trans (WS.dD hS5)
 have hf := iK eX.wk e1
 go_wp2_with (go_at_call 42; go_must (refine hf.mono ?_); rintro e w8 ⟨rfl, dS, gq⟩)
 go_ret
 exact ⟨rfl, v5, g5, eX.work dS gq, uI.trans (WS.bD gq)⟩
theorem Jo (h : SW w b c t d p v g a m R P) (hE : bN P.J 0 R.ag.id (fun j : Jb => decide (j.state = 2)) = 0) :
 Calls Tryz.prog 86 #[.pointer (some ⟨b, 0, none⟩), .pointer (some ⟨c, 0, none⟩)] w (az w b c t d p v g a m (fG 99) { R with aC := bO (cz P.J 0 R.ag.id (fun j : Jb => decide (j.state = 2)) pJ) R.ag.id, rep := jh (bO (cz P.J 0 R.ag.id (fun j : Jb => decide (j.state = 2)) pJ) R.ag.id) } { P with J := cz P.J 0 R.ag.id (fun j : Jb => decide (j.state = 2)) pJ }) := by
 have zJ := bJ
 obtain ⟨k, hk1⟩ : ∃ k, k = 10 := ⟨_, rfl⟩
 rw [← hk1] at zJ
 have hk0 : ¬ k = 0 := by omega
 have hS := Lib.hid h
 have hcon := fun (W : World) (v1 : Value) (g1 : Nat) (R1 : Wk) (hW : SW W b c t d p v1 g1 a m R1 P) => Ej hW.cw R.ag.id
 obtain ⟨L1, hL1⟩ : ∃ L1, L1 = cz P.J 0 R.ag.id (fun j : Jb => decide (j.state = 2)) pJ := ⟨_, rfl⟩
 rw [← hL1]
 rw [← hL1, hE] at hcon
 replace hE := Lib.hid hE
 replace hL1 := Lib.hid hL1
 replace hk1 := Lib.hid hk1
 clear h
 go_enter Tryz.func86, Tryz.ntmps86
 go_wp2_with fail
 have gy := Lib.hid hS.out
 have hfr : WS w w b c t d p v g v g := WS.refl _
 refine Reg2.ro w 9 32 [.p 0, .p 1, .p 3, .m 7, .p 0, .p 16, .p 48, .p 112, .m 240] [.pointer (some ⟨t, 0, none⟩), .int .i64 R.ag.id] (by kernel_rfl) (by kernel_rfl) rfl rfl ⟨rfl, rfl, rfl, Nat.le_refl _, fun _ _ => rfl⟩ ?_
 dsimp only [Reg2.gU]
 repeat ((first
  | (refine' Reg2.ak _ (by rfl) (fun wz => ?_) ?_; rotate_left; (go_simp; first | rfl | rw [if_neg (by omega)]))
  | (refine Reg2.au (by rfl) (fun wz hI hF => ?_) (fun _ => ?_)
     ·unfold Reg2.One
      have c0 := (gy.out.cw.kept hI).c0
      have q0 := (gy.out.kept hI).wk.at 1 (.int .i64 R.ag.id) rfl
      go_wp2_with fail
      first | exact ⟨_, rfl, rfl, Reg2.Ext.refl _⟩ | exact ⟨_, rfl, ⟨(), rfl, trivial⟩, Reg2.Ext.refl _⟩)); simp only [Act.put, xA, xB, xC, xD, xE, id])
 refine Reg2.aA ?_
 intro w4 HI4 _ dY
 clear dY
 dsimp only [List.drop]
 have bM := gy.out.kept HI4
 have hc4 := hcon w4 _ _ _ bM
 go_wp2_with fail
 go_at_call 104
 refine hc4.mono ?_
 clear hc4
 rintro e w5 ⟨rfl, v5, g5, gJ, hS5⟩
 have eX := bM.core gJ hS5
 have uI := (hfr.trans (WS.of_below HI4)).trans (WS.dD hS5)
 have kM := oO eX R.ag.id
 have q1 := eX.wk.at 1 (.int .i64 R.ag.id) rfl
 go_wp2_with fail
 go_at_call 78
 refine kM.mono ?_
 clear kM
 rintro e w8 ⟨rfl, dS, gq⟩
 have gL := eX.work dS gq
 have Lp := uI.trans (WS.bD gq)
 obtain ⟨y, hy⟩ : ∃ y, y = bO L1 R.ag.id := ⟨_, rfl⟩
 rw [show bO ({ P with J := L1 } : Pg).J R.ag.id = y from hy.symm] at gL dS ⊢
 replace hy := Lib.hid hy
 obtain ⟨Xw, kL⟩ := dS.uG y
 have lY := ax y
 rw [← hk1.out] at lY
 have R6 := gL.work kL (cK w8 _)
 have hfin := Lp.trans (WS.bD (cK w8 (gG { ({ R with rep := jh y } : Wk) with aC := y }).toArray))
 generalize gG { ({ R with rep := jh y } : Wk) with aC := y } = W9 at *
 generalize ai y = cY at *
 go_wp2_with fail
 go_ret
 have ey := hy.out
 clear hy
 subst ey
 exact ⟨rfl, v5, g5, R6, hfin⟩
theorem zQ (h : SW w b c t d p v g a m R P) (hk : PK P) (s : Int) (e1 : Int) (he1 : e1 ≠ 0) (hE : bN P.J (bB s P.now) R.ag.id (fe s) = e1) :
 Calls Tryz.prog 84 #[.pointer (some ⟨b, 0, none⟩), .pointer (some ⟨c, 0, none⟩), .int .i64 s] w (az w b c t d p v g a m .nilFunc { ({ R with aC := bO P.J R.ag.id } : Wk) with rep := kK e1, ok := false } P) := by
 have zJ := bJ
 obtain ⟨k, hk1⟩ : ∃ k, k = 10 := ⟨_, rfl⟩
 rw [← hk1] at zJ
 have hk0 : ¬ k = 0 := by omega
 have hS := Lib.hid h
 have hcon := fun (W : World) (v1 : Value) (g1 : Nat) (R1 : Wk) (hW : SW W b c t d p v1 g1 a m R1 P) => uE hW.cw hk R.ag.id s P.now
 obtain ⟨L1, hL1⟩ : ∃ L1, L1 = cz P.J (bB s P.now) R.ag.id (fe s) (bR s P.now) := ⟨_, rfl⟩
 have hL2 : L1 = P.J := hL1.trans (wO (by rw [hE]; exact he1))
 rw [← hL1, hE, hL2, show ({ P with J := P.J } : Pg) = P from rfl] at hcon
 have d0 : (e1 != 0) = true := by simp [he1]
 replace hL2 := Lib.hid hL2
 replace he1 := Lib.hid he1
 replace hE := Lib.hid hE
 replace hL1 := Lib.hid hL1
 have hget := gY h.drew.cw.eU R.ag.id
 unfold iU at hget
 obtain ⟨x, hx⟩ : ∃ x, x = bO P.J R.ag.id := ⟨_, rfl⟩
 rw [← hx] at hget
 rw [← hx]
 replace hx := Lib.hid hx
 have lJ := ax x
 rw [← hk1] at lJ
 have hj := fun (W : World) (hW : SW W b c t d p v g a m R P) => hW.wk.uG x
 generalize ai x = cJ at *
 have c0 := h.cw.c0
 have q1 := h.wk.at 1 (.int .i64 R.ag.id) rfl
 obtain ⟨W9, kL⟩ : ∃ W9, W9 = gG { R with aC := x } := ⟨_, rfl⟩
 rw [← kL] at hj
 replace kL := Lib.hid kL
 replace hk1 := Lib.hid hk1
 clear h
 go_enter Tryz.func84, Tryz.ntmps84
 go_wp2_with fail
 go_region_with (go_at_call 77; go_must (refine hget.mono ?_); rintro e w' ⟨rfl, hgr⟩; have sJ := hS.out.drew.kept hgr.below; obtain ⟨Aj, qp⟩ := hj w' sJ)
 all_goals
  have gy := sJ.work qp (cK w' W9.toArray)
  have hfr : WS w (w'.setRow b W9.toArray) b c t d p v g v g := ((WS.of_below hgr.below : WS w.drew w' b c t d p v g v g).trans (WS.bD (cK w' W9.toArray))).yT
  clear Aj qp sJ hgr hget c0 q1
  generalize w'.setRow b W9.toArray = w9 at *
  replace gy := Lib.hid gy
  go_wp2_with fail
  refine Reg2.ro w9 15 53 [.p 0, .p 1, .p 3, .m 7, .p 0, .p 16, .p 48, .p 112, .m 240, .p 0, .p 0, .p 1024, .p 3072, .m 7168, .m 15360] [.pointer (some ⟨t, 0, none⟩), .int .i64 R.ag.id, .pointer (some ⟨p, 0, none⟩), .int .i64 P.now] (by kernel_rfl) (by kernel_rfl) rfl rfl ⟨rfl, rfl, rfl, Nat.le_refl _, fun _ _ => rfl⟩ ?_
  dsimp only [Reg2.gU]
  repeat ((first
   | (refine' Reg2.ak _ (by rfl) (fun wz => ?_) ?_; rotate_left; (go_simp; first | rfl | rw [if_neg (by omega)]))
   | (refine Reg2.au (by rfl) (fun wz hI hF => ?_) (fun _ => ?_)
      ·unfold Reg2.One
       have c0 := (gy.out.cw.kept hI).c0
       have q0 := (gy.out.kept hI).wk.at 1 (.int .i64 R.ag.id) rfl
       have UR := (gy.out.cw.kept hI).c2
       go_wp2_with fail
       first | exact ⟨_, rfl, rfl, Reg2.Ext.refl _⟩ | exact ⟨_, rfl, ⟨(), rfl, trivial⟩, Reg2.Ext.refl _⟩)); simp only [Act.put, xA, xB, xC, xD, xE, id])
  refine Reg2.pm (fun wz hI hF => ?_) (fun OM => ?_) (by rfl)
  ·go_wp2_with (go_at_call 95; go_must (refine (gK (gy.out.kept hI).cw).mono ?_); rintro e w' ⟨rfl, rfl⟩)
   first | exact ⟨_, rfl, rfl, Reg2.Ext.refl _⟩ | exact ⟨_, rfl, ⟨(), rfl, trivial⟩, Reg2.Ext.refl _⟩
  simp only [Act.put, xA, xB, xC, xD, xE, id]
  refine Reg2.aA ?_
  intro w4 HI4 _ dY
  clear dY
  dsimp only [List.drop]
  have bM := gy.out.kept HI4
  have hc4 := hcon w4 _ _ _ bM
  go_wp2_with fail
  go_at_call 100
  refine hc4.mono ?_
  clear hc4
  rintro e w5 ⟨rfl, v5, g5, gJ, hS5⟩
  have eX := bM.core gJ hS5
  have uI := (hfr.trans (WS.of_below HI4)).trans (WS.dD hS5)
  have hf := iK eX.wk e1
  go_wp2_with (go_at_call 42; go_must (refine hf.mono ?_); rintro e w8 ⟨rfl, dS, gq⟩)
  go_ret
  exact ⟨rfl, v5, g5, eX.work dS gq, uI.trans (WS.bD gq)⟩
theorem Lr (h : SW w b c t d p v g a m R P) (hk : PK P) (s : Int) (hE : bN P.J (bB s P.now) R.ag.id (fe s) = 0) :
 Calls Tryz.prog 84 #[.pointer (some ⟨b, 0, none⟩), .pointer (some ⟨c, 0, none⟩), .int .i64 s] w (az w b c t d p v g a m (fG 101) { R with aC := bO P.J R.ag.id, rep := jh (bO (cz P.J (bB s P.now) R.ag.id (fe s) (bR s P.now)) R.ag.id) } { P with J := cz P.J (bB s P.now) R.ag.id (fe s) (bR s P.now) }) := by
 have zJ := bJ
 obtain ⟨k, hk1⟩ : ∃ k, k = 10 := ⟨_, rfl⟩
 rw [← hk1] at zJ
 have hk0 : ¬ k = 0 := by omega
 have hS := Lib.hid h
 have hcon := fun (W : World) (v1 : Value) (g1 : Nat) (R1 : Wk) (hW : SW W b c t d p v1 g1 a m R1 P) => uE hW.cw hk R.ag.id s P.now
 obtain ⟨L1, hL1⟩ : ∃ L1, L1 = cz P.J (bB s P.now) R.ag.id (fe s) (bR s P.now) := ⟨_, rfl⟩
 rw [← hL1]
 rw [← hL1, hE] at hcon
 replace hE := Lib.hid hE
 replace hL1 := Lib.hid hL1
 have hget := gY h.drew.cw.eU R.ag.id
 unfold iU at hget
 obtain ⟨x, hx⟩ : ∃ x, x = bO P.J R.ag.id := ⟨_, rfl⟩
 rw [← hx] at hget
 rw [← hx]
 replace hx := Lib.hid hx
 have lJ := ax x
 rw [← hk1] at lJ
 have hj := fun (W : World) (hW : SW W b c t d p v g a m R P) => hW.wk.uG x
 generalize ai x = cJ at *
 have c0 := h.cw.c0
 have q1 := h.wk.at 1 (.int .i64 R.ag.id) rfl
 obtain ⟨W9, kL⟩ : ∃ W9, W9 = gG { R with aC := x } := ⟨_, rfl⟩
 rw [← kL] at hj
 replace kL := Lib.hid kL
 replace hk1 := Lib.hid hk1
 clear h
 go_enter Tryz.func84, Tryz.ntmps84
 go_wp2_with fail
 go_region_with (go_at_call 77; go_must (refine hget.mono ?_); rintro e w' ⟨rfl, hgr⟩; have sJ := hS.out.drew.kept hgr.below; obtain ⟨Aj, qp⟩ := hj w' sJ)
 all_goals
  have gy := sJ.work qp (cK w' W9.toArray)
  have hfr : WS w (w'.setRow b W9.toArray) b c t d p v g v g := ((WS.of_below hgr.below : WS w.drew w' b c t d p v g v g).trans (WS.bD (cK w' W9.toArray))).yT
  clear Aj qp sJ hgr hget c0 q1
  generalize w'.setRow b W9.toArray = w9 at *
  replace gy := Lib.hid gy
  go_wp2_with fail
  refine Reg2.ro w9 15 53 [.p 0, .p 1, .p 3, .m 7, .p 0, .p 16, .p 48, .p 112, .m 240, .p 0, .p 0, .p 1024, .p 3072, .m 7168, .m 15360] [.pointer (some ⟨t, 0, none⟩), .int .i64 R.ag.id, .pointer (some ⟨p, 0, none⟩), .int .i64 P.now] (by kernel_rfl) (by kernel_rfl) rfl rfl ⟨rfl, rfl, rfl, Nat.le_refl _, fun _ _ => rfl⟩ ?_
  dsimp only [Reg2.gU]
  repeat ((first
   | (refine' Reg2.ak _ (by rfl) (fun wz => ?_) ?_; rotate_left; (go_simp; first | rfl | rw [if_neg (by omega)]))
   | (refine Reg2.au (by rfl) (fun wz hI hF => ?_) (fun _ => ?_)
      ·unfold Reg2.One
       have c0 := (gy.out.cw.kept hI).c0
       have q0 := (gy.out.kept hI).wk.at 1 (.int .i64 R.ag.id) rfl
       have UR := (gy.out.cw.kept hI).c2
       go_wp2_with fail
       first | exact ⟨_, rfl, rfl, Reg2.Ext.refl _⟩ | exact ⟨_, rfl, ⟨(), rfl, trivial⟩, Reg2.Ext.refl _⟩)); simp only [Act.put, xA, xB, xC, xD, xE, id])
  refine Reg2.pm (fun wz hI hF => ?_) (fun OM => ?_) (by rfl)
  ·go_wp2_with (go_at_call 95; go_must (refine (gK (gy.out.kept hI).cw).mono ?_); rintro e w' ⟨rfl, rfl⟩)
   first | exact ⟨_, rfl, rfl, Reg2.Ext.refl _⟩ | exact ⟨_, rfl, ⟨(), rfl, trivial⟩, Reg2.Ext.refl _⟩
  simp only [Act.put, xA, xB, xC, xD, xE, id]
  refine Reg2.aA ?_
  intro w4 HI4 _ dY
  clear dY
  dsimp only [List.drop]
  have bM := gy.out.kept HI4
  have hc4 := hcon w4 _ _ _ bM
  go_wp2_with fail
  go_at_call 100
  refine hc4.mono ?_
  clear hc4
  rintro e w5 ⟨rfl, v5, g5, gJ, hS5⟩
  have eX := bM.core gJ hS5
  have uI := (hfr.trans (WS.of_below HI4)).trans (WS.dD hS5)
  have kM := oO eX R.ag.id
  have q1 := eX.wk.at 1 (.int .i64 R.ag.id) rfl
  go_wp2_with fail
  go_at_call 78
  refine kM.mono ?_
  clear kM
  rintro e w8 ⟨rfl, dS, gq⟩
  have gL := eX.work dS gq
  have Lp := uI.trans (WS.bD gq)
  go_wp2_with fail
  go_ret
  exact ⟨rfl, v5, g5, gL, Lp⟩
end
end Go.Proofs.YtelnhablglomjaaGreat

namespace Go.Proofs.YtelnhablglomjaaGreat
open Go.RowKit Go.Lib Go.Sort
theorem R7 {w : World} {b : Nat} {R : Wk} (h : bI w b R) (v0 v1 v2 v3 v4 v5 v6 v7 v8 : Int) : ∃ W, W = (((((((((w).setCell ⟨b, 24, none⟩ (.int .i64 v0)).setCell ⟨b, 25, none⟩ (.int .i64 v1)).setCell ⟨b, 26, none⟩ (.int .i64 v2)).setCell ⟨b, 27, none⟩ (.int .i64 v3)).setCell ⟨b, 28, none⟩ (.int .i64 v4)).setCell ⟨b, 29, none⟩ (.int .i64 v5)).setCell ⟨b, 30, none⟩ (.int .i64 v6)).setCell ⟨b, 31, none⟩ (.int .i64 v7)).setCell ⟨b, 32, none⟩ (.int .i64 v8) ∧ bI W b { R with rep := ⟨v0, v1, v2, v3, v4, v5, v6, v7, v8⟩ } ∧ bu (fun k => k = b) w W := by
 refine ⟨_, rfl, ?_, ?_⟩
 ·have h0 := h.put 24 (.int .i64 v0) (R' := { R with rep := { R.rep with err := v0 } }) rfl
  have h1 := h0.put 25 (.int .i64 v1) (R' := { R with rep := { R.rep with err := v0, id := v1 } }) rfl
  have h2 := h1.put 26 (.int .i64 v2) (R' := { R with rep := { R.rep with err := v0, id := v1, state := v2 } }) rfl
  have h3 := h2.put 27 (.int .i64 v3) (R' := { R with rep := { R.rep with err := v0, id := v1, state := v2, start := v3 } }) rfl
  have h4 := h3.put 28 (.int .i64 v4) (R' := { R with rep := { R.rep with err := v0, id := v1, state := v2, start := v3, stop := v4 } }) rfl
  have h5 := h4.put 29 (.int .i64 v5) (R' := { R with rep := { R.rep with err := v0, id := v1, state := v2, start := v3, stop := v4, plan := v5 } }) rfl
  have h6 := h5.put 30 (.int .i64 v6) (R' := { R with rep := { R.rep with err := v0, id := v1, state := v2, start := v3, stop := v4, plan := v5, a := v6 } }) rfl
  have h7 := h6.put 31 (.int .i64 v7) (R' := { R with rep := { R.rep with err := v0, id := v1, state := v2, start := v3, stop := v4, plan := v5, a := v6, b := v7 } }) rfl
  have h8 := h7.put 32 (.int .i64 v8) (R' := { R with rep := { R.rep with err := v0, id := v1, state := v2, start := v3, stop := v4, plan := v5, a := v6, b := v7, c := v8 } }) rfl
  exact h8
 ·exact gp (gp (gp (gp (gp (gp (gp (gp (dw _ 24 _) (dw _ 25 _)) (dw _ 26 _)) (dw _ 27 _)) (dw _ 28 _)) (dw _ 29 _)) (dw _ 30 _)) (dw _ 31 _)) (dw _ 32 _)
def ik (P : Pg) (n : Int) : Int := if (kZ P.J n).st = 3 then max (kZ P.J n).fin (P.now + 1) else P.now
section
variable {w : World} {b c t d p g a : Nat} {v : Value} {m : Int} {P : Pg} {R : Wk}
theorem OO (h : CW w c t d p v g a m P) (hk : PK P) (j : Jb) : Calls Tryz.prog 156 #[.pointer (some ⟨c, 0, none⟩), .agg (ai j).toArray] w fun e w' => e = .returned (.int .i64 (max j.fin (P.now + 1))) ∧ Below w.heap.size w w' := by
 obtain ⟨wA, aJ⟩ : ∃ wA, wA = w.alloc (.cells (ai j).toArray 92) := ⟨_, rfl⟩
 have bS : Hid (Below w.heap.size w wA) := by show Below _ _ _; rw [aJ]; exact (Below.refl _ _).alloc (Nat.le_refl _) _
 have oF : Hid (wA.heap[w.heap.size]? = some (.cells (ai j).toArray 92 (0, 0))) := by show _ = _; rw [aJ]; exact heap_alloc_new w _
 have iY := Lib.hid (h.kept bS.out)
 have e7 : (ai j)[7]? = some (.int .i64 j.fin) := rfl
 have zE := bJ
 obtain ⟨k, hk1⟩ : ∃ k, k = 10 := ⟨_, rfl⟩
 rw [← hk1] at zE
 have hk0 : ¬ k = 0 := by omega
 replace hk1 := Lib.hid hk1
 have kG := hk.now
 have wn : IntKind.i64.wrap (P.now + 1) = P.now + 1 := by rw [IntKind.wrap_i64]; omega
 generalize ai j = cJ at *
 generalize j.fin = jf at *
 clear h
 go_enter Tryz.func156, Tryz.ntmps156
 go_wp2_with fail
 rw [← aJ]
 replace aJ := Lib.hid aJ
 refine Reg2.ro wA 8 14 [.p 0, .m 1, .p 0, .p 4, .p 12, .m 28, .m 60, .p 124] [.int .i64 jf, .pointer (some ⟨p, 0, none⟩), .int .i64 P.now] (by kernel_rfl) (by kernel_rfl) rfl rfl ⟨rfl, rfl, rfl, Nat.le_refl _, fun _ _ => rfl⟩ ?_
 dsimp only [Reg2.gU]
 repeat ((first
  | (refine' Reg2.ak _ (by rfl) (fun wz => ?_) ?_; rotate_left; (go_simp; first | rfl | rw [if_neg (by omega)]))
  | (refine Reg2.au (by rfl) (fun wz hI hF => ?_) (fun _ => ?_)
     ·unfold Reg2.One
      have q0 : wz.cell? ⟨w.heap.size, 7, none⟩ = some (.int .i64 jf) := by simp [World.cell?, (hI.block _ (aD oF.out)).trans oF.out, e7]
      have c0 := (iY.out.kept hI).c2
      go_wp2_with fail
      first | exact ⟨_, rfl, rfl, Reg2.Ext.refl _⟩ | exact ⟨_, rfl, ⟨(), rfl, trivial⟩, Reg2.Ext.refl _⟩)); simp only [Act.put, xA, xB, xC, xD, xE, id])
 refine Reg2.pm (fun wz hI hF => ?_) (fun r6 => ?_) (by rfl)
 ·go_wp2_with (go_at_call 95; go_must (refine (gK (iY.out.kept hI)).mono ?_); rintro e w' ⟨rfl, rfl⟩)
  first | exact ⟨_, rfl, rfl, Reg2.Ext.refl _⟩ | exact ⟨_, rfl, ⟨(), rfl, trivial⟩, Reg2.Ext.refl _⟩
 simp only [Act.put, xA, xB, xC, xD, xE, id]
 repeat (refine' Reg2.ak _ (by rfl) (fun wz => ?_) ?_; rotate_left; (go_simp; first | rfl | rw [if_neg (by omega)]); simp only [Act.put, xA, xB, xC, xD, xE, id])
 refine Reg2.aA ?_
 intro w7 kF _ dY
 clear dY
 dsimp only [List.drop]
 have kD := bS.out.trans (kF.mono bS.out.size)
 go_wp2_with fail
 go_ret
 exact ⟨rfl, kD⟩
theorem OP (h : CW w c t d p v g a m P) (hk : PK P) (hnd : ∀ j ∈ P.J, 0 ≤ j.bQ ∧ j.bQ ≤ 18446744073709551615) (n : Int) (hn : -9223372036854775808 ≤ n ∧ n ≤ 9223372036854775807) : Calls Tryz.prog 133 #[.pointer (some ⟨c, 0, none⟩), .int .i64 n] w fun e w' => e = .returned (.int .i64 (ik P n)) ∧ Below w.heap.size w w' := by
 have hho := Jn h (hk.few) hnd n hn
 unfold ik
 generalize kZ P.J n = y at *
 obtain ⟨sv, hsv⟩ : ∃ sv, sv = if y.st = 3 then max y.fin (P.now + 1) else P.now := ⟨_, rfl⟩
 rw [← hsv]
 replace hsv := Lib.hid hsv
 have zE := bJ
 obtain ⟨k, hk1⟩ : ∃ k, k = 10 := ⟨_, rfl⟩
 rw [← hk1] at zE
 have hk0 : ¬ k = 0 := by omega
 have lY := ax y
 rw [← hk1] at lY
 replace hk1 := Lib.hid hk1
 have e5 : (ai y)[5]? = some (.int .i64 y.st) := rfl
 have ST : Hid (∀ W : World, Sem.run Tryz.prog (storeCells ⟨W.heap.size, 0, none⟩ (ai y) 0) (W.alloc (.cells #[.int .i64 0, .int .i64 0, .int .i64 0, .int .i64 0, .int .i64 0, .int .i64 0, .int .i64 0, .int .i64 0, .int .i64 0, .int .u64 0] 92)) = .ok () (W.alloc (.cells (ai y).toArray 92))) := fun W => dE W W.heap.size (ai y) (ai iD) 92 rfl rfl (dJ y)
 have hun := fun (W : World) (hW : CW W c t d p v g a m P) => OO hW hk y
 have hC := Lib.hid h
 generalize ai y = cY at *
 clear h
 go_enter Tryz.func133, Tryz.ntmps133
 go_wp2_with fail
 go_at_call 155
 refine hho.mono ?_
 clear hho
 rintro e w1 ⟨rfl, hb1⟩
 have st1 := ST.out w1
 obtain ⟨w2, hw2⟩ : ∃ w2, w2 = w1.alloc (.cells cY.toArray 92) := ⟨_, rfl⟩
 rw [← hw2] at st1
 have hb2 : Below w.heap.size w w2 := by rw [hw2]; exact hb1.alloc hb1.size _
 have hz2 : w2.heap[w1.heap.size]? = some (.cells cY.toArray 92 (0, 0)) := by rw [hw2]; exact heap_alloc_new w1 _
 have c5 : w2.cell? ⟨w1.heap.size, 5, none⟩ = some (.int .i64 y.st) := by simp [World.cell?, hz2, e5]
 have YK := fu hz2 lY
 have hC2 := hC.out.kept hb2
 have hu2 := hun w2 hC2
 have hnw := gK hC2
 have c2 := hC2.c2
 replace hw2 := Lib.hid hw2
 replace hz2 := Lib.hid hz2
 by_cases hs : y.st = 3
 ·have d0 : (y.st == 3) = true := by simp [hs]
  replace hs := Lib.hid hs
  go_wp2_with fail
  go_at_call 156
  refine hu2.mono ?_
  rintro e w3 ⟨rfl, hb3⟩
  go_wp2_with fail
  go_ret
  exact ⟨by rw [hsv.out, if_pos hs.out]; rfl, hb2.trans (hb3.mono hb2.size)⟩
 ·have d0 : (y.st == 3) = false := by simp [hs]
  go_wp2_with (go_at_call 95; go_must (refine hnw.mono ?_); rintro e w' ⟨rfl, rfl⟩)
  go_ret
  exact ⟨by rw [hsv.out, if_neg hs]; rfl, hb2⟩
theorem Ex (h : SW w b c t d p v g a m R P) (e0 by' : Int) (he : e0 ≠ 0) : Calls Tryz.prog 107 #[.pointer (some ⟨b, 0, none⟩), .pointer (some ⟨c, 0, none⟩), .int .i64 e0, .int .i64 by'] w (az w b c t d p v g a m .nilFunc { R with rep := kK e0, ok := false } P) := by
 have hf := iK h.wk e0
 have d0 : (e0 != 0) = true := by simp [he]
 go_enter Tryz.func107, Tryz.ntmps107
 go_wp2_with (go_at_call 42; go_must (refine hf.mono ?_); rintro e w8 ⟨rfl, dS, gq⟩)
 go_ret
 exact ⟨rfl, v, g, h.work dS gq, WS.bD gq⟩
theorem Ls (h : SW w b c t d p v g a m R P) (hk : PK P) (ha : a ≤ 800) (hm : m ≤ 1000000) (hnd : ∀ j ∈ P.J, 0 ≤ j.bQ ∧ j.bQ ≤ 18446744073709551615) (hn : -9223372036854775808 ≤ R.ag.node ∧ R.ag.node ≤ 9223372036854775807) (by' : Int) (hby : -64 ≤ by' ∧ by' ≤ 64) (F : Int → Int)
 (hF : ∀ u, P.now ≤ u → F u = P.f u + had (max (ik P R.ag.node) P.now) 1152921504606846976 by' u) (hr : ∀ u, P.now ≤ u → 0 ≤ F u ∧ F u ≤ 64) (hs : ik P R.ag.node < 1152921504606846976) :
 Calls Tryz.prog 107 #[.pointer (some ⟨b, 0, none⟩), .pointer (some ⟨c, 0, none⟩), .int .i64 0, .int .i64 by'] w (az w b c t d p v g (a + 2) (m + 1) .nilFunc { R with rep := ⟨0, R.ag.node, qE P.T R.ag.node, 0, 0, 0, 0, 0, 0⟩ } { P with f := F }) := by
 have hS := Lib.hid h
 have q7 := h.wk.at 7 (.int .i64 R.ag.node) rfl
 have hsi := fun (W : World) (hW : CW W c t d p v g a m P) => OP hW hk hnd R.ag.node hn
 generalize hsx : ik P R.ag.node = sx at *
 generalize hnx : R.ag.node = nx at *
 replace hsx := Lib.hid hsx
 replace hnx := Lib.hid hnx
 clear h
 go_enter Tryz.func107, Tryz.ntmps107
 go_wp2_with fail
 refine Reg2.ro w 8 40 [.p 0, .p 1, .p 3, .m 7, .p 0, .p 0, .m 48, .p 0] [.pointer (some ⟨p, 0, none⟩), .int .i64 sx] (by kernel_rfl) (by kernel_rfl) rfl rfl ⟨rfl, rfl, rfl, Nat.le_refl _, fun _ _ => rfl⟩ ?_
 dsimp only [Reg2.gU]
 repeat ((first
  | (refine' Reg2.ak _ (by rfl) (fun wz => ?_) ?_; rotate_left; (go_simp; first | rfl | rw [if_neg (by omega)]))
  | (refine Reg2.au (by rfl) (fun wz hI hF => ?_) (fun _ => ?_)
     ·unfold Reg2.One
      have c0 := (hS.out.cw.kept hI).c2
      go_wp2_with fail
      first | exact ⟨_, rfl, rfl, Reg2.Ext.refl _⟩ | exact ⟨_, rfl, ⟨(), rfl, trivial⟩, Reg2.Ext.refl _⟩)); simp only [Act.put, xA, xB, xC, xD, xE, id])
 refine Reg2.pm (fun wz hI hF => ?_) (fun r6 => ?_) (by rfl)
 ·go_wp2_with (go_at_call 133; go_must (refine (hsi wz (hS.out.kept hI).cw).mono ?_); rintro e w' ⟨rfl, hb5⟩)
  first | exact ⟨_, rfl, ⟨(), rfl, trivial⟩, hb5⟩ | exact ⟨_, rfl, rfl, hb5⟩
 simp only [Act.put, xA, xB, xC, xD, xE, id]
 repeat (refine' Reg2.ak _ (by rfl) (fun wz => ?_) ?_; rotate_left; (go_simp; first | rfl | rw [if_neg (by omega)]); simp only [Act.put, xA, xB, xC, xD, xE, id])
 refine Reg2.aA ?_
 intro w4 HI4 _ dY
 clear dY
 dsimp only [List.drop]
 have bM := hS.out.kept HI4
 have hadd := MN bM.cw hk ha hm sx 1152921504606846976 by' F hs (by omega) hby hF hr
 go_wp2_with fail
 go_at_call 130
 refine hadd.mono ?_
 clear hadd
 rintro e w5 ⟨rfl, v5, g5, gJ, hS5⟩
 have XH := bM.core gJ hS5
 have Di := (WS.of_below HI4 : WS w w4 b c t d p v g v g).trans (WS.dD hS5)
 have hst := wH nx hn gJ.nodes hk.rz
 rw [show ({ P with f := F } : Pg).T = P.T from rfl] at hst
 have c1 := gJ.c1
 go_wp2_with fail
 go_at_call 105
 refine hst.mono ?_
 clear hst c1
 rintro e w6 ⟨rfl, mm, xL⟩
 have hb6 : Below w5.heap.size w5 w6 := by rw [xL]; exact below_drewN (Below.refl _ _) _
 have eX := XH.kept hb6
 have uI := Di.trans (WS.of_below hb6)
 obtain ⟨w7, hw7, yS, R8⟩ := R7 eX.wk 0 nx (qE P.T nx) 0 0 0 0 0 0
 have a24 := eX.wk.at 24 (.int .i64 R.rep.err) rfl
 have f24 := eX.wk.free 24
 have a25 := eX.wk.at 25 (.int .i64 R.rep.id) rfl
 have f25 := eX.wk.free 25
 have a26 := eX.wk.at 26 (.int .i64 R.rep.state) rfl
 have f26 := eX.wk.free 26
 have a27 := eX.wk.at 27 (.int .i64 R.rep.start) rfl
 have f27 := eX.wk.free 27
 have a28 := eX.wk.at 28 (.int .i64 R.rep.stop) rfl
 have f28 := eX.wk.free 28
 have a29 := eX.wk.at 29 (.int .i64 R.rep.plan) rfl
 have f29 := eX.wk.free 29
 have a30 := eX.wk.at 30 (.int .i64 R.rep.a) rfl
 have f30 := eX.wk.free 30
 have a31 := eX.wk.at 31 (.int .i64 R.rep.b) rfl
 have f31 := eX.wk.free 31
 have a32 := eX.wk.at 32 (.int .i64 R.rep.c) rfl
 have f32 := eX.wk.free 32
 have gM := eX.work yS R8
 have Lt := uI.trans (WS.bD R8)
 replace xL := Lib.hid xL
 go_wp2_with fail
 rw [← hw7]
 go_ret
 have en := hnx.out
 subst en
 exact ⟨rfl, v5, g5, gM, Lt⟩
end
end Go.Proofs.YtelnhablglomjaaGreat

namespace Go.Proofs.YtelnhablglomjaaGreat
open Go.RowKit Go.Lib Go.Sort
def Early (M : Md) : Prop := ∀ j ∈ M.L, j.st ≤ 2 → j.fin = -1
theorem foldl_min (l : List Int) : ∀ x : Int, (l.foldl min x = x ∨ l.foldl min x ∈ l) ∧ l.foldl min x ≤ x ∧ ∀ z ∈ l, l.foldl min x ≤ z := by
 induction l with
 | nil => exact fun x => ⟨.inl rfl, Int.le_refl _, fun z hz => nomatch hz⟩
 | cons a l ih =>
   intro x
   obtain ⟨h1, h2, h3⟩ := ih (min x a)
   refine ⟨?_, by show l.foldl min (min x a) ≤ x; omega, fun z hz => ?_⟩
   ·show l.foldl min (min x a) = x ∨ l.foldl min (min x a) ∈ a :: l
    rcases h1 with h1 | h1
    ·rw [h1]
     rcases Int.le_total x a with h | h
     ·exact .inl (Int.min_eq_left h)
     ·exact .inr (by rw [Int.min_eq_right h]; exact List.mem_cons_self ..)
    ·exact .inr (List.mem_cons_of_mem _ h1)
   ·show l.foldl min (min x a) ≤ z
    rcases List.mem_cons.1 hz with rfl | hz
    ·omega
    ·exact h3 z hz
theorem Co (l : List Int) : kY l = 1152921504606846976 ∨ kY l ∈ l := (foldl_min l _).1
theorem Lu {l : List Int} {z : Int} (h : z ∈ l) : kY l ≤ z := (foldl_min l _).2.2 z h
section
variable {M : Md}
theorem Jp (hI : aF M) (hE : Early M) : kY (sI M.now (M.L.filter fun j : Jb => decide (j.state ∈ [(1 : Int), 3]))) = if aS M < 0 then 1152921504606846976 else aS M := by
 have h0 := hI.mb.now
 have hL := rT (M := M) h0.1
 have key : ∀ t, t ∈ sI M.now (M.L.filter fun j : Jb => decide (j.state ∈ [(1 : Int), 3])) ↔ (t ∈ M.L.flatMap xG ∧ M.now < t) := by
  intro t
  unfold sI
  simp only [List.mem_flatMap]
  constructor
  ·rintro ⟨j, hj, ht⟩
   obtain ⟨hjm, hjs⟩ := List.mem_filter.1 hj
   unfold Lm at ht
   obtain ⟨ht1, ht2⟩ := List.mem_filter.1 ht
   have ht2 : M.now < t := of_decide_eq_true ht2
   refine ⟨⟨j, hjm, ?_⟩, ht2⟩
   have hs : j.st = 1 ∨ j.st = 3 := by
    have : j.state = 1 ∨ j.state = 3 := by simpa using hjs
    exact this
   have ht3 : t = j.fin ∨ t = j.aN := by simpa using ht1
   unfold xG
   rcases hs with hs | hs
   ·have he := hE j hjm (by omega)
    have htp : t = j.aN := by rcases ht3 with h | h <;> omega
    have hpl : aj j = true := bq.2 ⟨hs, by omega⟩
    rw [hpl]
    simp [htp]
   ·have hr := hI.rest j hjm (by omega)
    have htp : t = j.fin := by rcases ht3 with h | h <;> omega
    simp [hs, htp]
  ·rintro ⟨⟨j, hjm, ht⟩, ht2⟩
   unfold xG at ht
   rcases List.mem_append.1 ht with h | h
   ·by_cases hs : j.st = 3
    ·rw [if_pos hs] at h
     refine ⟨j, List.mem_filter.2 ⟨hjm, ?_⟩, ?_⟩
     ·have : j.state = 3 := hs
      simp [this]
     ·unfold Lm
      rw [List.mem_singleton.1 h] at ht2 ⊢
      exact List.mem_filter.2 ⟨by simp, decide_eq_true ht2⟩
    ·rw [if_neg hs] at h; cases h
   ·by_cases hs : aj j = true
    ·rw [if_pos hs] at h
     refine ⟨j, List.mem_filter.2 ⟨hjm, ?_⟩, ?_⟩
     ·have : j.state = 1 := (bq.1 hs).1
      simp [this]
     ·unfold Lm
      rw [List.mem_singleton.1 h] at ht2 ⊢
      exact List.mem_filter.2 ⟨by simp, decide_eq_true ht2⟩
    ·rw [if_neg hs] at h; cases h
 have hbig : ∀ t ∈ M.L.flatMap xG, t ≤ 1099512676352 := by
  intro t ht
  obtain ⟨j, hjm, ht⟩ := List.mem_flatMap.1 ht
  have h1 := hI.mb.fin j hjm
  have h2 := hI.mb.aN j hjm
  unfold xG at ht
  rcases List.mem_append.1 ht with h | h
  ·split at h
   ·rw [List.mem_singleton.1 h]; omega
   ·cases h
  ·split at h
   ·rw [List.mem_singleton.1 h]; omega
   ·cases h
 rcases hL with ⟨h1, h2⟩ | ⟨h1, h2, h3, h4⟩
 ·rw [if_pos h1]
  rcases Co (sI M.now (M.L.filter fun j : Jb => decide (j.state ∈ [(1 : Int), 3]))) with h | h
  ·exact h
  ·have := (key _).1 h
   have := h2 _ this.1
   omega
 ·rw [if_neg (by omega)]
  have h5 := Lu ((key _).2 ⟨h3, h2⟩)
  have h6 := hbig _ h3
  rcases Co (sI M.now (M.L.filter fun j : Jb => decide (j.state ∈ [(1 : Int), 3]))) with h | h
  ·omega
  ·have h7 := (key _).1 h
   have := h4 _ h7.1 h7.2
   omega
end
section
variable {w : World} {b c t d p g a : Nat} {v : Value} {m : Int} {P : Pg} {M : Md} {R : Wk}
theorem OQ (h : CW w c t d p v g a m P) (ha : a ≤ 1000) : Calls Tryz.prog 96 #[.pointer (some ⟨p, 0, none⟩), .int .i64 P.now] w fun e w' => e = .returned (.int .i64 (P.f P.now)) ∧ Below w.heap.size w w' := by
 obtain ⟨S, aK, hp, hC, hl, _⟩ := h.lL
 obtain ⟨i, hi⟩ := hC.sm.ix P.now
 rw [hi.val hC.sm (Int.le_refl _)]
 exact Og P.now hi hC.sm (by omega) hp
theorem Ey (h : SW w b c t d p v g a m R P) (ha : a ≤ 1000) : Calls Tryz.prog 82 #[.pointer (some ⟨b, 0, none⟩), .pointer (some ⟨c, 0, none⟩)] w (az w b c t d p v g a m (.tuple #[]) { R with rep := ⟨0, 0, 0, P.now, 0, 0, P.f P.now, 0, 0⟩ } P) := by
 have hS := Lib.hid h
 have hfr := fun (W : World) (hW : SW W b c t d p v g a m R P) => OQ hW.cw ha
 obtain ⟨fn, hfn⟩ : ∃ fn, fn = P.f P.now := ⟨_, rfl⟩
 rw [← hfn] at hfr ⊢
 replace hfn := Lib.hid hfn
 clear h
 go_enter Tryz.func82, Tryz.ntmps82
 go_wp2_with fail
 refine Reg2.ro w 17 23 [.p 0, .p 0, .p 2, .p 6, .m 14, .m 30, .p 0, .p 64, .p 192, .m 448, .p 0, .p 1024, .p 3072, .m 7168, .m 15422, .m 32766, .p 65534] [.pointer (some ⟨p, 0, none⟩), .int .i64 P.now, .pointer (some ⟨p, 0, none⟩), .pointer (some ⟨p, 0, none⟩), .int .i64 P.now, .int .i64 fn] (by kernel_rfl) (by kernel_rfl) rfl rfl ⟨rfl, rfl, rfl, Nat.le_refl _, fun _ _ => rfl⟩ ?_
 dsimp only [Reg2.gU]
 repeat ((first
  | (refine' Reg2.ak _ (by rfl) (fun wz => ?_) ?_; rotate_left; (go_simp; first | rfl | rw [if_neg (by omega)]))
  | (refine Reg2.au (by rfl) (fun wz hI hF => ?_) (fun _ => ?_)
     ·unfold Reg2.One
      have c0 := (hS.out.cw.kept hI).c2
      go_wp2_with fail
      first | exact ⟨_, rfl, rfl, Reg2.Ext.refl _⟩ | exact ⟨_, rfl, ⟨(), rfl, trivial⟩, Reg2.Ext.refl _⟩)); simp only [Act.put, xA, xB, xC, xD, xE, id])
 refine Reg2.pm (fun wz hI hF => ?_) (fun r5 => ?_) (by rfl)
 ·go_wp2_with (go_at_call 95; go_must (refine (gK (hS.out.kept hI).cw).mono ?_); rintro e w' ⟨rfl, rfl⟩)
  first | exact ⟨_, rfl, rfl, Reg2.Ext.refl _⟩ | exact ⟨_, rfl, ⟨(), rfl, trivial⟩, Reg2.Ext.refl _⟩
 simp only [Act.put, xA, xB, xC, xD, xE, id]
 repeat ((first
  | (refine' Reg2.ak _ (by rfl) (fun wz => ?_) ?_; rotate_left; (go_simp; first | rfl | rw [if_neg (by omega)]))
  | (refine Reg2.au (by rfl) (fun wz hI hF => ?_) (fun _ => ?_)
     ·unfold Reg2.One
      have c0 := (hS.out.cw.kept hI).c2
      go_wp2_with fail
      first | exact ⟨_, rfl, rfl, Reg2.Ext.refl _⟩ | exact ⟨_, rfl, ⟨(), rfl, trivial⟩, Reg2.Ext.refl _⟩)); simp only [Act.put, xA, xB, xC, xD, xE, id])
 refine Reg2.pm (fun wz hI hF => ?_) (fun OM => ?_) (by rfl)
 ·go_wp2_with (go_at_call 95; go_must (refine (gK (hS.out.kept hI).cw).mono ?_); rintro e w' ⟨rfl, rfl⟩)
  first | exact ⟨_, rfl, rfl, Reg2.Ext.refl _⟩ | exact ⟨_, rfl, ⟨(), rfl, trivial⟩, Reg2.Ext.refl _⟩
 simp only [Act.put, xA, xB, xC, xD, xE, id]
 refine Reg2.pm (fun wz hI hF => ?_) (fun ZX => ?_) (by rfl)
 ·go_wp2_with (go_at_call 96; go_must (refine (hfr wz (hS.out.kept hI)).mono ?_); rintro e w' ⟨rfl, hb5⟩)
  first | exact ⟨_, rfl, ⟨(), rfl, trivial⟩, hb5⟩ | exact ⟨_, rfl, rfl, hb5⟩
 simp only [Act.put, xA, xB, xC, xD, xE, id]
 repeat (refine' Reg2.ak _ (by rfl) (fun wz => ?_) ?_; rotate_left; (go_simp; first | rfl | rw [if_neg (by omega)]); simp only [Act.put, xA, xB, xC, xD, xE, id])
 refine Reg2.aA ?_
 intro w4 HI4 _ dY
 clear dY
 dsimp only [List.drop]
 have bM := hS.out.kept HI4
 obtain ⟨w7, hw7, yS, R8⟩ := R7 bM.wk 0 0 0 P.now 0 0 fn 0 0
 have a24 := bM.wk.at 24 (.int .i64 R.rep.err) rfl
 have f24 := bM.wk.free 24
 have a25 := bM.wk.at 25 (.int .i64 R.rep.id) rfl
 have f25 := bM.wk.free 25
 have a26 := bM.wk.at 26 (.int .i64 R.rep.state) rfl
 have f26 := bM.wk.free 26
 have a27 := bM.wk.at 27 (.int .i64 R.rep.start) rfl
 have f27 := bM.wk.free 27
 have a28 := bM.wk.at 28 (.int .i64 R.rep.stop) rfl
 have f28 := bM.wk.free 28
 have a29 := bM.wk.at 29 (.int .i64 R.rep.plan) rfl
 have f29 := bM.wk.free 29
 have a30 := bM.wk.at 30 (.int .i64 R.rep.a) rfl
 have f30 := bM.wk.free 30
 have a31 := bM.wk.at 31 (.int .i64 R.rep.b) rfl
 have f31 := bM.wk.free 31
 have a32 := bM.wk.at 32 (.int .i64 R.rep.c) rfl
 have f32 := bM.wk.free 32
 have gM := bM.work yS R8
 have Lt := (WS.of_below HI4 : WS w w4 b c t d p v g v g).trans (WS.bD R8)
 go_wp2_with fail
 rw [← hw7]
 go_end0
 exact ⟨rfl, v, g, gM, Lt⟩
theorem vO (h : SW w b c t d p v g a m R (ah M)) (hI : aF M) (hE : Early M) (h1 : 1 ≤ M.dr.length) (hll : M.L.length ≤ 900) (ha : a ≤ 800) (hm : m ≤ 1000000) (hnx : aS M < 0 ∨ R.target < aS M) (tT : M.now ≤ R.target ∧ R.target ≤ 1099511627776) :
 Calls Tryz.prog 110 #[.pointer (some ⟨b, 0, none⟩), .pointer (some ⟨c, 0, none⟩)] w (az w b c t d p v g a (m + 1) .nilFunc { R with rep := ⟨0, 0, 0, R.target, 0, 0, ay M R.target 0, 0, 0⟩ } (ah { M with now := R.target })) := by
 have sZ := fq hI h1 hll
 have hne := Eu h.cw sZ (fun j hj => hI.mb.fin j hj) (fun j hj => hI.mb.aN j hj)
 rw [show (ah M).now = M.now from rfl, show (ah M).J = M.L from rfl, Jp hI hE] at hne
 obtain ⟨x, hx⟩ : ∃ x, x = if aS M < 0 then 1152921504606846976 else aS M := ⟨_, rfl⟩
 rw [← hx] at hne
 have hgt : R.target < x := by rw [hx]; split <;> omega
 have d1 : decide (x > R.target) = true := decide_eq_true hgt
 replace hx := Lib.hid hx
 replace hgt := Lib.hid hgt
 have MP := fun (W : World) (hW : SW W b c t d p v g a m R (ah M)) => zL hW.cw sZ ha hm R.target tT.1 tT.2
 have Lv := fun (W : World) (hW : SW W b c t d p v g a m R (ah M)) => hW.wk.at 23 (.int .i64 R.target) rfl
 generalize hrt : R.target = rt at *
 have hS := Lib.hid h
 clear h
 go_enter Tryz.func110, Tryz.ntmps110
 go_wp2_with fail
 go_at_call 137
 refine hne.mono ?_
 clear hne
 rintro e w1 ⟨rfl, hb1⟩
 have hS1 := Lib.hid (hS.out.kept hb1)
 have q1 := Lv w1 hS1.out
 replace Lv := Lib.hid Lv
 replace hrt := Lib.hid hrt
 go_wp2_with fail
 refine Reg2.ro w1 8 44 [.p 0, .p 1, .p 3, .m 7, .p 0, .p 16, .p 48, .m 112] [.pointer (some ⟨p, 0, none⟩), .int .i64 rt] (by kernel_rfl) (by kernel_rfl) rfl rfl ⟨rfl, rfl, rfl, Nat.le_refl _, fun _ _ => rfl⟩ ?_
 dsimp only [Reg2.gU]
 repeat ((first
  | (refine' Reg2.ak _ (by rfl) (fun wz => ?_) ?_; rotate_left; (go_simp; first | rfl | rw [if_neg (by omega)]))
  | (refine Reg2.au (by rfl) (fun wz hI hF => ?_) (fun _ => ?_)
     ·unfold Reg2.One
      have c0 := (hS1.out.cw.kept hI).c2
      have q0 := Lv.out wz (hS1.out.kept hI)
      go_wp2_with fail
      first | exact ⟨_, rfl, rfl, Reg2.Ext.refl _⟩ | exact ⟨_, rfl, ⟨(), rfl, trivial⟩, Reg2.Ext.refl _⟩)); simp only [Act.put, xA, xB, xC, xD, xE, id])
 refine Reg2.aA ?_
 intro w4 HI4 _ dY
 clear dY
 dsimp only [List.drop]
 have bM := hS1.out.kept HI4
 have XI := MP w4 bM
 go_wp2_with fail
 go_at_call 138
 refine XI.mono ?_
 clear XI
 rintro e w5 ⟨rfl, v5, g5, gJ, hS5⟩
 have R9 := bM.core gJ hS5
 have Di := (WS.of_below (hb1.trans (HI4.mono hb1.size)) : WS w w4 b c t d p v g v g).trans (WS.dD hS5)
 have hck := Ey R9 (by omega)
 rw [show ({ ah M with now := rt } : Pg).f = fun u => ay M u 0 from rfl, show ({ ah M with now := rt } : Pg).now = rt from rfl] at hck
 go_wp2_with fail
 go_at_call 82
 refine hck.mono ?_
 clear hck
 rintro e w6 ⟨rfl, v6, g6, eX, YR⟩
 have uI := Di.trans YR
 go_wp2_with fail
 go_ret
 have er := hrt.out
 clear hrt
 subst er
 exact ⟨rfl, v6, g6, eX, uI⟩
theorem zT (h : SW w b c t d p v g a m R (ah M)) (hI : aF M) (YS : Calm M) (hE : Early M) (h1 : 1 ≤ M.dr.length) (hll : M.L.length ≤ 900) (ha : a ≤ 800) (hm : m ≤ 1000000) (hnx : 0 ≤ aS M ∧ aS M ≤ R.target) (tT : R.target ≤ 1099511627776) :
 Calls Tryz.prog 110 #[.pointer (some ⟨b, 0, none⟩), .pointer (some ⟨c, 0, none⟩)] w (az w b c t d p v g a (m + 1) (fG 110) R (ah (dN { M with now := aS M }))) := by
 have sZ := fq hI h1 hll
 have hne := Eu h.cw sZ (fun j hj => hI.mb.fin j hj) (fun j hj => hI.mb.aN j hj)
 rw [show (ah M).now = M.now from rfl, show (ah M).J = M.L from rfl, Jp hI hE, if_neg (by omega)] at hne
 obtain ⟨hlt, Uo, _⟩ := hI.step YS hnx.1 (by omega)
 have hf0 : ∀ u, aS M ≤ u → 0 ≤ ay M u 0 ∧ ay M u 0 ≤ 64 := fun u hu => wL hI u (by omega)
 have hov := Uo.over
 have MP := fun (W : World) (hW : SW W b c t d p v g a m R (ah M)) => zL hW.cw sZ ha hm (aS M) (by show M.now ≤ _; omega) (by omega)
 have Sa := fun (W : World) (v1 : Value) (g1 : Nat) (hW : CW W c t d p v1 g1 a (m + 1) { ah ({ M with now := aS M } : Md) with f := fun u => ay M u 0 }) => Lj (M := { M with now := aS M }) (fun u => ay M u 0) hW Uo h1 hll hf0
 have xS := fun (W : World) (v1 : Value) (g1 : Nat) (hW : CW W c t d p v1 g1 a (m + 1) { ah ({ ({ M with now := aS M } : Md) with L := M.L.map (aU (aS M)) } : Md) with f := fun u => ay M u 0 }) => OG (M := { ({ M with now := aS M } : Md) with L := M.L.map (aU (aS M)) }) (fun u => ay M u 0) hW hov.1 hov.2 M.L.length (by
  have := mW (fun j => if dA (aS M) j = true then (1 : Int) else 0) 1 (M.L.map (aU (aS M))) (fun j _ => by split <;> omega)
  rw [List.length_map] at this
  have e : mK ({ ({ M with now := aS M } : Md) with L := M.L.map (aU (aS M)) } : Md) = ((M.L.map (aU (aS M))).map fun j => if dA (aS M) j = true then (1 : Int) else 0).sum := rfl
  rw [e]; omega) h1 (by rw [List.length_map]; exact hll) hf0
 have Sc : startGo M.L.length ({ ({ M with now := aS M } : Md) with L := M.L.map (aU (aS M)) } : Md) = dN { M with now := aS M } := rfl
 rw [Sc] at xS
 rw [show ({ M with now := aS M } : Md).now = aS M from rfl, show ({ M with now := aS M } : Md).L = M.L from rfl] at Sa
 rw [show ({ ({ M with now := aS M } : Md) with L := M.L.map (aU (aS M)) } : Md).now = aS M from rfl] at xS
 have hfin : Hid (∀ {W : World} {v1 : Value} {g1 : Nat}, CW W c t d p v1 g1 a (m + 1) { ah (dN { M with now := aS M }) with f := fun u => ay M u 0 } → CW W c t d p v1 g1 a (m + 1) (ah (dN { M with now := aS M }))) := fun {W v1 g1} hW => by
  have kG : (dN { M with now := aS M }).now = aS M := by rw [← Sc]; exact (vJ M.L.length hov.1.mb).2.2.1
  exact hW.VV (fun u => ay (dN { M with now := aS M }) u 0) fun u hu => (CP Uo u (by
   have hu2 : (dN { M with now := aS M }).now ≤ u := hu
   rw [kG] at hu2; exact hu2)).symm
 obtain ⟨H, hH⟩ : ∃ H, H = dN { M with now := aS M } := ⟨_, rfl⟩
 rw [← hH] at xS hfin ⊢
 have d1 : decide (aS M > R.target) = false := decide_eq_false (by omega)
 replace hH := Lib.hid hH
 generalize Oo : aS M = x at *
 replace Oo := Lib.hid Oo
 have Lv := fun (W : World) (hW : SW W b c t d p v g a m R (ah M)) => hW.wk.at 23 (.int .i64 R.target) rfl
 generalize R.target = rt at *
 have hS := Lib.hid h
 clear h hov Uo Sc
 go_enter Tryz.func110, Tryz.ntmps110
 go_wp2_with fail
 go_at_call 137
 refine hne.mono ?_
 clear hne
 rintro e w1 ⟨rfl, hb1⟩
 have hS1 := hS.out.kept hb1
 have q1 := Lv w1 hS1
 have c2 := hS1.cw.c2
 have ha1 := MP w1 hS1
 clear Lv MP
 go_wp2_with fail
 go_at_call 138
 refine ha1.mono ?_
 clear ha1
 rintro e w5 ⟨rfl, v5, g5, gJ, hS5⟩
 have R9 := hS1.core gJ hS5
 have Di := (WS.of_below hb1 : WS w w1 b c t d p v g v g).trans (WS.dD hS5)
 have XJ := Sa w5 v5 g5 gJ
 clear Sa q1 c2
 go_wp2_with fail
 go_at_call 139
 refine XJ.mono ?_
 clear XJ
 rintro e w6 ⟨rfl, v6, g6, I7, eX⟩
 have XK := R9.core I7 eX
 have uI := Di.trans (WS.dD eX)
 have hs6 := xS w6 v6 g6 I7
 clear xS
 go_wp2_with fail
 go_at_call 140
 refine hs6.mono ?_
 clear hs6
 rintro e w7 ⟨rfl, v7, g7, Ah, gM⟩
 have XL := XK.core (hfin.out Ah) gM
 have Lt := uI.trans (WS.dD gM)
 go_wp2_with fail
 go_ret
 exact ⟨rfl, v7, g7, XL, Lt⟩
end
end Go.Proofs.YtelnhablglomjaaGreat

namespace Go.Proofs.YtelnhablglomjaaGreat
open Go.RowKit Go.Lib
section
variable {M : Md}
def nS (j : Jb) (x : Int) : Int := if aj j = true then min (x + j.lim) j.aN else x + j.lim
theorem Sg {id : Int} (h : gN M.L id ≠ 0) : (getM M id).2 = false := by
 unfold gN at h
 unfold getM
 by_cases h1 : id < 1
 ·rw [if_pos (.inl h1)]
 ·rw [if_neg h1] at h
  by_cases h2 : (M.L.length : Int) < id
  ·rw [if_pos (.inr h2)]
  ·rw [if_neg h2] at h; exact absurd rfl h
theorem vB {id : Int} (h : gN M.L id = 0) : ∃ i : Nat, i < M.L.length ∧ id = (i : Int) + 1 ∧ bO M.L id = M.L.getD i default ∧ getM M id = (M.L.getD i default, true) := by
 unfold gN at h
 by_cases h1 : id < 1
 ·rw [if_pos h1] at h; cases h
 ·rw [if_neg h1] at h
  by_cases h2 : (M.L.length : Int) < id
  ·rw [if_pos h2] at h; cases h
  ·refine ⟨(id - 1).toNat, by omega, by omega, ?_, ?_⟩
   ·unfold bO
    have hq : (id - 1).toNat < M.L.length := by omega
    rw [if_neg h1, if_neg h2, getElem!_pos M.L _ hq]
    generalize (id - 1).toNat = q at *
    simp [List.getD, hq]
   ·unfold getM
    rw [if_neg (by omega)]
theorem Si (h : M.cl = true) (id x : Int) : fO M id x = false := by unfold fO; rw [if_pos (.inl h)]
theorem OT {id x : Int} (h : x < M.now) : fO M id x = false := by unfold fO; rw [if_pos (.inr (.inr (.inr (.inl h))))]
theorem Lx {id x : Int} (h : 1099511627776 < x) : fO M id x = false := by unfold fO; rw [if_pos (.inr (.inr (.inr (.inr (.inl h)))))]
theorem LA {id x : Int} (h : gN M.L id ≠ 0) : fO M id x = false := by unfold fO; rw [if_pos (.inr (.inl (Sg h)))]
theorem Jq {id x : Int} (h : gN M.L id = 0) (hs : (bO M.L id).st ≠ 1) : fO M id x = false := by
 obtain ⟨i, _, _, h3, h4⟩ := vB h
 unfold fO
 rw [if_pos]
 exact .inr (.inr (.inl (by rw [h4, ← h3]; exact hs)))
theorem LB {id x : Int} (h : gN M.L id = 0) (hp : aj (bO M.L id) = true) (hl : (bO M.L id).aN ≤ x) : fO M id x = false := by
 obtain ⟨i, _, _, h3, h4⟩ := vB h
 unfold fO
 rw [if_pos]
 exact .inr (.inr (.inr (.inr (.inr (by rw [h4, ← h3]; exact ⟨(bq.1 hp).2, hl⟩)))))
theorem Uq {x long width but : Int} (hx : 1 ≤ long) (h : ∀ t, x ≤ t → t < x + long → width ≤ ay M t but) : yf M x long width but = true := by
 unfold yf
 rw [Bool.and_eq_true, List.all_eq_true]
 refine ⟨decide_eq_true (h x (Int.le_refl _) (by omega)), fun t _ => ?_⟩
 rw [Bool.not_eq_true', Bool.and_eq_false_iff, Bool.and_eq_false_iff]
 by_cases h1 : x < t
 ·by_cases h2 : t < x + long
  ·refine .inr (decide_eq_false ?_)
   have := h t (by omega) h2
   omega
  ·exact .inl (.inr (decide_eq_false h2))
 ·exact .inl (.inl (decide_eq_false h1))
theorem LC (hI : aF M) {id x m : Int} (hcl : M.cl = false) (h1 : M.now ≤ x) (h2 : x ≤ 1099511627776) (h : gN M.L id = 0) (hs : (bO M.L id).st = 1) (hl : aj (bO M.L id) = true → x < (bO M.L id).aN)
 (hm : BL (fun u => ay M u 0) x (nS (bO M.L id) x) m) : fO M id x = decide ((bO M.L id).wid ≤ m) := by
 obtain ⟨i, hi, hid, h3, h4⟩ := vB h
 have hmem := aY hi
 rw [h3] at hs hl hm ⊢
 have hone := hI.one _ hmem
 have XM := hI.ids i hi
 have e : fO M id x = yf M x (M.L.getD i default).lim (M.L.getD i default).wid ((i : Int) + 1) := by
  unfold fO
  rw [h4]
  show (if M.cl = true ∨ true = false ∨ _ then _ else _) = _
  rw [if_neg, XM]
  have h5 := hs
  rintro (a1 | a1 | a1 | a1 | a1 | a1)
  ·rw [hcl] at a1; cases a1
  ·cases a1
  ·exact a1 hs
  ·omega
  ·omega
  ·have := hl (bq.2 ⟨h5, a1.1⟩)
   have h6 : (M.L.getD i default).aN ≤ x := a1.2
   omega
 rw [e]
 have zn := mV hi hI.ids
 have hto : x < nS (M.L.getD i default) x := by
  unfold nS
  split
  ·rename_i hp; have := hl hp; omega
  ·omega
 have Qm := hI.mb.wid _ hmem
 have hcon : ∀ u, x ≤ u → u < x + (M.L.getD i default).lim → (u < nS (M.L.getD i default) x → dO u 0 (M.L.getD i default) = 0) ∧ (nS (M.L.getD i default) x ≤ u → dO u 0 (M.L.getD i default) = (M.L.getD i default).wid) := by
  intro u hu1 hu2
  unfold nS
  cases hp : aj (M.L.getD i default) with
  | false =>
    refine ⟨fun _ => dP hp, fun h6 => ?_⟩
    rw [if_neg (by decide)] at h6
    omega
  | true =>
    have h7 := hl hp
    rw [if_pos rfl, mR hp (by omega)]
    refine ⟨fun h6 => if_neg (by omega), fun h6 => if_pos (by omega)⟩
 have hsub : nS (M.L.getD i default) x ≤ x + (M.L.getD i default).lim := by unfold nS; split <;> omega
 rw [Bool.eq_iff_iff, decide_eq_true_eq]
 constructor
 ·intro hr
  have hall := ym hI.mb.now.1 h1 hr
  rcases hm.one with e1 | ⟨u, u1, u2, u3⟩
  ·omega
  ·have h6 := hall u u1 (by omega)
   rw [zn, (hcon u u1 (by omega)).1 u2] at h6
   have h7 : ay M u 0 = m := u3
   omega
 ·intro hw
  refine Uq (by omega) fun u ht1 ht2 => ?_
  rw [zn]
  rcases Int.lt_or_le u (nS (M.L.getD i default) x) with h6 | h6
  ·have h7 : m ≤ ay M u 0 := hm.all u ht1 h6
   rw [(hcon u ht1 ht2).1 h6]
   omega
  ·have h7 := hI.free u (by omega)
   rw [(hcon u ht1 ht2).2 h6]
   omega
end
end Go.Proofs.YtelnhablglomjaaGreat

namespace Go.Proofs.YtelnhablglomjaaGreat
open Go.RowKit Go.Lib Go.Sort
def iL (w0 : World) (y : Jb) (vs : List Value) (W : World) : Prop := Below w0.heap.size w0 W ∧ (match vs with
 | [] => True
 | [u] => ∃ k, u = .pointer (some ⟨k, 0, none⟩) ∧ w0.heap.size ≤ k ∧ W.heap[k]? = some (.cells (ai iD).toArray 92 (0, 0))
 | u :: _ :: _ => ∃ k, u = .pointer (some ⟨k, 0, none⟩) ∧ w0.heap.size ≤ k ∧ W.heap[k]? = some (.cells (ai y).toArray 92 (0, 0)))
theorem iL.ext {w0 a b : World} {y : Jb} {vs : List Value} (h : Below a.heap.size a b) (hs : iL w0 y vs a) : iL w0 y vs b := by
 obtain ⟨h1, h2⟩ := hs
 refine ⟨h1.trans (h.mono h1.size), ?_⟩
 match vs, h2 with
 | [], _ => trivial
 | [u], ⟨k, e, hk, hz⟩ => exact ⟨k, e, hk, (h.block k (aD hz)).trans hz⟩
 | u :: _ :: _, ⟨k, e, hk, hz⟩ => exact ⟨k, e, hk, (h.block k (aD hz)).trans hz⟩
theorem iL.alloc {w0 W : World} {y : Jb} (hs : iL w0 y [] W) : iL w0 y ([] ++ [.pointer (some ⟨W.heap.size, 0, none⟩)]) (W.alloc (.cells #[.int .i64 0, .int .i64 0, .int .i64 0, .int .i64 0, .int .i64 0, .int .i64 0, .int .i64 0, .int .i64 0, .int .i64 0, .int .u64 0] 92)) :=
 ⟨hs.1.alloc hs.1.size _, _, rfl, hs.1.size, heap_alloc_new W _⟩
theorem iL.zero {w0 W : World} {y : Jb} {k : Nat} (hs : iL w0 y [.pointer (some ⟨k, 0, none⟩)] W) : W.heap[k]? = some (.cells (ai iD).toArray 92 (0, 0)) ∧ w0.heap.size ≤ k := by
 obtain ⟨_, k', e, h1, h2⟩ := hs
 injection e with e
 injection e with e
 injection e with e
 subst e
 exact ⟨h2, h1⟩
theorem iL.store {w0 W : World} {y : Jb} {k : Nat} (hs : iL w0 y [.pointer (some ⟨k, 0, none⟩)] W) : iL w0 y ([.pointer (some ⟨k, 0, none⟩)] ++ [undef]) (W.setRow k (ai y).toArray) := by
 obtain ⟨hz, hk⟩ := hs.zero
 exact ⟨rA hs.1 hk _, k, rfl, hk, xO hz _⟩
theorem iL.full {w0 W : World} {y : Jb} {k : Nat} {u : Value} (hs : iL w0 y [.pointer (some ⟨k, 0, none⟩), u] W) : W.heap[k]? = some (.cells (ai y).toArray 92 (0, 0)) ∧ w0.heap.size ≤ k := by
 obtain ⟨_, k', e, h1, h2⟩ := hs
 injection e with e
 injection e with e
 injection e with e
 subst e
 exact ⟨h2, h1⟩
section
variable {w : World} {b c t d p g a : Nat} {v : Value} {m : Int} {P : Pg} {M : Md} {R : Wk}
theorem LF (h : CW w c t d p v g a m P) (hk : PK P) (ha : a ≤ 1000) (lo hi : Int) (h0 : P.now ≤ lo) (hh : -9223372036854775808 ≤ hi ∧ hi ≤ 9223372036854775807) : Calls Tryz.prog 113 #[.pointer (some ⟨p, 0, none⟩), .int .i64 lo, .int .i64 hi] w fun e w' => ∃ r : Int, e = .returned (.int .i64 r) ∧ BL P.f lo hi r ∧ Below w.heap.size w w' := by
 obtain ⟨S, aK, hp, hC, hl, _⟩ := h.lL
 have := Db lo hi hh hC.sm hk.now.1 (by omega) hp
 rwa [Int.max_eq_left h0] at this
theorem Gv (h : CW w c t d p v g a m (ah M)) (hI : aF M) (h1 : 1 ≤ M.dr.length) (hll : M.L.length ≤ 900) (ha : a ≤ 800) (xi xt : Int) (hxt : -9223372036854775808 ≤ xt ∧ xt ≤ 9223372036854775807) (hc : M.cl = true) :
 Calls Tryz.prog 90 #[.pointer (some ⟨c, 0, none⟩), .agg #[.int .i64 xi, .int .i64 xt]] w fun e w' => e = .returned (.bool (fO M xi xt)) ∧ Below w.heap.size w w' := by
 have sZ := Lib.hid (fq hI h1 hll)
 have zJ := bJ
 have zS := kU
 obtain ⟨k, hk1⟩ : ∃ k, k = 10 := ⟨_, rfl⟩
 obtain ⟨k3, hk3⟩ : ∃ k, k = 3 := ⟨_, rfl⟩
 rw [← hk1] at zJ
 rw [← hk3] at zS
 have hk0 : ¬ k = 0 := by omega
 have zN : ¬ k3 = 0 := by omega
 replace hk1 := Lib.hid hk1
 replace hk3 := Lib.hid hk3
 obtain ⟨wA, aJ⟩ : ∃ wA, wA = w.alloc (.cells #[.int .i64 xi, .int .i64 xt] 77) := ⟨_, rfl⟩
 have bS : Hid (Below w.heap.size w wA) := by show Below _ _ _; rw [aJ]; exact (Below.refl _ _).alloc (Nat.le_refl _) _
 have oF : Hid (wA.heap[w.heap.size]? = some (.cells #[.int .i64 xi, .int .i64 xt] 77 (0, 0))) := by show _ = _; rw [aJ]; exact heap_alloc_new w _
 have iY := Lib.hid (h.kept bS.out)
 have hcl := fun (W : World) (hW : Below wA.heap.size wA W) => jA (iY.out.kept hW)
 rw [show (ah M).cl = M.cl from rfl] at hcl
 have hnw := fun (W : World) (hW : Below wA.heap.size wA W) => gK (iY.out.kept hW)
 rw [show (ah M).now = M.now from rfl] at hnw
 rw [hc] at hcl
 have hres := Si hc xi xt
 rw [hres]
 replace hres := Lib.hid hres
 replace hc := Lib.hid hc
 clear h
 go_enter Tryz.func90, Tryz.ntmps90
 go_wp2_with fail
 rw [← aJ]
 replace aJ := Lib.hid aJ
 refine Reg2.ro wA 10 76 [.p 0, .m 1, .p 3, .p 7, .m 15, .p 7, .p 39, .p 103, .m 231, .m 487] [.bool true, .int .i64 xt, .pointer (some ⟨p, 0, none⟩), .int .i64 M.now] (by kernel_rfl) (by kernel_rfl) rfl rfl ⟨rfl, rfl, rfl, Nat.le_refl _, fun _ _ => rfl⟩ ?_
 dsimp only [Reg2.gU]
 repeat (refine' Reg2.ak _ (by rfl) (fun wz => ?_) ?_; rotate_left; (go_simp; first | rfl | rw [if_neg (by omega)]); simp only [Act.put, xA, xB, xC, xD, xE, id])
 refine Reg2.pm (fun wz hI hF => ?_) (fun r1 => ?_) (by rfl)
 ·go_wp2_with (go_at_call 68; go_must (refine (hcl wz hI).mono ?_); rintro e w' ⟨rfl, rfl⟩)
  first | exact ⟨_, rfl, rfl, Reg2.Ext.refl _⟩ | exact ⟨_, rfl, ⟨(), rfl, trivial⟩, Reg2.Ext.refl _⟩
 simp only [Act.put, xA, xB, xC, xD, xE, id]
 repeat ((first
  | (refine' Reg2.ak _ (by rfl) (fun wz => ?_) ?_; rotate_left; (go_simp; first | rfl | rw [if_neg (by omega)]))
  | refine Reg2.uV (by rfl) ?_
  | refine Reg2.l8 (by rfl) ?_); simp only [Act.put, xA, xB, xC, xD, xE, id])
 refine Reg2.aA ?_
 intro w4 HI4 _ dY
 clear dY
 dsimp only [List.drop]
 go_wp2_with fail
 go_ret
 exact ⟨rfl, bS.out.trans (HI4.mono bS.out.size)⟩
theorem LG (h : CW w c t d p v g a m (ah M)) (hI : aF M) (h1 : 1 ≤ M.dr.length) (hll : M.L.length ≤ 900) (ha : a ≤ 800) (xi xt : Int) (hxt : -9223372036854775808 ≤ xt ∧ xt ≤ 9223372036854775807) (hc : M.cl = false) :
 Calls Tryz.prog 90 #[.pointer (some ⟨c, 0, none⟩), .agg #[.int .i64 xi, .int .i64 xt]] w fun e w' => e = .returned (.bool (fO M xi xt)) ∧ Below w.heap.size w w' := by
 have sZ := Lib.hid (fq hI h1 hll)
 have zJ := bJ
 have zS := kU
 obtain ⟨k, hk1⟩ : ∃ k, k = 10 := ⟨_, rfl⟩
 obtain ⟨k3, hk3⟩ : ∃ k, k = 3 := ⟨_, rfl⟩
 rw [← hk1] at zJ
 rw [← hk3] at zS
 have hk0 : ¬ k = 0 := by omega
 have zN : ¬ k3 = 0 := by omega
 replace hk1 := Lib.hid hk1
 replace hk3 := Lib.hid hk3
 obtain ⟨wA, aJ⟩ : ∃ wA, wA = w.alloc (.cells #[.int .i64 xi, .int .i64 xt] 77) := ⟨_, rfl⟩
 have bS : Hid (Below w.heap.size w wA) := by show Below _ _ _; rw [aJ]; exact (Below.refl _ _).alloc (Nat.le_refl _) _
 have oF : Hid (wA.heap[w.heap.size]? = some (.cells #[.int .i64 xi, .int .i64 xt] 77 (0, 0))) := by show _ = _; rw [aJ]; exact heap_alloc_new w _
 have iY := Lib.hid (h.kept bS.out)
 have hcl := fun (W : World) (hW : Below wA.heap.size wA W) => jA (iY.out.kept hW)
 rw [show (ah M).cl = M.cl from rfl] at hcl
 have hnw := fun (W : World) (hW : Below wA.heap.size wA W) => gK (iY.out.kept hW)
 rw [show (ah M).now = M.now from rfl] at hnw
 rw [hc] at hcl
 have his := fun (W : World) => Ul xt W hxt
 have hget := Lib.hid (fun (W : World) (hW : Below wA.heap.size wA W) => gY (iY.out.kept hW).eU xi)
 obtain ⟨rb, hrb⟩ : ∃ rb, rb = fO M xi xt := ⟨_, rfl⟩
 rw [← hrb]
 replace hrb := Lib.hid hrb
 replace hc := Lib.hid hc
 clear h
 go_enter Tryz.func90, Tryz.ntmps90
 go_wp2_with fail
 rw [← aJ]
 replace aJ := Lib.hid aJ
 refine Reg2.ro wA 10 76 [.p 0, .m 1, .p 3, .p 7, .m 15, .p 7, .p 39, .p 103, .m 231, .m 487] [.bool false, .int .i64 xt, .pointer (some ⟨p, 0, none⟩), .int .i64 M.now] (by kernel_rfl) (by kernel_rfl) rfl rfl ⟨rfl, rfl, rfl, Nat.le_refl _, fun _ _ => rfl⟩ ?_
 dsimp only [Reg2.gU]
 repeat (refine' Reg2.ak _ (by rfl) (fun wz => ?_) ?_; rotate_left; (go_simp; first | rfl | rw [if_neg (by omega)]); simp only [Act.put, xA, xB, xC, xD, xE, id])
 refine Reg2.pm (fun wz hI hF => ?_) (fun r1 => ?_) (by rfl)
 ·go_wp2_with (go_at_call 68; go_must (refine (hcl wz hI).mono ?_); rintro e w' ⟨rfl, rfl⟩)
  first | exact ⟨_, rfl, rfl, Reg2.Ext.refl _⟩ | exact ⟨_, rfl, ⟨(), rfl, trivial⟩, Reg2.Ext.refl _⟩
 simp only [Act.put, xA, xB, xC, xD, xE, id]
 repeat ((first
  | (refine' Reg2.ak _ (by rfl) (fun wz => ?_) ?_; rotate_left; (go_simp; first | rfl | rw [if_neg (by omega)]))
  | (refine Reg2.au (by rfl) (fun wz hI hF => ?_) (fun _ => ?_)
     ·unfold Reg2.One
      have q0 : wz.cell? ⟨w.heap.size, 1, none⟩ = some (.int .i64 xt) := by simp [World.cell?, (hI.block _ (aD oF.out)).trans oF.out]
      have c0 := (iY.out.kept hI).c2
      go_wp2_with fail
      first | exact ⟨_, rfl, rfl, Reg2.Ext.refl _⟩ | exact ⟨_, rfl, ⟨(), rfl, trivial⟩, Reg2.Ext.refl _⟩)); simp only [Act.put, xA, xB, xC, xD, xE, id])
 refine Reg2.pm (fun wz hI hF => ?_) (fun r9 => ?_) (by rfl)
 ·go_wp2_with (go_at_call 95; go_must (refine (hnw wz hI).mono ?_); rintro e w' ⟨rfl, rfl⟩)
  first | exact ⟨_, rfl, rfl, Reg2.Ext.refl _⟩ | exact ⟨_, rfl, ⟨(), rfl, trivial⟩, Reg2.Ext.refl _⟩
 simp only [Act.put, xA, xB, xC, xD, xE, id]
 refine Reg2.aA ?_
 intro w4 HI4 _ dY
 clear dY
 dsimp only [List.drop]
 have hb4 := bS.out.trans (HI4.mono bS.out.size)
 have Ag : w4.heap[w.heap.size]? = some (.cells #[.int .i64 xi, .int .i64 xt] 77 (0, 0)) := (HI4.block _ (aD oF.out)).trans oF.out
 have x1 : w4.cell? ⟨w.heap.size, 1, none⟩ = some (.int .i64 xt) := by simp [World.cell?, Ag]
 by_cases hlow : xt < M.now
 ·have d1 : decide (xt < M.now) = true := decide_eq_true hlow
  have hfin : Hid (rb = false) := hrb.out.trans (OT hlow)
  replace hlow := Lib.hid hlow
  obtain rfl := hfin.out
  go_wp2_with fail
  go_ret
  exact ⟨rfl, hb4⟩
 have d1 : decide (xt < M.now) = false := decide_eq_false hlow
 by_cases hhi : 1099511627776 < xt
 ·have d2 : decide (0 ≤ xt ∧ xt ≤ 1099511627776) = false := decide_eq_false (by omega)
  rw [d2] at his
  have hfin : Hid (rb = false) := hrb.out.trans (Lx hhi)
  replace hhi := Lib.hid hhi
  obtain rfl := hfin.out
  go_wp2_with (go_at_call 111; go_must (refine (his _).mono ?_); rintro e w' ⟨rfl, rfl⟩)
  go_ret
  exact ⟨rfl, hb4⟩
 have d2 : decide (0 ≤ xt ∧ xt ≤ 1099511627776) = true := decide_eq_true (by have := hI.mb.now; omega)
 rw [d2] at his
 have x0 : w4.cell? ⟨w.heap.size, 0, none⟩ = some (.int .i64 xi) := by simp [World.cell?, Ag]
 have c0 := (iY.out.kept HI4).c0
 obtain ⟨y, hy⟩ : ∃ y, y = bO M.L xi := ⟨_, rfl⟩
 obtain ⟨e0, he0⟩ : ∃ e0, e0 = gN M.L xi := ⟨_, rfl⟩
 have hgo : Hid (∀ W, Below wA.heap.size wA W → Calls Tryz.prog 77 #[.pointer (some ⟨t, 0, none⟩), .int .i64 xi] W fun e w' => e = .returned (.tuple #[.agg (ai y).toArray, .int .i64 e0]) ∧ Gr W w') := fun W hW => by
  have := hget.out W hW
  unfold iU at this
  rw [show (ah M).J = M.L from rfl, ← hy, ← he0] at this
  exact this
 have lY := ax y
 rw [← hk1.out] at lY
 have y2 : (ai y)[2]? = some (.int .i64 y.wid) := rfl
 have y3 : (ai y)[3]? = some (.int .i64 y.lim) := rfl
 have y5 : (ai y)[5]? = some (.int .i64 y.st) := rfl
 have hpy : Hid (∀ W, y.aN ≤ 1099511627776 → 0 ≤ y.lim ∧ y.lim ≤ 1048576 → Calls Tryz.prog 112 #[.agg (ai y).toArray] W fun e w' => e = .returned (.tuple #[.agg (aM y).toArray, .bool (aj y)]) ∧ Below W.heap.size W w') := fun W a1 a2 => lM y a1 a2
 replace hy := Lib.hid hy
 replace he0 := Lib.hid he0
 have MQ := Lib.hid Ag
 have p9 := Lib.hid (iY.out.kept HI4)
 clear Ag hget x0 c0
 go_wp2_with (go_at_call 111; go_must (refine (his _).mono ?_); rintro e w' ⟨rfl, rfl⟩)
 go_wp2_with fail
 refine Reg2.rJ 12 76 [[],[af],[af,af],[af,af,af],[ae,ae,ae,ae],[ae,ae,ae,ae,af],[af,af,af,af,af,af],[af,af,af,af,af,af,af],[af,af,af,af,af,af,af,af],[af,af,af,af,af,af,af,af,ae],[ae,ae,ae,ae,ae,ae,ae,ae,ae,ae],[af,af,af,af,af,af,af,af,af,ae,af]] [0, 0, 0, 1, 0, 1, 1, 0, 0, 0, 3, 3]
  [.pure, .pure, .pure, .mU (.pointer (some ⟨t, 0, none⟩)), .pure, .mU (.int .i64 xi), .mU (.tuple #[.agg (ai y).toArray, .int .i64 e0]), .pure, .pure, .pure, .major Nat 0 (fun k => .pointer (some ⟨k, 0, none⟩)), .major Unit () (fun _ => undef)]
  (fun W => Below w4.heap.size w4 W) (iL w4 y) (fun a b => Below w4.heap.size a b) (by kernel_rfl) (by kernel_rfl) rfl rfl (fun vs a b h hs => iL.ext h hs) ?_ ?_ ?_ ?_ ?_ ?_ ?_
 ·intro a b he hb; exact hb.trans (Below.mono he hb.size)
 ·intro a b he hb; exact hb.trans he
 ·exact ⟨trivial, trivial, trivial, ⟨fun _ _ _ _ _ => trivial, fun _ _ _ _ _ => trivial⟩, trivial, ⟨fun _ _ _ _ _ => trivial, fun _ _ _ _ _ => trivial⟩, ⟨fun _ _ _ _ _ => trivial, fun _ _ _ _ _ => trivial⟩, trivial, trivial, trivial, trivial, trivial, trivial⟩
 ·exact ⟨(fun h => nomatch h), (fun h => nomatch h), (fun h => nomatch h), (fun h => nomatch h), (fun h => nomatch h), (fun h => nomatch h), (fun h => nomatch h), (fun h => nomatch h), (fun h => nomatch h), (fun h => nomatch h), (fun h => nomatch h), (fun _ _ => rfl), trivial⟩
 ·exact ⟨rfl, rfl, rfl, Nat.le_refl _, fun _ _ => rfl⟩
 ·exact ⟨⟨rfl, rfl, rfl, Nat.le_refl _, fun _ _ => rfl⟩, trivial⟩
 dsimp only [Reg2.mk, List.zip, List.zipWith, List.take]
 repeat ((first
  | (refine' Reg2.ak _ (by rfl) (fun wz => ?_) ?_; rotate_left; (go_simp; first | rfl | rw [if_neg (by omega)]))
  | (refine Reg2.au (by rfl) (fun wz hI hF => ?_) (fun _ => ?_)
     ·unfold Reg2.One
      have c0 := (p9.out.kept hI).c0
      have q0 : wz.cell? ⟨w.heap.size, 0, none⟩ = some (.int .i64 xi) := by simp [World.cell?, (hI.block _ (aD MQ.out)).trans MQ.out]
      go_wp2_with fail
      first | exact ⟨_, rfl, rfl, Reg2.Ext.refl _⟩ | exact ⟨_, rfl, ⟨(), rfl, trivial⟩, Reg2.Ext.refl _⟩)); simp only [Act.put, xA, xB, xC, xD, xE, id])
 refine Reg2.pm (fun wz hI hF => ?_) (fun r6 => ?_) (by rfl)
 ·go_wp2_with (go_at_call 77; go_must (refine (hgo.out wz (HI4.trans (hI.mono HI4.size))).mono ?_); rintro e w' ⟨rfl, hg5⟩; have hb5 := hg5.below)
  first | exact ⟨_, rfl, ⟨(), rfl, trivial⟩, hb5⟩ | exact ⟨_, rfl, rfl, hb5⟩
 simp only [Act.put, xA, xB, xC, xD, xE, id]
 repeat (refine' Reg2.ak _ (by rfl) (fun wz => ?_) ?_; rotate_left; (go_simp; first | rfl | rw [if_neg (by omega)]); simp only [Act.put, xA, xB, xC, xD, xE, id])
 refine Reg2.pj (fun wz hI hS hF => ?_) (fun Bz => ?_) (by rfl)
 ·go_wp2_with fail
  exact ⟨_, rfl, ⟨⟨_, rfl⟩, iL.alloc hS⟩, (Below.refl _ _).alloc hI.size _⟩
 simp only [Act.put, xA, xB, xC, xD, xE, id]
 refine Reg2.pj (fun wz hI hS hF => ?_) (fun VS => ?_) (by rfl)
 ·obtain ⟨hz, hge⟩ := iL.zero hS
  have Aj := oV (x := y) hz
  have hfin := iL.store hS
  have hbw : Below w4.heap.size wz (wz.setRow Bz (ai y).toArray) := rA (Below.refl _ _) hge _
  generalize ai y = cY at *
  go_wp2_with fail
  exact ⟨_, rfl, ⟨⟨(), rfl⟩, hfin⟩, hbw⟩
 simp only [Act.put, xA, xB, xC, xD, xE, id]
 refine Reg2.aA ?_
 intro w7 kF tq kV
 clear kV
 dsimp only [List.drop]
 obtain ⟨Ai, Zm⟩ := iL.full tq
 have kD := hb4.trans (kF.mono hb4.size)
 have VY := (kF.block _ (aD MQ.out)).trans MQ.out
 have x1 : w7.cell? ⟨w.heap.size, 1, none⟩ = some (.int .i64 xt) := by simp [World.cell?, VY]
 have b5 : w7.cell? ⟨Bz, 5, none⟩ = some (.int .i64 y.st) := by simp [World.cell?, Ai, y5]
 have b3 : w7.cell? ⟨Bz, 3, none⟩ = some (.int .i64 y.lim) := by simp [World.cell?, Ai, y3]
 have Um := fu Ai lY
 clear tq
 by_cases hne : e0 ≠ 0
 ·have d3 : (e0 != 0) = true := by simp [hne]
  have hfin : Hid (rb = false) := hrb.out.trans (LA (by rw [← he0.out]; exact hne))
  obtain rfl := hfin.out
  replace hne := Lib.hid hne
  go_wp2_with fail
  go_ret
  exact ⟨rfl, kD⟩
 have he1 : e0 = 0 := by omega
 subst he1
 clear hne
 by_cases hst : y.st ≠ 1
 ·have d4 : (y.st != 1) = true := by simp [hst]
  have hfin : Hid (rb = false) := hrb.out.trans (Jq he0.out.symm (by rw [← hy.out]; exact hst))
  obtain rfl := hfin.out
  replace hst := Lib.hid hst
  go_wp2_with fail
  go_ret
  exact ⟨rfl, kD⟩
 have hs1 : y.st = 1 := by omega
 have d4 : (y.st != 1) = false := by simp [hs1]
 clear hst
 have hym : y ∈ M.L := by
  obtain ⟨i, hi, _, h3, _⟩ := vB he0.out.symm
  rw [hy.out, h3]
  exact aY hi
 have XN := hI.mb.lim y hym
 have UW := hI.mb.aN y hym
 have hpl := hpy.out w7 UW.2 XN
 have lS : (aM y).length = 3 := by unfold aM; split <;> rfl
 have oS : ∀ u ∈ aM y, u.oneCell' = true := by unfold aM; split <;> (intro u hu; simp at hu; rcases hu with rfl | rfl | rfl <;> rfl)
 have SS : Hid (∀ W : World, Sem.run Tryz.prog (storeCells ⟨W.heap.size, 0, none⟩ (aM y) 0) (W.alloc (.cells #[.int .i64 0, .int .i64 0, .int .i64 0] 148)) = .ok () (W.alloc (.cells (aM y).toArray 148))) := fun W => dE W W.heap.size (aM y) [.int .i64 0, .int .i64 0, .int .i64 0] 148 rfl lS oS
 rw [← hk3.out] at lS
 have YT := hI.mb.now
 have YU : IntKind.i64.wrap (xt + y.lim) = xt + y.lim := by rw [IntKind.wrap_i64]; omega
 have hro := fun (mm : Int) (hl : aj y = true → xt < y.aN) (hB : BL (fun u => ay M u 0) xt (nS y xt) mm) => LC (id := xi) hI hc.out (by omega) (by omega) he0.out.symm (by rw [← hy.out]; exact hs1) (by rw [← hy.out]; exact hl) (by rw [← hy.out]; exact hB)
 rw [← hrb.out, ← hy.out] at hro
 have UX := Lib.hid (fun (W : World) (hW : Below wA.heap.size wA W) (hi : Int) (hh : -9223372036854775808 ≤ hi ∧ hi ≤ 9223372036854775807) => LF (iY.out.kept hW) sZ.out (by omega) xt hi (by show M.now ≤ xt; omega) hh)
 have Qm := hI.mb.wid y hym
 have hs0 : (aM y)[0]? = some (.int .i64 (if aj y = true then y.aN else 0)) := by unfold aM; split <;> rfl
 obtain ⟨yw, LH⟩ : ∃ yw, yw = y.wid := ⟨_, rfl⟩
 rw [← LH] at y2 hro
 obtain ⟨yl, hyl⟩ : ∃ yl, yl = y.lim := ⟨_, rfl⟩
 rw [← hyl] at b3 YU XN
 obtain ⟨yp, hyp⟩ : ∃ yp, yp = y.aN := ⟨_, rfl⟩
 rw [← hyp] at hro hs0 UW
 have hft : Hid (nS y xt = if aj y = true then min (xt + yl) yp else xt + yl) := by show _ = _; unfold nS; rw [hyl, hyp]
 replace LH := Lib.hid LH
 replace hyl := Lib.hid hyl
 replace hyp := Lib.hid hyp
 replace hro := Lib.hid hro
 replace hs1 := Lib.hid hs1
 have Jr := Lib.hid Ai
 have MR := Lib.hid VY
 clear Ai VY
 generalize lT : aM y = cS at *
 replace lT := Lib.hid lT
 generalize Ad : ai y = cY at *
 replace Ad := Lib.hid Ad
 have hrs := aD Jr.out
 cases hP : aj y with
 | false =>
   rw [hP] at hpl
   replace hP := Lib.hid hP
   go_wp2_with fail
   go_at_call 112
   refine hpl.mono ?_
   clear hpl Um b5 b3 x1
   rintro e w8 ⟨rfl, pY⟩
   have VZ := SS.out w8
   obtain ⟨w9, yA⟩ : ∃ w9, w9 = w8.alloc (.cells cS.toArray 148) := ⟨_, rfl⟩
   rw [← yA] at VZ
   have Gw : Below w7.heap.size w7 w9 := by rw [yA]; exact pY.alloc pY.size _
   have Sj := Lib.hid ((Gw.block _ (aD Jr.out)).trans Jr.out)
   have OU := Lib.hid ((Gw.block _ (aD MR.out)).trans MR.out)
   have LJ := (HI4.trans (kF.mono HI4.size)).trans (Gw.mono (HI4.trans (kF.mono HI4.size)).size)
   have Ez := kD.trans (Gw.mono kD.size)
   have Jj := Lib.hid (iY.out.kept LJ)
   replace yA := Lib.hid yA
   go_wp2_with fail
   refine Reg2.rd w9 10 76 [[],[af],[af,af],[af,af,af],[ae,ae,ae,ae],[ae,ae,ae,ae,af],[ae,ae,ae,ae,ae,ae],[af,af,af,af,af,af,af],[ae,ae,ae,ae,ae,ae,ae,ae],[ae,ae,ae,ae,ae,ae,ae,ae,af]] [0, 0, 0, 1, 0, 1, 0, 1, 0, 1] [.pure, .pure, .pure, .mU (.pointer (some ⟨p, 0, none⟩)), .pure, .mU (.int .i64 xt), .pure, .minor Int 0 (fun x => .int .i64 x) (fun x _ => BL (fun u => ay M u 0) xt (xt + yl) x), .pure, .mU (.int .i64 yw)] (by kernel_rfl) (by kernel_rfl) rfl rfl ⟨trivial, trivial, trivial, Reg2.tt, trivial, Reg2.tt, trivial, ⟨fun _ _ _ _ h => h, fun _ _ _ _ h => h⟩, trivial, Reg2.tt, trivial⟩ ⟨rfl, rfl, rfl, Nat.le_refl _, fun _ _ => rfl⟩ ?_
   dsimp only [Reg2.mk, List.zip, List.zipWith, List.take]
   repeat ((first
    | (refine' Reg2.ak _ (by rfl) (fun wz => ?_) ?_; rotate_left; (go_simp; first | rfl | rw [if_neg (by omega)]))
    | (refine Reg2.au (by rfl) (fun wz hI hF => ?_) (fun _ => ?_)
       ·unfold Reg2.One
        have c0 := (Jj.out.kept hI).c2
        have q0 : wz.cell? ⟨w.heap.size, 1, none⟩ = some (.int .i64 xt) := by simp [World.cell?, (hI.block _ (aD OU.out)).trans OU.out]
        go_wp2_with fail
        first | exact ⟨_, rfl, rfl, Reg2.Ext.refl _⟩ | exact ⟨_, rfl, ⟨(), rfl, trivial⟩, Reg2.Ext.refl _⟩)); simp only [Act.put, xA, xB, xC, xD, xE, id])
   refine Reg2.pm (fun wz hI hF => ?_) (fun r7 => ?_) (by rfl)
   ·go_wp2_with (go_at_call 113; go_must (refine (UX.out wz (LJ.trans (hI.mono LJ.size)) (xt + yl) (by omega)).mono ?_); rintro e w' ⟨mm, rfl, hB, hb5⟩)
    exact ⟨_, rfl, ⟨mm, rfl, hB⟩, hb5⟩
   simp only [Act.put, xA, xB, xC, xD, xE, id]
   repeat ((first
    | (refine' Reg2.ak _ (by rfl) (fun wz => ?_) ?_; rotate_left; (go_simp; first | rfl | rw [if_neg (by omega)]))
    | (refine Reg2.au (by rfl) (fun wz hI hF => ?_) (fun _ => ?_)
       ·unfold Reg2.One
        have q0 : wz.cell? ⟨Bz, 2, none⟩ = some (.int .i64 yw) := by simp [World.cell?, (hI.block _ (aD Sj.out)).trans Sj.out, y2]
        go_wp2_with fail
        first | exact ⟨_, rfl, rfl, Reg2.Ext.refl _⟩ | exact ⟨_, rfl, ⟨(), rfl, trivial⟩, Reg2.Ext.refl _⟩)); simp only [Act.put, xA, xB, xC, xD, xE, id])
   refine Reg2.aA ?_
   intro YV Sk _ Js
   have hB := Js.2.2.2.2.2.2.2.1
   clear Js
   dsimp only [List.drop]
   have hfin := hro.out r7 (fun hp => by rw [hP.out] at hp; cases hp) (by rw [hft.out, hP.out, if_neg (by decide)]; exact hB)
   have V3 : Hid (rb = decide (r7 ≥ yw)) := by show _ = _; rw [hfin]
   obtain rfl := V3.out
   go_wp2_with fail
   go_ret
   exact ⟨rfl, Ez.trans (Sk.mono Ez.size)⟩
 | true =>
   rw [hP] at hpl
   have YW := (bq.1 hP).2
   rw [← hyp.out] at YW
   have XO : Hid (cS[0]? = some (.int .i64 yp)) := by show _ = _; rw [hs0, if_pos hP]
   replace hP := Lib.hid hP
   replace hs0 := Lib.hid hs0
   go_wp2_with fail
   go_at_call 112
   refine hpl.mono ?_
   clear hpl Um b5 b3 x1
   rintro e w8 ⟨rfl, pY⟩
   have VZ := SS.out w8
   obtain ⟨w9, yA⟩ : ∃ w9, w9 = w8.alloc (.cells cS.toArray 148) := ⟨_, rfl⟩
   have hzs : w9.heap[w8.heap.size]? = some (.cells cS.toArray 148 (0, 0)) := by rw [yA]; exact heap_alloc_new w8 _
   rw [← yA] at VZ
   have Gw : Below w7.heap.size w7 w9 := by rw [yA]; exact pY.alloc pY.size _
   have Sj := Lib.hid ((Gw.block _ (aD Jr.out)).trans Jr.out)
   have OU := Lib.hid ((Gw.block _ (aD MR.out)).trans MR.out)
   have LJ := (HI4.trans (kF.mono HI4.size)).trans (Gw.mono (HI4.trans (kF.mono HI4.size)).size)
   have Ez := kD.trans (Gw.mono kD.size)
   have Jj := Lib.hid (iY.out.kept LJ)
   have cs0 : w9.cell? ⟨w8.heap.size, 0, none⟩ = some (.int .i64 yp) := by simp [World.cell?, hzs, XO.out]
   have ZY : w9.cell? ⟨w.heap.size, 1, none⟩ = some (.int .i64 xt) := by simp [World.cell?, OU.out]
   replace hzs := Lib.hid hzs
   replace yA := Lib.hid yA
   by_cases hlt : yp ≤ xt
   ·have d5 : decide (xt ≥ yp) = true := decide_eq_true hlt
    have hfin : Hid (rb = false) := hrb.out.trans (LB he0.out.symm (by rw [← hy.out]; exact hP.out) (by rw [← hy.out, ← hyp.out]; exact hlt))
    obtain rfl := hfin.out
    replace hlt := Lib.hid hlt
    go_wp2_with fail
    go_ret
    exact ⟨rfl, Ez⟩
   ·have d5 : decide (xt ≥ yp) = false := decide_eq_false hlt
    go_wp2_with fail
    refine Reg2.rd w9 10 76 [[],[af],[af,af],[af,af,af],[ae,ae,ae,ae],[ae,ae,ae,ae,af],[ae,ae,ae,ae,ae,ae],[af,af,af,af,af,af,af],[ae,ae,ae,ae,ae,ae,ae,ae],[ae,ae,ae,ae,ae,ae,ae,ae,af]] [0, 0, 0, 1, 0, 1, 0, 1, 0, 1] [.pure, .pure, .pure, .mU (.pointer (some ⟨p, 0, none⟩)), .pure, .mU (.int .i64 xt), .pure, .minor Int 0 (fun x => .int .i64 x) (fun x _ => BL (fun u => ay M u 0) xt (min (xt + yl) yp) x), .pure, .mU (.int .i64 yw)] (by kernel_rfl) (by kernel_rfl) rfl rfl ⟨trivial, trivial, trivial, Reg2.tt, trivial, Reg2.tt, trivial, ⟨fun _ _ _ _ h => h, fun _ _ _ _ h => h⟩, trivial, Reg2.tt, trivial⟩ ⟨rfl, rfl, rfl, Nat.le_refl _, fun _ _ => rfl⟩ ?_
    dsimp only [Reg2.mk, List.zip, List.zipWith, List.take]
    repeat ((first
     | (refine' Reg2.ak _ (by rfl) (fun wz => ?_) ?_; rotate_left; (go_simp; first | rfl | rw [if_neg (by omega)]))
     | (refine Reg2.au (by rfl) (fun wz hI hF => ?_) (fun _ => ?_)
        ·unfold Reg2.One
         have c0 := (Jj.out.kept hI).c2
         have q0 : wz.cell? ⟨w.heap.size, 1, none⟩ = some (.int .i64 xt) := by simp [World.cell?, (hI.block _ (aD OU.out)).trans OU.out]
         go_wp2_with fail
         first | exact ⟨_, rfl, rfl, Reg2.Ext.refl _⟩ | exact ⟨_, rfl, ⟨(), rfl, trivial⟩, Reg2.Ext.refl _⟩)); simp only [Act.put, xA, xB, xC, xD, xE, id])
    refine Reg2.pm (fun wz hI hF => ?_) (fun r7 => ?_) (by rfl)
    ·go_wp2_with (go_at_call 113; go_must (refine (UX.out wz (LJ.trans (hI.mono LJ.size)) (min (xt + yl) yp) (by omega)).mono ?_); rintro e w' ⟨mm, rfl, hB, hb5⟩)
     exact ⟨_, rfl, ⟨mm, rfl, hB⟩, hb5⟩
    simp only [Act.put, xA, xB, xC, xD, xE, id]
    repeat ((first
     | (refine' Reg2.ak _ (by rfl) (fun wz => ?_) ?_; rotate_left; (go_simp; first | rfl | rw [if_neg (by omega)]))
     | (refine Reg2.au (by rfl) (fun wz hI hF => ?_) (fun _ => ?_)
        ·unfold Reg2.One
         have q0 : wz.cell? ⟨Bz, 2, none⟩ = some (.int .i64 yw) := by simp [World.cell?, (hI.block _ (aD Sj.out)).trans Sj.out, y2]
         go_wp2_with fail
         first | exact ⟨_, rfl, rfl, Reg2.Ext.refl _⟩ | exact ⟨_, rfl, ⟨(), rfl, trivial⟩, Reg2.Ext.refl _⟩)); simp only [Act.put, xA, xB, xC, xD, xE, id])
    refine Reg2.aA ?_
    intro YV Sk _ Js
    have hB := Js.2.2.2.2.2.2.2.1
    clear Js
    dsimp only [List.drop]
    have hfin := hro.out r7 (fun _ => by omega) (by rw [hft.out, hP.out, if_pos rfl]; exact hB)
    have V3 : Hid (rb = decide (r7 ≥ yw)) := by show _ = _; rw [hfin]
    obtain rfl := V3.out
    go_wp2_with fail
    go_ret
    exact ⟨rfl, Ez.trans (Sk.mono Ez.size)⟩
theorem EA (h : CW w c t d p v g a m (ah M)) (hI : aF M) (h1 : 1 ≤ M.dr.length) (hll : M.L.length ≤ 900) (ha : a ≤ 800) (xi xt : Int) (hxt : -9223372036854775808 ≤ xt ∧ xt ≤ 9223372036854775807) :
 Calls Tryz.prog 90 #[.pointer (some ⟨c, 0, none⟩), .agg #[.int .i64 xi, .int .i64 xt]] w fun e w' => e = .returned (.bool (fO M xi xt)) ∧ Below w.heap.size w w' := by
 cases hc : M.cl with
 | true => exact Gv h hI h1 hll ha xi xt hxt hc
 | false => exact LG h hI h1 hll ha xi xt hxt hc
end
end Go.Proofs.YtelnhablglomjaaGreat

namespace Go.Proofs.YtelnhablglomjaaGreat
open Go.RowKit Go.Lib Go.Sort
section
variable {w : World} {b c t d p g a : Nat} {v : Value} {m : Int} {P : Pg} {M : Md} {R : Wk}
theorem Jt (h : SW w b c t d p v g a m R P) (hk : PK P) (ha : a ≤ 800) (hm : m ≤ 1000000) (hP : aj R.aC = true) (hb1 : R.aC.aN ≤ 1099511627776) (hb2 : 0 ≤ R.aC.lim ∧ R.aC.lim ≤ 1048576) (hb3 : 1 ≤ R.aC.lim) (hb4 : 0 ≤ R.aC.wid ∧ R.aC.wid ≤ 64) (F : Int → Int)
 (hF : ∀ t, P.now ≤ t → F t = P.f t + had (max R.aC.aN P.now) (R.aC.aN + R.aC.lim) R.aC.wid t) (hr : ∀ t, P.now ≤ t → 0 ≤ F t ∧ F t ≤ 64) :
 Calls Tryz.prog 91 #[.pointer (some ⟨b, 0, none⟩), .pointer (some ⟨c, 0, none⟩)] w (az w b c t d p v g (a + 2) (m + 1) (fG 115) R { P with f := F }) := by
 have zJ := bJ
 have zS := kU
 obtain ⟨k, hk1⟩ : ∃ k, k = 10 := ⟨_, rfl⟩
 obtain ⟨k3, hk3⟩ : ∃ k, k = 3 := ⟨_, rfl⟩
 rw [← hk1] at zJ
 rw [← hk3] at zS
 have hk0 : ¬ k = 0 := by omega
 have zN : ¬ k3 = 0 := by omega
 have lJ := ax R.aC
 rw [← hk1] at lJ
 replace hk1 := Lib.hid hk1
 have hS := Lib.hid h
 have rD := h.wk.nP lJ
 have hpl := lM (w := w) R.aC hb1 hb2
 have lS : (aM R.aC).length = 3 := by unfold aM; split <;> rfl
 have oS : ∀ u ∈ aM R.aC, u.oneCell' = true := by unfold aM; split <;> (intro u hu; simp at hu; rcases hu with rfl | rfl | rfl <;> rfl)
 have ST : Hid (∀ W : World, Sem.run Tryz.prog (storeCells ⟨W.heap.size, 0, none⟩ (aM R.aC) 0) (W.alloc (.cells #[.int .i64 0, .int .i64 0, .int .i64 0] 148)) = .ok () (W.alloc (.cells (aM R.aC).toArray 148))) := fun W => dE W W.heap.size (aM R.aC) [.int .i64 0, .int .i64 0, .int .i64 0] 148 rfl lS oS
 rw [← hk3] at lS
 replace hk3 := Lib.hid hk3
 generalize lT : aM R.aC = cS at *
 replace lT := Lib.hid lT
 generalize ai R.aC = cJ at *
 clear h
 have mO : cS = [.int .i64 R.aC.aN, .int .i64 (R.aC.aN + R.aC.lim), .int .i64 R.aC.wid] := by rw [← lT.out]; unfold aM; rw [if_pos hP]
 rw [hP] at hpl
 replace hP := Lib.hid hP
 replace mO := Lib.hid mO
 go_enter Tryz.func91, Tryz.ntmps91
 go_wp2_with fail
 go_at_call 112
 refine hpl.mono ?_
 clear hpl rD
 rintro e w1 ⟨rfl, hb⟩
 have st1 := ST.out w1
 obtain ⟨w2, hw2⟩ : ∃ w2, w2 = w1.alloc (.cells cS.toArray 148) := ⟨_, rfl⟩
 rw [← hw2] at st1
 have hb2' : Below w.heap.size w w2 := by rw [hw2]; exact hb.alloc hb.size _
 have hy2 : Hid (w2.heap[w1.heap.size]? = some (.cells cS.toArray 148 (0, 0))) := by show _ = _; rw [hw2]; exact heap_alloc_new w1 _
 have hs2 : w2.heap.size = w1.heap.size + 1 := by rw [hw2]; simp
 replace hw2 := Lib.hid hw2
 have hS2 := Lib.hid (hS.out.kept hb2')
 go_wp2_with fail
 refine Reg2.ro w2 5 22 [.p 0, .p 1, .p 3, .m 7, .m 0] [.pointer (some ⟨p, 0, none⟩), .agg cS.toArray] (by kernel_rfl) (by kernel_rfl) rfl rfl ⟨rfl, rfl, rfl, Nat.le_refl _, fun _ _ => rfl⟩ ?_
 dsimp only [Reg2.gU]
 repeat ((first
  | (refine' Reg2.ak _ (by rfl) (fun wz => ?_) ?_; rotate_left; (go_simp; first | rfl | rw [if_neg (by omega)]))
  | (refine Reg2.au (by rfl) (fun wz hI hF => ?_) (fun _ => ?_)
     ·unfold Reg2.One
      have c0 := (hS2.out.cw.kept hI).c2
      have d0 := fu ((hI.block _ (aD hy2.out)).trans hy2.out) lS
      go_wp2_with fail
      first | exact ⟨_, rfl, rfl, Reg2.Ext.refl _⟩ | exact ⟨_, rfl, ⟨(), rfl, trivial⟩, Reg2.Ext.refl _⟩)); simp only [Act.put, xA, xB, xC, xD, xE, id])
 refine Reg2.aA ?_
 intro w4 HI4 _ dY
 clear dY
 dsimp only [List.drop]
 have bM := hS2.out.kept HI4
 have hrel := uD bM.cw hk ha hm R.aC.aN (R.aC.aN + R.aC.lim) R.aC.wid F (by omega) (by omega) hb4 hF hr
 have Jg := mO.out
 clear lT mO
 subst Jg
 go_wp2_with fail
 go_at_call 114
 refine hrel.mono ?_
 clear hrel
 rintro e w5 ⟨rfl, v5, g5, gJ, hS5⟩
 have eX := bM.core gJ hS5
 have hfin := (WS.of_below (hb2'.trans (HI4.mono hb2'.size)) : WS w w4 b c t d p v g v g).trans (WS.dD hS5)
 go_wp2_with fail
 go_ret
 exact ⟨rfl, v5, g5, eX, hfin⟩
theorem Ju (h : SW w b c t d p v g a m R P) (hP : aj R.aC = false) (hb1 : R.aC.aN ≤ 1099511627776) (hb2 : 0 ≤ R.aC.lim ∧ R.aC.lim ≤ 1048576) :
 Calls Tryz.prog 91 #[.pointer (some ⟨b, 0, none⟩), .pointer (some ⟨c, 0, none⟩)] w (az w b c t d p v g a m (fG 115) R P) := by
 have zJ := bJ
 have zS := kU
 obtain ⟨k, hk1⟩ : ∃ k, k = 10 := ⟨_, rfl⟩
 obtain ⟨k3, hk3⟩ : ∃ k, k = 3 := ⟨_, rfl⟩
 rw [← hk1] at zJ
 rw [← hk3] at zS
 have hk0 : ¬ k = 0 := by omega
 have zN : ¬ k3 = 0 := by omega
 have lJ := ax R.aC
 rw [← hk1] at lJ
 replace hk1 := Lib.hid hk1
 have hS := Lib.hid h
 have rD := h.wk.nP lJ
 have hpl := lM (w := w) R.aC hb1 hb2
 have lS : (aM R.aC).length = 3 := by unfold aM; split <;> rfl
 have oS : ∀ u ∈ aM R.aC, u.oneCell' = true := by unfold aM; split <;> (intro u hu; simp at hu; rcases hu with rfl | rfl | rfl <;> rfl)
 have ST : Hid (∀ W : World, Sem.run Tryz.prog (storeCells ⟨W.heap.size, 0, none⟩ (aM R.aC) 0) (W.alloc (.cells #[.int .i64 0, .int .i64 0, .int .i64 0] 148)) = .ok () (W.alloc (.cells (aM R.aC).toArray 148))) := fun W => dE W W.heap.size (aM R.aC) [.int .i64 0, .int .i64 0, .int .i64 0] 148 rfl lS oS
 rw [← hk3] at lS
 replace hk3 := Lib.hid hk3
 generalize lT : aM R.aC = cS at *
 replace lT := Lib.hid lT
 generalize ai R.aC = cJ at *
 clear h
 rw [hP] at hpl
 go_enter Tryz.func91, Tryz.ntmps91
 go_wp2_with fail
 go_at_call 112
 refine hpl.mono ?_
 clear hpl rD
 rintro e w1 ⟨rfl, hb⟩
 have st1 := ST.out w1
 obtain ⟨w2, hw2⟩ : ∃ w2, w2 = w1.alloc (.cells cS.toArray 148) := ⟨_, rfl⟩
 rw [← hw2] at st1
 have hb2' : Below w.heap.size w w2 := by rw [hw2]; exact hb.alloc hb.size _
 have hy2 : Hid (w2.heap[w1.heap.size]? = some (.cells cS.toArray 148 (0, 0))) := by show _ = _; rw [hw2]; exact heap_alloc_new w1 _
 have hs2 : w2.heap.size = w1.heap.size + 1 := by rw [hw2]; simp
 replace hw2 := Lib.hid hw2
 have hS2 := Lib.hid (hS.out.kept hb2')
 go_wp2_with fail
 go_ret
 exact ⟨rfl, v, g, hS2.out, WS.of_below hb2'⟩
theorem OV (h : SW w b c t d p v g a m R P) (hk : PK P) (ha : a ≤ 800) (hm : m ≤ 1000000) (hst : R.aC.st = 1) (hx : 0 ≤ R.dR ∧ R.dR ≤ 1099511627776) (hb2 : 1 ≤ R.aC.lim ∧ R.aC.lim ≤ 1048576) (hb4 : 0 ≤ R.aC.wid ∧ R.aC.wid ≤ 64) (F : Int → Int)
 (hF : ∀ t, P.now ≤ t → F t = P.f t + had (max R.dR P.now) (R.dR + R.aC.lim) (-R.aC.wid) t) (hr : ∀ t, P.now ≤ t → 0 ≤ F t ∧ F t ≤ 64) :
 Calls Tryz.prog 115 #[.pointer (some ⟨b, 0, none⟩), .pointer (some ⟨c, 0, none⟩)] w (az w b c t d p v g (a + 2) (m + 1) (fG 145) { R with aC := R.aC.aG R.dR } { P with f := F }) := by
 have zJ := bJ
 have zS := kU
 obtain ⟨k, hk1⟩ : ∃ k, k = 10 := ⟨_, rfl⟩
 obtain ⟨k3, hk3⟩ : ∃ k, k = 3 := ⟨_, rfl⟩
 rw [← hk1] at zJ
 rw [← hk3] at zS
 have hk0 : ¬ k = 0 := by omega
 have zN : ¬ k3 = 0 := by omega
 have KV := h.wk.at 10 (.int .i64 R.dR) rfl
 have c20 := h.wk.at 20 (.int .i64 R.aC.aN) rfl
 have f20 := h.wk.free 20
 have hW1 := h.wk.plan R.dR
 have hS1 := h.work hW1 (dw w 20 (.int .i64 R.dR))
 have hf1 : WS w (w.setCell ⟨b, 20, none⟩ (.int .i64 R.dR)) b c t d p v g v g := WS.bD (dw w 20 (.int .i64 R.dR))
 obtain ⟨y, hy⟩ : ∃ y, y = R.aC.aG R.dR := ⟨_, rfl⟩
 have hyp : y.aN = R.dR := by rw [hy]; rfl
 have hyl : y.lim = R.aC.lim := by rw [hy]; rfl
 have LH : y.wid = R.aC.wid := by rw [hy]; rfl
 have hP : aj y = true := bq.2 ⟨by rw [hy]; exact hst, by rw [hyp]; exact hx.1⟩
 rw [← hy] at hS1 hW1 ⊢
 replace hy := Lib.hid hy
 have lJ := ax y
 rw [← hk1] at lJ
 replace hk1 := Lib.hid hk1
 have rD := hW1.nP (R := { R with aC := y }) lJ
 rw [show ({ R with aC := y } : Wk).aC = y from rfl] at rD
 have hpl := lM (w := w.setCell ⟨b, 20, none⟩ (.int .i64 R.dR)) y (by rw [hyp]; exact hx.2) (by rw [hyl]; omega)
 have mO : aM y = [.int .i64 R.dR, .int .i64 (R.dR + R.aC.lim), .int .i64 R.aC.wid] := by unfold aM; rw [if_pos hP, hyp, hyl, LH]
 rw [hP] at hpl
 have lS : (aM y).length = 3 := by rw [mO]; rfl
 have oS : ∀ u ∈ aM y, u.oneCell' = true := by rw [mO]; intro u hu; simp at hu; rcases hu with rfl | rfl | rfl <;> rfl
 have ST : Hid (∀ W : World, Sem.run Tryz.prog (storeCells ⟨W.heap.size, 0, none⟩ (aM y) 0) (W.alloc (.cells #[.int .i64 0, .int .i64 0, .int .i64 0] 148)) = .ok () (W.alloc (.cells (aM y).toArray 148))) := fun W => dE W W.heap.size (aM y) [.int .i64 0, .int .i64 0, .int .i64 0] 148 rfl lS oS
 rw [← hk3] at lS
 replace hk3 := Lib.hid hk3
 generalize lT : aM y = cS at *
 replace lT := Lib.hid lT
 generalize ai y = cJ at *
 replace mO := Lib.hid mO
 replace hP := Lib.hid hP
 replace hyp := Lib.hid hyp
 replace hyl := Lib.hid hyl
 replace LH := Lib.hid LH
 clear h
 generalize R.dR = xa at *
 go_enter Tryz.func115, Tryz.ntmps115
 go_wp2_with fail
 go_at_call 112
 refine hpl.mono ?_
 clear hpl rD KV c20 f20
 rintro e w1 ⟨rfl, hb⟩
 have st1 := ST.out w1
 obtain ⟨w2, hw2⟩ : ∃ w2, w2 = w1.alloc (.cells cS.toArray 148) := ⟨_, rfl⟩
 rw [← hw2] at st1
 have hb2' : Below (w.setCell ⟨b, 20, none⟩ (.int .i64 xa)).heap.size (w.setCell ⟨b, 20, none⟩ (.int .i64 xa)) w2 := by rw [hw2]; exact hb.alloc hb.size _
 have hy2 : Hid (w2.heap[w1.heap.size]? = some (.cells cS.toArray 148 (0, 0))) := by show _ = _; rw [hw2]; exact heap_alloc_new w1 _
 replace hw2 := Lib.hid hw2
 have hS2 := Lib.hid (hS1.kept hb2')
 have hf2 := hf1.trans (WS.of_below hb2')
 go_wp2_with fail
 refine Reg2.ro w2 5 31 [.p 0, .p 1, .p 3, .m 7, .m 0] [.pointer (some ⟨p, 0, none⟩), .agg cS.toArray] (by kernel_rfl) (by kernel_rfl) rfl rfl ⟨rfl, rfl, rfl, Nat.le_refl _, fun _ _ => rfl⟩ ?_
 dsimp only [Reg2.gU]
 repeat ((first
  | (refine' Reg2.ak _ (by rfl) (fun wz => ?_) ?_; rotate_left; (go_simp; first | rfl | rw [if_neg (by omega)]))
  | (refine Reg2.au (by rfl) (fun wz hI hF => ?_) (fun _ => ?_)
     ·unfold Reg2.One
      have c0 := (hS2.out.cw.kept hI).c2
      have d0 := fu ((hI.block _ (aD hy2.out)).trans hy2.out) lS
      go_wp2_with fail
      first | exact ⟨_, rfl, rfl, Reg2.Ext.refl _⟩ | exact ⟨_, rfl, ⟨(), rfl, trivial⟩, Reg2.Ext.refl _⟩)); simp only [Act.put, xA, xB, xC, xD, xE, id])
 refine Reg2.aA ?_
 intro w4 HI4 _ dY
 clear dY
 dsimp only [List.drop]
 have bM := hS2.out.kept HI4
 have hrel := IQ bM.cw hk ha hm xa (xa + R.aC.lim) R.aC.wid F (by omega) (by omega) hb4 hF hr
 have Jg := mO.out
 clear lT mO
 subst Jg
 go_wp2_with fail
 go_at_call 144
 refine hrel.mono ?_
 clear hrel
 rintro e w5 ⟨rfl, v5, g5, gJ, hS5⟩
 have eX := bM.core gJ hS5
 have hfin := (hf2.trans (WS.of_below HI4)).trans (WS.dD hS5)
 go_wp2_with fail
 go_ret
 exact ⟨rfl, v5, g5, eX, hfin⟩
theorem Jv (h : SW w b c t d p v g a m R P) (hk : PK P) (hx : R.dR = P.now) (hj : -9223372036854775808 ≤ R.aC.wid ∧ R.aC.wid ≤ 9223372036854775807) {s : Nat} {T0 : List Int} (hT0 : qD P.T R.aC.wid s 0 T0) :
 Calls Tryz.prog 145 #[.pointer (some ⟨b, 0, none⟩), .pointer (some ⟨c, 0, none⟩)] w (az w b c t d p v g a m .nilFunc R { P with T := T0, J := cz P.J (gF P.now) R.aC.id (fun j : Jb => decide (j.state = 1)) (mg P.now s) }) := by
 have zJ := bJ
 obtain ⟨k, hk1⟩ : ∃ k, k = 10 := ⟨_, rfl⟩
 rw [← hk1] at zJ
 have hk0 : ¬ k = 0 := by omega
 have lJ := ax R.aC
 rw [← hk1] at lJ
 replace hk1 := Lib.hid hk1
 have d1 : (R.dR == P.now) = true := by simp [hx]
 have VQ := fun (W : World) (hW : SW W b c t d p v g a m R P) => hW.wk.nP lJ
 have hla := fun (W : World) (hW : SW W b c t d p v g a m R P) => launch_fn hW.cw hk R.aC hj hT0
 have hS := Lib.hid h
 replace hx := Lib.hid hx
 generalize ai R.aC = cJ at *
 clear h
 go_enter Tryz.func145, Tryz.ntmps145
 go_wp2_with fail
 refine Reg2.ro w 10 37 [.p 0, .p 1, .p 3, .p 7, .m 15, .p 0, .p 32, .p 96, .m 224, .m 480] [.int .i64 R.dR, .pointer (some ⟨p, 0, none⟩), .int .i64 P.now] (by kernel_rfl) (by kernel_rfl) rfl rfl ⟨rfl, rfl, rfl, Nat.le_refl _, fun _ _ => rfl⟩ ?_
 dsimp only [Reg2.gU]
 repeat ((first
  | (refine' Reg2.ak _ (by rfl) (fun wz => ?_) ?_; rotate_left; (go_simp; first | rfl | rw [if_neg (by omega)]))
  | (refine Reg2.au (by rfl) (fun wz hI hF => ?_) (fun _ => ?_)
     ·unfold Reg2.One
      have q0 := (hS.out.kept hI).wk.at 10 (.int .i64 R.dR) rfl
      have c0 := (hS.out.cw.kept hI).c2
      go_wp2_with fail
      first | exact ⟨_, rfl, rfl, Reg2.Ext.refl _⟩ | exact ⟨_, rfl, ⟨(), rfl, trivial⟩, Reg2.Ext.refl _⟩)); simp only [Act.put, xA, xB, xC, xD, xE, id])
 refine Reg2.pm (fun wz hI hF => ?_) (fun r9 => ?_) (by rfl)
 ·go_wp2_with (go_at_call 95; go_must (refine (gK (hS.out.kept hI).cw).mono ?_); rintro e w' ⟨rfl, rfl⟩)
  first | exact ⟨_, rfl, rfl, Reg2.Ext.refl _⟩ | exact ⟨_, rfl, ⟨(), rfl, trivial⟩, Reg2.Ext.refl _⟩
 simp only [Act.put, xA, xB, xC, xD, xE, id]
 refine Reg2.aA ?_
 intro w4 HI4 _ dY
 clear dY
 dsimp only [List.drop]
 have bM := hS.out.kept HI4
 have YM := VQ w4 bM
 have hl4 := hla w4 bM
 go_wp2_with fail
 go_at_call 160
 refine hl4.mono ?_
 clear hl4
 rintro e w5 ⟨rfl, v5, g5, gJ, hS5⟩
 have eX := bM.core gJ hS5
 have hfin := (WS.of_below HI4 : WS w w4 b c t d p v g v g).trans (WS.dD hS5)
 go_wp2_with fail
 go_ret
 exact ⟨rfl, v5, g5, eX, hfin⟩
theorem Dj (h : SW w b c t d p v g a m R P) (hx : R.dR ≠ P.now) :
 Calls Tryz.prog 145 #[.pointer (some ⟨b, 0, none⟩), .pointer (some ⟨c, 0, none⟩)] w (az w b c t d p v g a m .nilFunc R { P with J := cz P.J (gZ R.dR) R.lQ (fun j : Jb => decide (j.state = 1)) (lq R.dR) }) := by
 have d1 : (R.dR == P.now) = false := by simp [hx]
 have hpl := fun (W : World) (hW : SW W b c t d p v g a m R P) => El hW.cw R.lQ R.dR
 have hS := Lib.hid h
 replace hx := Lib.hid hx
 clear h
 go_enter Tryz.func145, Tryz.ntmps145
 go_wp2_with fail
 refine Reg2.ro w 10 37 [.p 0, .p 1, .p 3, .p 7, .m 15, .p 0, .p 32, .p 96, .m 224, .m 480] [.int .i64 R.dR, .pointer (some ⟨p, 0, none⟩), .int .i64 P.now] (by kernel_rfl) (by kernel_rfl) rfl rfl ⟨rfl, rfl, rfl, Nat.le_refl _, fun _ _ => rfl⟩ ?_
 dsimp only [Reg2.gU]
 repeat ((first
  | (refine' Reg2.ak _ (by rfl) (fun wz => ?_) ?_; rotate_left; (go_simp; first | rfl | rw [if_neg (by omega)]))
  | (refine Reg2.au (by rfl) (fun wz hI hF => ?_) (fun _ => ?_)
     ·unfold Reg2.One
      have q0 := (hS.out.kept hI).wk.at 10 (.int .i64 R.dR) rfl
      have c0 := (hS.out.cw.kept hI).c2
      go_wp2_with fail
      first | exact ⟨_, rfl, rfl, Reg2.Ext.refl _⟩ | exact ⟨_, rfl, ⟨(), rfl, trivial⟩, Reg2.Ext.refl _⟩)); simp only [Act.put, xA, xB, xC, xD, xE, id])
 refine Reg2.pm (fun wz hI hF => ?_) (fun r9 => ?_) (by rfl)
 ·go_wp2_with (go_at_call 95; go_must (refine (gK (hS.out.kept hI).cw).mono ?_); rintro e w' ⟨rfl, rfl⟩)
  first | exact ⟨_, rfl, rfl, Reg2.Ext.refl _⟩ | exact ⟨_, rfl, ⟨(), rfl, trivial⟩, Reg2.Ext.refl _⟩
 simp only [Act.put, xA, xB, xC, xD, xE, id]
 refine Reg2.aA ?_
 intro w4 HI4 _ dY
 clear dY
 dsimp only [List.drop]
 have bM := Lib.hid (hS.out.kept HI4)
 go_wp2_with fail
 refine Reg2.ro w4 14 37 [.p 0, .p 1, .p 3, .m 7, .p 0, .p 16, .p 48, .p 112, .m 240, .p 0, .p 512, .p 1536, .p 3584, .m 7680] [.pointer (some ⟨t, 0, none⟩), .int .i64 R.lQ, .int .i64 R.dR] (by kernel_rfl) (by kernel_rfl) rfl rfl ⟨rfl, rfl, rfl, Nat.le_refl _, fun _ _ => rfl⟩ ?_
 dsimp only [Reg2.gU]
 repeat ((first
  | (refine' Reg2.ak _ (by rfl) (fun wz => ?_) ?_; rotate_left; (go_simp; first | rfl | rw [if_neg (by omega)]))
  | (refine Reg2.au (by rfl) (fun wz hI hF => ?_) (fun _ => ?_)
     ·unfold Reg2.One
      have c0 := (bM.out.cw.kept hI).c0
      have q0 := (bM.out.kept hI).wk.at 9 (.int .i64 R.lQ) rfl
      have Ep := (bM.out.kept hI).wk.at 10 (.int .i64 R.dR) rfl
      go_wp2_with fail
      first | exact ⟨_, rfl, rfl, Reg2.Ext.refl _⟩ | exact ⟨_, rfl, ⟨(), rfl, trivial⟩, Reg2.Ext.refl _⟩)); simp only [Act.put, xA, xB, xC, xD, xE, id])
 refine Reg2.aA ?_
 intro w5 KC _ dY
 clear dY
 dsimp only [List.drop]
 have hS5 := bM.out.kept KC
 have XP := hpl w5 hS5
 go_wp2_with fail
 go_at_call 149
 refine XP.mono ?_
 clear XP
 rintro e w6 ⟨rfl, v6, g6, I7, eX⟩
 have gM := hS5.core I7 eX
 have hfin := (WS.of_below (HI4.trans (KC.mono HI4.size)) : WS w w5 b c t d p v g v g).trans (WS.dD eX)
 go_wp2_with fail
 go_ret
 exact ⟨rfl, v6, g6, gM, hfin⟩
theorem Dk (h : SW w b c t d p v g a m R P) (hc : P.cl = true) :
 Calls Tryz.prog 74 #[.pointer (some ⟨b, 0, none⟩), .pointer (some ⟨c, 0, none⟩)] w (az w b c t d p v g a m .nilFunc { R with rep := kK 12, ok := false } P) := by
 have hcl := jA h.cw
 rw [hc] at hcl
 have hf := iK h.wk 12
 go_enter Tryz.func74, Tryz.ntmps74
 go_wp2_with (first | (go_at_call 68; go_must (refine hcl.mono ?_); rintro e w' ⟨rfl, rfl⟩) | (go_at_call 42; go_must (refine hf.mono ?_); rintro e w8 ⟨rfl, dS, gq⟩))
 go_ret
 exact ⟨rfl, v, g, h.work dS gq, WS.bD gq⟩
theorem xU (h : bI w b R) : Sem.run Tryz.prog (loadCellsFrom ⟨b, 9, none⟩ 0 2 #[]) w = .ok #[.int .i64 R.lQ, .int .i64 R.dR] w :=
 xP (cs := [.int .i64 R.lQ, .int .i64 R.dR]) h rfl fun j u hj => by
  rcases (show j = 0 ∨ j = 1 by have := (List.getElem?_eq_some_iff.1 hj).1; simp at this; omega) with rfl | rfl
  ·exact hj
  ·exact hj
theorem OW (h : SW w b c t d p v g a m R (ah M)) (hI : aF M) (h1 : 1 ≤ M.dr.length) (hll : M.L.length ≤ 900) (ha : a ≤ 800) (hxt : -9223372036854775808 ≤ R.dR ∧ R.dR ≤ 9223372036854775807) (hc : M.cl = false) (hfit : fO M R.lQ R.dR = false) :
 Calls Tryz.prog 74 #[.pointer (some ⟨b, 0, none⟩), .pointer (some ⟨c, 0, none⟩)] w (az w b c t d p v g a m .nilFunc R (ah M)) := by
 have hcl := jA h.cw
 rw [show (ah M).cl = false from hc] at hcl
 have hft := EA h.cw hI h1 hll ha R.lQ R.dR hxt
 rw [hfit] at hft
 have ld := xU h.wk
 have x9 := h.wk.at 9 (.int .i64 R.lQ) rfl
 have KV := h.wk.at 10 (.int .i64 R.dR) rfl
 go_enter Tryz.func74, Tryz.ntmps74
 go_wp2_with (first | (go_at_call 68; go_must (refine hcl.mono ?_); rintro e w' ⟨rfl, rfl⟩) | (go_at_call 90; go_must (refine hft.mono ?_); rintro e w8 ⟨rfl, pY⟩))
 go_ret
 exact ⟨rfl, v, g, h.kept pY, WS.of_below pY⟩
theorem LK (h : SW w b c t d p v g a m R (ah M)) (hI : aF M) (h1 : 1 ≤ M.dr.length) (hll : M.L.length ≤ 900) (ha : a ≤ 800) (hxt : -9223372036854775808 ≤ R.dR ∧ R.dR ≤ 9223372036854775807) (hc : M.cl = false) (hfit : fO M R.lQ R.dR = true) :
 Calls Tryz.prog 74 #[.pointer (some ⟨b, 0, none⟩), .pointer (some ⟨c, 0, none⟩)] w (az w b c t d p v g a m (fG 91) { R with aC := bO M.L R.lQ, ok := true } (ah M)) := by
 have zJ := bJ
 obtain ⟨k, hk1⟩ : ∃ k, k = 10 := ⟨_, rfl⟩
 rw [← hk1] at zJ
 have hk0 : ¬ k = 0 := by omega
 have hcl := jA h.cw
 rw [show (ah M).cl = false from hc] at hcl
 have hft := EA h.cw hI h1 hll ha R.lQ R.dR hxt
 rw [hfit] at hft
 have ld := xU h.wk
 have x9 := h.wk.at 9 (.int .i64 R.lQ) rfl
 have KV := h.wk.at 10 (.int .i64 R.dR) rfl
 obtain ⟨x, hx⟩ : ∃ x, x = bO M.L R.lQ := ⟨_, rfl⟩
 rw [← hx]
 have hget := Lib.hid (fun (W : World) (hW : SW W b c t d p v g a m R (ah M)) => show Calls Tryz.prog 77 #[.pointer (some ⟨t, 0, none⟩), .int .i64 R.lQ] W fun e w' => e = .returned (.tuple #[.agg (ai x).toArray, .int .i64 (gN M.L R.lQ)]) ∧ Gr W w' from by
  have := gY hW.cw.eU R.lQ
  unfold iU at this
  rw [show (ah M).J = M.L from rfl, ← hx] at this
  exact this)
 replace hx := Lib.hid hx
 have lJ := ax x
 rw [← hk1] at lJ
 replace hk1 := Lib.hid hk1
 have hj := fun (W : World) (hW : SW W b c t d p v g a m R (ah M)) => hW.wk.uG x
 generalize ai x = cJ at *
 obtain ⟨W9, kL⟩ : ∃ W9, W9 = gG { R with aC := x } := ⟨_, rfl⟩
 rw [← kL] at hj
 replace kL := Lib.hid kL
 have hS := Lib.hid h
 clear h
 go_enter Tryz.func74, Tryz.ntmps74
 go_wp2_with (first | (go_at_call 68; go_must (refine hcl.mono ?_); rintro e w' ⟨rfl, rfl⟩) | (go_at_call 90; go_must (refine hft.mono ?_); rintro e w2 ⟨rfl, hb2⟩))
 have hS2 := Lib.hid (hS.out.kept hb2)
 have c0 := hS2.out.cw.c0
 have q9 := hS2.out.wk.at 9 (.int .i64 R.lQ) rfl
 clear hcl hft ld x9 KV
 go_region_with (go_at_call 77; go_must (refine (hget.out _ hS2.out.drew).mono ?_); rintro e w' ⟨rfl, hgr⟩; have sJ := hS2.out.drew.kept hgr.below; obtain ⟨Aj, qp⟩ := hj w' sJ)
 all_goals
  have gy := sJ.work qp (cK w' W9.toArray)
  have hfr : WS w2 (w'.setRow b W9.toArray) b c t d p v g v g := ((WS.of_below hgr.below : WS w2.drew w' b c t d p v g v g).trans (WS.bD (cK w' W9.toArray))).yT
  have hfr2 := (WS.of_below hb2 : WS w w2 b c t d p v g v g).trans hfr
  clear Aj qp sJ hgr c0 q9 hfr
  generalize w'.setRow b W9.toArray = w9 at *
  have a33 := gy.wk.at 33 (.bool R.ok) rfl
  have f33 := gy.wk.free 33
  have R6 := gy.work (gy.wk.UM true) (dw w9 33 (.bool true))
  have XQ := hfr2.trans (WS.bD (dw w9 33 (.bool true)))
  go_wp2_with fail
  go_ret
  have ex := hx.out
  clear hx
  subst ex
  exact ⟨rfl, v, g, R6, XQ⟩
end
end Go.Proofs.YtelnhablglomjaaGreat

namespace Go.Proofs.YtelnhablglomjaaGreat
open Go.RowKit Go.Lib Go.Sort
section
variable {w : World} {b c t d p g a : Nat} {v : Value} {m : Int} {P P1 : Pg} {M : Md} {R : Wk}
theorem nk.uniq {l l1 l2 : List Int} {n : Int} {d : Bool} {e1 e2 : Int} (h : nk l n d e1 l1) (h' : nk l n d e2 l2) : e1 = e2 ∧ l1 = l2 := by
 by_cases h1 : n < 0 ∨ (l.length : Int) ≤ n
 ·obtain ⟨rfl, rfl⟩ := h.out h1
  obtain ⟨rfl, rfl⟩ := h'.out h1
  exact ⟨rfl, rfl⟩
 ·by_cases h2 : d = decide (l.getD n.toNat 0 < 3)
  ·obtain ⟨rfl, rfl⟩ := h.good (by omega) (by omega) h2
   obtain ⟨rfl, rfl⟩ := h'.good (by omega) (by omega) h2
   exact ⟨rfl, rfl⟩
  ·obtain ⟨rfl, rfl⟩ := h.bad (by omega) (by omega) h2
   obtain ⟨rfl, rfl⟩ := h'.bad (by omega) (by omega) h2
   exact ⟨rfl, rfl⟩
def OX (b c t d p a : Nat) (m : Int) (R : Wk) (P : Pg) (x : Int) (T' : List Int) (a' : Nat) (m' : Int) (R' : Wk) (P' : Pg) : Prop :=
 ∀ (W : World) (v1 : Value) (g1 : Nat), SW W b c t d p v1 g1 a m R { P with T := T' } → Calls Tryz.prog 107 #[.pointer (some ⟨b, 0, none⟩), .pointer (some ⟨c, 0, none⟩), .int .i64 x, .int .i64 (-1)] W (az W b c t d p v1 g1 a' m' .nilFunc R' P')
def OY (b c t d p a : Nat) (m : Int) (R : Wk) (P : Pg) (x : Int) (T' : List Int) (a' : Nat) (m' : Int) (R' : Wk) (P' : Pg) : Prop :=
 ∀ (W : World) (v1 : Value) (g1 : Nat), SW W b c t d p v1 g1 a m R { P with T := T' } → Calls Tryz.prog 107 #[.pointer (some ⟨b, 0, none⟩), .pointer (some ⟨c, 0, none⟩), .int .i64 x, .int .i64 1] W (az W b c t d p v1 g1 a' m' .nilFunc R' P')
theorem resume_fn (h : SW w b c t d p v g a m R P) (hk : PK P) (hn : -9223372036854775808 ≤ R.ag.node ∧ R.ag.node ≤ 9223372036854775807) {x0 : Int} {T0 : List Int} (hT0 : nk P.T R.ag.node false x0 T0) {a' : Nat} {m' : Int} {R' : Wk} {P' : Pg}
 (V4 : OY b c t d p a m R P x0 T0 a' m' R' P') :
 Calls Tryz.prog 88 #[.pointer (some ⟨b, 0, none⟩), .pointer (some ⟨c, 0, none⟩)] w (az w b c t d p v g a' m' .nilFunc R' P') := by
 have hS := Lib.hid h
 replace hT0 := Lib.hid hT0
 have hmu := fun (W : World) (hW : SW W b c t d p v g a m R P) => IU hW.cw hk R.ag.node hn
 clear h
 go_enter Tryz.func88, Tryz.ntmps88
 go_wp2_with fail
 refine Reg2.rM 12 18 [[],[ae],[ae,ae],[ae,ae,af],[ae,ae,af,af],[ae,ae,af,af,af],[ae,ae,ae,ae,ae,ae],[ae,ae,ae,ae,ae,ae,af],[ae,ae,ae,ae,ae,ae,af,af],[ae,ae,ae,ae,ae,ae,af,af,af],[ae,ae,ae,ae,ae,ae,af,af,af,af],[ae,ae,af,af,af,af,af,af,af,af,af]] [0, 0, 0, 0, 0, 2, 0, 0, 0, 0, 2, 3]
  [.pure, .pure, .pure, .pure, .pure, .pinned Unit () (fun _ => .pointer (some ⟨d, 0, none⟩)) (fun _ _ => True), .pure, .pure, .pure, .pure, .pinned Unit () (fun _ => .int .i64 R.ag.node) (fun _ _ => True), .major Unit () (fun _ => .int .i64 x0)]
  (fun _ => True) (fun vs W => match vs with | [] => Below w.heap.size w W | _ :: _ => (ic w b c t d p v g a m R { P with T := T0 }) W) (fun _ _ => True) (by kernel_rfl) (by kernel_rfl) rfl rfl (fun vs a b h hs => by cases vs with | nil => exact Below.trans hs (h.mono (Below.size hs)) | cons v vs => exact ic.ext a b h hs) ?_ ?_ ?_ ?_ ?_ ?_
 ·intro a b he hb; trivial
 ·intro a b he hb; trivial
 ·exact ⟨trivial, trivial, trivial, trivial, trivial, ⟨fun _ _ _ _ _ => trivial, fun _ _ _ _ _ => trivial⟩, trivial, trivial, trivial, trivial, ⟨fun _ _ _ _ _ => trivial, fun _ _ _ _ _ => trivial⟩, trivial, trivial⟩
 ·trivial
 ·exact ⟨rfl, rfl, rfl, Nat.le_refl _, fun _ _ => rfl⟩
 dsimp only [Reg2.mk, List.zip, List.zipWith, List.take]
 repeat (refine' Reg2.ak _ (by rfl) (fun wz => ?_) ?_; rotate_left; (go_simp; first | rfl | rw [if_neg (by omega)]); simp only [Act.put, xA, xB, xC, xD, xE, id])
 refine Reg2.pp (fun wz _ hI hF => ?_) (fun r5 => ?_) (by rfl)
 ·have c0 := (hS.out.cw.kept hI).c1
  go_wp2_with fail
  first | exact ⟨_, rfl, rfl, Reg2.Ext.refl _⟩ | exact ⟨_, rfl, ⟨(), rfl, trivial⟩, Reg2.Ext.refl _⟩
 simp only [Act.put, xA, xB, xC, xD, xE, id]
 repeat (refine' Reg2.ak _ (by rfl) (fun wz => ?_) ?_; rotate_left; (go_simp; first | rfl | rw [if_neg (by omega)]); simp only [Act.put, xA, xB, xC, xD, xE, id])
 refine Reg2.pp (fun wz _ hI hF => ?_) (fun Bz => ?_) (by rfl)
 ·have q0 := (hS.out.kept hI).wk.at 7 (.int .i64 R.ag.node) rfl
  go_wp2_with fail
  first | exact ⟨_, rfl, rfl, Reg2.Ext.refl _⟩ | exact ⟨_, rfl, ⟨(), rfl, trivial⟩, Reg2.Ext.refl _⟩
 simp only [Act.put, xA, xB, xC, xD, xE, id]
 refine Reg2.pj (fun wz _ hI hF => ?_) (fun VS => ?_) (by rfl)
 ·go_wp2_with (go_at_call 108; go_must (refine (hmu wz (hS.out.kept hI)).mono ?_); rintro e w' ⟨x, T', hT, hL, rfl, v4, g4, p9, bM⟩)
  obtain ⟨rfl, rfl⟩ := hT0.out.uniq hT
  have hpost : ic w b c t d p v g a m R { P with T := T0 } w' := ⟨v4, g4, (hS.out.kept hI).core p9 bM, (WS.of_below hI).trans (WS.dD bM)⟩
  exact ⟨_, rfl, ⟨⟨(), rfl⟩, hpost⟩, trivial⟩
 simp only [Act.put, xA, xB, xC, xD, xE, id]
 refine Reg2.aA ?_
 intro w7 _ tq kV
 clear kV
 dsimp only [List.drop]
 obtain ⟨v7, g7, gM, yS⟩ : ic w b c t d p v g a m R { P with T := T0 } w7 := tq
 have Sl := V4 w7 v7 g7 gM
 go_wp2_with fail
 go_at_call 107
 refine Sl.mono ?_
 clear Sl
 rintro e w8 ⟨rfl, v8, g8, gL, dS⟩
 go_wp2_with fail
 go_ret
 exact ⟨rfl, v8, g8, gL, yS.trans dS⟩
theorem zU (h : SW w b c t d p v g a m R P) (hk : PK P) (V5 : P = ah M) (hI : aF M) (h1 : 1 ≤ M.dr.length) (hll : M.L.length ≤ 900) (ha : a ≤ 800) (hm : m ≤ 1000000) (hhit : dU lW M.L = none) (hn : -9223372036854775808 ≤ R.ag.node ∧ R.ag.node ≤ 9223372036854775807) {x0 : Int} {T0 : List Int} (hT0 : nk P.T R.ag.node true x0 T0) {a' : Nat} {m' : Int} {R' : Wk} {P' : Pg}
 (V4 : OX b c t d p a m R P x0 T0 a' m' R' P') :
 Calls Tryz.prog 106 #[.pointer (some ⟨b, 0, none⟩), .pointer (some ⟨c, 0, none⟩)] w (az w b c t d p v g a' m' .nilFunc R' P') := by
 obtain ⟨wA, aJ⟩ : ∃ wA, wA = w.alloc (.cells #[.int .i64 1] 3) := ⟨_, rfl⟩
 have bS : Below w.heap.size w wA := by rw [aJ]; exact (Below.refl _ _).alloc (Nat.le_refl _) _
 have Ll : aB enc1 1 wA (.slice (some ⟨w.heap.size, 0, none⟩) 1 1) [1] := by rw [aJ]; exact gB w w.heap.size [1] rfl (by decide)
 have LM := h.kept bS
 have hin := wE LM.cw.eU (by rw [V5]; show M.L.length ≤ 1000; omega) Ll
 have hJ : P.J = M.L := by rw [V5]; rfl
 rw [hJ] at hin
 have hdr := fun (W : World) (u : Value) (hC : CW W c t d p v g a m P) (hu : aB ai 10 W u (M.L.filter fun j : Jb => decide (j.state ∈ [(1 : Int)]))) => wM (V5 ▸ hC) hI h1 hll ha hm u _ (fun j : Jb => decide (j.state ∈ [(1 : Int)])) hu rfl
 have hno : M.L.findIdx? (fun j : Jb => decide (j.state ∈ [(1 : Int)]) && aj j) = none := by have := hhit; unfold dU at this; rw [← I8] at this; exact this
 rw [hno] at hdr
 have c0 := h.cw.c0
 have hS := Lib.hid h
 replace hT0 := Lib.hid hT0
 have hmu := fun (W : World) (hW : SW W b c t d p v g a m R P) => La hW.cw hk R.ag.node hn
 rw [aJ] at hin
 clear h hno hhit
 go_enter Tryz.func106, Tryz.ntmps106
 go_wp2_with fail
 go_at_call 125
 refine hin.mono ?_
 clear hin c0
 rw [← aJ]
 rintro e w1 ⟨u, rfl, ho, hb1⟩
 have hS1 := LM.kept hb1
 have hd1 := hdr w1 u hS1.cw (aB.jk ho ax rfl rfl)
 replace aJ := Lib.hid aJ
 clear ho hdr
 go_wp2_with fail
 go_at_call 123
 refine hd1.mono ?_
 clear hd1
 rintro e w2 (⟨_, rfl, hb2⟩ | ⟨i, hbad, _⟩)
 rotate_left
 ·cases hbad
 have hbw := bS.trans ((hb1.trans (hb2.mono hb1.size)).mono bS.size)
 have hS2 := Lib.hid (hS1.kept hb2)
 replace hS1 := Lib.hid hS1
 replace LM := Lib.hid LM
 go_wp2_with fail
 refine Reg2.rM 12 26 [[],[ae],[ae,ae],[ae,ae,af],[ae,ae,af,af],[ae,ae,af,af,af],[ae,ae,ae,ae,ae,ae],[ae,ae,ae,ae,ae,ae,af],[ae,ae,ae,ae,ae,ae,af,af],[ae,ae,ae,ae,ae,ae,af,af,af],[ae,ae,ae,ae,ae,ae,af,af,af,af],[ae,ae,af,af,af,af,af,af,af,af,af]] [0, 0, 0, 0, 0, 2, 0, 0, 0, 0, 2, 3]
  [.pure, .pure, .pure, .pure, .pure, .pinned Unit () (fun _ => .pointer (some ⟨d, 0, none⟩)) (fun _ _ => True), .pure, .pure, .pure, .pure, .pinned Unit () (fun _ => .int .i64 R.ag.node) (fun _ _ => True), .major Unit () (fun _ => .int .i64 x0)]
  (fun _ => True) (fun vs W => match vs with | [] => Below w2.heap.size w2 W | _ :: _ => (ic w2 b c t d p v g a m R { P with T := T0 }) W) (fun _ _ => True) (by kernel_rfl) (by kernel_rfl) rfl rfl (fun vs a b h hs => by cases vs with | nil => exact Below.trans hs (h.mono (Below.size hs)) | cons v vs => exact ic.ext a b h hs) ?_ ?_ ?_ ?_ ?_ ?_
 ·intro a b he hb; trivial
 ·intro a b he hb; trivial
 ·exact ⟨trivial, trivial, trivial, trivial, trivial, ⟨fun _ _ _ _ _ => trivial, fun _ _ _ _ _ => trivial⟩, trivial, trivial, trivial, trivial, ⟨fun _ _ _ _ _ => trivial, fun _ _ _ _ _ => trivial⟩, trivial, trivial⟩
 ·trivial
 ·exact ⟨rfl, rfl, rfl, Nat.le_refl _, fun _ _ => rfl⟩
 dsimp only [Reg2.mk, List.zip, List.zipWith, List.take]
 repeat (refine' Reg2.ak _ (by rfl) (fun wz => ?_) ?_; rotate_left; (go_simp; first | rfl | rw [if_neg (by omega)]); simp only [Act.put, xA, xB, xC, xD, xE, id])
 refine Reg2.pp (fun wz _ hI hF => ?_) (fun r5 => ?_) (by rfl)
 ·have c0 := (hS2.out.cw.kept hI).c1
  go_wp2_with fail
  first | exact ⟨_, rfl, rfl, Reg2.Ext.refl _⟩ | exact ⟨_, rfl, ⟨(), rfl, trivial⟩, Reg2.Ext.refl _⟩
 simp only [Act.put, xA, xB, xC, xD, xE, id]
 repeat (refine' Reg2.ak _ (by rfl) (fun wz => ?_) ?_; rotate_left; (go_simp; first | rfl | rw [if_neg (by omega)]); simp only [Act.put, xA, xB, xC, xD, xE, id])
 refine Reg2.pp (fun wz _ hI hF => ?_) (fun Bz => ?_) (by rfl)
 ·have q0 := (hS2.out.kept hI).wk.at 7 (.int .i64 R.ag.node) rfl
  go_wp2_with fail
  first | exact ⟨_, rfl, rfl, Reg2.Ext.refl _⟩ | exact ⟨_, rfl, ⟨(), rfl, trivial⟩, Reg2.Ext.refl _⟩
 simp only [Act.put, xA, xB, xC, xD, xE, id]
 refine Reg2.pj (fun wz _ hI hF => ?_) (fun VS => ?_) (by rfl)
 ·go_wp2_with (go_at_call 132; go_must (refine (hmu wz (hS2.out.kept hI)).mono ?_); rintro e w' ⟨x, T', hT, hL, rfl, v4, g4, p9, bM⟩)
  obtain ⟨rfl, rfl⟩ := hT0.out.uniq hT
  have hpost : ic w2 b c t d p v g a m R { P with T := T0 } w' := ⟨v4, g4, (hS2.out.kept hI).core p9 bM, (WS.of_below hI).trans (WS.dD bM)⟩
  exact ⟨_, rfl, ⟨⟨(), rfl⟩, hpost⟩, trivial⟩
 simp only [Act.put, xA, xB, xC, xD, xE, id]
 refine Reg2.aA ?_
 intro w7 _ tq kV
 clear kV
 dsimp only [List.drop]
 obtain ⟨v7, g7, gM, yS⟩ : ic w2 b c t d p v g a m R { P with T := T0 } w7 := tq
 have Sl := V4 w7 v7 g7 gM
 go_wp2_with fail
 go_at_call 107
 refine Sl.mono ?_
 clear Sl
 rintro e w8 ⟨rfl, v8, g8, gL, dS⟩
 go_wp2_with fail
 go_ret
 exact ⟨rfl, v8, g8, gL, ((WS.of_below hbw).trans yS).trans dS⟩
theorem zV (h : SW w b c t d p v g a m R (ah M)) (hI : aF M) (h1 : 1 ≤ M.dr.length) (hll : M.L.length ≤ 900) (ha : a ≤ 800) (hm : m ≤ 1000000) {i : Nat} (hhit : dU lW M.L = some i) :
 Calls Tryz.prog 106 #[.pointer (some ⟨b, 0, none⟩), .pointer (some ⟨c, 0, none⟩)] w (az w b c t d p v g (a + 2) (m + 1) (fG 106) R (ah { M with L := M.L.set i ((M.L.getD i default).aG (-1)) })) := by
 obtain ⟨wA, aJ⟩ : ∃ wA, wA = w.alloc (.cells #[.int .i64 1] 3) := ⟨_, rfl⟩
 have bS : Below w.heap.size w wA := by rw [aJ]; exact (Below.refl _ _).alloc (Nat.le_refl _) _
 have Ll : aB enc1 1 wA (.slice (some ⟨w.heap.size, 0, none⟩) 1 1) [1] := by rw [aJ]; exact gB w w.heap.size [1] rfl (by decide)
 have LM := h.kept bS
 have hin := wE LM.cw.eU (by show M.L.length ≤ 1000; omega) Ll
 rw [show (ah M).J = M.L from rfl] at hin
 have hdr := fun (W : World) (u : Value) (hC : CW W c t d p v g a m (ah M)) (hu : aB ai 10 W u (M.L.filter fun j : Jb => decide (j.state ∈ [(1 : Int)]))) => wM hC hI h1 hll ha hm u _ (fun j : Jb => decide (j.state ∈ [(1 : Int)])) hu rfl
 have hno : M.L.findIdx? (fun j : Jb => decide (j.state ∈ [(1 : Int)]) && aj j) = some i := by have := hhit; unfold dU at this; rw [← I8] at this; exact this
 rw [hno] at hdr
 have c0 := h.cw.c0
 rw [aJ] at hin
 clear h hno hhit
 go_enter Tryz.func106, Tryz.ntmps106
 go_wp2_with fail
 go_at_call 125
 refine hin.mono ?_
 clear hin c0
 rw [← aJ]
 rintro e w1 ⟨u, rfl, ho, hb1⟩
 have hS1 := LM.kept hb1
 have hd1 := hdr w1 u hS1.cw (aB.jk ho ax rfl rfl)
 replace aJ := Lib.hid aJ
 clear ho hdr
 go_wp2_with fail
 go_at_call 123
 refine hd1.mono ?_
 clear hd1
 rintro e w2 (⟨hbad, _⟩ | ⟨i2, he, rfl, v2, g2, hC2, hS2⟩)
 ·cases hbad
 obtain rfl := Option.some.inj he
 have XR := hS1.core hC2 hS2
 have hf := (WS.of_below (bS.trans (hb1.mono bS.size)) : WS w w1 b c t d p v g v g).trans (WS.dD hS2)
 go_wp2_with fail
 go_ret
 exact ⟨rfl, v2, g2, XR, hf⟩
theorem EB (h : SW w b c t d p v g a m R P) (hk : PK P) (hn : -9223372036854775808 ≤ R.ag.node ∧ R.ag.node ≤ 9223372036854775807) (hst : qE P.T R.ag.node = 1 ∨ qE P.T R.ag.node = 2) {L : Value} {a' : Nat} {m' : Int} {R' : Wk} {P' : Pg}
 (hcl : ∀ W, SW W b c t d p v g a m R P → Calls Tryz.prog 106 #[.pointer (some ⟨b, 0, none⟩), .pointer (some ⟨c, 0, none⟩)] W (az W b c t d p v g a' m' L R' P')) :
 Calls Tryz.prog 87 #[.pointer (some ⟨b, 0, none⟩), .pointer (some ⟨c, 0, none⟩)] w (az w b c t d p v g a' m' L R' P') := by
 have hS := Lib.hid h
 have xS := fun (W : World) (hW : SW W b c t d p v g a m R P) => wH R.ag.node hn hW.cw.nodes hk.rz
 generalize hsx : qE P.T R.ag.node = sx at *
 replace hsx := Lib.hid hsx
 clear h
 go_enter Tryz.func87, Tryz.ntmps87
 go_wp2_with fail
 refine Reg2.ro w 9 28 [.p 0, .p 1, .p 3, .m 7, .p 0, .p 16, .p 48, .p 112, .m 240] [.pointer (some ⟨d, 0, none⟩), .int .i64 R.ag.node] (by kernel_rfl) (by kernel_rfl) rfl rfl ⟨rfl, rfl, rfl, Nat.le_refl _, fun _ _ => rfl⟩ ?_
 dsimp only [Reg2.gU]
 repeat ((first
  | (refine' Reg2.ak _ (by rfl) (fun wz => ?_) ?_; rotate_left; (go_simp; first | rfl | rw [if_neg (by omega)]))
  | (refine Reg2.au (by rfl) (fun wz hI hF => ?_) (fun _ => ?_)
     ·unfold Reg2.One
      have c0 := (hS.out.cw.kept hI).c1
      have q0 := (hS.out.kept hI).wk.at 7 (.int .i64 R.ag.node) rfl
      go_wp2_with fail
      first | exact ⟨_, rfl, rfl, Reg2.Ext.refl _⟩ | exact ⟨_, rfl, ⟨(), rfl, trivial⟩, Reg2.Ext.refl _⟩)); simp only [Act.put, xA, xB, xC, xD, xE, id])
 refine Reg2.aA ?_
 intro w4 HI4 _ dY
 clear dY
 dsimp only [List.drop]
 have bM := hS.out.kept HI4
 have Jw := xS w4 bM
 go_wp2_with fail
 go_at_call 105
 refine Jw.mono ?_
 clear Jw
 rintro e w5 ⟨rfl, mm, wJ⟩
 have hb5 : Below w4.heap.size w4 w5 := by rw [wJ]; exact below_drewN (Below.refl _ _) _
 have hS5 := bM.kept hb5
 have Sn := hcl w5 hS5
 have Di := HI4.trans (hb5.mono HI4.size)
 replace wJ := Lib.hid wJ
 rcases hst with rfl | rfl
 all_goals
  go_wp2_with fail
  go_at_call 106
  refine Sn.mono ?_
  clear Sn
  rintro e w8 ⟨rfl, v8, g8, gL, dS⟩
  go_wp2_with fail
  go_ret
  exact ⟨rfl, v8, g8, gL, (WS.of_below Di).trans dS⟩
theorem EC (h : SW w b c t d p v g a m R P) (hk : PK P) (hn : -9223372036854775808 ≤ R.ag.node ∧ R.ag.node ≤ 9223372036854775807) (e0 : Int) (hst : (qE P.T R.ag.node = 0 ∧ e0 = 11) ∨ ((qE P.T R.ag.node = 3 ∨ qE P.T R.ag.node = 4) ∧ e0 = 8)) :
 Calls Tryz.prog 87 #[.pointer (some ⟨b, 0, none⟩), .pointer (some ⟨c, 0, none⟩)] w (az w b c t d p v g a m .nilFunc { R with rep := kK e0, ok := false } P) := by
 have hS := Lib.hid h
 have xS := fun (W : World) (hW : SW W b c t d p v g a m R P) => wH R.ag.node hn hW.cw.nodes hk.rz
 generalize hsx : qE P.T R.ag.node = sx at *
 replace hsx := Lib.hid hsx
 clear h
 go_enter Tryz.func87, Tryz.ntmps87
 go_wp2_with fail
 refine Reg2.ro w 9 28 [.p 0, .p 1, .p 3, .m 7, .p 0, .p 16, .p 48, .p 112, .m 240] [.pointer (some ⟨d, 0, none⟩), .int .i64 R.ag.node] (by kernel_rfl) (by kernel_rfl) rfl rfl ⟨rfl, rfl, rfl, Nat.le_refl _, fun _ _ => rfl⟩ ?_
 dsimp only [Reg2.gU]
 repeat ((first
  | (refine' Reg2.ak _ (by rfl) (fun wz => ?_) ?_; rotate_left; (go_simp; first | rfl | rw [if_neg (by omega)]))
  | (refine Reg2.au (by rfl) (fun wz hI hF => ?_) (fun _ => ?_)
     ·unfold Reg2.One
      have c0 := (hS.out.cw.kept hI).c1
      have q0 := (hS.out.kept hI).wk.at 7 (.int .i64 R.ag.node) rfl
      go_wp2_with fail
      first | exact ⟨_, rfl, rfl, Reg2.Ext.refl _⟩ | exact ⟨_, rfl, ⟨(), rfl, trivial⟩, Reg2.Ext.refl _⟩)); simp only [Act.put, xA, xB, xC, xD, xE, id])
 refine Reg2.aA ?_
 intro w4 HI4 _ dY
 clear dY
 dsimp only [List.drop]
 have bM := hS.out.kept HI4
 have Jw := xS w4 bM
 go_wp2_with fail
 go_at_call 105
 refine Jw.mono ?_
 clear Jw
 rintro e w5 ⟨rfl, mm, wJ⟩
 have hb5 : Below w4.heap.size w4 w5 := by rw [wJ]; exact below_drewN (Below.refl _ _) _
 have hS5 := bM.kept hb5
 have Di := HI4.trans (hb5.mono HI4.size)
 replace wJ := Lib.hid wJ
 rcases hst with ⟨rfl, rfl⟩ | ⟨rfl | rfl, rfl⟩
 ·have hf := iK hS5.wk 11
  go_wp2_with (go_at_call 42; go_must (refine hf.mono ?_); rintro e w8 ⟨rfl, dS, gq⟩)
  go_ret
  exact ⟨rfl, v, g, hS5.work dS gq, (WS.of_below Di).trans (WS.bD gq)⟩
 all_goals
  have hf := iK hS5.wk 8
  go_wp2_with (go_at_call 42; go_must (refine hf.mono ?_); rintro e w8 ⟨rfl, dS, gq⟩)
  go_ret
  exact ⟨rfl, v, g, hS5.work dS gq, (WS.of_below Di).trans (WS.bD gq)⟩
end
end Go.Proofs.YtelnhablglomjaaGreat

namespace Go.Proofs.YtelnhablglomjaaGreat
open Go.RowKit Go.Lib Go.Sort
section
variable {w : World} {b c t d p g a : Nat} {v : Value} {m : Int} {P : Pg} {R : Wk}
theorem OZ (h : SW w b c t d p v g a m R P) (hk : PK P) (hlow : R.ag.till < 1) :
 Calls Tryz.prog 89 #[.pointer (some ⟨b, 0, none⟩), .pointer (some ⟨c, 0, none⟩)] w (az w b c t d p v g a m .nilFunc { R with rep := kK 10, ok := false } P) := by
 have hS := Lib.hid h
 have hsub := fun (W : World) => Ci 1099511627776 P.now W
 have hnw := hk.now
 obtain ⟨sb, hsb⟩ : ∃ sb, sb = 1099511627776 - P.now := ⟨_, rfl⟩
 rw [show hd (hd 1099511627776 - hd P.now) = sb by rw [hsb]; unfold hd; omega] at hsub
 obtain ⟨ty, hty⟩ : ∃ ty, R.ag.till = ty := ⟨_, rfl⟩
 rw [hty] at hlow
 have d1 : decide (ty < 1) = true := decide_eq_true hlow
 replace hty := Lib.hid hty
 replace hsb := Lib.hid hsb
 clear h
 go_enter Tryz.func89, Tryz.ntmps89
 go_wp2_with fail
 refine Reg2.ro w 18 44 [.p 0, .p 1, .p 3, .p 7, .m 15, .p 31, .p 63, .p 127, .p 255, .p 511, .p 1023, .m 2047, .p 127, .p 4223, .p 12415, .m 28799, .m 61567, .m 127103] [.int .i64 ty, .int .i64 ty, .pointer (some ⟨p, 0, none⟩), .int .i64 P.now, .int .i64 sb] (by kernel_rfl) (by kernel_rfl) rfl rfl ⟨rfl, rfl, rfl, Nat.le_refl _, fun _ _ => rfl⟩ ?_
 dsimp only [Reg2.gU]
 repeat ((first
  | (refine' Reg2.ak _ (by rfl) (fun wz => ?_) ?_; rotate_left; (go_simp; first | rfl | rw [if_neg (by omega)]))
  | refine Reg2.uV (by rfl) ?_
  | refine Reg2.l8 (by rfl) ?_
  | (refine Reg2.au (by rfl) (fun wz hI hF => ?_) (fun _ => ?_)
     ·unfold Reg2.One
      have q0 := (hS.out.kept hI).wk.at 8 (.int .i64 R.ag.till) rfl
      rw [hty.out] at q0
      go_wp2_with fail
      first | exact ⟨_, rfl, rfl, Reg2.Ext.refl _⟩ | exact ⟨_, rfl, ⟨(), rfl, trivial⟩, Reg2.Ext.refl _⟩)); simp only [Act.put, xA, xB, xC, xD, xE, id])
 refine Reg2.aA ?_
 intro w4 HI4 _ dY
 clear dY
 dsimp only [List.drop]
 have bM := hS.out.kept HI4
 have hf := iK bM.wk 10
 go_wp2_with (go_at_call 42; go_must (refine hf.mono ?_); rintro e w8 ⟨rfl, dS, gq⟩)
 go_ret
 exact ⟨rfl, v, g, bM.work dS gq, (WS.of_below HI4).trans (WS.bD gq)⟩
theorem LP (h : SW w b c t d p v g a m R P) (hk : PK P) (hlow : ¬ R.ag.till < 1) (hhi : 1099511627776 - P.now < R.ag.till) :
 Calls Tryz.prog 89 #[.pointer (some ⟨b, 0, none⟩), .pointer (some ⟨c, 0, none⟩)] w (az w b c t d p v g a m .nilFunc { R with rep := kK 10, ok := false } P) := by
 have hS := Lib.hid h
 have hsub := fun (W : World) => Ci 1099511627776 P.now W
 have hnw := hk.now
 obtain ⟨sb, hsb⟩ : ∃ sb, sb = 1099511627776 - P.now := ⟨_, rfl⟩
 rw [show hd (hd 1099511627776 - hd P.now) = sb by rw [hsb]; unfold hd; omega] at hsub
 obtain ⟨ty, hty⟩ : ∃ ty, R.ag.till = ty := ⟨_, rfl⟩
 rw [hty] at hlow hhi
 have d1 : decide (ty < 1) = false := decide_eq_false hlow
 have d2 : decide (ty > sb) = true := decide_eq_true (by omega)
 replace hhi := Lib.hid hhi
 replace hty := Lib.hid hty
 replace hsb := Lib.hid hsb
 clear h
 go_enter Tryz.func89, Tryz.ntmps89
 go_wp2_with fail
 refine Reg2.ro w 18 44 [.p 0, .p 1, .p 3, .p 7, .m 15, .p 31, .p 63, .p 127, .p 255, .p 511, .p 1023, .m 2047, .p 127, .p 4223, .p 12415, .m 28799, .m 61567, .m 127103] [.int .i64 ty, .int .i64 ty, .pointer (some ⟨p, 0, none⟩), .int .i64 P.now, .int .i64 sb] (by kernel_rfl) (by kernel_rfl) rfl rfl ⟨rfl, rfl, rfl, Nat.le_refl _, fun _ _ => rfl⟩ ?_
 dsimp only [Reg2.gU]
 repeat ((first
  | (refine' Reg2.ak _ (by rfl) (fun wz => ?_) ?_; rotate_left; (go_simp; first | rfl | rw [if_neg (by omega)]))
  | (refine Reg2.au (by rfl) (fun wz hI hF => ?_) (fun _ => ?_)
     ·unfold Reg2.One
      have q0 := (hS.out.kept hI).wk.at 8 (.int .i64 R.ag.till) rfl
      rw [hty.out] at q0
      have c0 := (hS.out.cw.kept hI).c2
      go_wp2_with fail
      first | exact ⟨_, rfl, rfl, Reg2.Ext.refl _⟩ | exact ⟨_, rfl, ⟨(), rfl, trivial⟩, Reg2.Ext.refl _⟩)); simp only [Act.put, xA, xB, xC, xD, xE, id])
 refine Reg2.pm (fun wz hI hF => ?_) (fun r16 => ?_) (by rfl)
 ·go_wp2_with (go_at_call 95; go_must (refine (gK (hS.out.kept hI).cw).mono ?_); rintro e w' ⟨rfl, rfl⟩)
  first | exact ⟨_, rfl, rfl, Reg2.Ext.refl _⟩ | exact ⟨_, rfl, ⟨(), rfl, trivial⟩, Reg2.Ext.refl _⟩
 simp only [Act.put, xA, xB, xC, xD, xE, id]
 refine Reg2.pm (fun wz hI hF => ?_) (fun YX => ?_) (by rfl)
 ·go_wp2_with (go_at_call 109; go_must (refine (hsub wz).mono ?_); rintro e w' ⟨rfl, rfl⟩)
  first | exact ⟨_, rfl, rfl, Reg2.Ext.refl _⟩ | exact ⟨_, rfl, ⟨(), rfl, trivial⟩, Reg2.Ext.refl _⟩
 simp only [Act.put, xA, xB, xC, xD, xE, id]
 refine Reg2.aA ?_
 intro w4 HI4 _ dY
 clear dY
 dsimp only [List.drop]
 have bM := hS.out.kept HI4
 have hf := iK bM.wk 10
 go_wp2_with (go_at_call 42; go_must (refine hf.mono ?_); rintro e w8 ⟨rfl, dS, gq⟩)
 go_ret
 exact ⟨rfl, v, g, bM.work dS gq, (WS.of_below HI4).trans (WS.bD gq)⟩
theorem Jy (h : SW w b c t d p v g a m R P) (hk : PK P) (hlow : ¬ R.ag.till < 1) (hhi : ¬ 1099511627776 - P.now < R.ag.till) {L : Value} {a' : Nat} {m' : Int} {R' : Wk} {P' : Pg}
 (hfw : ∀ W, SW W b c t d p v g a m { R with target := P.now + R.ag.till } P → Calls Tryz.prog 110 #[.pointer (some ⟨b, 0, none⟩), .pointer (some ⟨c, 0, none⟩)] W (az W b c t d p v g a' m' L R' P')) :
 Calls Tryz.prog 89 #[.pointer (some ⟨b, 0, none⟩), .pointer (some ⟨c, 0, none⟩)] w (az w b c t d p v g a' m' L R' P') := by
 have hS := Lib.hid h
 have hsub := fun (W : World) => Ci 1099511627776 P.now W
 have hnw := hk.now
 obtain ⟨sb, hsb⟩ : ∃ sb, sb = 1099511627776 - P.now := ⟨_, rfl⟩
 rw [show hd (hd 1099511627776 - hd P.now) = sb by rw [hsb]; unfold hd; omega] at hsub
 obtain ⟨ty, hty⟩ : ∃ ty, R.ag.till = ty := ⟨_, rfl⟩
 rw [hty] at hlow hhi hfw
 have d1 : decide (ty < 1) = false := decide_eq_false hlow
 have d2 : decide (ty > sb) = false := decide_eq_false (by omega)
 have wt : IntKind.i64.wrap (P.now + ty) = P.now + ty := by rw [IntKind.wrap_i64]; omega
 replace hhi := Lib.hid hhi
 replace hty := Lib.hid hty
 replace hsb := Lib.hid hsb
 clear h
 go_enter Tryz.func89, Tryz.ntmps89
 go_wp2_with fail
 refine Reg2.ro w 18 44 [.p 0, .p 1, .p 3, .p 7, .m 15, .p 31, .p 63, .p 127, .p 255, .p 511, .p 1023, .m 2047, .p 127, .p 4223, .p 12415, .m 28799, .m 61567, .m 127103] [.int .i64 ty, .int .i64 ty, .pointer (some ⟨p, 0, none⟩), .int .i64 P.now, .int .i64 sb] (by kernel_rfl) (by kernel_rfl) rfl rfl ⟨rfl, rfl, rfl, Nat.le_refl _, fun _ _ => rfl⟩ ?_
 dsimp only [Reg2.gU]
 repeat ((first
  | (refine' Reg2.ak _ (by rfl) (fun wz => ?_) ?_; rotate_left; (go_simp; first | rfl | rw [if_neg (by omega)]))
  | (refine Reg2.au (by rfl) (fun wz hI hF => ?_) (fun _ => ?_)
     ·unfold Reg2.One
      have q0 := (hS.out.kept hI).wk.at 8 (.int .i64 R.ag.till) rfl
      rw [hty.out] at q0
      have c0 := (hS.out.cw.kept hI).c2
      go_wp2_with fail
      first | exact ⟨_, rfl, rfl, Reg2.Ext.refl _⟩ | exact ⟨_, rfl, ⟨(), rfl, trivial⟩, Reg2.Ext.refl _⟩)); simp only [Act.put, xA, xB, xC, xD, xE, id])
 refine Reg2.pm (fun wz hI hF => ?_) (fun r16 => ?_) (by rfl)
 ·go_wp2_with (go_at_call 95; go_must (refine (gK (hS.out.kept hI).cw).mono ?_); rintro e w' ⟨rfl, rfl⟩)
  first | exact ⟨_, rfl, rfl, Reg2.Ext.refl _⟩ | exact ⟨_, rfl, ⟨(), rfl, trivial⟩, Reg2.Ext.refl _⟩
 simp only [Act.put, xA, xB, xC, xD, xE, id]
 refine Reg2.pm (fun wz hI hF => ?_) (fun YX => ?_) (by rfl)
 ·go_wp2_with (go_at_call 109; go_must (refine (hsub wz).mono ?_); rintro e w' ⟨rfl, rfl⟩)
  first | exact ⟨_, rfl, rfl, Reg2.Ext.refl _⟩ | exact ⟨_, rfl, ⟨(), rfl, trivial⟩, Reg2.Ext.refl _⟩
 simp only [Act.put, xA, xB, xC, xD, xE, id]
 refine Reg2.aA ?_
 intro w4 HI4 _ dY
 clear dY
 dsimp only [List.drop]
 have bM := Lib.hid (hS.out.kept HI4)
 go_wp2_with fail
 refine Reg2.ro w4 12 44 [.p 0, .p 0, .p 2, .p 6, .m 14, .m 30, .p 0, .p 64, .p 192, .p 448, .m 960, .p 2046] [.pointer (some ⟨p, 0, none⟩), .int .i64 P.now, .int .i64 ty] (by kernel_rfl) (by kernel_rfl) rfl rfl ⟨rfl, rfl, rfl, Nat.le_refl _, fun _ _ => rfl⟩ ?_
 dsimp only [Reg2.gU]
 repeat ((first
  | (refine' Reg2.ak _ (by rfl) (fun wz => ?_) ?_; rotate_left; (go_simp; first | rfl | rw [if_neg (by omega)]))
  | (refine Reg2.au (by rfl) (fun wz hI hF => ?_) (fun _ => ?_)
     ·unfold Reg2.One
      have c0 := (bM.out.cw.kept hI).c2
      go_wp2_with fail
      first | exact ⟨_, rfl, rfl, Reg2.Ext.refl _⟩ | exact ⟨_, rfl, ⟨(), rfl, trivial⟩, Reg2.Ext.refl _⟩)); simp only [Act.put, xA, xB, xC, xD, xE, id])
 refine Reg2.pm (fun wz hI hF => ?_) (fun r5 => ?_) (by rfl)
 ·go_wp2_with (go_at_call 95; go_must (refine (gK (bM.out.kept hI).cw).mono ?_); rintro e w' ⟨rfl, rfl⟩)
  first | exact ⟨_, rfl, rfl, Reg2.Ext.refl _⟩ | exact ⟨_, rfl, ⟨(), rfl, trivial⟩, Reg2.Ext.refl _⟩
 simp only [Act.put, xA, xB, xC, xD, xE, id]
 repeat ((first
  | (refine' Reg2.ak _ (by rfl) (fun wz => ?_) ?_; rotate_left; (go_simp; first | rfl | rw [if_neg (by omega)]))
  | (refine Reg2.au (by rfl) (fun wz hI hF => ?_) (fun _ => ?_)
     ·unfold Reg2.One
      have q0 := (bM.out.kept hI).wk.at 8 (.int .i64 R.ag.till) rfl
      rw [hty.out] at q0
      go_wp2_with fail
      first | exact ⟨_, rfl, rfl, Reg2.Ext.refl _⟩ | exact ⟨_, rfl, ⟨(), rfl, trivial⟩, Reg2.Ext.refl _⟩)); simp only [Act.put, xA, xB, xC, xD, xE, id])
 refine Reg2.aA ?_
 intro w6 I6 _ dY
 clear dY
 dsimp only [List.drop]
 have eX := bM.out.kept I6
 have a23 := eX.wk.at 23 (.int .i64 R.target) rfl
 have f23 := eX.wk.free 23
 have gM := eX.work (eX.wk.target (P.now + ty)) (dw w6 23 (.int .i64 (P.now + ty)))
 have Lt := (WS.of_below (HI4.trans (I6.mono HI4.size)) : WS w w6 b c t d p v g v g).trans (WS.bD (dw w6 23 (.int .i64 (P.now + ty))))
 have UY := hfw _ gM
 go_wp2_with fail
 go_at_call 110
 refine UY.mono ?_
 clear UY
 rintro e w8 ⟨rfl, v8, g8, gL, dS⟩
 have Lp := Lt.trans dS
 go_wp2_with fail
 go_ret
 exact ⟨rfl, v8, g8, gL, Lp⟩
end
end Go.Proofs.YtelnhablglomjaaGreat

namespace Go.Proofs.YtelnhablglomjaaGreat
open Go.RowKit Go.Lib Go.Sort
section
variable {w : World} {b c t d p g a : Nat} {v : Value} {m : Int} {P : Pg} {M : Md} {R : Wk}
theorem Ak (h : SW w b c t d p v g a m R P) (hq : R.ag.kind = 6) (e1 : Int) (he1 : e1 ≠ 0) (he : gN P.J R.ag.id = e1) :
 Calls Tryz.prog 70 #[.pointer (some ⟨b, 0, none⟩), .pointer (some ⟨c, 0, none⟩)] w (az w b c t d p v g a m .nilFunc { R with rep := kK e1, ok := false } P) := by
 have zJ := bJ
 obtain ⟨k, hk1⟩ : ∃ k, k = 10 := ⟨_, rfl⟩
 rw [← hk1] at zJ
 have hk0 : ¬ k = 0 := by omega
 have lY := ax (bO P.J R.ag.id)
 rw [← hk1] at lY
 replace hk1 := Lib.hid hk1
 have q0 := h.wk.at 0 (.int .i64 R.ag.kind) rfl
 rw [hq] at q0
 obtain ⟨y, hy⟩ : ∃ y, y = bO P.J R.ag.id := ⟨_, rfl⟩
 obtain ⟨e0, he0⟩ : ∃ e0, e0 = gN P.J R.ag.id := ⟨_, rfl⟩
 have hgo : Hid (∀ W, SW W b c t d p v g a m R P → Calls Tryz.prog 77 #[.pointer (some ⟨t, 0, none⟩), .int .i64 R.ag.id] W fun e w' => e = .returned (.tuple #[.agg (ai y).toArray, .int .i64 e0]) ∧ Gr W w') := fun W hW => by
  have := gY hW.cw.eU R.ag.id
  unfold iU at this
  rw [← hy, ← he0] at this
  exact this
 rw [← he0] at he
 rw [← hy] at lY
 replace he := Lib.hid he
 have hS := Lib.hid h
 replace he0 := Lib.hid he0
 replace hy := Lib.hid hy
 replace hq := Lib.hid hq
 clear h
 go_enter Tryz.func70, Tryz.ntmps70
 go_wp2_with fail
 refine Reg2.rJ 15 73 [[],[af],[af,af],[af,af,af],[ae,ae,ae,ae],[ae,ae,ae,ae,af],[ae,ae,ae,ae,af,af],[ae,ae,ae,ae,af,af,af],[ae,ae,ae,ae,af,af,af,af],[af,af,af,af,af,af,af,af,af],[af,af,af,af,af,af,af,af,af,af],[af,af,af,af,af,af,af,af,af,af,af],[af,af,af,af,af,af,af,af,af,af,af,ae],[ae,ae,ae,ae,ae,ae,ae,ae,ae,ae,ae,ae,ae],[af,af,af,af,af,af,af,af,af,af,af,af,ae,af]] [0, 0, 0, 1, 0, 0, 0, 0, 1, 1, 0, 0, 0, 3, 3]
  [.pure, .pure, .pure, .mU (.pointer (some ⟨t, 0, none⟩)), .pure, .pure, .pure, .pure, .mU (.int .i64 R.ag.id), .mU (.tuple #[.agg (ai y).toArray, .int .i64 e0]), .pure, .pure, .pure, .major Nat 0 (fun k => .pointer (some ⟨k, 0, none⟩)), .major Unit () (fun _ => undef)]
  (fun W => Below w.heap.size w W) (iL w y) (fun a b => Below w.heap.size a b) (by kernel_rfl) (by kernel_rfl) rfl rfl (fun vs a b h hs => iL.ext h hs) ?_ ?_ ?_ ?_ ?_ ?_ ?_
 ·intro a b he hb; exact hb.trans (Below.mono he hb.size)
 ·intro a b he hb; exact hb.trans he
 ·exact ⟨trivial, trivial, trivial, ⟨fun _ _ _ _ _ => trivial, fun _ _ _ _ _ => trivial⟩, trivial, trivial, trivial, trivial, ⟨fun _ _ _ _ _ => trivial, fun _ _ _ _ _ => trivial⟩, ⟨fun _ _ _ _ _ => trivial, fun _ _ _ _ _ => trivial⟩, trivial, trivial, trivial, trivial, trivial, trivial⟩
 ·exact ⟨(fun h => nomatch h), (fun h => nomatch h), (fun h => nomatch h), (fun h => nomatch h), (fun h => nomatch h), (fun h => nomatch h), (fun h => nomatch h), (fun h => nomatch h), (fun h => nomatch h), (fun h => nomatch h), (fun h => nomatch h), (fun h => nomatch h), (fun h => nomatch h), (fun h => nomatch h), (fun _ _ => rfl), trivial⟩
 ·exact ⟨rfl, rfl, rfl, Nat.le_refl _, fun _ _ => rfl⟩
 ·exact ⟨⟨rfl, rfl, rfl, Nat.le_refl _, fun _ _ => rfl⟩, trivial⟩
 dsimp only [Reg2.mk, List.zip, List.zipWith, List.take]
 repeat ((first
  | (refine' Reg2.ak _ (by rfl) (fun wz => ?_) ?_; rotate_left; (go_simp; first | rfl | rw [if_neg (by omega)]))
  | (refine Reg2.au (by rfl) (fun wz hI hF => ?_) (fun _ => ?_)
     ·unfold Reg2.One
      have c0 := (hS.out.kept hI).cw.c0
      have q0 := (hS.out.kept hI).wk.at 1 (.int .i64 R.ag.id) rfl
      go_wp2_with fail
      first | exact ⟨_, rfl, rfl, Reg2.Ext.refl _⟩ | exact ⟨_, rfl, ⟨(), rfl, trivial⟩, Reg2.Ext.refl _⟩)); simp only [Act.put, xA, xB, xC, xD, xE, id])
 refine Reg2.pm (fun wz hI hF => ?_) (fun r9 => ?_) (by rfl)
 ·go_wp2_with (go_at_call 77; go_must (refine (hgo.out wz (hS.out.kept hI)).mono ?_); rintro e w' ⟨rfl, hg5⟩; have hb5 := hg5.below)
  first | exact ⟨_, rfl, ⟨(), rfl, trivial⟩, hb5⟩ | exact ⟨_, rfl, rfl, hb5⟩
 simp only [Act.put, xA, xB, xC, xD, xE, id]
 repeat (refine' Reg2.ak _ (by rfl) (fun wz => ?_) ?_; rotate_left; (go_simp; first | rfl | rw [if_neg (by omega)]); simp only [Act.put, xA, xB, xC, xD, xE, id])
 refine Reg2.pj (fun wz hI hS hF => ?_) (fun V6 => ?_) (by rfl)
 ·go_wp2_with fail
  exact ⟨_, rfl, ⟨⟨_, rfl⟩, iL.alloc hS⟩, (Below.refl _ _).alloc hI.size _⟩
 simp only [Act.put, xA, xB, xC, xD, xE, id]
 refine Reg2.pj (fun wz hI hS hF => ?_) (fun OM => ?_) (by rfl)
 ·obtain ⟨hz, hge⟩ := iL.zero hS
  have Aj := oV (x := y) hz
  have hfin := iL.store hS
  have hbw : Below w.heap.size wz (wz.setRow V6 (ai y).toArray) := rA (Below.refl _ _) hge _
  generalize ai y = cY at *
  go_wp2_with fail
  exact ⟨_, rfl, ⟨⟨(), rfl⟩, hfin⟩, hbw⟩
 simp only [Act.put, xA, xB, xC, xD, xE, id]
 refine Reg2.aA ?_
 intro w7 kF tq kV
 clear kV tq
 dsimp only [List.drop]
 have gM := hS.out.kept kF
 have d3 : (e0 != 0) = true := by rw [he.out]; simp [he1]
 have hf := iK gM.wk e0
 go_wp2_with (go_at_call 42; go_must (refine hf.mono ?_); rintro e w8 ⟨rfl, dS, gq⟩)
 go_ret
 have e9 := he.out
 clear he
 subst e9
 exact ⟨rfl, v, g, gM.work dS gq, (WS.of_below kF).trans (WS.bD gq)⟩
theorem Cq (h : SW w b c t d p v g a m R P) (hq : R.ag.kind = 6) (he : gN P.J R.ag.id = 0) :
 Calls Tryz.prog 70 #[.pointer (some ⟨b, 0, none⟩), .pointer (some ⟨c, 0, none⟩)] w (az w b c t d p v g a m .nilFunc { R with rep := jh (bO P.J R.ag.id) } P) := by
 have zJ := bJ
 obtain ⟨k, hk1⟩ : ∃ k, k = 10 := ⟨_, rfl⟩
 rw [← hk1] at zJ
 have hk0 : ¬ k = 0 := by omega
 have lY := ax (bO P.J R.ag.id)
 rw [← hk1] at lY
 replace hk1 := Lib.hid hk1
 have q0 := h.wk.at 0 (.int .i64 R.ag.kind) rfl
 rw [hq] at q0
 obtain ⟨y, hy⟩ : ∃ y, y = bO P.J R.ag.id := ⟨_, rfl⟩
 obtain ⟨e0, he0⟩ : ∃ e0, e0 = gN P.J R.ag.id := ⟨_, rfl⟩
 have hgo : Hid (∀ W, SW W b c t d p v g a m R P → Calls Tryz.prog 77 #[.pointer (some ⟨t, 0, none⟩), .int .i64 R.ag.id] W fun e w' => e = .returned (.tuple #[.agg (ai y).toArray, .int .i64 e0]) ∧ Gr W w') := fun W hW => by
  have := gY hW.cw.eU R.ag.id
  unfold iU at this
  rw [← hy, ← he0] at this
  exact this
 rw [← he0] at he
 rw [← hy] at lY
 replace he := Lib.hid he
 have hS := Lib.hid h
 replace he0 := Lib.hid he0
 replace hy := Lib.hid hy
 replace hq := Lib.hid hq
 clear h
 go_enter Tryz.func70, Tryz.ntmps70
 go_wp2_with fail
 refine Reg2.rJ 15 73 [[],[af],[af,af],[af,af,af],[ae,ae,ae,ae],[ae,ae,ae,ae,af],[ae,ae,ae,ae,af,af],[ae,ae,ae,ae,af,af,af],[ae,ae,ae,ae,af,af,af,af],[af,af,af,af,af,af,af,af,af],[af,af,af,af,af,af,af,af,af,af],[af,af,af,af,af,af,af,af,af,af,af],[af,af,af,af,af,af,af,af,af,af,af,ae],[ae,ae,ae,ae,ae,ae,ae,ae,ae,ae,ae,ae,ae],[af,af,af,af,af,af,af,af,af,af,af,af,ae,af]] [0, 0, 0, 1, 0, 0, 0, 0, 1, 1, 0, 0, 0, 3, 3]
  [.pure, .pure, .pure, .mU (.pointer (some ⟨t, 0, none⟩)), .pure, .pure, .pure, .pure, .mU (.int .i64 R.ag.id), .mU (.tuple #[.agg (ai y).toArray, .int .i64 e0]), .pure, .pure, .pure, .major Nat 0 (fun k => .pointer (some ⟨k, 0, none⟩)), .major Unit () (fun _ => undef)]
  (fun W => Below w.heap.size w W) (iL w y) (fun a b => Below w.heap.size a b) (by kernel_rfl) (by kernel_rfl) rfl rfl (fun vs a b h hs => iL.ext h hs) ?_ ?_ ?_ ?_ ?_ ?_ ?_
 ·intro a b he hb; exact hb.trans (Below.mono he hb.size)
 ·intro a b he hb; exact hb.trans he
 ·exact ⟨trivial, trivial, trivial, ⟨fun _ _ _ _ _ => trivial, fun _ _ _ _ _ => trivial⟩, trivial, trivial, trivial, trivial, ⟨fun _ _ _ _ _ => trivial, fun _ _ _ _ _ => trivial⟩, ⟨fun _ _ _ _ _ => trivial, fun _ _ _ _ _ => trivial⟩, trivial, trivial, trivial, trivial, trivial, trivial⟩
 ·exact ⟨(fun h => nomatch h), (fun h => nomatch h), (fun h => nomatch h), (fun h => nomatch h), (fun h => nomatch h), (fun h => nomatch h), (fun h => nomatch h), (fun h => nomatch h), (fun h => nomatch h), (fun h => nomatch h), (fun h => nomatch h), (fun h => nomatch h), (fun h => nomatch h), (fun h => nomatch h), (fun _ _ => rfl), trivial⟩
 ·exact ⟨rfl, rfl, rfl, Nat.le_refl _, fun _ _ => rfl⟩
 ·exact ⟨⟨rfl, rfl, rfl, Nat.le_refl _, fun _ _ => rfl⟩, trivial⟩
 dsimp only [Reg2.mk, List.zip, List.zipWith, List.take]
 repeat ((first
  | (refine' Reg2.ak _ (by rfl) (fun wz => ?_) ?_; rotate_left; (go_simp; first | rfl | rw [if_neg (by omega)]))
  | (refine Reg2.au (by rfl) (fun wz hI hF => ?_) (fun _ => ?_)
     ·unfold Reg2.One
      have c0 := (hS.out.kept hI).cw.c0
      have q0 := (hS.out.kept hI).wk.at 1 (.int .i64 R.ag.id) rfl
      go_wp2_with fail
      first | exact ⟨_, rfl, rfl, Reg2.Ext.refl _⟩ | exact ⟨_, rfl, ⟨(), rfl, trivial⟩, Reg2.Ext.refl _⟩)); simp only [Act.put, xA, xB, xC, xD, xE, id])
 refine Reg2.pm (fun wz hI hF => ?_) (fun r9 => ?_) (by rfl)
 ·go_wp2_with (go_at_call 77; go_must (refine (hgo.out wz (hS.out.kept hI)).mono ?_); rintro e w' ⟨rfl, hg5⟩; have hb5 := hg5.below)
  first | exact ⟨_, rfl, ⟨(), rfl, trivial⟩, hb5⟩ | exact ⟨_, rfl, rfl, hb5⟩
 simp only [Act.put, xA, xB, xC, xD, xE, id]
 repeat (refine' Reg2.ak _ (by rfl) (fun wz => ?_) ?_; rotate_left; (go_simp; first | rfl | rw [if_neg (by omega)]); simp only [Act.put, xA, xB, xC, xD, xE, id])
 refine Reg2.pj (fun wz hI hS hF => ?_) (fun V6 => ?_) (by rfl)
 ·go_wp2_with fail
  exact ⟨_, rfl, ⟨⟨_, rfl⟩, iL.alloc hS⟩, (Below.refl _ _).alloc hI.size _⟩
 simp only [Act.put, xA, xB, xC, xD, xE, id]
 refine Reg2.pj (fun wz hI hS hF => ?_) (fun OM => ?_) (by rfl)
 ·obtain ⟨hz, hge⟩ := iL.zero hS
  have Aj := oV (x := y) hz
  have hfin := iL.store hS
  have hbw : Below w.heap.size wz (wz.setRow V6 (ai y).toArray) := rA (Below.refl _ _) hge _
  generalize ai y = cY at *
  go_wp2_with fail
  exact ⟨_, rfl, ⟨⟨(), rfl⟩, hfin⟩, hbw⟩
 simp only [Act.put, xA, xB, xC, xD, xE, id]
 refine Reg2.aA ?_
 intro w7 kF tq kV
 clear kV tq
 dsimp only [List.drop]
 have gM := hS.out.kept kF
 have d3 : (e0 != 0) = false := by rw [he.out]; rfl
 have q1 := gM.wk.at 1 (.int .i64 R.ag.id) rfl
 have ht := oO gM R.ag.id
 go_wp2_with (go_at_call 78; go_must (refine ht.mono ?_); rintro e w8 ⟨rfl, dS, gq⟩)
 go_ret
 exact ⟨rfl, v, g, gM.work dS gq, (WS.of_below kF).trans (WS.bD gq)⟩
theorem LQ (h : SW w b c t d p v g a m R P) (hk : PK P) (hq : R.ag.kind = 10) :
 Calls Tryz.prog 70 #[.pointer (some ⟨b, 0, none⟩), .pointer (some ⟨c, 0, none⟩)] w (az w b c t d p v g a m .nilFunc { R with rep := ⟨0, 0, 0, 0, 0, 0, (aO (iq P.T) 64 : Int), (aO (bW P.T) 64 : Int), (aO (fun i => bX P.T i && !bW P.T i) 64 : Int)⟩ } P) := by
 have q0 := h.wk.at 0 (.int .i64 R.ag.kind) rfl
 rw [hq] at q0
 replace hq := Lib.hid hq
 have zY := wK
 obtain ⟨k9, bP⟩ : ∃ k, k = 9 := ⟨_, rfl⟩
 rw [← bP] at zY
 have hk0 : ¬ k9 = 0 := by omega
 have cc := h.cw.c1
 have hco := Iu h.cw.nodes hk.rz
 have hth := fun (x y z : Int) (W : World) => yO x y z W
 obtain ⟨v0, hv0⟩ : ∃ x : Int, x = (aO (iq P.T) 64 : Int) := ⟨_, rfl⟩
 obtain ⟨v1, hv1⟩ : ∃ x : Int, x = (aO (bW P.T) 64 : Int) := ⟨_, rfl⟩
 obtain ⟨v2, hv2⟩ : ∃ x : Int, x = (aO (fun i => bX P.T i && !bW P.T i) 64 : Int) := ⟨_, rfl⟩
 rw [← hv0, ← hv1, ← hv2] at hco ⊢
 replace hv0 := Lib.hid hv0
 replace hv1 := Lib.hid hv1
 replace hv2 := Lib.hid hv2
 have hS := Lib.hid h
 clear h
 go_enter Tryz.func70, Tryz.ntmps70
 go_wp2_with fail
 go_at_call 80
 refine hco.mono ?_
 clear hco
 rintro e w1 ⟨rfl, mm, hw1⟩
 have hb1 : Below w.heap.size w w1 := by rw [hw1]; exact below_drewN (Below.refl _ _) _
 replace hw1 := Lib.hid hw1
 have hS1 := hS.out.kept hb1
 go_wp2_with fail
 go_at_call 79
 refine (hth _ _ _ w1).mono ?_
 clear hth
 rintro e w2 ⟨rfl, hb2⟩
 have hS2 := hS1.kept hb2
 obtain ⟨y, hy⟩ : ∃ y : Ry, y = ⟨0, 0, 0, 0, 0, 0, v0, v1, v2⟩ := ⟨_, rfl⟩
 rw [← hy]
 replace hy := Lib.hid hy
 obtain ⟨st, hW3⟩ := hS2.wk.Gh y
 have lY := jJ y
 rw [← bP] at lY
 replace bP := Lib.hid bP
 have Cr := hS2.work hW3 (cK w2 _)
 have hfin := ((WS.of_below (hb1.trans (hb2.mono hb1.size)) : WS w w2 b c t d p v g v g)).trans (WS.bD (cK w2 (gG { R with rep := y }).toArray))
 generalize gG { R with rep := y } = W2 at *
 generalize bK y = cY at *
 go_wp2_with fail
 go_ret
 have ey := hy.out
 clear hy
 subst ey
 exact ⟨rfl, v, g, Cr, hfin⟩
theorem LU (h : SW w b c t d p v g a m R P) (hk : PK P) (hq : R.ag.kind = 11) :
 Calls Tryz.prog 70 #[.pointer (some ⟨b, 0, none⟩), .pointer (some ⟨c, 0, none⟩)] w (az w b c t d p v g a m .nilFunc { R with rep := ⟨0, 0, 0, 0, 0, 0, (cnt 1 P.J : Int), (cnt 2 P.J : Int), (cnt 3 P.J : Int)⟩ } P) := by
 have q0 := h.wk.at 0 (.int .i64 R.ag.kind) rfl
 rw [hq] at q0
 replace hq := Lib.hid hq
 have zY := wK
 obtain ⟨k9, bP⟩ : ∃ k, k = 9 := ⟨_, rfl⟩
 rw [← bP] at zY
 have hk0 : ¬ k9 = 0 := by omega
 have cc := h.cw.c0
 have hco := Bt h.cw.eU (by have := hk.few; omega)
 have hth := fun (x y z : Int) (W : World) => yO x y z W
 obtain ⟨v0, hv0⟩ : ∃ x : Int, x = (cnt 1 P.J : Int) := ⟨_, rfl⟩
 obtain ⟨v1, hv1⟩ : ∃ x : Int, x = (cnt 2 P.J : Int) := ⟨_, rfl⟩
 obtain ⟨v2, hv2⟩ : ∃ x : Int, x = (cnt 3 P.J : Int) := ⟨_, rfl⟩
 rw [← hv0, ← hv1, ← hv2] at hco ⊢
 replace hv0 := Lib.hid hv0
 replace hv1 := Lib.hid hv1
 replace hv2 := Lib.hid hv2
 have hS := Lib.hid h
 clear h
 go_enter Tryz.func70, Tryz.ntmps70
 go_wp2_with fail
 go_at_call 81
 refine hco.mono ?_
 clear hco
 rintro e w1 ⟨rfl, hb1⟩
 have hS1 := hS.out.kept hb1
 go_wp2_with fail
 go_at_call 79
 refine (hth _ _ _ w1).mono ?_
 clear hth
 rintro e w2 ⟨rfl, hb2⟩
 have hS2 := hS1.kept hb2
 obtain ⟨y, hy⟩ : ∃ y : Ry, y = ⟨0, 0, 0, 0, 0, 0, v0, v1, v2⟩ := ⟨_, rfl⟩
 rw [← hy]
 replace hy := Lib.hid hy
 obtain ⟨st, hW3⟩ := hS2.wk.Gh y
 have lY := jJ y
 rw [← bP] at lY
 replace bP := Lib.hid bP
 have Cr := hS2.work hW3 (cK w2 _)
 have hfin := ((WS.of_below (hb1.trans (hb2.mono hb1.size)) : WS w w2 b c t d p v g v g)).trans (WS.bD (cK w2 (gG { R with rep := y }).toArray))
 generalize gG { R with rep := y } = W2 at *
 generalize bK y = cY at *
 go_wp2_with fail
 go_ret
 have ey := hy.out
 clear hy
 subst ey
 exact ⟨rfl, v, g, Cr, hfin⟩
theorem zW (h : SW w b c t d p v g a m R P) (ha : a ≤ 1000) (hq : R.ag.kind = 12) :
 Calls Tryz.prog 70 #[.pointer (some ⟨b, 0, none⟩), .pointer (some ⟨c, 0, none⟩)] w (az w b c t d p v g a m .nilFunc { R with rep := ⟨0, 0, 0, P.now, 0, 0, P.f P.now, 0, 0⟩ } P) := by
 have q0 := h.wk.at 0 (.int .i64 R.ag.kind) rfl
 rw [hq] at q0
 replace hq := Lib.hid hq
 have hc := Ey h ha
 go_enter Tryz.func70, Tryz.ntmps70
 go_wp2_with (go_at_call 82; go_must (refine hc.mono ?_); rintro e w8 ⟨rfl, v8, g8, gL, dS⟩)
 go_ret
 exact ⟨rfl, v8, g8, gL, dS⟩
theorem Dl (h : SW w b c t d p v g a m R P) (hc : P.cl = true) :
 Calls Tryz.prog 40 #[.pointer (some ⟨b, 0, none⟩), .pointer (some ⟨c, 0, none⟩)] w (az w b c t d p v g a m .nilFunc { R with rep := kK 12, ok := false } P) := by
 have hcl := jA h.cw
 rw [hc] at hcl
 have hf := iK h.wk 12
 go_enter Tryz.func40, Tryz.ntmps40
 go_wp2_with (first | (go_at_call 68; go_must (refine hcl.mono ?_); rintro e w' ⟨rfl, rfl⟩) | (go_at_call 42; go_must (refine hf.mono ?_); rintro e w8 ⟨rfl, dS, gq⟩))
 go_ret
 exact ⟨rfl, v, g, h.work dS gq, WS.bD gq⟩
theorem Jz (h : SW w b c t d p v g a m R P) (hc : P.cl = false) (hq : ¬ (1 ≤ R.ag.kind ∧ R.ag.kind ≤ 13)) :
 Calls Tryz.prog 40 #[.pointer (some ⟨b, 0, none⟩), .pointer (some ⟨c, 0, none⟩)] w (az w b c t d p v g a m .nilFunc { R with rep := kK 4, ok := false } P) := by
 have hcl := jA h.cw
 rw [hc] at hcl
 have hf := iK h.wk 4
 have q0 := h.wk.at 0 (.int .i64 R.ag.kind) rfl
 have his := Av R.ag.kind w
 rw [show (decide (1 ≤ R.ag.kind) && decide (R.ag.kind ≤ 13)) = false by rw [Bool.and_eq_false_iff, decide_eq_false_iff_not, decide_eq_false_iff_not]; omega] at his
 generalize R.ag.kind = kk at *
 replace hq := Lib.hid hq
 go_enter Tryz.func40, Tryz.ntmps40
 go_wp2_with (first | (go_at_call 68; go_must (refine hcl.mono ?_); rintro e w' ⟨rfl, rfl⟩) | (go_at_call 60; go_must (refine his.mono ?_); rintro e w' ⟨rfl, rfl⟩) | (go_at_call 42; go_must (refine hf.mono ?_); rintro e w8 ⟨rfl, dS, gq⟩))
 go_ret
 exact ⟨rfl, v, g, h.work dS gq, WS.bD gq⟩
theorem zX (h : SW w b c t d p v g a m R P) (hc : P.cl = false) (hq : 1 ≤ R.ag.kind ∧ R.ag.kind ≤ 13) (hr : jN R.ag.kind = true) {L : Value} {a' : Nat} {m' : Int} {R' : Wk} {P' : Pg}
 (hn : Calls Tryz.prog 70 #[.pointer (some ⟨b, 0, none⟩), .pointer (some ⟨c, 0, none⟩)] w (az w b c t d p v g a' m' L R' P')) :
 Calls Tryz.prog 40 #[.pointer (some ⟨b, 0, none⟩), .pointer (some ⟨c, 0, none⟩)] w (az w b c t d p v g a' m' L R' P') := by
 have hcl := jA h.cw
 rw [hc] at hcl
 have q0 := h.wk.at 0 (.int .i64 R.ag.kind) rfl
 have his := Av R.ag.kind w
 rw [show (decide (1 ≤ R.ag.kind) && decide (R.ag.kind ≤ 13)) = true by rw [decide_eq_true hq.1, decide_eq_true hq.2]; rfl] at his
 have hre := Dw R.ag.kind w
 rw [hr] at hre
 generalize R.ag.kind = kk at *
 replace hq := Lib.hid hq
 replace hr := Lib.hid hr
 go_enter Tryz.func40, Tryz.ntmps40
 go_wp2_with (first | (go_at_call 68; go_must (refine hcl.mono ?_); rintro e w' ⟨rfl, rfl⟩) | (go_at_call 60; go_must (refine his.mono ?_); rintro e w' ⟨rfl, rfl⟩) | (go_at_call 69; go_must (refine hre.mono ?_); rintro e w' ⟨rfl, rfl⟩) | (go_at_call 70; go_must (refine hn.mono ?_); rintro e w8 ⟨rfl, v8, g8, gL, dS⟩))
 go_ret
 exact ⟨rfl, v8, g8, gL, dS⟩
theorem fU (h : SW w b c t d p v g a m R P) (hc : P.cl = false) (hq : 1 ≤ R.ag.kind ∧ R.ag.kind ≤ 13) (hr : jN R.ag.kind = false) {L : Value} {a' : Nat} {m' : Int} {R' : Wk} {P' : Pg}
 (hn : Calls Tryz.prog 71 #[.pointer (some ⟨b, 0, none⟩), .pointer (some ⟨c, 0, none⟩)] w (az w b c t d p v g a' m' L R' P')) :
 Calls Tryz.prog 40 #[.pointer (some ⟨b, 0, none⟩), .pointer (some ⟨c, 0, none⟩)] w (az w b c t d p v g a' m' L R' P') := by
 have hcl := jA h.cw
 rw [hc] at hcl
 have q0 := h.wk.at 0 (.int .i64 R.ag.kind) rfl
 have his := Av R.ag.kind w
 rw [show (decide (1 ≤ R.ag.kind) && decide (R.ag.kind ≤ 13)) = true by rw [decide_eq_true hq.1, decide_eq_true hq.2]; rfl] at his
 have hre := Dw R.ag.kind w
 rw [hr] at hre
 generalize R.ag.kind = kk at *
 replace hq := Lib.hid hq
 replace hr := Lib.hid hr
 go_enter Tryz.func40, Tryz.ntmps40
 go_wp2_with (first | (go_at_call 68; go_must (refine hcl.mono ?_); rintro e w' ⟨rfl, rfl⟩) | (go_at_call 60; go_must (refine his.mono ?_); rintro e w' ⟨rfl, rfl⟩) | (go_at_call 69; go_must (refine hre.mono ?_); rintro e w' ⟨rfl, rfl⟩) | (go_at_call 71; go_must (refine hn.mono ?_); rintro e w8 ⟨rfl, v8, g8, gL, dS⟩))
 go_ret
 exact ⟨rfl, v8, g8, gL, dS⟩
theorem O0 (h : SW w b c t d p v g a m R P) (hq : R.ag.kind = 1) {L : Value} {a' : Nat} {m' : Int} {R' : Wk} {P' : Pg}
 (hn : Calls Tryz.prog 83 #[.pointer (some ⟨b, 0, none⟩), .pointer (some ⟨c, 0, none⟩)] w (az w b c t d p v g a' m' L R' P')) :
 Calls Tryz.prog 71 #[.pointer (some ⟨b, 0, none⟩), .pointer (some ⟨c, 0, none⟩)] w (az w b c t d p v g a' m' L R' P') := by
 have q0 := h.wk.at 0 (.int .i64 R.ag.kind) rfl
 rw [hq] at q0
 replace hq := Lib.hid hq
 go_enter Tryz.func71, Tryz.ntmps71
 go_wp2_with (go_at_call 83; go_must (refine hn.mono ?_); rintro e w8 ⟨rfl, v8, g8, gL, dS⟩)
 go_ret
 exact ⟨rfl, v8, g8, gL, dS⟩
theorem O1 (h : SW w b c t d p v g a m R P) (hq : R.ag.kind = 2) {L : Value} {a' : Nat} {m' : Int} {R' : Wk} {P' : Pg}
 (hn : Calls Tryz.prog 84 #[.pointer (some ⟨b, 0, none⟩), .pointer (some ⟨c, 0, none⟩), .int .i64 5] w (az w b c t d p v g a' m' L R' P')) :
 Calls Tryz.prog 71 #[.pointer (some ⟨b, 0, none⟩), .pointer (some ⟨c, 0, none⟩)] w (az w b c t d p v g a' m' L R' P') := by
 have q0 := h.wk.at 0 (.int .i64 R.ag.kind) rfl
 rw [hq] at q0
 replace hq := Lib.hid hq
 go_enter Tryz.func71, Tryz.ntmps71
 go_wp2_with (go_at_call 84; go_must (refine hn.mono ?_); rintro e w8 ⟨rfl, v8, g8, gL, dS⟩)
 go_ret
 exact ⟨rfl, v8, g8, gL, dS⟩
theorem O3 (h : SW w b c t d p v g a m R P) (hq : R.ag.kind = 5) {L : Value} {a' : Nat} {m' : Int} {R' : Wk} {P' : Pg}
 (hn : Calls Tryz.prog 84 #[.pointer (some ⟨b, 0, none⟩), .pointer (some ⟨c, 0, none⟩), .int .i64 4] w (az w b c t d p v g a' m' L R' P')) :
 Calls Tryz.prog 71 #[.pointer (some ⟨b, 0, none⟩), .pointer (some ⟨c, 0, none⟩)] w (az w b c t d p v g a' m' L R' P') := by
 have q0 := h.wk.at 0 (.int .i64 R.ag.kind) rfl
 rw [hq] at q0
 replace hq := Lib.hid hq
 go_enter Tryz.func71, Tryz.ntmps71
 go_wp2_with (go_at_call 84; go_must (refine hn.mono ?_); rintro e w8 ⟨rfl, v8, g8, gL, dS⟩)
 go_ret
 exact ⟨rfl, v8, g8, gL, dS⟩
theorem O4 (h : SW w b c t d p v g a m R P) (hq : R.ag.kind = 3) {L : Value} {a' : Nat} {m' : Int} {R' : Wk} {P' : Pg}
 (hn : Calls Tryz.prog 85 #[.pointer (some ⟨b, 0, none⟩), .pointer (some ⟨c, 0, none⟩)] w (az w b c t d p v g a' m' L R' P')) :
 Calls Tryz.prog 71 #[.pointer (some ⟨b, 0, none⟩), .pointer (some ⟨c, 0, none⟩)] w (az w b c t d p v g a' m' L R' P') := by
 have q0 := h.wk.at 0 (.int .i64 R.ag.kind) rfl
 rw [hq] at q0
 replace hq := Lib.hid hq
 go_enter Tryz.func71, Tryz.ntmps71
 go_wp2_with (go_at_call 85; go_must (refine hn.mono ?_); rintro e w8 ⟨rfl, v8, g8, gL, dS⟩)
 go_ret
 exact ⟨rfl, v8, g8, gL, dS⟩
theorem O5 (h : SW w b c t d p v g a m R P) (hq : R.ag.kind = 4) {L : Value} {a' : Nat} {m' : Int} {R' : Wk} {P' : Pg}
 (hn : Calls Tryz.prog 86 #[.pointer (some ⟨b, 0, none⟩), .pointer (some ⟨c, 0, none⟩)] w (az w b c t d p v g a' m' L R' P')) :
 Calls Tryz.prog 71 #[.pointer (some ⟨b, 0, none⟩), .pointer (some ⟨c, 0, none⟩)] w (az w b c t d p v g a' m' L R' P') := by
 have q0 := h.wk.at 0 (.int .i64 R.ag.kind) rfl
 rw [hq] at q0
 replace hq := Lib.hid hq
 go_enter Tryz.func71, Tryz.ntmps71
 go_wp2_with (go_at_call 86; go_must (refine hn.mono ?_); rintro e w8 ⟨rfl, v8, g8, gL, dS⟩)
 go_ret
 exact ⟨rfl, v8, g8, gL, dS⟩
theorem O6 (h : SW w b c t d p v g a m R P) (hq : R.ag.kind = 7) {L : Value} {a' : Nat} {m' : Int} {R' : Wk} {P' : Pg}
 (hn : Calls Tryz.prog 87 #[.pointer (some ⟨b, 0, none⟩), .pointer (some ⟨c, 0, none⟩)] w (az w b c t d p v g a' m' L R' P')) :
 Calls Tryz.prog 71 #[.pointer (some ⟨b, 0, none⟩), .pointer (some ⟨c, 0, none⟩)] w (az w b c t d p v g a' m' L R' P') := by
 have q0 := h.wk.at 0 (.int .i64 R.ag.kind) rfl
 rw [hq] at q0
 replace hq := Lib.hid hq
 go_enter Tryz.func71, Tryz.ntmps71
 go_wp2_with (go_at_call 87; go_must (refine hn.mono ?_); rintro e w8 ⟨rfl, v8, g8, gL, dS⟩)
 go_ret
 exact ⟨rfl, v8, g8, gL, dS⟩
theorem O7 (h : SW w b c t d p v g a m R P) (hq : R.ag.kind = 8) {L : Value} {a' : Nat} {m' : Int} {R' : Wk} {P' : Pg}
 (hn : Calls Tryz.prog 88 #[.pointer (some ⟨b, 0, none⟩), .pointer (some ⟨c, 0, none⟩)] w (az w b c t d p v g a' m' L R' P')) :
 Calls Tryz.prog 71 #[.pointer (some ⟨b, 0, none⟩), .pointer (some ⟨c, 0, none⟩)] w (az w b c t d p v g a' m' L R' P') := by
 have q0 := h.wk.at 0 (.int .i64 R.ag.kind) rfl
 rw [hq] at q0
 replace hq := Lib.hid hq
 go_enter Tryz.func71, Tryz.ntmps71
 go_wp2_with (go_at_call 88; go_must (refine hn.mono ?_); rintro e w8 ⟨rfl, v8, g8, gL, dS⟩)
 go_ret
 exact ⟨rfl, v8, g8, gL, dS⟩
theorem O8 (h : SW w b c t d p v g a m R P) (hq : R.ag.kind = 9) {L : Value} {a' : Nat} {m' : Int} {R' : Wk} {P' : Pg}
 (hn : Calls Tryz.prog 89 #[.pointer (some ⟨b, 0, none⟩), .pointer (some ⟨c, 0, none⟩)] w (az w b c t d p v g a' m' L R' P')) :
 Calls Tryz.prog 71 #[.pointer (some ⟨b, 0, none⟩), .pointer (some ⟨c, 0, none⟩)] w (az w b c t d p v g a' m' L R' P') := by
 have q0 := h.wk.at 0 (.int .i64 R.ag.kind) rfl
 rw [hq] at q0
 replace hq := Lib.hid hq
 go_enter Tryz.func71, Tryz.ntmps71
 go_wp2_with (go_at_call 89; go_must (refine hn.mono ?_); rintro e w8 ⟨rfl, v8, g8, gL, dS⟩)
 go_ret
 exact ⟨rfl, v8, g8, gL, dS⟩
theorem LV (h : SW w b c t d p v g a m R P) (hq : R.ag.kind = 13) :
 Calls Tryz.prog 71 #[.pointer (some ⟨b, 0, none⟩), .pointer (some ⟨c, 0, none⟩)] w (az w b c t d p v g a m .nilFunc R { P with cl := true }) := by
 have q0 := h.wk.at 0 (.int .i64 R.ag.kind) rfl
 rw [hq] at q0
 replace hq := Lib.hid hq
 have c4 := h.cw.c4
 have f4 := h.cw.fz 4
 obtain ⟨hC, hS⟩ := h.cw.close
 have hS2 := h.core hC hS
 have hW2 := (WS.dD hS : WS w (w.setCell ⟨c, 4, none⟩ (.bool true)) b c t d p v g v g)
 go_enter Tryz.func71, Tryz.ntmps71
 go_wp2_with fail
 go_ret
 exact ⟨rfl, v, g, hS2, hW2⟩
end
end Go.Proofs.YtelnhablglomjaaGreat

namespace Go.Proofs.YtelnhablglomjaaGreat
open Go.RowKit Go.Lib Go.Sort
theorem O9 (n : Nat) : dh (dK n) = List.replicate n 1 := by
 refine pW (by rw [bC]; simp [dK]) fun i hi => ?_
 have hin : i < n := by rw [bC] at hi; simpa [dK] using hi
 rw [dm, eZ (by simpa [dK] using hin)]
 have h1 : ¬ 0 ≤ holderL (dK n).L i := by unfold dK holderL; simp
 rw [if_neg h1]
 simp [dK, List.getD_eq_getElem?_getD, hin]
theorem Cs (n : Nat) (t : Int) : ay (dK n) t 0 = n := by
 unfold ay aL bV
 have h1 : (List.range (dK n).dr.length).countP (bU (dK n) t) = n := by
  have e : (dK n).dr.length = n := by simp [dK]
  rw [e]
  have : (List.range n).countP (bU (dK n) t) = (List.range n).length := by
   rw [List.countP_eq_length]
   intro k hk
   have hk := List.mem_range.1 hk
   unfold bU dK holderL
   simp [List.getD_eq_getElem?_getD, hk]
  rw [this, List.length_range]
 rw [h1]
 simp [dK]
structure Sq (w0 w : World) (c t d p : Nat) (v : Value) (g a : Nat) (m : Int) (P : Pg) : Prop where
 cw : CW w c t d p v g a m P
 lo : ∀ k, dC c t d p v g k → w0.heap.size ≤ k
section
variable {w : World}
theorem Pb (n : Int) (w : World) (h : n < 1 ∨ 64 < n) : Calls Tryz.prog 35 #[.int .i64 n] w fun e w' => e = .returned (.tuple #[.pointer none, .int .i64 1]) ∧ w = w' := by
 have hn := Iy n w h
 go_enter Tryz.func35, Tryz.ntmps35
 go_wp2_with (go_at_call 61; go_must (refine hn.mono ?_); rintro e w' ⟨rfl, rfl⟩)
 go_ret2
 exact ⟨rfl, rfl⟩
theorem JA (n : Nat) (w : World) (h1 : 1 ≤ n) (h2 : n ≤ 64) : Calls Tryz.prog 35 #[.int .i64 n] w fun e w' => ∃ c t d p v g, e = .returned (.tuple #[.pointer (some ⟨c, 0, none⟩), .int .i64 0]) ∧ Sq w w' c t d p v g 1 0 (ah (dK n)) ∧ Below w.heap.size w w' := by
 have hn := IA n w h1 h2
 go_enter Tryz.func35, Tryz.ntmps35
 go_wp2_with fail
 go_at_call 61
 refine hn.mono ?_
 clear hn
 rintro e w1 ⟨rfl, hT1, hb1⟩
 have hs1 : w.heap.size < w1.heap.size := aD hT1
 have hp := IM (n : Int) w1 (by omega)
 go_wp2_with fail
 go_at_call 62
 refine hp.mono ?_
 clear hp
 rintro e w2 ⟨p, g, rfl, hP2, lp, lg, hb2⟩
 have XT : TW w2 w.heap.size (List.replicate n 1) := hT1.kept hb2
 have hj := KH w2
 go_wp2_with fail
 go_at_call 63
 refine hj.mono ?_
 clear hj
 rintro e w3 ⟨rfl, hw3⟩
 have hb3 : Below w2.heap.size w2 w3 := by rw [← hw3]; exact (Below.refl _ _).alloc (Nat.le_refl _) _
 have hJ3 : TV w3 w2.heap.size (.slice none 0 0) [] := by rw [← hw3]; exact BV.WV w2
 have cO := XT.kept hb3
 have hP3 := hP2.kept hb3
 have hs2 := hb2.size
 replace hw3 := Lib.hid hw3
 obtain ⟨w4, hw4⟩ : ∃ w4, w4 = w3.alloc (.cells #[.pointer (some ⟨w2.heap.size, 0, none⟩), .pointer (some ⟨w.heap.size, 0, none⟩), .pointer (some ⟨p, 0, none⟩), .bool true, .bool false] 65) := ⟨_, rfl⟩
 have hb4 : Below w3.heap.size w3 w4 := by rw [hw4]; exact (Below.refl _ _).alloc (Nat.le_refl _) _
 have hc4 : w4.heap[w3.heap.size]? = some (.cells #[.pointer (some ⟨w2.heap.size, 0, none⟩), .pointer (some ⟨w.heap.size, 0, none⟩), .pointer (some ⟨p, 0, none⟩), .bool true, .bool false] 65 (0, 0)) := by rw [hw4]; exact heap_alloc_new w3 _
 have hs3 := hb3.size
 have hCW : Hid (CW w4 w3.heap.size w2.heap.size w.heap.size p (.slice none 0 0) g 1 0 (ah (dK n))) := by
  refine ⟨hc4, hJ3.kept hb4, by show TW w4 w.heap.size (dh (dK n)); rw [O9]; exact cO.kept hb4, [(0, (n : Int))], 0, hP3.kept hb4, ?_, Nat.le_refl _, Int.le_refl _, Int.le_refl _⟩
  exact (Rb n).congr fun t _ => (Cs n t).symm
 have hlo : Hid (∀ k, dC w3.heap.size w2.heap.size w.heap.size p (.slice none 0 0) g k → w.heap.size ≤ k) := by
  rintro k (rfl | rfl | rfl | rfl | hv | rfl)
  ·omega
  ·omega
  ·exact Nat.le_refl _
  ·omega
  ·cases hv
  ·omega
 have hbw := hb1.trans ((hb2.trans ((hb3.trans (hb4.mono hb3.size)).mono hb2.size)).mono hb1.size)
 clear hc4 hJ3 cO hP3 hT1 XT hP2
 go_wp2_with fail
 rw [← hw4]
 go_ret2
 exact ⟨w3.heap.size, w2.heap.size, w.heap.size, p, .slice none 0 0, g, rfl, ⟨hCW.out, hlo.out⟩, hbw⟩
def jQ (r : Rq) : Wk := ⟨fF r, 0, 0, fG 40, iD, 0, 0, oD, false⟩
def zZ (i t : Int) : Wk := ⟨VN, i, t, fG 74, iD, 0, 0, oD, false⟩
theorem Dm (i t : Int) (w : World) : Calls Tryz.prog 57 #[.agg #[.int .i64 i, .int .i64 t]] w fun e w' => ∃ b, e = .returned (.pointer (some ⟨b, 0, none⟩)) ∧ bI w' b (zZ i t) ∧ w.heap.size ≤ b ∧ Below w.heap.size w w' := by
 obtain ⟨w2, hw2⟩ : ∃ w2, w2 = (w.alloc (.cells #[.int .i64 i, .int .i64 t] 77)).alloc (.cells (gG (zZ i t)).toArray 94) := ⟨_, rfl⟩
 have hb2 : Below w.heap.size w w2 := by rw [hw2]; exact ((Below.refl _ _).alloc (Nat.le_refl _) _).alloc (by simp) _
 have hW2 : bI w2 (w.heap.size + 1) (zZ i t) := by show _ = _; rw [hw2]; exact heap_alloc2_new w _ _
 have hl : (gG (zZ i t)).toArray = #[.int .i64 0, .int .i64 0, .int .i64 0, .int .i64 0, .int .i64 0, .int .i64 0, .bool false, .int .i64 0, .int .i64 0, .int .i64 i, .int .i64 t, .func (.func 74) #[] #[], .int .i64 0, .int .i64 0, .int .i64 0, .int .i64 0, .int .i64 0, .int .i64 0, .int .i64 0, .int .i64 0, .int .i64 0, .int .u64 0, .int .i64 0, .int .i64 0, .int .i64 0, .int .i64 0, .int .i64 0, .int .i64 0, .int .i64 0, .int .i64 0, .int .i64 0, .int .i64 0, .int .i64 0, .bool false] := rfl
 rw [hl] at hw2
 replace hl := Lib.hid hl
 go_enter Tryz.func57, Tryz.ntmps57
 go_wp2_with fail
 rw [← hw2]
 go_ret
 exact ⟨w.heap.size + 1, rfl, hW2, Nat.le_succ _, hb2⟩
theorem uJ (r : Rq) (w : World) : Calls Tryz.prog 10 #[.agg (encR r).toArray] w fun e w' => ∃ b, e = .returned (.pointer (some ⟨b, 0, none⟩)) ∧ bI w' b (jQ r) ∧ w.heap.size ≤ b ∧ Below w.heap.size w w' := by
 have zR := kC
 obtain ⟨k9, bP⟩ : ∃ k, k = 9 := ⟨_, rfl⟩
 rw [← bP] at zR
 have hk0 : ¬ k9 = 0 := by omega
 have lR := gP r
 rw [← bP] at lR
 replace bP := Lib.hid bP
 obtain ⟨wA, aJ⟩ : ∃ wA, wA = w.alloc (.cells (encR r).toArray 24) := ⟨_, rfl⟩
 have bS : Below w.heap.size w wA := by rw [aJ]; exact (Below.refl _ _).alloc (Nat.le_refl _) _
 have oF : wA.heap[w.heap.size]? = some (.cells (encR r).toArray 24 (0, 0)) := by rw [aJ]; exact heap_alloc_new w _
 have XU := fu oF lR
 have hcl := yQ r wA
 rw [aJ] at XU hcl
 generalize hcr : encR r = cR at *
 replace hcr := Lib.hid hcr
 go_enter Tryz.func10, Tryz.ntmps10
 go_wp2_with fail
 go_at_call 22
 refine hcl.mono ?_
 clear hcl XU
 rw [← aJ]
 rintro e w1 ⟨rfl, hb1⟩
 replace aJ := Lib.hid aJ
 obtain ⟨y1, y2, y3, y4, y5, y6, y7, y8, y9, hy⟩ : ∃ y1 y2 y3 y4 y5 y6 y7 y8 y9, fF r = ⟨y1, y2, y3, y4, y5, y6, y7, y8, y9⟩ := ⟨_, _, _, _, _, _, _, _, _, rfl⟩
 obtain ⟨w2, hw2⟩ : ∃ w2, w2 = w1.alloc (.cells (gG (jQ r)).toArray 94) := ⟨_, rfl⟩
 have hb2 : Below w1.heap.size w1 w2 := by rw [hw2]; exact (Below.refl _ _).alloc (Nat.le_refl _) _
 have hW2 : bI w2 w1.heap.size (jQ r) := by show _ = _; rw [hw2]; exact heap_alloc_new w1 _
 have hl : (gG (jQ r)).toArray = #[.int .i64 y1, .int .i64 y2, .int .i64 y3, .int .i64 y4, .int .i64 y5, .int .i64 y6, .bool y7, .int .i64 y8, .int .i64 y9, .int .i64 0, .int .i64 0, .func (.func 40) #[] #[], .int .i64 0, .int .i64 0, .int .i64 0, .int .i64 0, .int .i64 0, .int .i64 0, .int .i64 0, .int .i64 0, .int .i64 0, .int .u64 0, .int .i64 0, .int .i64 0, .int .i64 0, .int .i64 0, .int .i64 0, .int .i64 0, .int .i64 0, .int .i64 0, .int .i64 0, .int .i64 0, .int .i64 0, .bool false] := by unfold jQ; rw [hy]; rfl
 have hbw := bS.trans ((hb1.trans (hb2.mono hb1.size)).mono bS.size)
 have hlo : w.heap.size ≤ w1.heap.size := Nat.le_trans bS.size hb1.size
 rw [hl] at hw2
 rw [hy, show (encR ⟨y1, y2, y3, y4, y5, y6, y7, y8, y9⟩).toArray = #[.int .i64 y1, .int .i64 y2, .int .i64 y3, .int .i64 y4, .int .i64 y5, .int .i64 y6, .bool y7, .int .i64 y8, .int .i64 y9] from rfl]
 replace hl := Lib.hid hl
 replace hy := Lib.hid hy
 obtain rfl := bP.out
 go_wp2_with fail
 rw [← hw2]
 go_ret
 exact ⟨w1.heap.size, rfl, hW2, hlo, hbw⟩
end
end Go.Proofs.YtelnhablglomjaaGreat
