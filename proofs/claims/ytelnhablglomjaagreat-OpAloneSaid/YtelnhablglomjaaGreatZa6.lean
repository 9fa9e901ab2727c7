/-
 Own words and walks, merged: part 6 of 9.
-/
import Derived.Test.YtelnhablglomjaaGreatChecked
import Derived.WalkKit
import Derived.WalkSpells
import Derived.WalkLawsBesides
import Derived.Deep.DeepMust
import Derived.Lib.Hide
import Derived.LaidEql
import Derived.Laws.StructEq
import Derived.Shelf.SlicesQ.Load
import Derived.BigRegion
import Derived.Laws.EntriesVeiled
import Derived.Test.YtelnhablglomjaaGreatRows
import Derived.Lib.MinMax
import Derived.Deep.RegionWith
import Derived.Test.YtelnhablglomjaaGreatZa5
set_option maxRecDepth 1000000
set_option maxHeartbeats 8000000
set_option linter.all false
namespace Go.Proofs.YtelnhablglomjaaGreat
open Go.RowKit Go.Lib
def dh (M : Md) : List Int := (List.range M.dr.length).map fun k : Nat => aR M (k : Int)
def ah (M : Md) : Pg := ⟨M.now, M.L, dh M, fun t => ay M t 0, M.cl⟩
section
variable {M : Md}
theorem bC : (dh M).length = M.dr.length := by simp [dh]
theorem dm (i : Nat) : (dh M).getD i 0 = aR M (i : Int) := by
 by_cases h : i < M.dr.length
 ·simp [dh, List.getD_eq_getElem?_getD, h]
 ·rw [iH h]
  simp [dh, List.getD_eq_getElem?_getD, h]
theorem Dc {n : Nat} (hn : n < M.dr.length) : 1 ≤ aR M n ∧ aR M n ≤ 4 := by
 rw [eZ hn]
 split <;> split <;> omega
theorem pW {l l' : List Int} (h1 : l.length = l'.length) (h2 : ∀ i, i < l.length → l.getD i 0 = l'.getD i 0) : l = l' := by
 refine List.ext_getElem h1 fun i a b => ?_
 have := h2 i a
 simpa [List.getD_eq_getElem?_getD, a, b] using this
theorem Gf {M' : Md} {l : List Int} (h1 : l.length = M'.dr.length) (h2 : ∀ i, i < l.length → l.getD i 0 = aR M' (i : Int)) : l = dh M' :=
 pW (by rw [bC, h1]) fun i hi => by rw [h2 i hi, dm]
theorem IV (h : aF M) (h1 : 1 ≤ M.dr.length) : iC (dh M) :=
 ⟨by rw [bC]; exact h1, by rw [bC]; exact h.mb.nn, fun i hi => by rw [dm]; exact Dc (by rw [bC] at hi; exact hi)⟩
theorem fq (h : aF M) (h1 : 1 ≤ M.dr.length) (h2 : M.L.length ≤ 900) : PK (ah M) :=
 ⟨h.mb.now, h2, fun j hj => ⟨(h.one j hj).2.2.2.1, (h.one j hj).2.2.2.2⟩, fun j hj => ⟨(h.one j hj).2.2.1, (h.mb.lim j hj).2⟩, IV h h1, fun t ht => ⟨h.free t ht, by have := Be h t; have := h.mb.nn; show ay M t 0 ≤ 64; omega⟩⟩
theorem vk (i : Nat) : iq (dh M) i = decide (aR M (i : Int) = 1) := by unfold iq; rw [dm]
theorem sD (f : Nat → Bool) (k : Nat) : aO f k = (List.range k).countP f := by
 induction k with
 | zero => rfl
 | succ k ih =>
   rw [List.range_succ, List.countP_append, List.countP_cons, List.countP_nil, ← ih]
   simp only [aO]
   split <;> simp_all
theorem Gg (wid : Int) (hw : 0 ≤ wid) (k : Nat) : (lowGo M wid k).2 = min (aO (iq (dh M)) k : Int) wid := by
 induction k with
 | zero => show (0 : Int) = min (0 : Int) wid; omega
 | succ k ih =>
   have e := vk (M := M) k
   simp only [lowGo]
   by_cases h1 : aR M (k : Int) = 1
   ·rw [decide_eq_true h1] at e
    have hc : aO (iq (dh M)) (k + 1) = aO (iq (dh M)) k + 1 := by simp [aO, e]
    by_cases h2 : (lowGo M wid k).2 < wid
    ·rw [if_pos ⟨h2, h1⟩]
     show (lowGo M wid k).2 + 1 = _
     omega
    ·rw [if_neg (fun h => h2 h.1)]
     omega
   ·rw [decide_eq_false h1] at e
    have hc : aO (iq (dh M)) (k + 1) = aO (iq (dh M)) k := by simp [aO, e]
    rw [if_neg (fun h => h1 h.2), hc]
    exact ih
theorem Ce (wid : Int) (hw : 0 ≤ wid) (k n : Nat) : cZ (lowGo M wid k).1 n = (decide (n < k) && iB (dh M) wid n) := by
 induction k with
 | zero => simp [lowGo, cZ]
 | succ k ih =>
   have hcond : ((lowGo M wid k).2 < wid ∧ aR M (k : Int) = 1) ↔ iB (dh M) wid k = true := by
    unfold iB
    rw [vk, Gg wid hw k]
    simp only [Bool.and_eq_true, decide_eq_true_eq]
    constructor
    ·rintro ⟨h1, h2⟩
     exact ⟨h2, by omega⟩
    ·rintro ⟨h1, h2⟩
     exact ⟨by omega, h1⟩
   simp only [lowGo]
   by_cases h : (lowGo M wid k).2 < wid ∧ aR M (k : Int) = 1
   ·rw [if_pos h]
    show cZ ((lowGo M wid k).1 + 2 ^ k) n = _
    rw [uW (oI M wid k).1, ih]
    have ht := hcond.1 h
    by_cases e : n = k
    ·subst e; simp [ht]
    ·have e2 : (n < k + 1) ↔ (n < k) := by omega
     simp [e, e2]
   ·rw [if_neg h, ih]
    have ht : iB (dh M) wid k = false := by rw [← Bool.not_eq_true]; exact fun h2 => h (hcond.2 h2)
    by_cases e : n = k
    ·subst e; simp [ht]
    ·have e2 : (n < k + 1) ↔ (n < k) := by omega
     simp [e2]
theorem Lb (wid : Int) (hw : 0 ≤ wid) (hn : M.dr.length ≤ 64) : aP (iB (dh M) wid) = iP M wid := by
 refine kX (Nat.lt_of_lt_of_le (oI M wid M.dr.length).1 (Nat.pow_le_pow_right (show 0 < 2 by decide) hn)) fun i hi => ?_
 rw [← lD]
 unfold iP
 rw [Ce wid hw]
 by_cases h : i < M.dr.length
 ·simp [h]
 ·have : iB (dh M) wid i = false := by
   unfold iB
   rw [vk, iH h]
   simp
  simp [h, this]
theorem Lc {i : Nat} (hi : i < M.L.length) (hst : (M.L.getD i default).st ≠ 3) (hn : M.dr.length ≤ 64) (hw : 1 ≤ (M.L.getD i default).wid)
 (hidle : (M.L.getD i default).wid ≤ ((List.range M.dr.length).countP fun n : Nat => decide (aR M n = 1) : Nat)) {s : Nat} {x : Int} {T' : List Int} (h : qD (dh M) (M.L.getD i default).wid s x T') :
 s = iP M (M.L.getD i default).wid ∧ x = 0 ∧ T' = dh (aW M i) := by
 have hc : (M.L.getD i default).wid ≤ aO (iq (dh M)) (dh M).length := by
  rw [sD, bC]
  have e : iq (dh M) = fun n : Nat => decide (aR M n = 1) := funext vk
  rw [e]; exact hidle
 obtain ⟨h1, h2, h3⟩ := h.good hw hc
 refine ⟨by rw [h1]; exact Lb _ (by omega) hn, h2, ?_⟩
 rw [h3]
 have hl : (fo (dh M) (M.L.getD i default).wid).length = M.dr.length := by unfold fo; rw [List.length_mapIdx, bC]
 refine Gf (by rw [hl]; rfl) fun k hk => ?_
 rw [hl] at hk
 unfold fo
 rw [oM, if_pos (by rw [bC]; exact hk), dm, CQ hi hst]
 have hb : cZ (iP M (M.L.getD i default).wid) k = iB (dh M) (M.L.getD i default).wid k := by
  unfold iP
  rw [Ce _ (by omega)]
  simp [hk]
 rw [hb]
theorem En (h : aF M) {i : Nat} {y : Jb} (hi : i < M.L.length) (hst : (M.L.getD i default).st = 3) (hy : y.st ≠ 3) {n x : Int} {T' : List Int} (hg : BK (dh M) (M.L.getD i default).bQ.toNat n x T') :
 n = ((List.range M.dr.length).countP (fun k => cZ (M.L.getD i default).bQ.toNat k && !(M.dr.getD k false)) : Nat) ∧ x = 0 ∧ T' = dh { M with L := M.L.set i y } := by
 have hmem := aY hi
 have hlt := (h.runs _ hmem hst).2.2
 have hold : ∀ k : Nat, cZ (M.L.getD i default).bQ.toNat k = true → k < M.dr.length ∧ holderL M.L k = i := fun k hk => by
  refine ⟨?_, vK h.l9 hi (by unfold aH; simp [hst, hk, -List.getD_eq_getElem?_getD])⟩
  rcases Nat.lt_or_ge k M.dr.length with h1 | h1
  ·exact h1
  ·rw [DN hlt h1] at hk; cases hk
 have Rh : ∀ k : Nat, cZ (M.L.getD i default).bQ.toNat k = true → aR M k = if M.dr.getD k false = true then 3 else 2 := fun k hk => by
  obtain ⟨h1, h2⟩ := hold k hk
  rw [eZ h1, if_pos (by rw [h2]; omega)]
 have hin : Im (dh M) (M.L.getD i default).bQ.toNat 2 3 64 := fun k _ hk => by
  rw [← lD] at hk
  refine ⟨by rw [bC]; exact (hold k hk).1, ?_⟩
  rw [dm, Rh k hk]
  split
  ·exact .inr rfl
  ·exact .inl rfl
 obtain ⟨h1, h2, h3⟩ := hg.good hin
 refine ⟨?_, h2, ?_⟩
 ·rw [h1]
  unfold pQ
  rw [bC]
  congr 1
  refine List.countP_congr fun k _ => ?_
  rw [← lD, dm]
  cases hk : cZ (M.L.getD i default).bQ.toNat k with
  | false => simp
  | true =>
    rw [Rh k hk]
    cases M.dr.getD k false <;> simp
 ·rw [h3]
  refine Gf (by rw [List.length_mapIdx, bC]) fun k hk => ?_
  rw [List.length_mapIdx] at hk
  have hkl : k < M.dr.length := by rw [bC] at hk; exact hk
  rw [oM, if_pos hk, dm, Hw h.l9 hi hst hy]
  unfold pO
  rw [← lD]
  cases hh : cZ (M.L.getD i default).bQ.toNat k with
  | false => simp
  | true =>
    rw [Rh k hh]
    cases M.dr.getD k false <;> simp [hkl]
theorem IW {k : Nat} (hk : k < M.dr.length) {b : Bool} (hb : M.dr.getD k false = !b) {x : Int} {T' : List Int} (h : nk (dh M) (k : Int) b x T') : x = 0 ∧ T' = dh { M with dr := M.dr.set k b } := by
 have hd : b = decide ((dh M).getD (k : Int).toNat 0 < 3) := by
  rw [Int.toNat_natCast, dm, eZ hk, hb]
  cases b <;> (by_cases h1 : 0 ≤ holderL M.L k <;> simp [h1])
 obtain ⟨h1, h2⟩ := h.good (by omega) (by rw [bC]; omega) hd
 refine ⟨h1, ?_⟩
 rw [h2, Int.toNat_natCast, dm]
 refine Gf (by rw [List.length_set, bC, List.length_set]) fun q hq => ?_
 rw [List.length_set] at hq
 rw [mo, dm, CR hk, eZ hk, hb]
 by_cases e : q = k
 ·subst e
  rw [if_pos ⟨rfl, hq⟩, if_pos rfl]
  unfold kI
  cases b <;> (by_cases h1 : 0 ≤ holderL M.L q <;> simp [h1])
 ·rw [if_neg (fun h => e h.1), if_neg e]
end
end Go.Proofs.YtelnhablglomjaaGreat

namespace Go.Proofs.YtelnhablglomjaaGreat
open Go.RowKit Go.Lib
open Go.ChangeShapes Go.WideShapes Go.ChangeAt Go.Deep
structure Ry where
 err : Int
 id : Int
 state : Int
 start : Int
 stop : Int
 plan : Int
 a : Int
 b : Int
 c : Int
deriving DecidableEq
def bK (r : Ry) : List Value := [.int .i64 r.err, .int .i64 r.id, .int .i64 r.state, .int .i64 r.start, .int .i64 r.stop, .int .i64 r.plan, .int .i64 r.a, .int .i64 r.b, .int .i64 r.c]
theorem wK : ∀ w, Sem.run Tryz.prog (Go.sizeOf 53) w = .ok 9 w := Tryz.sizeOf53
theorem jJ (r : Ry) : (bK r).length = 9 := rfl
theorem yN (r : Ry) : ∀ v ∈ bK r, v.oneCell' = true := by
 intro v hv
 simp [bK] at hv
 rcases hv with rfl | rfl | rfl | rfl | rfl | rfl | rfl | rfl | rfl <;> rfl
section
end
theorem IX (x y : Ry) (w : World) : (Op.equalIn 10000 53 (.agg (bK x).toArray) (.agg (bK y).toArray)).run Tryz.prog w = .ok (decide (x = y)) w := by
 have u2 := Tryz.underlying2
 have a2 := Tryz.isAgg2
 have z2 := Tryz.sizeOf2
 have u3 := Tryz.underlying3
 have a3 := Tryz.isAgg3
 have z3 := Tryz.sizeOf3
 have u4 := Tryz.underlying51
 have a4 := Tryz.isAgg51
 have z4 := Tryz.sizeOf51
 have hS : Tryz.prog.underlying 53 = some (.struct (Tryz.prog.fieldsOf 53)) := by kernel_rfl
 have hp : Tryz.prog.stoodInHeld 53 = false := by kernel_rfl
 rw [show (10000 : Nat) = 9999 + 1 from rfl, run_equalIn_agg w 9999 53 _ _ hS hp]
 simp only [Program.fieldsOf, Tryz.underlying53]
 obtain ⟨x1, x2, x3, x4, x5, x6, x7, x8, x9⟩ := x
 obtain ⟨y1, y2, y3, y4, y5, y6, y7, y8, y9⟩ := y
 simp only [bK]
 go_simp
 by_cases h1 : x1 = y1
 ·by_cases h2 : x2 = y2
  ·by_cases h3 : x3 = y3
   ·by_cases h4 : x4 = y4
    ·by_cases h5 : x5 = y5
     ·by_cases h6 : x6 = y6
      ·by_cases h7 : x7 = y7
       ·by_cases h8 : x8 = y8
        ·by_cases h9 : x9 = y9 <;> simp [h1, h2, h3, h4, h5, h6, h7, h8, h9]
        ·simp [h1, h2, h3, h4, h5, h6, h7, h8]
       ·simp [h1, h2, h3, h4, h5, h6, h7]
      ·simp [h1, h2, h3, h4, h5, h6]
     ·simp [h1, h2, h3, h4, h5]
    ·simp [h1, h2, h3, h4]
   ·simp [h1, h2, h3]
  ·simp [h1, h2]
 ·simp [h1]
theorem Uj (x y : Ry) (w : World) : (binOp .eql 53 (.agg (bK x).toArray) (.agg (bK y).toArray)).run Tryz.prog w = .ok (.bool (decide (x = y))) w := by
 rw [run_eql_struct, IX]; rfl
end Go.Proofs.YtelnhablglomjaaGreat

namespace Go.Proofs.YtelnhablglomjaaGreat
open Go.RowKit
structure Only (b : Nat) (w w' : World) : Prop where
 os : w'.os = w.os
 tape : w'.tape = w.tape
 output : w'.output = w.output
 size : w'.heap.size = w.heap.size
 block : ∀ k : Nat, k ≠ b → w'.heap[k]? = w.heap[k]?
theorem Only.setCell (b off : Nat) (w : World) (v : Value) : Only b w (w.setCell ⟨b, off, none⟩ v) :=
 ⟨rfl, rfl, rfl, by simp [World.setCell], fun k hk => Below.heap_setCell _ _ _ _ hk⟩
theorem Only.below {b B : Nat} {w w' : World} (h : Only b w w') (hB : B ≤ b) : Below B w w' :=
 ⟨h.os, h.tape, h.output, Nat.le_of_eq h.size.symm, fun k hk => h.block k (by omega)⟩
end Go.Proofs.YtelnhablglomjaaGreat

namespace Go.Proofs.YtelnhablglomjaaGreat
open Go.RowKit
def Cf : Ry := ⟨0, 0, 0, 0, 0, 0, 0, 0, 0⟩
end Go.Proofs.YtelnhablglomjaaGreat

namespace Go.Proofs.YtelnhablglomjaaGreat
open Go.RowKit
def jh (j : Jb) : Ry := ⟨0, j.1, j.2.2.2.2.2.1, j.2.2.2.2.2.2.1, j.2.2.2.2.2.2.2.1, j.2.2.2.2.2.2.2.2.1, j.2.2.1, j.2.2.2.2.1, 0⟩
end Go.Proofs.YtelnhablglomjaaGreat

namespace Go.Proofs.YtelnhablglomjaaGreat
open Go.RowKit Go.Lib
section
variable {w : World}
theorem yO (a b c : Int) (w : World) : Calls Tryz.prog 79 #[.int .i64 a, .int .i64 b, .int .i64 c] w fun e w' => e = .returned (.agg (bK ⟨0, 0, 0, 0, 0, 0, a, b, c⟩).toArray) ∧ Below w.heap.size w w' := by
 simp only [bK]
 go_enter Tryz.func79, Tryz.ntmps79
 go_wp2_with fail
 (try simp only [Exit.inBlock, Exit.then])
 refine bG rfl rfl rfl (heap_alloc_new w _) Tryz.underlying53 rfl (by kernel_rfl) ⟨rfl, ?_⟩
 exact (Below.refl _ _).alloc (Nat.le_refl _) _
theorem IY (q : Int) (w : World) : Calls Tryz.prog 59 #[.int .i64 q] w fun e w' => e = .returned (.agg (bK ⟨q, 0, 0, 0, 0, 0, 0, 0, 0⟩).toArray) ∧ Below w.heap.size w w' := by
 simp only [bK]
 go_enter Tryz.func59, Tryz.ntmps59
 go_wp2_with fail
 (try simp only [Exit.inBlock, Exit.then])
 refine bG rfl rfl rfl (heap_alloc_new w _) Tryz.underlying53 rfl (by kernel_rfl) ⟨rfl, ?_⟩
 exact (Below.refl _ _).alloc (Nat.le_refl _) _
theorem Ot (j : Jb) (w : World) : Calls Tryz.prog 116 #[.agg (ai j).toArray] w fun e w' => e = .returned (.tuple #[.int .i64 j.2.2.1, .int .i64 j.2.2.2.2.1, .int .i64 0]) ∧ Below w.heap.size w w' := by
 obtain ⟨x1, x2, x3, x4, x5, x6, x7, x8, x9, x0⟩ := j
 simp only [ai]
 obtain ⟨wB, Af⟩ : ∃ wB, wB = w.alloc (.cells #[.int .i64 x1, .int .i64 x2, .int .i64 x3, .int .i64 x4, .int .i64 x5, .int .i64 x6, .int .i64 x7, .int .i64 x8, .int .i64 x9, .int .u64 x0] 92) := ⟨_, rfl⟩
 have hb1 : Hid (Below w.heap.size w wB) := by show Below _ _ _; rw [Af]; exact (Below.refl _ _).alloc (Nat.le_refl _) _
 have hA : wB.heap[w.heap.size]? = some (.cells #[.int .i64 x1, .int .i64 x2, .int .i64 x3, .int .i64 x4, .int .i64 x5, .int .i64 x6, .int .i64 x7, .int .i64 x8, .int .i64 x9, .int .u64 x0] 92 (0, 0)) := by rw [Af]; exact heap_alloc_new w _
 have c2 : wB.cell? ⟨w.heap.size, 2, none⟩ = some (.int .i64 x3) := by simp [World.cell?, hA]
 have c4 : wB.cell? ⟨w.heap.size, 4, none⟩ = some (.int .i64 x5) := by simp [World.cell?, hA]
 clear hA
 go_enter Tryz.func116, Tryz.ntmps116
 go_wp2_with fail
 rw [← Af]
 replace Af := Lib.hid Af
 go_region
 go_wp2_with fail
 go_ret3
 exact ⟨rfl, hb1.out.drew⟩
end
end Go.Proofs.YtelnhablglomjaaGreat

namespace Go.Proofs.YtelnhablglomjaaGreat
open Go.RowKit Go.Lib
def iX (w : World) (b : Nat) (r : Ry) : Prop := w.heap[b]? = some (.cells (bK r).toArray 53 (0, 0))
theorem iX.at {w : World} {b : Nat} {r : Ry} (h : iX w b r) (j : Nat) (u : Value) (hj : (bK r)[j]? = some u) : w.cell? ⟨b, j, none⟩ = some u := by
 simp [World.cell?, show w.heap[b]? = _ from h, hj]
theorem iX.free {w : World} {b : Nat} {r : Ry} (h : iX w b r) (j : Nat) : w.frozen? ⟨b, j, none⟩ = false := by simp [World.frozen?, show w.heap[b]? = _ from h]
theorem iX.below {w w' : World} {b B : Nat} {r : Ry} (h : iX w b r) (hb : Below B w w') (hB : b < B) : iX w' b r := (hb.block b hB).trans h
theorem iX.store {w : World} {b : Nat} {r : Ry} (h : iX w b r) (x : Ry) : Sem.run Tryz.prog (storeCells ⟨b, 0, none⟩ (bK x) 0) w = .ok () (w.setRow b (bK x).toArray) ∧ iX (w.setRow b (bK x).toArray) b x := by
 refine ⟨?_, setRow_heap w b _ _ _ _ h⟩
 have hst := run_storeCells_at Tryz.prog b 0 53 (bK x) 0 (bK r).toArray w h (by simp [bK]) (yN x)
 simp only [Nat.add_zero] at hst
 rw [hst]
 rfl
theorem iX.put {w : World} {b : Nat} {r r' : Ry} (h : iX w b r) (j : Nat) (v : Value) (he : (bK r).toArray.setIfInBounds j v = (bK r').toArray) : iX (w.setCell ⟨b, j, none⟩ v) b r' := by
 have := heap_put (i := j) h v
 rw [he] at this
 exact this
theorem iX.other {w : World} {b g j : Nat} {v : Value} {r : Ry} (h : iX w b r) (hg : b ≠ g) : iX (w.setCell ⟨g, j, none⟩ v) b r := (Below.heap_setCell _ _ _ _ hg).trans h
theorem uF {B g : Nat} {w0 w : World} (hb : Below B w0 w) (hBg : B ≤ g) (j : Nat) (u : Value) : Below B w0 (w.setCell ⟨g, j, none⟩ u) := hb.trans ((Only.setCell g j w u).below hBg)
theorem rA {B g : Nat} {w0 w : World} (hb : Below B w0 w) (hBg : B ≤ g) (cs : Array Value) : Below B w0 (w.setRow g cs) := hb.trans ((⟨rfl, rfl, rfl, by simp, fun k hk => setRow_other w g k _ hk⟩ : Only g w (w.setRow g cs)).below hBg)
theorem IZ {w : World} {b : Nat} {x3 x5 : Int} (h : iX w b ⟨0, 0, 0, 0, 0, 0, x3, x5, 0⟩) (x1 x6 x7 x8 x9 : Int) : iX (((((w.setCell ⟨b, 1, none⟩ (.int .i64 x1)).setCell ⟨b, 2, none⟩ (.int .i64 x6)).setCell ⟨b, 3, none⟩ (.int .i64 x7)).setCell ⟨b, 4, none⟩ (.int .i64 x8)).setCell ⟨b, 5, none⟩ (.int .i64 x9)).drew b ⟨0, x1, x6, x7, x8, x9, x3, x5, 0⟩ := by
 have h1 : iX (w.setCell ⟨b, 1, none⟩ (.int .i64 x1)) b ⟨0, x1, 0, 0, 0, 0, x3, x5, 0⟩ := h.put 1 _ rfl
 have h2 : iX ((w.setCell ⟨b, 1, none⟩ (.int .i64 x1)).setCell ⟨b, 2, none⟩ (.int .i64 x6)) b ⟨0, x1, x6, 0, 0, 0, x3, x5, 0⟩ := h1.put 2 _ rfl
 clear h h1
 generalize (w.setCell ⟨b, 1, none⟩ (.int .i64 x1)).setCell ⟨b, 2, none⟩ (.int .i64 x6) = W at *
 have h3 : iX (W.setCell ⟨b, 3, none⟩ (.int .i64 x7)) b ⟨0, x1, x6, x7, 0, 0, x3, x5, 0⟩ := h2.put 3 _ rfl
 have h4 : iX ((W.setCell ⟨b, 3, none⟩ (.int .i64 x7)).setCell ⟨b, 4, none⟩ (.int .i64 x8)) b ⟨0, x1, x6, x7, x8, 0, x3, x5, 0⟩ := h3.put 4 _ rfl
 clear h2 h3
 generalize (W.setCell ⟨b, 3, none⟩ (.int .i64 x7)).setCell ⟨b, 4, none⟩ (.int .i64 x8) = V at *
 exact h4.put 5 _ rfl
theorem Uk (j : Jb) (w : World) : Calls Tryz.prog 92 #[.agg (ai j).toArray] w fun e w' => e = .returned (.agg (bK (jh j)).toArray) ∧ Below w.heap.size w w' := by
 have hw := fun W => Ot j W
 have ht := fun W => yO j.2.2.1 j.2.2.2.2.1 0 W
 have lJ := ax j
 have zJ := bJ
 obtain ⟨k10, hk10⟩ : ∃ k, k = 10 := ⟨_, rfl⟩
 rw [← hk10] at lJ zJ
 replace hk10 := Lib.hid hk10
 obtain ⟨wA, aJ⟩ : ∃ wA, wA = (w.alloc (.cells (ai j).toArray 92)).alloc (.cells (bK Cf).toArray 53) := ⟨_, rfl⟩
 have bS : Hid (Below w.heap.size w wA) := by show Below _ _ _; rw [aJ]; exact ((Below.refl _ _).alloc (Nat.le_refl _) _).alloc (by simp) _
 have hsA : wA.heap.size = w.heap.size + 2 := by rw [aJ]; simp
 have Ri : wA.heap[w.heap.size]? = some (.cells (ai j).toArray 92 (0, 0)) := by rw [aJ]; exact dW (heap_alloc_new w _)
 have jD : iX wA (w.heap.size + 1) Cf := by rw [aJ]; exact heap_alloc2_new w _ _
 have ld := qK (k := k10) Ri lJ
 rw [aJ] at ld
 replace hsA := Lib.hid hsA
 obtain ⟨x1, x2, x3, x4, x5, x6, x7, x8, x9, x0⟩ := j
 simp only [ai, bK, Cf, jh] at *
 go_enter Tryz.func92, Tryz.ntmps92
 go_wp2_with fail
 go_at_call 116
 refine (hw _).mono ?_
 rw [← aJ]
 rintro e w1 ⟨rfl, hb1⟩
 clear hw ld
 go_wp2_with fail
 go_at_call 79
 refine (ht _).mono ?_
 rintro e w2 ⟨rfl, hb2⟩
 clear ht
 obtain ⟨w3, hw3⟩ : ∃ w3, w3 = w2.alloc (.cells #[.int .i64 0, .int .i64 0, .int .i64 0, .int .i64 0, .int .i64 0, .int .i64 0, .int .i64 x3, .int .i64 x5, .int .i64 0] 53) := ⟨_, rfl⟩
 have hb3 : Below wA.heap.size wA w3 := by rw [hw3]; exact (hb1.trans (hb2.mono hb1.size)).alloc (by have := hb1.size; have := hb2.size; omega) _
 have hJ3 : w3.heap[w.heap.size]? = some (.cells (ai (x1, x2, x3, x4, x5, x6, x7, x8, x9, x0)).toArray 92 (0, 0)) := (hb3.block _ (aD Ri)).trans Ri
 have Cg : iX w3 (w.heap.size + 1) Cf := jD.below hb3 (aD jD)
 have cO : iX w3 w2.heap.size ⟨0, 0, 0, 0, 0, 0, x3, x5, 0⟩ := by rw [hw3]; exact heap_alloc_new w2 _
 have hs2 : Hid (wA.heap.size ≤ w2.heap.size) := by show _ ≤ _; have := hb1.size; have := hb2.size; omega
 have j0 : w3.cell? ⟨w.heap.size, 0, none⟩ = some (.int .i64 x1) := by simp [World.cell?, hJ3, ai]
 have j5 : w3.cell? ⟨w.heap.size, 5, none⟩ = some (.int .i64 x6) := by simp [World.cell?, hJ3, ai]
 have j6 : w3.cell? ⟨w.heap.size, 6, none⟩ = some (.int .i64 x7) := by simp [World.cell?, hJ3, ai]
 have j7 : w3.cell? ⟨w.heap.size, 7, none⟩ = some (.int .i64 x8) := by simp [World.cell?, hJ3, ai]
 have j8 : w3.cell? ⟨w.heap.size, 8, none⟩ = some (.int .i64 x9) := by simp [World.cell?, hJ3, ai]
 have t1 := cO.at 1 (.int .i64 0) rfl
 have t2 := cO.at 2 (.int .i64 0) rfl
 have t3 := cO.at 3 (.int .i64 0) rfl
 have t4 := cO.at 4 (.int .i64 0) rfl
 have t5 := cO.at 5 (.int .i64 0) rfl
 have f1 := cO.free 1
 have f2 := cO.free 2
 have f3 := cO.free 3
 have f4 := cO.free 4
 have f5 := cO.free 5
 have hne : ¬ w.heap.size = w2.heap.size := by have := aD Ri; have := hs2.out; omega
 replace hJ3 := Lib.hid hJ3
 replace Cg := Lib.hid Cg
 replace cO := Lib.hid cO
 replace hb3 := Lib.hid hb3
 clear hb1 hb2 Ri jD
 go_wp2_with fail
 rw [← hw3]
 replace hw3 := Lib.hid hw3
 replace aJ := Lib.hid aJ
 go_region
 obtain ⟨w6, xL⟩ : ∃ w6, w6 = (((((w3.setCell ⟨w2.heap.size, 1, none⟩ (.int .i64 x1)).setCell ⟨w2.heap.size, 2, none⟩ (.int .i64 x6)).setCell ⟨w2.heap.size, 3, none⟩ (.int .i64 x7)).setCell ⟨w2.heap.size, 4, none⟩ (.int .i64 x8)).setCell ⟨w2.heap.size, 5, none⟩ (.int .i64 x9)).drew := ⟨_, rfl⟩
 have hs3 : w.heap.size + 2 ≤ w2.heap.size := by have := hs2.out; have := hsA.out; omega
 have Ae : iX w6 w2.heap.size ⟨0, x1, x6, x7, x8, x9, x3, x5, 0⟩ := by
  rw [xL]
  exact IZ cO.out x1 x6 x7 x8 x9
 have NM : iX w6 (w.heap.size + 1) Cf := by
  rw [xL]
  exact ((((Cg.out.other (by omega)).other (by omega)).other (by omega)).other (by omega)).other (by omega)
 have hb6 : Hid (Below w.heap.size w w6) := by
  show Below _ _ _
  rw [xL]
  exact (uF (uF (uF (uF (uF (bS.out.trans (hb3.out.mono (by have := hsA.out; omega))) (by omega) 1 _) (by omega) 2 _) (by omega) 3 _) (by omega) 4 _) (by omega) 5 _).drew
 rw [← xL]
 clear xL
 have zR := wK
 obtain ⟨k9, bP⟩ : ∃ k, k = 9 := ⟨_, rfl⟩
 rw [← bP] at zR
 replace bP := Lib.hid bP
 have ld := qK (k := k9) Ae (by rw [bP.out]; rfl)
 obtain ⟨hst, Xq⟩ := NM.store ⟨0, x1, x6, x7, x8, x9, x3, x5, 0⟩
 have kD : Hid (Below w.heap.size w (w6.setRow (w.heap.size + 1) (bK ⟨0, x1, x6, x7, x8, x9, x3, x5, 0⟩).toArray)) := rA hb6.out (by omega) _
 have ZR : (bK ⟨0, x1, x6, x7, x8, x9, x3, x5, 0⟩).length = k9 := by rw [bP.out]; rfl
 have YH : Hid (#[.int .i64 0, .int .i64 x1, .int .i64 x6, .int .i64 x7, .int .i64 x8, .int .i64 x9, .int .i64 x3, .int .i64 x5, .int .i64 0] = (bK ⟨0, x1, x6, x7, x8, x9, x3, x5, 0⟩).toArray) := rfl
 have Xr : Hid ((w6.setRow (w.heap.size + 1) (bK ⟨0, x1, x6, x7, x8, x9, x3, x5, 0⟩).toArray).heap[w.heap.size + 1]? = some (.cells (bK ⟨0, x1, x6, x7, x8, x9, x3, x5, 0⟩).toArray 53 (0, 0))) := Xq
 clear NM Ae Xq
 have YI := Lib.hid (jJ ⟨0, x1, x6, x7, x8, x9, x3, x5, 0⟩)
 generalize bK ⟨0, x1, x6, x7, x8, x9, x3, x5, 0⟩ = cY at *
 go_wp2_with fail
 (try simp only [Exit.inBlock, Exit.then])
 refine bG rfl rfl rfl Xr.out Tryz.underlying53 rfl ?_ ⟨by rw [YH.out], kD.out⟩
 rw [List.size_toArray, YI.out]
 kernel_rfl
end Go.Proofs.YtelnhablglomjaaGreat

namespace Go.Proofs.YtelnhablglomjaaGreat
open Go.RowKit Go.Lib Go.Sort
structure Wk where
 ag : Rq
 lQ : Int
 dR : Int
 left : Value
 aC : Jb
 idle : Int
 target : Int
 rep : Ry
 ok : Bool
def gG (R : Wk) : List Value := encR R.ag ++ ([.int .i64 R.lQ, .int .i64 R.dR, R.left] ++ (ai R.aC ++ ([.int .i64 R.idle, .int .i64 R.target] ++ (bK R.rep ++ [.bool R.ok]))))
def VN : Rq := ⟨0, 0, 0, 0, 0, 0, false, 0, 0⟩
def iD : Jb := (0, 0, 0, 0, 0, 0, 0, 0, 0, 0)
def oD : Ry := ⟨0, 0, 0, 0, 0, 0, 0, 0, 0⟩
def bI (w : World) (b : Nat) (R : Wk) : Prop := w.heap[b]? = some (.cells (gG R).toArray 94 (0, 0))
section
variable {w w' w1 w2 : World} {b c t d p g a g' g1 g2 a' : Nat} {v v' v1 v2 : Value} {m m' : Int} {P P' : Pg} {R R' : Wk}
theorem Eo (R : Wk) : (gG R).length = 34 := rfl
theorem bI.lt (h : bI w b R) : b < w.heap.size := aD h
theorem bI.at (h : bI w b R) (j : Nat) (u : Value) (hj : (gG R)[j]? = some u) : w.cell? ⟨b, j, none⟩ = some u := by
 simp [World.cell?, show w.heap[b]? = _ from h, hj]
theorem bI.free (h : bI w b R) (j : Nat) : w.frozen? ⟨b, j, none⟩ = false := by simp [World.frozen?, show w.heap[b]? = _ from h]
theorem bI.put (h : bI w b R) (j : Nat) (u : Value) (he : (gG R).set j u = gG R') : bI (w.setCell ⟨b, j, none⟩ u) b R' := by
 refine (heap_put h u).trans ?_
 rw [xA, he]
theorem bI.left (h : bI w b R) (u : Value) : bI (w.setCell ⟨b, 11, none⟩ u) b { R with left := u } := h.put 11 u rfl
theorem bI.idle (h : bI w b R) (n : Int) : bI (w.setCell ⟨b, 22, none⟩ (.int .i64 n)) b { R with idle := n } := h.put 22 _ rfl
theorem bI.target (h : bI w b R) (n : Int) : bI (w.setCell ⟨b, 23, none⟩ (.int .i64 n)) b { R with target := n } := h.put 23 _ rfl
theorem bI.UM (h : bI w b R) (x : Bool) : bI (w.setCell ⟨b, 33, none⟩ (.bool x)) b { R with ok := x } := h.put 33 _ rfl
theorem bI.plan (h : bI w b R) (n : Int) : bI (w.setCell ⟨b, 20, none⟩ (.int .i64 n)) b { R with aC := R.aC.aG n } := h.put 20 _ rfl
theorem xO {w : World} {g : Nat} {cs : Array Value} {t : TypeId} {fr : Nat × Nat} (h : w.heap[g]? = some (.cells cs t fr)) (cs' : Array Value) : (w.setRow g cs').heap[g]? = some (.cells cs' t fr) := by
 simp [World.setRow, Array.getElem?_modify, h]
theorem bI.Gh (h : bI w b R) (x : Ry) : Sem.run Tryz.prog (storeCells ⟨b, 24, none⟩ (bK x) 0) w = .ok () (w.setRow b (gG { R with rep := x }).toArray) ∧ bI (w.setRow b (gG { R with rep := x }).toArray) b { R with rep := x } := by
 have hst := run_storeCells_at Tryz.prog b 24 94 (bK x) 0 (gG R).toArray w h (by simp [Eo, jJ]) (yN x)
 refine ⟨hst.trans ?_, xO h _⟩
 congr 3
theorem bI.uG (h : bI w b R) (x : Jb) : Sem.run Tryz.prog (storeCells ⟨b, 12, none⟩ (ai x) 0) w = .ok () (w.setRow b (gG { R with aC := x }).toArray) ∧ bI (w.setRow b (gG { R with aC := x }).toArray) b { R with aC := x } := by
 have hst := run_storeCells_at Tryz.prog b 12 94 (ai x) 0 (gG R).toArray w h (by simp [Eo, ax]) (dJ x)
 refine ⟨hst.trans ?_, xO h _⟩
 congr 3
theorem xP {w : World} {g off k : Nat} {all cs : List Value} {t : TypeId} (h : w.heap[g]? = some (.cells all.toArray t (0, 0))) (hk : cs.length = k) (hc : ∀ j u, cs[j]? = some u → all[off + j]? = some u) :
 Sem.run Tryz.prog (loadCellsFrom ⟨g, off, none⟩ 0 k #[]) w = .ok cs.toArray w :=
 run_loadCellsFrom_list Tryz.prog w _ _ k hk fun j u hj => by
  rw [Go.WideShapes.add_plain]
  have := hc j u hj
  simp [World.cell?, h, this]
theorem bI.nO (h : bI w b R) {k : Nat} (hk : (encR R.ag).length = k) : Sem.run Tryz.prog (loadCellsFrom ⟨b, 0, none⟩ 0 k #[]) w = .ok (encR R.ag).toArray w :=
 xP h hk fun j u hj => by
  obtain ⟨hlt, _⟩ := List.getElem?_eq_some_iff.1 hj
  rw [Nat.zero_add]; unfold gG; rw [List.getElem?_append_left hlt]; exact hj
theorem bI.nP (h : bI w b R) {k : Nat} (hk : (ai R.aC).length = k) : Sem.run Tryz.prog (loadCellsFrom ⟨b, 12, none⟩ 0 k #[]) w = .ok (ai R.aC).toArray w :=
 xP h hk fun j u hj => by
  have hlt : j < 10 := (List.getElem?_eq_some_iff.1 hj).1
  show (encR R.ag ++ ([_, _, _] ++ (ai R.aC ++ _)))[12 + j]? = _
  rw [List.getElem?_append_right (by show 9 ≤ _; omega), List.getElem?_append_right (by show 3 ≤ 12 + j - 9; omega), List.getElem?_append_left (by show 12 + j - 9 - 3 < 10; omega)]
  have e : 12 + j - (encR R.ag).length - [Value.int .i64 R.lQ, .int .i64 R.dR, R.left].length = j := by show 12 + j - 9 - 3 = j; omega
  rw [e]; exact hj
def fI (b c t d p : Nat) (v : Value) (g : Nat) (k : Nat) : Prop := k = b ∨ dC c t d p v g k
structure SW (w : World) (b c t d p : Nat) (v : Value) (g a : Nat) (m : Int) (R : Wk) (P : Pg) : Prop where
 wk : bI w b R
 cw : CW w c t d p v g a m P
structure WS (w w' : World) (b c t d p : Nat) (v : Value) (g : Nat) (v' : Value) (g' : Nat) : Prop where
 off : bu (fI b c t d p v g) w w'
 grew : jP w (fI b c t d p v g) (fI b c t d p v' g')
theorem SW.apart (h : SW w b c t d p v g a m R P) : ¬ dC c t d p v g b := h.cw.other h.wk (by decide)
theorem SW.lt (h : SW w b c t d p v g a m R P) {k : Nat} (hk : fI b c t d p v g k) : k < w.heap.size := hk.elim (fun e => e ▸ h.wk.lt) (fun hf => h.cw.lt hf)
theorem WS.refl (w : World) : WS w w b c t d p v g v g := ⟨bu.refl _ _, jP.refl _ _⟩
theorem WS.of_below (h : Below w.heap.size w w1) : WS w w1 b c t d p v g v g := ⟨bu.of_below h, jP.refl _ _⟩
theorem WS.trans (h : WS w w1 b c t d p v g v1 g1) (h' : WS w1 w2 b c t d p v1 g1 v2 g2) : WS w w2 b c t d p v g v2 g2 :=
 ⟨h.off.trans h'.off h.grew, h.grew.trans h'.grew h.off.size⟩
theorem WS.dD (h : CS w w1 c t d p v g v1 g1) : WS w w1 b c t d p v g v1 g1 :=
 ⟨⟨h.off.os, h.off.tape, h.off.output, h.off.size, fun k hk hf => h.off.block k hk fun h2 => hf (.inr h2)⟩, fun k hk => hk.elim (fun e => .inl (.inl e)) fun hf => (h.grew k hf).elim (fun h2 => .inl (.inr h2)) .inr⟩
theorem WS.heap (h : WS w w1 b c t d p v g v1 g1) {k : Nat} (hk : k < w.heap.size) (hn : ¬ fI b c t d p v g k) : w1.heap[k]? = w.heap[k]? := h.off.block k hk hn
theorem WS.below {B : Nat} (h : WS w w1 b c t d p v g v1 g1) (hS : ∀ k, fI b c t d p v g k → B ≤ k) (hB : B ≤ w.heap.size) : Below B w w1 := h.off.below hS hB
theorem WS.lo {B : Nat} (h : WS w w1 b c t d p v g v1 g1) (hS : ∀ k, fI b c t d p v g k → B ≤ k) (hB : B ≤ w.heap.size) : ∀ k, fI b c t d p v1 g1 k → B ≤ k := fun k hk => (h.grew k hk).elim (hS k) (fun hle => Nat.le_trans hB hle)
theorem WS.bD (ho : bu (fun k => k = b) w w1) : WS w w1 b c t d p v g v g := ⟨⟨ho.os, ho.tape, ho.output, ho.size, fun k hk hf => ho.block k hk fun e => hf (.inl e)⟩, jP.refl _ _⟩
theorem SW.kept (h : SW w b c t d p v g a m R P) (hb : Below w.heap.size w w1) : SW w1 b c t d p v g a m R P := ⟨(hb.block b h.wk.lt).trans h.wk, h.cw.kept hb⟩
theorem SW.core (h : SW w b c t d p v g a m R P) (hc : CW w1 c t d p v1 g1 a' m' P') (hs : CS w w1 c t d p v g v1 g1) : SW w1 b c t d p v1 g1 a' m' R P' := ⟨(hs.heap h.wk.lt h.apart).trans h.wk, hc⟩
theorem CW.Rj (h : CW w c t d p v g a m P) (ho : bu (fun k => k = b) w w1) (hb : ¬ dC c t d p v g b) : CW w1 c t d p v g a m P := by
 have blk : ∀ k, dC c t d p v g k → w1.heap[k]? = w.heap[k]? := fun k hk => ho.block k (h.lt hk) (fun e => hb (e ▸ hk))
 obtain ⟨S, aK, ⟨cap, hp1, hp2⟩, hrest⟩ := h.lL
 refine ⟨(blk c (.inl rfl)).trans h.cell, ⟨(blk t (.inr (.inl rfl))).trans h.eU.cell, bA h.eU.own fun k hk => blk k (.inr (.inr (.inr (.inr (.inl hk)))))⟩, (blk d (.inr (.inr (.inl rfl)))).trans h.nodes, S, aK, ⟨cap, (blk p (.inr (.inr (.inr (.inl rfl))))).trans hp1, bA hp2 fun k hk => ?_⟩, hrest⟩
 have e : k = g := by simpa [Value.ownBlock] using hk.symm
 exact blk k (.inr (.inr (.inr (.inr (.inr e)))))
theorem SW.work (h : SW w b c t d p v g a m R P) (hw : bI w1 b R') (ho : bu (fun k => k = b) w w1) : SW w1 b c t d p v g a m R' P := ⟨hw, h.cw.Rj ho h.apart⟩
theorem dw (w : World) (j : Nat) (u : Value) : bu (fun k => k = b) w (w.setCell ⟨b, j, none⟩ u) := ⟨rfl, rfl, rfl, by simp, fun k _ hk => Below.heap_setCell w ⟨b, j, none⟩ u k hk⟩
theorem cK (w : World) (cs : Array Value) : bu (fun k => k = b) w (w.setRow b cs) := ⟨rfl, rfl, rfl, by simp, fun k _ hk => setRow_other w b k _ hk⟩
theorem gp (h : bu (fun k => k = b) w w1) (h' : bu (fun k => k = b) w1 w2) : bu (fun k => k = b) w w2 := h.trans h' (jP.refl _ _)
def az (w : World) (b c t d p : Nat) (v : Value) (g a : Nat) (m : Int) (L : Value) (R' : Wk) (P' : Pg) (e : Ending) (w' : World) : Prop :=
 e = .returned L ∧ ∃ v' g', SW w' b c t d p v' g' a m R' P' ∧ WS w w' b c t d p v g v' g'
end
end Go.Proofs.YtelnhablglomjaaGreat

namespace Go.Proofs.YtelnhablglomjaaGreat
open Go.RowKit Go.Lib Go.Sort
def fG (k : Nat) : Value := .func (.func k) #[] #[]
section
variable {w w' w1 w2 : World} {b c t d p g a : Nat} {v : Value} {m : Int} {P P' : Pg} {R R' : Wk}
theorem kT (h : CW w c t d p v g a m P) : Calls Tryz.prog 41 #[.pointer (some ⟨c, 0, none⟩)] w fun e w' => e = .returned (.bool false) ∧ w = w' := by
 have c3 := h.c3
 clear h
 go_enter Tryz.func41, Tryz.ntmps41
 go_wp2_with fail
 go_ret
 exact ⟨rfl, rfl⟩
theorem jA (h : CW w c t d p v g a m P) : Calls Tryz.prog 68 #[.pointer (some ⟨c, 0, none⟩)] w fun e w' => e = .returned (.bool P.cl) ∧ w = w' := by
 have c4 := h.c4
 have hno := kT h
 clear h
 go_enter Tryz.func68, Tryz.ntmps68
 go_wp2_with (go_at_call 41; go_must (refine hno.mono ?_); rintro e w' ⟨rfl, rfl⟩)
 go_ret
 exact ⟨rfl, rfl⟩
theorem mE (h : bI w b R) (l : Bool) (hl : R.left = .nilFunc ∧ l = true ∨ (∃ k, R.left = fG k) ∧ l = false) : Calls Tryz.prog 11 #[.pointer (some ⟨b, 0, none⟩)] w fun e w' => e = .returned (.bool l) ∧ w = w' := by
 have c11 := h.at 11 R.left rfl
 clear h
 have e1 : ∀ w, Sem.run Tryz.prog (binOp .eql 89 .nilFunc .nilFunc) w = .ok (.bool true) w := fun w => rfl
 have e2 : ∀ k w, Sem.run Tryz.prog (binOp .eql 89 (.func (.func k) #[] #[]) .nilFunc) w = .ok (.bool false) w := fun k w => rfl
 rcases hl with ⟨hl, rfl⟩ | ⟨⟨k, hl⟩, rfl⟩
 ·rw [hl] at c11
  go_enter Tryz.func11, Tryz.ntmps11
  go_wp2_with fail
  go_ret
  exact ⟨rfl, rfl⟩
 ·rw [hl] at c11
  unfold fG at *
  go_enter Tryz.func11, Tryz.ntmps11
  go_wp2_with fail
  go_ret
  exact ⟨rfl, rfl⟩
theorem iK (h : bI w b R) (q : Int) : Calls Tryz.prog 42 #[.pointer (some ⟨b, 0, none⟩), .int .i64 q] w fun e w' => e = .returned .nilFunc ∧ bI w' b { R with rep := ⟨q, 0, 0, 0, 0, 0, 0, 0, 0⟩, ok := false } ∧ bu (fun k => k = b) w w' := by
 have hf := IY q w
 generalize hx : (⟨q, 0, 0, 0, 0, 0, 0, 0, 0⟩ : Ry) = x at *
 have zY := wK
 obtain ⟨k9, bP⟩ : ∃ k, k = 9 := ⟨_, rfl⟩
 rw [← bP] at zY
 have lY := jJ x
 rw [← bP] at lY
 have hk0 : ¬ k9 = 0 := by omega
 replace bP := Lib.hid bP
 clear hx
 go_enter Tryz.func42, Tryz.ntmps42
 go_wp2_with fail
 go_at_call 59
 refine hf.mono ?_
 clear hf
 rintro e w1 ⟨rfl, hb1⟩
 have hW1 : bI w1 b R := (hb1.block b h.lt).trans h
 obtain ⟨st, hW2⟩ := hW1.Gh x
 have hW3 := hW2.UM false
 have ZT := hW2.free 33
 have ho : bu (fun k => k = b) w ((w1.setRow b (gG { R with rep := x }).toArray).setCell ⟨b, 33, none⟩ (.bool false)) := gp (bu.of_below hb1) (gp (cK w1 _) (dw _ 33 _))
 have YJ := hW2.at 33 (.bool R.ok) rfl
 generalize gG { R with rep := x } = W2 at *
 go_wp2_with fail
 go_ret
 exact ⟨rfl, hW3, ho⟩
end
end Go.Proofs.YtelnhablglomjaaGreat

namespace Go.Proofs.YtelnhablglomjaaGreat
open Go.RowKit Go.Lib Go.Sort
section
variable {w w' w1 w2 : World} {b c t d p g a : Nat} {v : Value} {m : Int} {P P' : Pg} {R R' : Wk}
theorem Ch {k a' : Nat} {m' : Int} {L : Value} {l : Bool} (h : SW w b c t d p v g a m R P) (hl : R.left = fG k) (hl' : R'.left = fG k) (hL : L = .nilFunc ∧ l = true ∨ (∃ k, L = fG k) ∧ l = false)
 (hk : ∀ args w, Sem.run Tryz.prog (callFunc k args) w = .ok (.enter k args) w)
 (hp : Calls Tryz.prog k #[.pointer (some ⟨b, 0, none⟩), .pointer (some ⟨c, 0, none⟩)] w (az w b c t d p v g a' m' L R' P')) :
 Calls Tryz.prog 12 #[.pointer (some ⟨b, 0, none⟩), .pointer (some ⟨c, 0, none⟩)] w fun e w' => e = .returned (.bool l) ∧ ∃ v' g', SW w' b c t d p v' g' a' m' { R' with left := L } P' ∧ WS w w' b c t d p v g v' g' := by
 have hd := mE h.wk false (.inr ⟨⟨k, hl⟩, rfl⟩)
 have hn := kT h.cw
 have c11 := h.wk.at 11 R.left rfl
 rw [hl] at c11
 unfold fG at c11
 go_enter Tryz.func12, Tryz.ntmps12
 go_wp2_with (first | (go_at_call 11; go_must (refine hd.mono ?_); rintro e w' ⟨rfl, rfl⟩) | (go_at_call 41; go_must (refine hn.mono ?_); rintro e w' ⟨rfl, rfl⟩))
 refine hp.mono ?_
 clear hp
 rintro e w1 ⟨rfl, v1, g1, hS, hW⟩
 have hW2 := hS.wk.left L
 have c11' := hS.wk.at 11 R'.left rfl
 rw [hl'] at c11'
 unfold fG at c11'
 have f11 := hS.wk.free 11
 have hd2 := mE hW2 l hL
 have hS2 := hS.work hW2 (dw w1 11 L)
 have fin := hW.trans (WS.bD (dw w1 11 L))
 clear hW hW2 hS hd hn h c11
 rcases hL with ⟨rfl, rfl⟩ | ⟨⟨k2, rfl⟩, rfl⟩
 ·go_wp2_with (go_at_call 11; go_must (refine hd2.mono ?_); rintro e w' ⟨rfl, rfl⟩)
  go_ret
  exact ⟨rfl, v1, g1, hS2, fin⟩
 ·unfold fG at *
  go_wp2_with (go_at_call 11; go_must (refine hd2.mono ?_); rintro e w' ⟨rfl, rfl⟩)
  go_ret
  exact ⟨rfl, v1, g1, hS2, fin⟩
theorem Gi : ∀ args w, Sem.run Tryz.prog (callFunc 40 args) w = .ok (.enter 40 args) w := fun _ _ => rfl
end
end Go.Proofs.YtelnhablglomjaaGreat

namespace Go.Proofs.YtelnhablglomjaaGreat
open Go.RowKit
def hd (v : Int) : Int := max 0 (min v 1152921504606846976)
theorem vo (v : Int) : 0 ≤ hd v ∧ hd v ≤ 1152921504606846976 := by unfold hd; omega
theorem vM (v : Int) (w : World) :
 Calls Tryz.prog 136 #[.int .i64 v] w fun e w' => e = .returned (.int .i64 (hd v)) ∧ w = w' := by
 go_enter Tryz.func136, Tryz.ntmps136
 go_wp2
 go_ret
 exact ⟨rfl, rfl⟩
theorem Ci (a b : Int) (w : World) :
 Calls Tryz.prog 109 #[.int .i64 a, .int .i64 b] w fun e w' => e = .returned (.int .i64 (hd (hd a - hd b))) ∧ w = w' := by
 have ha := vo a
 have hb := vo b
 go_enter Tryz.func109, Tryz.ntmps109
 go_wp2_with (go_at_call 136; go_must (refine (vM _ _).mono ?_); rintro e w' ⟨rfl, rfl⟩)
 go_ret
 exact ⟨rfl, rfl⟩
end Go.Proofs.YtelnhablglomjaaGreat

namespace Go.Proofs.YtelnhablglomjaaGreat
open Go.RowKit
theorem Ul (a : Int) (w : World) (ha : -9223372036854775808 ≤ a ∧ a ≤ 9223372036854775807) :
 Calls Tryz.prog 111 #[.int .i64 a] w fun e w' => e = .returned (.bool (decide (0 ≤ a ∧ a ≤ 1099511627776))) ∧ w = w' := by
 by_cases h0 : 0 ≤ a
 ·go_enter Tryz.func111, Tryz.ntmps111
  go_wp2
  go_ret
  exact ⟨by simp [h0], rfl⟩
 ·go_enter Tryz.func111, Tryz.ntmps111
  go_wp2
  go_ret
  exact ⟨by simp; omega, rfl⟩
end Go.Proofs.YtelnhablglomjaaGreat

namespace Go.Proofs.YtelnhablglomjaaGreat
open Go.RowKit
def vN (l : List Int) : Int := l.foldl (fun s v => hd (s + hd v)) 0
def kY (l : List Int) : Int := l.foldl min 1152921504606846976
theorem Cj (l : List Int) (z : Int) : vN (l ++ [z]) = hd (vN l + hd z) := by unfold vN; rw [List.foldl_append]; rfl
theorem Gj (l : List Int) (z : Int) : kY (l ++ [z]) = min (kY l) z := by unfold kY; rw [List.foldl_append]; rfl
theorem I1 (l : List Int) : 0 ≤ vN l ∧ vN l ≤ 1152921504606846976 := by
 rcases List.eq_nil_or_concat l with rfl | ⟨m, z, rfl⟩
 ·decide
 ·rw [List.concat_eq_append, Cj]; exact vo _
theorem Rk (v : Value) (zs : List Int) (w : World) (h : qm w v zs) :
 Calls Tryz.prog 141 #[v] w fun e w' => e = .returned (.int .i64 (vN zs)) ∧ w = w' := by
 obtain ⟨⟨ao, cap, rfl, hlc, hcm, hcells⟩, hfit⟩ := h
 have EO : cap ≤ 9223372036854775807 := by unfold maxLen at hcm; omega
 clear hfit hcm
 go_enter Tryz.func141, Tryz.ntmps141
 go_wp2_with fail
 go_loopw [3, 8] (fun s i wr => ∃ (k : Nat), k ≤ zs.length ∧ i = .int .i64 k ∧ s = .int .i64 (vN (zs.take k)) ∧ wr = w) (fun _ i _ => zs.length - (intOf i).toNat)
 case atStart => exact ⟨0, Nat.zero_le _, rfl, rfl, rfl⟩
 case round =>
  obtain ⟨k, hk, rfl, rfl, rfl⟩ := hrel
  by_cases hlt : k < zs.length
  ·obtain ⟨b, off, rfl, hbw, hcell⟩ := hcells (by rintro rfl; simp at hlt)
   obtain ⟨z, hz⟩ : ∃ z, z = zs.getD k 0 := ⟨_, rfl⟩
   have hcw : wr.cell? ⟨b, off + k, none⟩ = some (.int .i64 z) := by rw [hz]; exact hcell k hlt
   have hs := I1 (zs.take k)
   have hh := vo z
   have hn : Hid (hd (vN (zs.take k) + hd z) = vN (zs.take (k + 1))) := by show _ = _; rw [BF hlt, Cj, hz]
   clear hz hcell hcells
   go_wp2_with (go_at_call 136; go_must (refine (vM _ _).mono ?_); rintro e w' ⟨rfl, rfl⟩)
   go_roundw
   case rel => exact ⟨k + 1, by omega, by go_num, congrArg (Value.int .i64) hn.out, trivial⟩
   case measure => simp [intOf]; omega
  ·obtain rfl : k = zs.length := by omega
   rw [List.take_of_length_le (Nat.le_refl _)]
   go_wp2_with fail
   go_ret
   exact ⟨rfl, rfl⟩
theorem Ld (v : Value) (zs : List Int) (w : World) (h : qm w v zs) :
 Calls Tryz.prog 157 #[v] w fun e w' => e = .returned (.int .i64 (kY zs)) ∧ w = w' := by
 obtain ⟨⟨ao, cap, rfl, hlc, hcm, hcells⟩, hfit⟩ := h
 have EO : cap ≤ 9223372036854775807 := by unfold maxLen at hcm; omega
 clear hfit hcm
 go_enter Tryz.func157, Tryz.ntmps157
 go_wp2_with fail
 go_loopw [3, 8] (fun s i wr => ∃ (k : Nat), k ≤ zs.length ∧ i = .int .i64 k ∧ s = .int .i64 (kY (zs.take k)) ∧ wr = w) (fun _ i _ => zs.length - (intOf i).toNat)
 case atStart => exact ⟨0, Nat.zero_le _, rfl, rfl, rfl⟩
 case round =>
  obtain ⟨k, hk, rfl, rfl, rfl⟩ := hrel
  by_cases hlt : k < zs.length
  ·obtain ⟨b, off, rfl, hbw, hcell⟩ := hcells (by rintro rfl; simp at hlt)
   obtain ⟨z, hz⟩ : ∃ z, z = zs.getD k 0 := ⟨_, rfl⟩
   have hcw : wr.cell? ⟨b, off + k, none⟩ = some (.int .i64 z) := by rw [hz]; exact hcell k hlt
   have hn : Hid (min (kY (zs.take k)) z = kY (zs.take (k + 1))) := by show _ = _; rw [BF hlt, Gj, hz]
   clear hz hcell hcells
   go_wp2_with fail
   go_roundw
   case rel => exact ⟨k + 1, by omega, by go_num, congrArg (Value.int .i64) hn.out, trivial⟩
   case measure => simp [intOf]; omega
  ·obtain rfl : k = zs.length := by omega
   rw [List.take_of_length_le (Nat.le_refl _)]
   go_wp2_with fail
   go_ret
   exact ⟨rfl, rfl⟩
theorem Rm (w : World) (x y : Int) (e : TypeId) (hx : -9223372036854775808 ≤ x ∧ x ≤ 9223372036854775807) (hy : -9223372036854775808 ≤ y ∧ y ≤ 9223372036854775807) :
 qm (w.alloc (.cells #[.int .i64 x, .int .i64 y] e)) (.slice (some ⟨w.heap.size, 0, none⟩) 2 2) [x, y] := by
 refine ⟨⟨_, _, rfl, by simp, by decide, fun _ => ⟨w.heap.size, 0, rfl, by simp, fun i hi => ?_⟩⟩, fun z hz => ?_⟩
 ·have hi : i = 0 ∨ i = 1 := by simp at hi; omega
  rcases hi with rfl | rfl <;> go_simp
 ·simp at hz
  rcases hz with rfl | rfl
  ·exact hx
  ·exact hy
end Go.Proofs.YtelnhablglomjaaGreat

namespace Go.Proofs.YtelnhablglomjaaGreat
open Go.RowKit Go.Lib Go.Sort
theorem kU : ∀ w, Sem.run Tryz.prog (Go.sizeOf 148) w = .ok 3 w := Tryz.sizeOf148
theorem Ro : ∀ w, Sem.run Tryz.prog (isAgg 148) w = .ok true w := Tryz.isAgg148
theorem fu {w : World} {b k : Nat} {cs : List Value} {t : TypeId} (h : w.heap[b]? = some (.cells cs.toArray t (0, 0))) (hk : cs.length = k) : Sem.run Tryz.prog (loadCellsFrom ⟨b, 0, none⟩ 0 k #[]) w = .ok cs.toArray w :=
 xP h hk fun j u hj => by rw [Nat.zero_add]; exact hj
theorem yP {fn : Func} {q u : Tmp} {b : Nat} {tmps : Array Value} {w : World} {cs : List Value} (h : fn.results = #[.cell q 148, .tmp u]) (ha : tmps.getD q undef = .pointer (some ⟨b, 0, none⟩)) (hb : w.heap[b]? = some (.cells cs.toArray 148 (0, 0))) (hl : cs.length = 3) :
 (results fn tmps).run Tryz.prog w = .ok (.tuple #[.agg cs.toArray, tmps.getD u undef]) w := by
 have h1 : Sem.run Tryz.prog (loadCells ⟨b, 0, none⟩ 3) w = .ok cs.toArray w := fu hb hl
 rw [results_cell_tmp h, ha]
 simp only [loadVar, asAddr, Sem.run_bind, Sem.run_pure, Result.andThen_ok, Ro, kU, h1, if_true]
def aM (j : Jb) : List Value := if aj j = true then [.int .i64 j.aN, .int .i64 (j.aN + j.lim), .int .i64 j.wid] else [.int .i64 0, .int .i64 0, .int .i64 0]
section
variable {w : World}
theorem Ou (j : Jb) (h : aj j = false) : Calls Tryz.prog 112 #[.agg (ai j).toArray] w fun e w' => e = .returned (.tuple #[.agg (aM j).toArray, .bool (aj j)]) ∧ Below w.heap.size w w' := by
 unfold aM
 rw [h, if_neg (by decide)]
 obtain ⟨x1, x2, x3, x4, x5, x6, x7, x8, x9, x0⟩ := j
 have hk : x6 ≠ 1 ∨ (x6 = 1 ∧ x9 < 0) := by
  by_cases e : x6 = 1
  ·refine .inr ⟨e, ?_⟩
   rcases Int.lt_or_le x9 0 with h1 | h1
   ·exact h1
   ·have : aj (x1, x2, x3, x4, x5, x6, x7, x8, x9, x0) = true := bq.2 ⟨e, h1⟩
    rw [this] at h; cases h
  ·exact .inl e
 clear h
 rw [uS]
 have hb2 : Below w.heap.size w ((w.alloc (.cells #[.int .i64 x1, .int .i64 x2, .int .i64 x3, .int .i64 x4, .int .i64 x5, .int .i64 x6, .int .i64 x7, .int .i64 x8, .int .i64 x9, .int .u64 x0] 92)).alloc (.cells #[.int .i64 0, .int .i64 0, .int .i64 0] 148)) := ((Below.refl _ _).alloc (Nat.le_refl _) _).alloc (by simp) _
 rcases hk with h1 | ⟨rfl, h2⟩
 ·have d1 : (x6 != 1) = true := by simp [h1]
  go_enter Tryz.func112, Tryz.ntmps112
  go_wp2_with fail
  refine bodyPost_ret (yP rfl rfl (heap_alloc2_new w _ _) rfl) rfl ⟨rfl, hb2⟩
 ·go_enter Tryz.func112, Tryz.ntmps112
  go_wp2_with fail
  refine bodyPost_ret (yP rfl rfl (heap_alloc2_new w _ _) rfl) rfl ⟨rfl, hb2⟩
theorem zM {w w' : World} {v : Value} {zs : List Int} (h : qm w v zs) (hb : Below w.heap.size w w') : qm w' v zs := by
 obtain ⟨⟨ao, cap, e, h1, h2, h3⟩, hf⟩ := h
 refine ⟨⟨ao, cap, e, h1, h2, fun hz => ?_⟩, hf⟩
 obtain ⟨b, off, e2, h4, h5⟩ := h3 hz
 exact ⟨b, off, e2, Nat.lt_of_lt_of_le h4 hb.size, fun i hi => by rw [← h5 i hi]; simp only [World.cell?, hb.block b h4]⟩
theorem Le (j : Jb) (h : aj j = true) (hp : j.aN ≤ 1099511627776) (hl : 0 ≤ j.lim ∧ j.lim ≤ 1048576) : Calls Tryz.prog 112 #[.agg (ai j).toArray] w fun e w' => e = .returned (.tuple #[.agg (aM j).toArray, .bool (aj j)]) ∧ Below w.heap.size w w' := by
 unfold aM
 rw [h, if_pos rfl]
 obtain ⟨hs, hp0⟩ := bq.1 h
 obtain ⟨x1, x2, x3, x4, x5, x6, x7, x8, x9, x0⟩ := j
 obtain rfl : x6 = 1 := hs
 replace hp0 : 0 ≤ x9 := hp0
 replace hp : x9 ≤ 1099511627776 := hp
 replace hl : 0 ≤ x4 ∧ x4 ≤ 1048576 := hl
 have hsum : vN [x9, x4] = x9 + x4 := by show hd (hd (0 + hd x9) + hd x4) = _; unfold hd; omega
 show Calls _ _ _ _ fun e w' => e = .returned (.tuple #[.agg #[.int .i64 x9, .int .i64 (x9 + x4), .int .i64 x3], .bool true]) ∧ Below w.heap.size w w'
 clear h
 rw [uS]
 obtain ⟨wA, aJ⟩ : ∃ wA, wA = ((w.alloc (.cells #[.int .i64 x1, .int .i64 x2, .int .i64 x3, .int .i64 x4, .int .i64 x5, .int .i64 1, .int .i64 x7, .int .i64 x8, .int .i64 x9, .int .u64 x0] 92)).alloc (.cells #[.int .i64 0, .int .i64 0, .int .i64 0] 148)) := ⟨_, rfl⟩
 have bS : Below w.heap.size w wA := by rw [aJ]; exact ((Below.refl _ _).alloc (Nat.le_refl _) _).alloc (by simp) _
 have hsA : wA.heap.size = w.heap.size + 2 := by rw [aJ]; simp
 have hJ : Hid (wA.heap[w.heap.size]? = some (.cells #[.int .i64 x1, .int .i64 x2, .int .i64 x3, .int .i64 x4, .int .i64 x5, .int .i64 1, .int .i64 x7, .int .i64 x8, .int .i64 x9, .int .u64 x0] 92 (0, 0))) := by show _ = _; rw [aJ]; exact dW (heap_alloc_new w _)
 have hS : wA.heap[w.heap.size + 1]? = some (.cells #[.int .i64 0, .int .i64 0, .int .i64 0] 148 (0, 0)) := by rw [aJ]; exact heap_alloc2_new w _ _
 have LD : Hid (∀ W, Below wA.heap.size wA W → W.heap[w.heap.size]? = some (.cells #[.int .i64 x1, .int .i64 x2, .int .i64 x3, .int .i64 x4, .int .i64 x5, .int .i64 1, .int .i64 x7, .int .i64 x8, .int .i64 x9, .int .u64 x0] 92 (0, 0))) := fun W hW => (hW.block _ (by omega)).trans hJ.out
 have hAdd := fun (v : Value) (W : World) (hv : qm W v [x9, x4]) => Rk v [x9, x4] W hv
 rw [hsum] at hAdd
 replace hsum := Lib.hid hsum
 replace aJ := Lib.hid aJ
 replace bS := Lib.hid bS
 go_enter Tryz.func112, Tryz.ntmps112
 go_wp2_with fail
 rw [← aJ.out]
 refine Reg2.rd wA 10 24 [[],[af],[ae,ae],[ae,ae,af],[ae,ae,ae,ae],[ae,ae,ae,ae,af],[ae,ae,af,af,af,af],[ae,ae,af,af,af,af,af],[ae,ae,ae,ae,ae,ae,ae,ae],[ae,ae,ae,ae,ae,ae,ae,ae,af]] [0, 1, 0, 1, 0, 1, 1, 1, 0, 1] [.pure, .mU (.int .i64 x9), .pure, .mU (.int .i64 x9), .pure, .mU (.int .i64 x4), .minor Nat 0 (fun k => .slice (some ⟨k, 0, none⟩) 2 2) (fun k W => qm W (.slice (some ⟨k, 0, none⟩) 2 2) [x9, x4]), .mU (.int .i64 (x9 + x4)), .pure, .mU (.int .i64 x3)] (by kernel_rfl) (by kernel_rfl) rfl rfl ⟨trivial, Reg2.tt, trivial, Reg2.tt, trivial, Reg2.tt, ⟨fun k a b he hp => zM hp he, fun k a b he hp => zM hp he⟩, Reg2.tt, trivial, Reg2.tt, trivial⟩ ⟨rfl, rfl, rfl, Nat.le_refl _, fun _ _ => rfl⟩ ?_
 dsimp only [Reg2.mk, List.zip, List.zipWith, List.take]
 repeat ((first
  | (refine' Reg2.ak _ (by rfl) (fun wz => ?_) ?_; rotate_left; (go_simp; first | rfl | rw [if_neg (by omega)]))
  | (refine Reg2.au (by rfl) (fun wz hI hF => ?_) (fun _ => ?_)
     ·unfold Reg2.One
      have q0 : wz.cell? ⟨w.heap.size, 8, none⟩ = some (.int .i64 x9) := by simp [World.cell?, LD.out wz hI]
      have Ep : wz.cell? ⟨w.heap.size, 3, none⟩ = some (.int .i64 x4) := by simp [World.cell?, LD.out wz hI]
      go_wp2_with fail
      first | exact ⟨_, rfl, rfl, Reg2.Ext.refl _⟩ | exact ⟨_, rfl, ⟨(), rfl, trivial⟩, Reg2.Ext.refl _⟩)); simp only [Act.put, xA, xB, xC, xD, xE, id])
 refine Reg2.pm (fun wz hI hF => ?_) (fun r6 => ?_) (by rfl)
 ·have pa := Rm wz x9 x4 2 (by omega) (by omega)
  go_wp2_with fail
  exact ⟨_, rfl, ⟨_, rfl, pa⟩, (Reg2.Ext.refl _).alloc (Nat.le_refl _) _⟩
 simp only [Act.put, xA, xB, xC, xD, xE, id]
 refine Reg2.pm (fun wz hI hF => ?_) (fun r7 => ?_) (by rfl)
 ·have hv := hF.2.2.2.2.1
  go_wp2_with (go_at_call 141; go_must (refine (hAdd _ wz hv).mono ?_); rintro e w' ⟨rfl, rfl⟩)
  first | exact ⟨_, rfl, rfl, Reg2.Ext.refl _⟩ | exact ⟨_, rfl, ⟨(), rfl, trivial⟩, Reg2.Ext.refl _⟩
 simp only [Act.put, xA, xB, xC, xD, xE, id]
 repeat ((first
  | (refine' Reg2.ak _ (by rfl) (fun wz => ?_) ?_; rotate_left; (go_simp; first | rfl | rw [if_neg (by omega)]))
  | (refine Reg2.au (by rfl) (fun wz hI hF => ?_) (fun _ => ?_)
     ·unfold Reg2.One
      have q0 : wz.cell? ⟨w.heap.size, 2, none⟩ = some (.int .i64 x3) := by simp [World.cell?, LD.out wz hI]
      go_wp2_with fail
      first | exact ⟨_, rfl, rfl, Reg2.Ext.refl _⟩ | exact ⟨_, rfl, ⟨(), rfl, trivial⟩, Reg2.Ext.refl _⟩)); simp only [Act.put, xA, xB, xC, xD, xE, id])
 refine Reg2.aA ?_
 intro w7 kF _ kV
 clear kV
 dsimp only [List.drop]
 have gM : w7.heap[w.heap.size + 1]? = some (.cells #[.int .i64 0, .int .i64 0, .int .i64 0] 148 (0, 0)) := (kF.block _ (by omega)).trans hS
 have kD := bS.out.trans (kF.mono bS.out.size)
 have c0 : w7.cell? ⟨w.heap.size + 1, 0, none⟩ = some (.int .i64 0) := by simp [World.cell?, gM]
 have c1 : w7.cell? ⟨w.heap.size + 1, 1, none⟩ = some (.int .i64 0) := by simp [World.cell?, gM]
 have c2 : w7.cell? ⟨w.heap.size + 1, 2, none⟩ = some (.int .i64 0) := by simp [World.cell?, gM]
 have f0 : w7.frozen? ⟨w.heap.size + 1, 0, none⟩ = false := by simp [World.frozen?, gM]
 have f1 : w7.frozen? ⟨w.heap.size + 1, 1, none⟩ = false := by simp [World.frozen?, gM]
 have f2 : w7.frozen? ⟨w.heap.size + 1, 2, none⟩ = false := by simp [World.frozen?, gM]
 have gL := heap_put (i := 2) (heap_put (i := 1) (heap_put (i := 0) gM (.int .i64 x9)) (.int .i64 (x9 + x4))) (.int .i64 x3)
 have pY : Below w.heap.size w (((w7.setCell ⟨w.heap.size + 1, 0, none⟩ (.int .i64 x9)).setCell ⟨w.heap.size + 1, 1, none⟩ (.int .i64 (x9 + x4))).setCell ⟨w.heap.size + 1, 2, none⟩ (.int .i64 x3)) := ((kD.setCell (by show _ ≤ w.heap.size + 1; omega) _).setCell (by show _ ≤ w.heap.size + 1; omega) _).setCell (by show _ ≤ w.heap.size + 1; omega) _
 go_wp2_with fail
 refine bodyPost_ret (yP rfl rfl gL rfl) rfl ⟨rfl, pY⟩
theorem lM (j : Jb) (hp : j.aN ≤ 1099511627776) (hl : 0 ≤ j.lim ∧ j.lim ≤ 1048576) : Calls Tryz.prog 112 #[.agg (ai j).toArray] w fun e w' => e = .returned (.tuple #[.agg (aM j).toArray, .bool (aj j)]) ∧ Below w.heap.size w w' := by
 cases h : aj j with
 | false => have := Ou (w := w) j h; rw [h] at this; exact this
 | true => have := Le (w := w) j h hp hl; rw [h] at this; exact this
end
end Go.Proofs.YtelnhablglomjaaGreat

namespace Go.Proofs.YtelnhablglomjaaGreat
open Go.RowKit Go.Lib Go.Sort
section
variable {w : World} {b c t d p g a : Nat} {v : Value} {m : Int} {P : Pg} {R : Wk}
theorem oO (h : SW w b c t d p v g a m R P) (id : Int) : Calls Tryz.prog 78 #[.pointer (some ⟨b, 0, none⟩), .pointer (some ⟨c, 0, none⟩), .int .i64 id] w fun e w' =>
 e = .returned (.agg (ai (bO P.J id)).toArray) ∧ bI w' b { R with rep := jh (bO P.J id) } ∧ bu (fun k => k = b) w w' := by
 have zE := bJ
 have zY := wK
 obtain ⟨k, hk⟩ : ∃ k, k = 10 := ⟨_, rfl⟩
 obtain ⟨k9, bP⟩ : ∃ k, k = 9 := ⟨_, rfl⟩
 rw [← hk] at zE
 rw [← bP] at zY
 have hk0 : ¬ k9 = 0 := by omega
 have hk1 : ¬ k = 0 := by omega
 obtain ⟨wA, aJ⟩ : ∃ wA, wA = w.alloc (.cells #[.int .i64 0, .int .i64 0, .int .i64 0, .int .i64 0, .int .i64 0, .int .i64 0, .int .i64 0, .int .i64 0, .int .i64 0, .int .u64 0] 92) := ⟨_, rfl⟩
 have bS : Below w.heap.size w wA := by rw [aJ]; exact (Below.refl _ _).alloc (Nat.le_refl _) _
 have hsA : wA.heap.size = w.heap.size + 1 := by rw [aJ]; simp
 have VO : wA.heap[w.heap.size]? = some (.cells (ai iD).toArray 92 (0, 0)) := by rw [aJ]; exact heap_alloc_new w _
 have hA := h.kept bS
 have c0 := hA.cw.c0
 have hget := gY hA.cw.eU id
 obtain ⟨y, hy⟩ : ∃ y, y = bO P.J id := ⟨_, rfl⟩
 rw [← hy]
 unfold iU at hget
 rw [← hy] at hget
 replace hy := Lib.hid hy
 have lY := ax y
 rw [← hk] at lY
 replace hk := Lib.hid hk
 rw [aJ] at c0 hget
 have UN := fun W => Uk y W
 have lR := jJ (jh y)
 rw [← bP] at lR
 replace bP := Lib.hid bP
 have ST : Hid (∀ W : World, Sem.run Tryz.prog (storeCells ⟨W.heap.size, 0, none⟩ (ai y) 0) (W.alloc (.cells #[.int .i64 0, .int .i64 0, .int .i64 0, .int .i64 0, .int .i64 0, .int .i64 0, .int .i64 0, .int .i64 0, .int .i64 0, .int .u64 0] 92)) = .ok () (W.alloc (.cells (ai y).toArray 92))) := fun W => dE W W.heap.size (ai y) (ai iD) 92 rfl rfl (dJ y)
 have JS : Hid (∀ {q : Nat} {W : World}, W.heap[q]? = some (.cells (ai iD).toArray 92 (0, 0)) → Sem.run Tryz.prog (storeCells ⟨q, 0, none⟩ (ai y) 0) W = .ok () (W.setRow q (ai y).toArray)) := fun hq => oV hq
 have VP : Hid ((ai y).toArray.size = 10) := Lib.hid rfl
 generalize ai y = cY at *
 go_enter Tryz.func78, Tryz.ntmps78
 go_wp2_with fail
 go_at_call 77
 refine hget.mono ?_
 clear hget
 rw [← aJ]
 rintro e w1 ⟨rfl, hg1⟩
 replace aJ := Lib.hid aJ
 have hb1 := hg1.below
 have st1 := ST.out w1
 obtain ⟨w2, hw2⟩ : ∃ w2, w2 = w1.alloc (.cells cY.toArray 92) := ⟨_, rfl⟩
 rw [← hw2] at st1
 have hb2 : Below wA.heap.size wA w2 := by rw [hw2]; exact hb1.alloc hb1.size _
 have h2 := hA.kept hb2
 have hx2 : w2.heap[w.heap.size]? = some (.cells (ai iD).toArray 92 (0, 0)) := (hb2.block _ (by omega)).trans VO
 have hz2 : w2.heap[w1.heap.size]? = some (.cells cY.toArray 92 (0, 0)) := by rw [hw2]; exact heap_alloc_new w1 _
 have YK := fu hz2 lY
 have hs1 := hb1.size
 have hs2 : w2.heap.size = w1.heap.size + 1 := by rw [hw2]; simp
 replace hw2 := Lib.hid hw2
 go_wp2_with fail
 go_at_call 92
 refine (UN w2).mono ?_
 clear UN
 rintro e w3 ⟨rfl, hb3⟩
 have h3 := h2.kept hb3
 obtain ⟨YL, Xt⟩ := h3.wk.Gh (jh y)
 have hbb := h.wk.lt
 have hx3 : w3.heap[w.heap.size]? = some (.cells (ai iD).toArray 92 (0, 0)) := (hb3.block _ (by omega)).trans hx2
 have hz3 : w3.heap[w1.heap.size]? = some (.cells cY.toArray 92 (0, 0)) := (hb3.block _ (by omega)).trans hz2
 obtain ⟨w4, hw4⟩ : ∃ w4, w4 = w3.setRow b (gG { R with rep := jh y }).toArray := ⟨_, rfl⟩
 rw [← hw4] at YL Xt
 have hx4 : w4.heap[w.heap.size]? = some (.cells (ai iD).toArray 92 (0, 0)) := by rw [hw4, setRow_other w3 b _ _ (by omega)]; exact hx3
 have Ag : w4.heap[w1.heap.size]? = some (.cells cY.toArray 92 (0, 0)) := by rw [hw4, setRow_other w3 b _ _ (by omega)]; exact hz3
 have uz : bu (fun k => k = b) w w4 := by rw [hw4]; exact gp (bu.of_below (bS.trans ((hb2.trans (hb3.mono hb2.size)).mono bS.size))) (cK w3 _)
 have YM := fu Ag lY
 have ZU := JS.out hx4
 have YN : bI (w4.setRow w.heap.size cY.toArray) b { R with rep := jh y } := (setRow_other w4 w.heap.size b _ (by omega)).trans Xt
 have Cb : bu (fun k => k = b) w (w4.setRow w.heap.size cY.toArray) := ⟨uz.os, uz.tape, uz.output, by simpa using uz.size, fun k hk2 hn => by rw [setRow_other w4 w.heap.size k _ (by omega)]; exact uz.block k hk2 hn⟩
 have hx5 := xO hx4 cY.toArray
 replace hw4 := Lib.hid hw4
 go_wp2_with fail
 refine bG rfl rfl rfl hx5 Tryz.underlying92 rfl (by rw [VP.out]; kernel_rfl) ⟨rfl, YN, Cb⟩
end
end Go.Proofs.YtelnhablglomjaaGreat

namespace Go.Proofs.YtelnhablglomjaaGreat
open Go.RowKit Go.Lib Go.Sort
theorem Er {q p : Jb → Bool} : ∀ {L : List Jb} {i : Nat}, i < (L.filter q).length → (∀ k, k < i → p ((L.filter q)[k]!) = false) → p ((L.filter q)[i]!) = true → ∃ n, L.findIdx? (fun j => q j && p j) = some n ∧ n < L.length ∧ L.getD n default = (L.filter q)[i]! := by
 intro L
 induction L with
 | nil => intro i hi; simp at hi
 | cons x L ih =>
   intro i hi hno hp
   cases hq : q x with
   | false =>
     have e : (x :: L).filter q = L.filter q := by simp [hq]
     rw [e] at hi hp hno ⊢
     obtain ⟨n, h1, h2, h3⟩ := ih hi hno hp
     refine ⟨n + 1, ?_, by simp; omega, by simpa using h3⟩
     rw [List.findIdx?_cons]
     simp [hq, h1]
   | true =>
     have e : (x :: L).filter q = x :: L.filter q := by simp [hq]
     rw [e] at hi hp hno ⊢
     cases i with
     | zero =>
       have hx : p x = true := by simpa using hp
       refine ⟨0, ?_, by simp, by simp⟩
       rw [List.findIdx?_cons]
       simp [hq, hx]
     | succ i =>
       have hx : p x = false := by simpa using hno 0 (by omega)
       obtain ⟨n, h1, h2, h3⟩ := ih (i := i) (by simpa using hi) (fun k hk => by simpa using hno (k + 1) (by omega)) (by simpa using hp)
       refine ⟨n + 1, ?_, by simp; omega, by simpa using h3⟩
       rw [List.findIdx?_cons]
       simp [hx, h1]
theorem I4 {q p : Jb → Bool} {L : List Jb} (hno : ∀ k, k < (L.filter q).length → p ((L.filter q)[k]!) = false) : L.findIdx? (fun j => q j && p j) = none := by
 rw [List.findIdx?_eq_none_iff]
 intro x hx
 cases hq : q x with
 | false => rfl
 | true =>
   obtain ⟨k, hk, e⟩ := List.mem_iff_getElem.1 (List.mem_filter.2 ⟨hx, hq⟩)
   have := hno k hk
   rw [getElem!_pos _ k hk, e] at this
   simpa using this
section
variable {M : Md}
theorem sF (h : aF M) {i : Nat} (hi : i < M.L.length) (hp : aj (M.L.getD i default) = true) (t : Int) :
 ay { M with L := M.L.set i ((M.L.getD i default).aG (-1)) } t 0 = ay M t 0 + had (max (M.L.getD i default).aN M.now) ((M.L.getD i default).aN + (M.L.getD i default).lim) (M.L.getD i default).wid t := by
 have hm := aY hi
 have hid := h.ids i hi
 have hpl := h.plan _ hm
 have h1 := h.mb.aN _ hm
 have h2 := h.mb.lim _ hm
 have h0 := (bq.1 hp).2
 rw [jd hi, dP (j := (M.L.getD i default).aG (-1)) (by unfold aj; simp [Jb.aG, Jb.aN]), mR hp (by omega)]
 generalize M.L.getD i default = x at *
 have e : max x.aN M.now = x.aN := by omega
 rw [e]
 unfold had
 have e2 : ¬ (x.aN + x.lim = 1152921504606846976) := by omega
 simp only [e2, or_false]
 omega
theorem Gl {i : Nat} (hi : i < M.L.length) : dh { M with L := M.L.set i ((M.L.getD i default).aG (-1)) } = dh M := by
 refine pW (by rw [bC, bC]) fun n hn => ?_
 rw [dm, dm, qd (y := (M.L.getD i default).aG (-1)) hi Iff.rfl rfl]
theorem wL (h : aF M) (t : Int) (ht : M.now ≤ t) : 0 ≤ ay M t 0 ∧ ay M t 0 ≤ 64 := ⟨h.free t ht, by have := Be h t; have := h.mb.nn; omega⟩
end
def Ov (w : World) (c t d p : Nat) (v : Value) (g a : Nat) (m : Int) (M : Md) (o : Option Nat) (e : Ending) (w' : World) : Prop :=
 (o = none ∧ e = .returned (.bool false) ∧ Below w.heap.size w w') ∨
 ∃ i, o = some i ∧ fw w c t d p v g (a + 2) (m + 1) (.bool true) (ah { M with L := M.L.set i ((M.L.getD i default).aG (-1)) }) e w'
section
variable {w : World} {c t d p g a : Nat} {v : Value} {m : Int} {M : Md}
theorem wM (h : CW w c t d p v g a m (ah M)) (hI : aF M) (h1 : 1 ≤ M.dr.length) (hll : M.L.length ≤ 900) (ha : a ≤ 800) (hm : m ≤ 1000000) (lv : Value) (l : List Jb) (q : Jb → Bool) (hr : aB ai 10 w lv l) (hl : l = M.L.filter q) :
 Calls Tryz.prog 123 #[.pointer (some ⟨c, 0, none⟩), lv] w (Ov w c t d p v g a m M (M.L.findIdx? fun j => q j && aj j)) := by
 have zE := bJ
 have zS := kU
 obtain ⟨k, hk⟩ : ∃ k, k = 10 := ⟨_, rfl⟩
 obtain ⟨k3, hk3⟩ : ∃ k, k = 3 := ⟨_, rfl⟩
 rw [← hk] at zE
 rw [← hk3] at zS
 have hk0 : ¬ k = 0 := by omega
 have zN : ¬ k3 = 0 := by omega
 replace hk := Lib.hid hk
 replace hk3 := Lib.hid hk3
 have hC := Lib.hid h
 have hlt : Hid (∀ k, dC c t d p v g k → k < w.heap.size) := fun k hk => h.lt hk
 have sZ := Lib.hid (fq hI h1 hll)
 have hmem : Hid (∀ i, i < l.length → l[i]! ∈ M.L) := fun i hi => by
  have : l[i]! ∈ l := by rw [getElem!_pos l i hi]; exact List.getElem_mem _
  have h2 : l[i]! ∈ M.L.filter q := hl ▸ this
  exact (List.mem_filter.1 h2).1
 obtain ⟨ao, cap, rfl, q1, q2, q3⟩ := hr
 obtain ⟨n, hn⟩ : ∃ n, l.length = n := ⟨_, rfl⟩
 have hnl : n ≤ 900 := by rw [← hn, hl]; exact Nat.le_trans (List.length_filter_le _ _) hll
 rw [hn] at q1 q3 ⊢
 have HQ : Hid (0 < n → ∃ b off, ao = some ⟨b, off, none⟩ ∧ nM w b off l) := fun hp => by
  obtain ⟨b, off, e1, e2, e3⟩ := q3 hp
  exact ⟨b, off, e1, e2, e3⟩
 have EO : cap ≤ 9223372036854775807 := by unfold maxLen at q2; omega
 replace hn := Lib.hid hn
 replace hl := Lib.hid hl
 clear q2 q3 h
 go_enter Tryz.func123, Tryz.ntmps123
 go_wp2_with fail
 go_loopw [11] (fun ii wr => ∃ (i : Nat), i ≤ n ∧ ii = .int .i64 i ∧ Below w.heap.size w wr ∧ Hid (∀ j, j < i → aj l[j]! = false)) (fun ii _ => n - (intOf ii).toNat)
 case atStart => exact ⟨0, Nat.zero_le _, rfl, Below.refl _ _, Lib.hid fun j hj => absurd hj (Nat.not_lt_zero _)⟩
 case round =>
  obtain ⟨i, hin, rfl, hbr, hno⟩ := hrel
  by_cases hlt2 : i < n
  ·have b2 : (i : Int) < (n : Int) := by omega
   have wi : IntKind.i64.wrap ((i : Int) + 1) = (i : Int) + 1 := by rw [IntKind.wrap_i64]; omega
   obtain ⟨gb, off, rfl, hJ⟩ := HQ.out (by omega)
   have sW := hJ.below hbr
   have iM : i < l.length := by have := hn.out; omega
   have LI := sW.load hk.out iM
   have hxm := hmem.out i iM
   obtain ⟨x, hx⟩ : ∃ x, x = l[i]! := ⟨_, rfl⟩
   rw [← hx] at LI hxm
   replace hx := Lib.hid hx
   have lI := ax x
   rw [← hk.out] at lI
   have hpx := hI.mb.aN x hxm
   have hlx := hI.mb.lim x hxm
   have st : Sem.run Tryz.prog (storeCells ⟨wr.heap.size, 0, none⟩ (ai x) 0) (wr.alloc (.cells #[.int .i64 0, .int .i64 0, .int .i64 0, .int .i64 0, .int .i64 0, .int .i64 0, .int .i64 0, .int .i64 0, .int .i64 0, .int .u64 0] 92)) = .ok () (wr.alloc (.cells (ai x).toArray 92)) := dE wr wr.heap.size (ai x) (ai iD) 92 rfl rfl (dJ x)
   obtain ⟨w1, hw1⟩ : ∃ w1, w1 = wr.alloc (.cells (ai x).toArray 92) := ⟨_, rfl⟩
   have hb1 : Below w.heap.size w w1 := by rw [hw1]; exact hbr.alloc hbr.size _
   have hs1 : w1.heap.size = wr.heap.size + 1 := by rw [hw1]; simp
   have hz1 : w1.heap[wr.heap.size]? = some (.cells (ai x).toArray 92 (0, 0)) := by rw [hw1]; exact heap_alloc_new wr _
   have ld1 := fu hz1 lI
   have Xu : (ai x)[0]? = some (.int .i64 x.id) := rfl
   have hpl := lM (w := w1) x hpx.2 ⟨hlx.1, hlx.2⟩
   generalize hcI : ai x = cI at *
   replace hcI := Lib.hid hcI
   rw [← hw1] at st
   replace hw1 := Lib.hid hw1
   go_wp2_with fail
   go_at_call 112
   refine hpl.mono ?_
   clear hpl st LI ld1
   rintro e w2 ⟨rfl, hb2⟩
   have UO : Below w.heap.size w w2 := hb1.trans (hb2.mono hb1.size)
   have hz2 : w2.heap[wr.heap.size]? = some (.cells cI.toArray 92 (0, 0)) := (hb2.block _ (by omega)).trans hz1
   have lS : (aM x).length = 3 := by unfold aM; split <;> rfl
   have oS : ∀ u ∈ aM x, u.oneCell' = true := by unfold aM; split <;> (intro u hu; simp at hu; rcases hu with rfl | rfl | rfl <;> rfl)
   have st2 : Sem.run Tryz.prog (storeCells ⟨w2.heap.size, 0, none⟩ (aM x) 0) (w2.alloc (.cells #[.int .i64 0, .int .i64 0, .int .i64 0] 148)) = .ok () (w2.alloc (.cells (aM x).toArray 148)) := dE w2 w2.heap.size (aM x) [.int .i64 0, .int .i64 0, .int .i64 0] 148 rfl lS oS
   rw [← hk3.out] at lS
   have hsp := Lib.hid (rfl : aM x = aM x)
   generalize lT : aM x = cS at lS st2 ⊢
   replace lT := Lib.hid lT
   obtain ⟨w3, hw3⟩ : ∃ w3, w3 = w2.alloc (.cells cS.toArray 148) := ⟨_, rfl⟩
   have hb3 : Below w2.heap.size w2 w3 := by rw [hw3]; exact (Below.refl _ _).alloc (Nat.le_refl _) _
   have Es : Below w.heap.size w w3 := UO.trans (hb3.mono UO.size)
   have hs2 := hb2.size
   have hs3 : w3.heap.size = w2.heap.size + 1 := by rw [hw3]; simp
   have hz3 : Hid (w3.heap[wr.heap.size]? = some (.cells cI.toArray 92 (0, 0))) := (hb3.block _ (by omega)).trans hz2
   have hy3 : Hid (w3.heap[w2.heap.size]? = some (.cells cS.toArray 148 (0, 0))) := by show _ = _; rw [hw3]; exact heap_alloc_new w2 _
   rw [← hw3] at st2
   replace hw3 := Lib.hid hw3
   cases hP : aj x with
   | false =>
     go_wp2_with fail
     go_roundw
     case rel => exact ⟨i + 1, by omega, by go_num, Es, Lib.hid fun j hj => by
      rcases Nat.lt_succ_iff_lt_or_eq.1 hj with h5 | h5
      ·exact hno.out j h5
      ·subst h5; rw [← hx.out]; exact hP⟩
     case measure => simp [intOf]; omega
   | true =>
     have hkey := Er (q := q) (p := aj) (L := M.L) (i := i) (by rw [← hl.out]; exact iM) (fun j hj => by rw [← hl.out]; exact hno.out j hj) (by rw [← hl.out, ← hx.out]; exact hP)
     obtain ⟨f, hf1, hf2, hf3⟩ := hkey
     rw [← hl.out, ← hx.out] at hf3
     have hfree := Lib.hid (sF hI hf2 (by rw [hf3]; exact hP))
     have hinv := Lib.hid (hI.xy hf2)
     have hcore := Lib.hid (Gl (M := M) hf2)
     have I5 := Lib.hid (hI.ids f hf2)
     rw [hf3] at hfree hinv hcore I5
     have hf1 := Lib.hid hf1
     have UQ := Lib.hid (hC.out.kept Es)
     go_wp2_with fail
     refine Reg2.ro w3 5 35 [.p 0, .p 1, .p 3, .m 7, .m 0] [.pointer (some ⟨p, 0, none⟩), .agg cS.toArray] (by kernel_rfl) (by kernel_rfl) rfl rfl ⟨rfl, rfl, rfl, Nat.le_refl _, fun _ _ => rfl⟩ ?_
     dsimp only [Reg2.gU]
     repeat ((first
      | (refine' Reg2.ak _ (by rfl) (fun wz => ?_) ?_; rotate_left; (go_simp; first | rfl | rw [if_neg (by omega)]))
      | (refine Reg2.au (by rfl) (fun wz hI hF => ?_) (fun _ => ?_)
         ·unfold Reg2.One
          have c0 := (UQ.out.kept hI).c2
          have d0 := fu ((hI.block _ (aD hy3.out)).trans hy3.out) lS
          go_wp2_with fail
          first | exact ⟨_, rfl, rfl, Reg2.Ext.refl _⟩ | exact ⟨_, rfl, ⟨(), rfl, trivial⟩, Reg2.Ext.refl _⟩)); simp only [Act.put, xA, xB, xC, xD, xE, id])
     refine Reg2.aA ?_
     intro w4 HI4 _ dY
     clear dY
     dsimp only [List.drop]
     have p9 := UQ.out.kept HI4
     have hb4 := Es.trans (HI4.mono Es.size)
     have Ag : w4.heap[wr.heap.size]? = some (.cells cI.toArray 92 (0, 0)) := (HI4.block _ (by omega)).trans hz3.out
     have hrel := uD p9 sZ.out ha hm x.aN (x.aN + x.lim) x.wid (fun t => ay { M with L := M.L.set f (x.aG (-1)) } t 0) (by have := hI.one x hxm; have : 1 ≤ x.lim := this.2.2.1; omega) (by omega) (by have := hI.mb.wid x hxm; omega) (fun t _ => hfree.out t) (fun t ht => wL hinv.out t ht)
     have mO : cS = [.int .i64 x.aN, .int .i64 (x.aN + x.lim), .int .i64 x.wid] := by rw [← lT.out]; unfold aM; rw [if_pos hP]
     clear lT
     subst mO
     go_wp2_with fail
     go_at_call 114
     refine hrel.mono ?_
     clear hrel
     rintro e w5 ⟨rfl, v5, g5, gJ, hS5⟩
     have Ig : Hid (w5.heap[wr.heap.size]? = some (.cells cI.toArray 92 (0, 0))) := (hS5.heap (aD Ag) (fun hf => by have := hlt.out _ hf; have := hbr.size; omega)).trans Ag
     replace gJ := Lib.hid gJ
     go_wp2_with fail
     refine Reg2.ro w5 6 35 [.p 0, .p 1, .p 3, .m 7, .p 0, .m 16] [.pointer (some ⟨t, 0, none⟩), .int .i64 x.id] (by kernel_rfl) (by kernel_rfl) rfl rfl ⟨rfl, rfl, rfl, Nat.le_refl _, fun _ _ => rfl⟩ ?_
     dsimp only [Reg2.gU]
     repeat ((first
      | (refine' Reg2.ak _ (by rfl) (fun wz => ?_) ?_; rotate_left; (go_simp; first | rfl | rw [if_neg (by omega)]))
      | (refine Reg2.au (by rfl) (fun wz hI hF => ?_) (fun _ => ?_)
         ·unfold Reg2.One
          have c0 := (gJ.out.kept hI).c0
          have q0 : wz.cell? ⟨wr.heap.size, 0, none⟩ = some (.int .i64 x.id) := by simp [World.cell?, (hI.block _ (aD Ig.out)).trans Ig.out, Xu]
          go_wp2_with fail
          first | exact ⟨_, rfl, rfl, Reg2.Ext.refl _⟩ | exact ⟨_, rfl, ⟨(), rfl, trivial⟩, Reg2.Ext.refl _⟩)); simp only [Act.put, xA, xB, xC, xD, xE, id])
     refine Reg2.aA ?_
     intro w6 I6 _ dY
     clear dY
     dsimp only [List.drop]
     have I7 := gJ.out.kept I6
     have Rp := El I7 x.id (-1)
     go_wp2_with fail
     go_at_call 149
     refine Rp.mono ?_
     clear Rp
     rintro e w7 ⟨rfl, v7, g7, Ah, gM⟩
     have hst := bq.1 hP
     have hpe : gZ (-1) = 0 := by decide
     have FM : bN M.L (gZ (-1)) x.id (fun j : Jb => decide (j.state = 1)) = 0 := by
      unfold bN
      rw [I5.out, if_neg (by rw [hpe]; decide), if_neg (by omega), if_neg (by omega), show ((f : Int) + 1 - 1).toNat = f by omega, if_pos]
      rw [getElem!_pos M.L f hf2]
      have : M.L[f] = x := by rw [← hf3]; simp [List.getD, hf2]
      rw [this]
      exact decide_eq_true hst.1
     have YO : ({ ({ ah M with f := fun t => ay { M with L := M.L.set f (x.aG (-1)) } t 0 } : Pg) with J := cz M.L (gZ (-1)) x.id (fun j : Jb => decide (j.state = 1)) (lq (-1)) } : Pg) = ah { M with L := M.L.set f (x.aG (-1)) } := by
      have e1 : cz M.L (gZ (-1)) x.id (fun j : Jb => decide (j.state = 1)) (lq (-1)) = M.L.set f (x.aG (-1)) := by
       unfold cz
       rw [if_pos FM, I5.out, show ((f : Int) + 1 - 1).toNat = f by omega, getElem!_pos M.L f hf2]
       have : M.L[f] = x := by rw [← hf3]; simp [List.getD, hf2]
       rw [this]
       rfl
      rw [e1]
      unfold ah
      rw [hcore.out]
     have hfin : CW w7 c t d p v7 g7 (a + 2) (m + 1) (ah { M with L := M.L.set f (x.aG (-1)) }) := YO ▸ Ah
     have hSS : CS w w7 c t d p v g v7 g7 := ((CS.of_below (Es.trans (HI4.mono Es.size))).trans hS5).trans ((CS.of_below I6).trans gM)
     go_wp2_with fail
     go_ret
     exact .inr ⟨f, hf1.out, rfl, v7, g7, by rw [hf3]; exact hfin, hSS⟩
  ·have e : i = n := by omega
   subst e
   have hfi := hid (I4 (q := q) (p := aj) (L := M.L) (fun j hj => by rw [← hl.out]; exact hno.out j (by rw [← hn.out, hl.out]; exact hj)))
   go_wp2_with fail
   go_ret
   exact .inl ⟨hfi.out, rfl, hbr⟩
end
end Go.Proofs.YtelnhablglomjaaGreat

namespace Go.Proofs.YtelnhablglomjaaGreat
open Go.RowKit Go.Lib Go.Sort
theorem Lf {j : Jb} (h : j.id ≠ 0) : (fun x : Jb => (aV j x && decide (x.state ∈ [(1 : Int)])) && aj x) = qQ j := by
 funext x
 unfold qQ
 cases hp : aj x with
 | false => simp
 | true =>
   have : x.state = 1 := (bq.1 hp).1
   simp [h, this]
theorem I8 : (fun x : Jb => decide (x.state ∈ [(1 : Int)]) && aj x) = qQ lW := by
 funext x
 unfold qQ
 cases hp : aj x with
 | false => simp
 | true =>
   have h1 : x.state = 1 := (bq.1 hp).1
   have h2 : lW.id = 0 := rfl
   simp [h1, h2]
section
variable {w : World} {b c t d p g a : Nat} {v : Value} {m : Int} {M : Md} {R : Wk}
def Ow (w : World) (b c t d p : Nat) (v : Value) (g a : Nat) (m : Int) (R : Wk) (M : Md) (k : Nat) (o : Option Nat) (e : Ending) (w' : World) : Prop :=
 (o = none ∧ az w b c t d p v g a m .nilFunc R (ah M) e w') ∨
 ∃ i, o = some i ∧ az w b c t d p v g (a + 2) (m + 1) (fG k) R (ah { M with L := M.L.set i ((M.L.getD i default).aG (-1)) }) e w'
theorem sG (h : SW w b c t d p v g a m R (ah M)) (hI : aF M) (h1 : 1 ≤ M.dr.length) (hll : M.L.length ≤ 900) (ha : a ≤ 800) (hm : m ≤ 1000000) (hid : R.aC.id ≠ 0) :
 Calls Tryz.prog 99 #[.pointer (some ⟨b, 0, none⟩), .pointer (some ⟨c, 0, none⟩)] w (Ow w b c t d p v g a m R M 99 (dU R.aC M.L)) := by
 have zE := bJ
 obtain ⟨k, hk⟩ : ∃ k, k = 10 := ⟨_, rfl⟩
 rw [← hk] at zE
 have hk0 : ¬ k = 0 := by omega
 have lJ := ax R.aC
 rw [← hk] at lJ
 replace hk := Lib.hid hk
 have hS := Lib.hid h
 have hin := fun (W : World) (hW : Below w.heap.size w W) (u : Value) (hu : aB enc1 1 W u [1]) => wE (h.kept hW).cw.eU (by show M.L.length ≤ 1000; omega) hu
 have hlen : (M.L.filter fun j : Jb => decide (j.state ∈ [(1 : Int)])).length ≤ 900 := Nat.le_trans (List.length_filter_le _ _) hll
 have hbe := fun (W : World) (u : Value) (hu : aB ai 10 W u (M.L.filter fun j : Jb => decide (j.state ∈ [(1 : Int)]))) => H9 R.aC u _ W hu hlen
 have hint : Hid (∀ W : World, aB enc1 1 (W.alloc (.cells #[.int .i64 1] 3)) (.slice (some ⟨W.heap.size, 0, none⟩) 1 1) [1]) := fun W => gB W W.heap.size [1] rfl (by decide)
 have VQ : Hid (∀ W, Below w.heap.size w W → Sem.run Tryz.prog (loadCellsFrom ⟨b, 12, none⟩ 0 k #[]) W = .ok (ai R.aC).toArray W) := fun W hW => (h.kept hW).wk.nP lJ
 have VR := List.filter_filter (p := aV R.aC) (q := fun j : Jb => decide (j.state ∈ [(1 : Int)])) (l := M.L)
 have hhit := Lf hid
 generalize hL1 : (M.L.filter fun j : Jb => decide (j.state ∈ [(1 : Int)])) = L1 at *
 generalize hL2 : L1.filter (aV R.aC) = L2 at *
 have hdr := fun (W : World) (u : Value) (hC : CW W c t d p v g a m (ah M)) (hu : aB ai 10 W u L2) => wM hC hI h1 hll ha hm u L2 _ hu VR
 have hin' := fun (W : World) (hW : Below w.heap.size w W) (u : Value) (hu : aB enc1 1 W u [1]) => (hin W hW u hu)
 rw [show (ah M).J = M.L from rfl, hL1] at hin
 generalize ai R.aC = cJ at *
 replace hL1 := Lib.hid hL1
 replace hL2 := Lib.hid hL2
 replace VR := Lib.hid VR
 replace hhit := Lib.hid hhit
 clear h hin' hlen
 go_enter Tryz.func99, Tryz.ntmps99
 go_wp2_with fail
 refine Reg2.rd w 12 18 [[],[ae],[ae,af],[ae,af,af],[ae,af,af,af],[ae,ae,ae,ae,ae],[ae,ae,ae,ae,ae,af],[ae,ae,ae,ae,ae,af,af],[ae,ae,ae,ae,ae,af,af,af],[ae,ae,ae,ae,ae,ae,ae,ae,ae],[ae,ae,ae,ae,ae,af,af,af,af,af],[ae,af,af,af,af,af,af,af,af,af,af]] [0, 0, 0, 0, 1, 0, 0, 0, 1, 1, 1, 1] [.pure, .pure, .pure, .pure, .mU (.agg cJ.toArray), .pure, .pure, .pure, .mU (.pointer (some ⟨t, 0, none⟩)), .minor Nat 0 (fun k => .slice (some ⟨k, 0, none⟩) 1 1) (fun k W => aB enc1 1 W (.slice (some ⟨k, 0, none⟩) 1 1) [1]), .minor Value (.bool false) (fun x => x) (fun x W => aB ai 10 W x L1), .minor Value (.bool false) (fun x => x) (fun x W => aB ai 10 W x L2)] (by kernel_rfl) (by kernel_rfl) rfl rfl ⟨trivial, trivial, trivial, trivial, Reg2.tt, trivial, trivial, trivial, Reg2.tt, ⟨fun k a b he hp => hp.below he, fun k a b he hp => hp.below he⟩, ⟨fun k a b he hp => hp.below he, fun k a b he hp => hp.below he⟩, ⟨fun k a b he hp => hp.below he, fun k a b he hp => hp.below he⟩, trivial⟩ ⟨rfl, rfl, rfl, Nat.le_refl _, fun _ _ => rfl⟩ ?_
 dsimp only [Reg2.mk, List.zip, List.zipWith, List.take]
 repeat ((first
  | (refine' Reg2.ak _ (by rfl) (fun wz => ?_) ?_; rotate_left; (go_simp; first | rfl | rw [if_neg (by omega)]))
  | (refine Reg2.au (by rfl) (fun wz hI hF => ?_) (fun _ => ?_)
     ·unfold Reg2.One
      have d0 := VQ.out wz hI
      have c0 := (hS.out.cw.kept hI).c0
      go_wp2_with fail
      first | exact ⟨_, rfl, rfl, Reg2.Ext.refl _⟩ | exact ⟨_, rfl, ⟨(), rfl, trivial⟩, Reg2.Ext.refl _⟩)); simp only [Act.put, xA, xB, xC, xD, xE, id])
 refine Reg2.pm (fun wz hI hF => ?_) (fun r9 => ?_) (by rfl)
 ·have pa := hint.out wz
  go_wp2_with fail
  exact ⟨_, rfl, ⟨_, rfl, pa⟩, (Reg2.Ext.refl _).alloc (Nat.le_refl _) _⟩
 simp only [Act.put, xA, xB, xC, xD, xE, id]
 refine Reg2.pm (fun wz hI hF => ?_) (fun Bz => ?_) (by rfl)
 ·have hv := hF.2.2.2.2.1
  go_wp2_with (go_at_call 125; go_must (refine (hin wz hI _ hv).mono ?_); rintro e w' ⟨u, rfl, ho, hb5⟩)
  exact ⟨_, rfl, ⟨_, rfl, aB.jk ho ax rfl rfl⟩, hb5⟩
 simp only [Act.put, xA, xB, xC, xD, xE, id]
 refine Reg2.pm (fun wz hI hF => ?_) (fun VS => ?_) (by rfl)
 ·have hv := hF.2.2.2.2.2.2.2.2.2.1
  go_wp2_with (go_at_call 124; go_must (refine (hbe wz _ hv).mono ?_); rintro e w' ⟨u, rfl, ho, hb5⟩)
  exact ⟨_, rfl, ⟨_, rfl, ho⟩, hb5⟩
 simp only [Act.put, xA, xB, xC, xD, xE, id]
 refine Reg2.aA ?_
 intro w7 kF _ kV
 have hv7 := kV.2.2.2.2.2.2.2.2.2.2.2.1
 clear kV
 dsimp only [List.drop]
 have gM := hS.out.kept kF
 have hd7 := hdr w7 _ gM.cw hv7
 go_wp2_with fail
 go_at_call 123
 refine hd7.mono ?_
 clear hd7
 rintro e w8 (⟨ho, rfl, pY⟩ | ⟨i, ho, rfl, v8, g8, VT, gL⟩)
 ·have hfin := gM.kept pY
  go_wp2_with fail
  go_ret
  exact .inl ⟨by unfold dU; rw [← hhit.out]; exact ho, rfl, v, g, hfin, WS.of_below (kF.trans (pY.mono kF.size))⟩
 ·have hfin := gM.core VT gL
  go_wp2_with fail
  go_ret
  exact .inr ⟨i, by unfold dU; rw [← hhit.out]; exact ho, rfl, v8, g8, hfin, (WS.of_below kF).trans (WS.dD gL)⟩
end
end Go.Proofs.YtelnhablglomjaaGreat

namespace Go.Proofs.YtelnhablglomjaaGreat
open Go.RowKit Go.Lib
def fF (r : Rq) : Rq :=
 if r.kind = 1 then ⟨r.kind, 0, r.user, r.width, r.limit, r.prio, r.held, 0, 0⟩
 else if r.kind = 2 ∨ r.kind = 3 ∨ r.kind = 4 ∨ r.kind = 5 ∨ r.kind = 6 then ⟨r.kind, r.id, 0, 0, 0, 0, false, 0, 0⟩
 else if r.kind = 7 ∨ r.kind = 8 then ⟨r.kind, 0, 0, 0, 0, 0, false, r.node, 0⟩
 else if r.kind = 9 then ⟨r.kind, 0, 0, 0, 0, 0, false, 0, r.till⟩
 else ⟨r.kind, 0, 0, 0, 0, 0, false, 0, 0⟩
theorem Rs (x2 x3 x4 x5 x6 : Int) (x7 : Bool) (x8 x9 : Int) (w : World) : Calls Tryz.prog 22 #[.agg #[.int .i64 1, .int .i64 x2, .int .i64 x3, .int .i64 x4, .int .i64 x5, .int .i64 x6, .bool x7, .int .i64 x8, .int .i64 x9]] w fun e w' => e = .returned (.agg #[.int .i64 1, .int .i64 0, .int .i64 x3, .int .i64 x4, .int .i64 x5, .int .i64 x6, .bool x7, .int .i64 0, .int .i64 0]) ∧ Below w.heap.size w w' := by
 go_enter Tryz.func22, Tryz.ntmps22
 go_wp2_with fail
 go_region
 all_goals (try go_wp2_with fail)
 refine bG rfl rfl rfl (show (World.drew _).heap[_]? = _ from dW (heap_alloc2_new w _ _)) Tryz.underlying24 rfl (by kernel_rfl) ⟨rfl, ?_⟩
 exact ((((Below.refl _ _).alloc (Nat.le_refl _) _).alloc (by simp) _).alloc (by simp; omega) _).drew
theorem Rt (x2 x3 x4 x5 x6 : Int) (x7 : Bool) (x8 x9 : Int) (w : World) : Calls Tryz.prog 22 #[.agg #[.int .i64 2, .int .i64 x2, .int .i64 x3, .int .i64 x4, .int .i64 x5, .int .i64 x6, .bool x7, .int .i64 x8, .int .i64 x9]] w fun e w' => e = .returned (.agg #[.int .i64 2, .int .i64 x2, .int .i64 0, .int .i64 0, .int .i64 0, .int .i64 0, .bool false, .int .i64 0, .int .i64 0]) ∧ Below w.heap.size w w' := by
 go_enter Tryz.func22, Tryz.ntmps22
 go_wp2_with fail
 refine bG rfl rfl rfl (dW (heap_alloc2_new w _ _)) Tryz.underlying24 rfl (by kernel_rfl) ⟨rfl, ?_⟩
 exact ((((Below.refl _ _).alloc (Nat.le_refl _) _).alloc (by simp) _).alloc (by simp; omega) _)
theorem Ru (x2 x3 x4 x5 x6 : Int) (x7 : Bool) (x8 x9 : Int) (w : World) : Calls Tryz.prog 22 #[.agg #[.int .i64 3, .int .i64 x2, .int .i64 x3, .int .i64 x4, .int .i64 x5, .int .i64 x6, .bool x7, .int .i64 x8, .int .i64 x9]] w fun e w' => e = .returned (.agg #[.int .i64 3, .int .i64 x2, .int .i64 0, .int .i64 0, .int .i64 0, .int .i64 0, .bool false, .int .i64 0, .int .i64 0]) ∧ Below w.heap.size w w' := by
 go_enter Tryz.func22, Tryz.ntmps22
 go_wp2_with fail
 refine bG rfl rfl rfl (dW (heap_alloc2_new w _ _)) Tryz.underlying24 rfl (by kernel_rfl) ⟨rfl, ?_⟩
 exact ((((Below.refl _ _).alloc (Nat.le_refl _) _).alloc (by simp) _).alloc (by simp; omega) _)
theorem Rv (x2 x3 x4 x5 x6 : Int) (x7 : Bool) (x8 x9 : Int) (w : World) : Calls Tryz.prog 22 #[.agg #[.int .i64 4, .int .i64 x2, .int .i64 x3, .int .i64 x4, .int .i64 x5, .int .i64 x6, .bool x7, .int .i64 x8, .int .i64 x9]] w fun e w' => e = .returned (.agg #[.int .i64 4, .int .i64 x2, .int .i64 0, .int .i64 0, .int .i64 0, .int .i64 0, .bool false, .int .i64 0, .int .i64 0]) ∧ Below w.heap.size w w' := by
 go_enter Tryz.func22, Tryz.ntmps22
 go_wp2_with fail
 refine bG rfl rfl rfl (dW (heap_alloc2_new w _ _)) Tryz.underlying24 rfl (by kernel_rfl) ⟨rfl, ?_⟩
 exact ((((Below.refl _ _).alloc (Nat.le_refl _) _).alloc (by simp) _).alloc (by simp; omega) _)
theorem Rx (x2 x3 x4 x5 x6 : Int) (x7 : Bool) (x8 x9 : Int) (w : World) : Calls Tryz.prog 22 #[.agg #[.int .i64 5, .int .i64 x2, .int .i64 x3, .int .i64 x4, .int .i64 x5, .int .i64 x6, .bool x7, .int .i64 x8, .int .i64 x9]] w fun e w' => e = .returned (.agg #[.int .i64 5, .int .i64 x2, .int .i64 0, .int .i64 0, .int .i64 0, .int .i64 0, .bool false, .int .i64 0, .int .i64 0]) ∧ Below w.heap.size w w' := by
 go_enter Tryz.func22, Tryz.ntmps22
 go_wp2_with fail
 refine bG rfl rfl rfl (dW (heap_alloc2_new w _ _)) Tryz.underlying24 rfl (by kernel_rfl) ⟨rfl, ?_⟩
 exact ((((Below.refl _ _).alloc (Nat.le_refl _) _).alloc (by simp) _).alloc (by simp; omega) _)
theorem Rz (x2 x3 x4 x5 x6 : Int) (x7 : Bool) (x8 x9 : Int) (w : World) : Calls Tryz.prog 22 #[.agg #[.int .i64 6, .int .i64 x2, .int .i64 x3, .int .i64 x4, .int .i64 x5, .int .i64 x6, .bool x7, .int .i64 x8, .int .i64 x9]] w fun e w' => e = .returned (.agg #[.int .i64 6, .int .i64 x2, .int .i64 0, .int .i64 0, .int .i64 0, .int .i64 0, .bool false, .int .i64 0, .int .i64 0]) ∧ Below w.heap.size w w' := by
 go_enter Tryz.func22, Tryz.ntmps22
 go_wp2_with fail
 refine bG rfl rfl rfl (dW (heap_alloc2_new w _ _)) Tryz.underlying24 rfl (by kernel_rfl) ⟨rfl, ?_⟩
 exact ((((Below.refl _ _).alloc (Nat.le_refl _) _).alloc (by simp) _).alloc (by simp; omega) _)
theorem RA (x2 x3 x4 x5 x6 : Int) (x7 : Bool) (x8 x9 : Int) (w : World) : Calls Tryz.prog 22 #[.agg #[.int .i64 7, .int .i64 x2, .int .i64 x3, .int .i64 x4, .int .i64 x5, .int .i64 x6, .bool x7, .int .i64 x8, .int .i64 x9]] w fun e w' => e = .returned (.agg #[.int .i64 7, .int .i64 0, .int .i64 0, .int .i64 0, .int .i64 0, .int .i64 0, .bool false, .int .i64 x8, .int .i64 0]) ∧ Below w.heap.size w w' := by
 go_enter Tryz.func22, Tryz.ntmps22
 go_wp2_with fail
 refine bG rfl rfl rfl (dW (heap_alloc2_new w _ _)) Tryz.underlying24 rfl (by kernel_rfl) ⟨rfl, ?_⟩
 exact ((((Below.refl _ _).alloc (Nat.le_refl _) _).alloc (by simp) _).alloc (by simp; omega) _)
theorem RB (x2 x3 x4 x5 x6 : Int) (x7 : Bool) (x8 x9 : Int) (w : World) : Calls Tryz.prog 22 #[.agg #[.int .i64 8, .int .i64 x2, .int .i64 x3, .int .i64 x4, .int .i64 x5, .int .i64 x6, .bool x7, .int .i64 x8, .int .i64 x9]] w fun e w' => e = .returned (.agg #[.int .i64 8, .int .i64 0, .int .i64 0, .int .i64 0, .int .i64 0, .int .i64 0, .bool false, .int .i64 x8, .int .i64 0]) ∧ Below w.heap.size w w' := by
 go_enter Tryz.func22, Tryz.ntmps22
 go_wp2_with fail
 refine bG rfl rfl rfl (dW (heap_alloc2_new w _ _)) Tryz.underlying24 rfl (by kernel_rfl) ⟨rfl, ?_⟩
 exact ((((Below.refl _ _).alloc (Nat.le_refl _) _).alloc (by simp) _).alloc (by simp; omega) _)
theorem RD (x2 x3 x4 x5 x6 : Int) (x7 : Bool) (x8 x9 : Int) (w : World) : Calls Tryz.prog 22 #[.agg #[.int .i64 9, .int .i64 x2, .int .i64 x3, .int .i64 x4, .int .i64 x5, .int .i64 x6, .bool x7, .int .i64 x8, .int .i64 x9]] w fun e w' => e = .returned (.agg #[.int .i64 9, .int .i64 0, .int .i64 0, .int .i64 0, .int .i64 0, .int .i64 0, .bool false, .int .i64 0, .int .i64 x9]) ∧ Below w.heap.size w w' := by
 go_enter Tryz.func22, Tryz.ntmps22
 go_wp2_with fail
 refine bG rfl rfl rfl (dW (heap_alloc2_new w _ _)) Tryz.underlying24 rfl (by kernel_rfl) ⟨rfl, ?_⟩
 exact ((((Below.refl _ _).alloc (Nat.le_refl _) _).alloc (by simp) _).alloc (by simp; omega) _)
theorem Ox (x1 : Int) (x2 x3 x4 x5 x6 : Int) (x7 : Bool) (x8 x9 : Int) (w : World) (h1 : x1 ≠ 1) (h2 : x1 ≠ 2) (h3 : x1 ≠ 3) (h4 : x1 ≠ 4) (h5 : x1 ≠ 5) (h6 : x1 ≠ 6) (h7 : x1 ≠ 7) (h8 : x1 ≠ 8) (h9 : x1 ≠ 9) : Calls Tryz.prog 22 #[.agg #[.int .i64 x1, .int .i64 x2, .int .i64 x3, .int .i64 x4, .int .i64 x5, .int .i64 x6, .bool x7, .int .i64 x8, .int .i64 x9]] w fun e w' => e = .returned (.agg #[.int .i64 x1, .int .i64 0, .int .i64 0, .int .i64 0, .int .i64 0, .int .i64 0, .bool false, .int .i64 0, .int .i64 0]) ∧ Below w.heap.size w w' := by
 have t1 : (x1 == 1) = false := beq_eq_false_iff_ne.2 h1
 have t2 : (x1 == 2) = false := beq_eq_false_iff_ne.2 h2
 have t3 : (x1 == 3) = false := beq_eq_false_iff_ne.2 h3
 have t4 : (x1 == 4) = false := beq_eq_false_iff_ne.2 h4
 have t5 : (x1 == 5) = false := beq_eq_false_iff_ne.2 h5
 have t6 : (x1 == 6) = false := beq_eq_false_iff_ne.2 h6
 have t7 : (x1 == 7) = false := beq_eq_false_iff_ne.2 h7
 have t8 : (x1 == 8) = false := beq_eq_false_iff_ne.2 h8
 have t9 : (x1 == 9) = false := beq_eq_false_iff_ne.2 h9
 clear h1 h2 h3 h4 h5 h6 h7 h8 h9
 go_enter Tryz.func22, Tryz.ntmps22
 go_wp2_with fail
 refine bG rfl rfl rfl (dW (heap_alloc2_new w _ _)) Tryz.underlying24 rfl (by kernel_rfl) ⟨rfl, ?_⟩
 exact ((((Below.refl _ _).alloc (Nat.le_refl _) _).alloc (by simp) _).alloc (by simp; omega) _)
theorem yQ (r : Rq) (w : World) : Calls Tryz.prog 22 #[.agg (encR r).toArray] w fun e w' => e = .returned (.agg (encR (fF r)).toArray) ∧ Below w.heap.size w w' := by
 obtain ⟨x1, x2, x3, x4, x5, x6, x7, x8, x9⟩ := r
 by_cases h1 : x1 = 1
 ·subst h1
  exact Rs x2 x3 x4 x5 x6 x7 x8 x9 w
 by_cases h2 : x1 = 2
 ·subst h2
  exact Rt x2 x3 x4 x5 x6 x7 x8 x9 w
 by_cases h3 : x1 = 3
 ·subst h3
  exact Ru x2 x3 x4 x5 x6 x7 x8 x9 w
 by_cases h4 : x1 = 4
 ·subst h4
  exact Rv x2 x3 x4 x5 x6 x7 x8 x9 w
 by_cases h5 : x1 = 5
 ·subst h5
  exact Rx x2 x3 x4 x5 x6 x7 x8 x9 w
 by_cases h6 : x1 = 6
 ·subst h6
  exact Rz x2 x3 x4 x5 x6 x7 x8 x9 w
 by_cases h7 : x1 = 7
 ·subst h7
  exact RA x2 x3 x4 x5 x6 x7 x8 x9 w
 by_cases h8 : x1 = 8
 ·subst h8
  exact RB x2 x3 x4 x5 x6 x7 x8 x9 w
 by_cases h9 : x1 = 9
 ·subst h9
  exact RD x2 x3 x4 x5 x6 x7 x8 x9 w
 have e : fF ⟨x1, x2, x3, x4, x5, x6, x7, x8, x9⟩ = ⟨x1, 0, 0, 0, 0, 0, false, 0, 0⟩ := by simp [fF, h1, h2, h3, h4, h5, h6, h7, h8, h9]
 rw [e]
 exact Ox x1 x2 x3 x4 x5 x6 x7 x8 x9 w h1 h2 h3 h4 h5 h6 h7 h8 h9
end Go.Proofs.YtelnhablglomjaaGreat

namespace Go.Proofs.YtelnhablglomjaaGreat
open Go.RowKit Go.Lib Go.Sort
def nI (n : Int) (r : Rq) : Int := if r.kind = 1 ∧ n < r.width ∧ r.width ≤ 64 ∧ aQ r ≠ 1 then 9 else 0
section
variable {w : World} {c t d p g a : Nat} {v : Value} {m : Int} {P : Pg}
theorem I9 (h : CW w c t d p v g a m P) (hl : iC P.T) (r : Rq) (hk : r.kind ≠ 1) : Calls Tryz.prog 97 #[.pointer (some ⟨c, 0, none⟩), .agg (encR r).toArray] w fun e w' => e = .returned (.int .i64 0) ∧ Below w.heap.size w w' := by
 have zR := kC
 obtain ⟨k9, bP⟩ : ∃ k, k = 9 := ⟨_, rfl⟩
 rw [← bP] at zR
 have hk0 : ¬ k9 = 0 := by omega
 have lR := gP r
 rw [← bP] at lR
 replace bP := Lib.hid bP
 obtain ⟨wA, aJ⟩ : ∃ wA, wA = w.alloc (.cells (encR r).toArray 24) := ⟨_, rfl⟩
 have bS : Hid (Below w.heap.size w wA) := by show Below _ _ _; rw [aJ]; exact (Below.refl _ _).alloc (Nat.le_refl _) _
 have jD : Hid (wA.heap[w.heap.size]? = some (.cells (encR r).toArray 24 (0, 0))) := by show _ = _; rw [aJ]; exact heap_alloc_new w _
 have iY := Lib.hid (h.kept bS.out)
 have hno := fun (W : World) (hW : Below wA.heap.size wA W) => kT (iY.out.kept hW)
 have hsz := fun (W : World) (hW : Below wA.heap.size wA W) => ru (iY.out.kept hW).nodes hl
 have Oy := fun (W : World) => oK r W
 have e0 : (encR r)[0]? = some (.int .i64 r.kind) := rfl
 have e3 : (encR r)[3]? = some (.int .i64 r.width) := rfl
 generalize r.kind = rk at *
 generalize r.width = rw at *
 generalize aQ r = rf at *
 generalize encR r = cR at *
 generalize (P.T.length : Int) = nl at *
 have d1 : (rk != 1) = true := by simp [hk]
 clear h
 go_enter Tryz.func97, Tryz.ntmps97
 go_wp2_with fail
 rw [← aJ]
 replace aJ := Lib.hid aJ
 refine Reg2.ro wA 20 30 [.p 0, .m 1, .p 3, .p 7, .m 15, .p 31, .p 63, .p 127, .p 255, .m 511, .p 1023, .p 2047, .p 4095, .p 8191, .m 16383, .p 8191, .p 40959, .p 106495, .m 237567, .m 499711] [.bool false, .int .i64 rk, .int .i64 rw, .int .i64 rw, .pointer (some ⟨d, 0, none⟩), .int .i64 nl] (by kernel_rfl) (by kernel_rfl) rfl rfl ⟨rfl, rfl, rfl, Nat.le_refl _, fun _ _ => rfl⟩ ?_
 dsimp only [Reg2.gU]
 repeat (refine' Reg2.ak _ (by rfl) (fun wz => ?_) ?_; rotate_left; (go_simp; first | rfl | rw [if_neg (by omega)]); simp only [Act.put, xA, xB, xC, xD, xE, id])
 refine Reg2.pm (fun wz hI hF => ?_) (fun r1 => ?_) (by rfl)
 ·go_wp2_with (go_at_call 41; go_must (refine (hno wz hI).mono ?_); rintro e w' ⟨rfl, rfl⟩)
  first | exact ⟨_, rfl, rfl, Reg2.Ext.refl _⟩ | exact ⟨_, rfl, ⟨(), rfl, trivial⟩, Reg2.Ext.refl _⟩
 simp only [Act.put, xA, xB, xC, xD, xE, id]
 repeat ((first
  | (refine' Reg2.ak _ (by rfl) (fun wz => ?_) ?_; rotate_left; (go_simp; first | rfl | rw [if_neg (by omega)]))
  | refine Reg2.uV (by rfl) ?_
  | refine Reg2.l8 (by rfl) ?_
  | (refine Reg2.au (by rfl) (fun wz hI hF => ?_) (fun _ => ?_)
     ·unfold Reg2.One
      have q0 : wz.cell? ⟨w.heap.size, 0, none⟩ = some (.int .i64 rk) := by simp [World.cell?, (hI.block _ (aD jD.out)).trans jD.out, e0]
      go_wp2_with fail
      first | exact ⟨_, rfl, rfl, Reg2.Ext.refl _⟩ | exact ⟨_, rfl, ⟨(), rfl, trivial⟩, Reg2.Ext.refl _⟩)); simp only [Act.put, xA, xB, xC, xD, xE, id])
 refine Reg2.aA ?_
 intro w7 kF _ kV
 clear kV
 dsimp only [List.drop]
 have kD := bS.out.trans (kF.mono bS.out.size)
 go_wp2_with fail
 go_ret
 exact ⟨rfl, kD⟩
theorem Ja (h : CW w c t d p v g a m P) (hl : iC P.T) (r : Rq) (hk : r.kind = 1) (hw : 64 < r.width) : Calls Tryz.prog 97 #[.pointer (some ⟨c, 0, none⟩), .agg (encR r).toArray] w fun e w' => e = .returned (.int .i64 0) ∧ Below w.heap.size w w' := by
 have zR := kC
 obtain ⟨k9, bP⟩ : ∃ k, k = 9 := ⟨_, rfl⟩
 rw [← bP] at zR
 have hk0 : ¬ k9 = 0 := by omega
 have lR := gP r
 rw [← bP] at lR
 replace bP := Lib.hid bP
 obtain ⟨wA, aJ⟩ : ∃ wA, wA = w.alloc (.cells (encR r).toArray 24) := ⟨_, rfl⟩
 have bS : Hid (Below w.heap.size w wA) := by show Below _ _ _; rw [aJ]; exact (Below.refl _ _).alloc (Nat.le_refl _) _
 have jD : Hid (wA.heap[w.heap.size]? = some (.cells (encR r).toArray 24 (0, 0))) := by show _ = _; rw [aJ]; exact heap_alloc_new w _
 have iY := Lib.hid (h.kept bS.out)
 have hno := fun (W : World) (hW : Below wA.heap.size wA W) => kT (iY.out.kept hW)
 have hsz := fun (W : World) (hW : Below wA.heap.size wA W) => ru (iY.out.kept hW).nodes hl
 have Oy := fun (W : World) => oK r W
 have e0 : (encR r)[0]? = some (.int .i64 r.kind) := rfl
 have e3 : (encR r)[3]? = some (.int .i64 r.width) := rfl
 generalize r.kind = rk at *
 generalize r.width = rw at *
 generalize aQ r = rf at *
 generalize encR r = cR at *
 generalize (P.T.length : Int) = nl at *
 have d1 : (rk != 1) = false := by simp [hk]
 replace hk := Lib.hid hk
 have d2 : decide (rw > 64) = true := decide_eq_true hw
 clear h
 go_enter Tryz.func97, Tryz.ntmps97
 go_wp2_with fail
 rw [← aJ]
 replace aJ := Lib.hid aJ
 refine Reg2.ro wA 20 30 [.p 0, .m 1, .p 3, .p 7, .m 15, .p 31, .p 63, .p 127, .p 255, .m 511, .p 1023, .p 2047, .p 4095, .p 8191, .m 16383, .p 8191, .p 40959, .p 106495, .m 237567, .m 499711] [.bool false, .int .i64 rk, .int .i64 rw, .int .i64 rw, .pointer (some ⟨d, 0, none⟩), .int .i64 nl] (by kernel_rfl) (by kernel_rfl) rfl rfl ⟨rfl, rfl, rfl, Nat.le_refl _, fun _ _ => rfl⟩ ?_
 dsimp only [Reg2.gU]
 repeat (refine' Reg2.ak _ (by rfl) (fun wz => ?_) ?_; rotate_left; (go_simp; first | rfl | rw [if_neg (by omega)]); simp only [Act.put, xA, xB, xC, xD, xE, id])
 refine Reg2.pm (fun wz hI hF => ?_) (fun r1 => ?_) (by rfl)
 ·go_wp2_with (go_at_call 41; go_must (refine (hno wz hI).mono ?_); rintro e w' ⟨rfl, rfl⟩)
  first | exact ⟨_, rfl, rfl, Reg2.Ext.refl _⟩ | exact ⟨_, rfl, ⟨(), rfl, trivial⟩, Reg2.Ext.refl _⟩
 simp only [Act.put, xA, xB, xC, xD, xE, id]
 repeat ((first
  | (refine' Reg2.ak _ (by rfl) (fun wz => ?_) ?_; rotate_left; (go_simp; first | rfl | rw [if_neg (by omega)]))
  | refine Reg2.uV (by rfl) ?_
  | refine Reg2.l8 (by rfl) ?_
  | (refine Reg2.au (by rfl) (fun wz hI hF => ?_) (fun _ => ?_)
     ·unfold Reg2.One
      have q0 : wz.cell? ⟨w.heap.size, 0, none⟩ = some (.int .i64 rk) := by simp [World.cell?, (hI.block _ (aD jD.out)).trans jD.out, e0]
      have Ep : wz.cell? ⟨w.heap.size, 3, none⟩ = some (.int .i64 rw) := by simp [World.cell?, (hI.block _ (aD jD.out)).trans jD.out, e3]
      go_wp2_with fail
      first | exact ⟨_, rfl, rfl, Reg2.Ext.refl _⟩ | exact ⟨_, rfl, ⟨(), rfl, trivial⟩, Reg2.Ext.refl _⟩)); simp only [Act.put, xA, xB, xC, xD, xE, id])
 refine Reg2.aA ?_
 intro w7 kF _ kV
 clear kV
 dsimp only [List.drop]
 have kD := bS.out.trans (kF.mono bS.out.size)
 go_wp2_with fail
 go_ret
 exact ⟨rfl, kD⟩
theorem Jc (h : CW w c t d p v g a m P) (hl : iC P.T) (r : Rq) (hk : r.kind = 1) (hw : r.width ≤ 64) (hn : r.width ≤ P.T.length) : Calls Tryz.prog 97 #[.pointer (some ⟨c, 0, none⟩), .agg (encR r).toArray] w fun e w' => e = .returned (.int .i64 0) ∧ Below w.heap.size w w' := by
 have zR := kC
 obtain ⟨k9, bP⟩ : ∃ k, k = 9 := ⟨_, rfl⟩
 rw [← bP] at zR
 have hk0 : ¬ k9 = 0 := by omega
 have lR := gP r
 rw [← bP] at lR
 replace bP := Lib.hid bP
 obtain ⟨wA, aJ⟩ : ∃ wA, wA = w.alloc (.cells (encR r).toArray 24) := ⟨_, rfl⟩
 have bS : Hid (Below w.heap.size w wA) := by show Below _ _ _; rw [aJ]; exact (Below.refl _ _).alloc (Nat.le_refl _) _
 have jD : Hid (wA.heap[w.heap.size]? = some (.cells (encR r).toArray 24 (0, 0))) := by show _ = _; rw [aJ]; exact heap_alloc_new w _
 have iY := Lib.hid (h.kept bS.out)
 have hno := fun (W : World) (hW : Below wA.heap.size wA W) => kT (iY.out.kept hW)
 have hsz := fun (W : World) (hW : Below wA.heap.size wA W) => ru (iY.out.kept hW).nodes hl
 have Oy := fun (W : World) => oK r W
 have e0 : (encR r)[0]? = some (.int .i64 r.kind) := rfl
 have e3 : (encR r)[3]? = some (.int .i64 r.width) := rfl
 generalize r.kind = rk at *
 generalize r.width = rw at *
 generalize aQ r = rf at *
 generalize encR r = cR at *
 generalize (P.T.length : Int) = nl at *
 have d1 : (rk != 1) = false := by simp [hk]
 replace hk := Lib.hid hk
 have d2 : decide (rw > 64) = false := decide_eq_false (by omega)
 have d3 : decide (rw ≤ nl) = true := decide_eq_true hn
 clear h
 go_enter Tryz.func97, Tryz.ntmps97
 go_wp2_with fail
 rw [← aJ]
 replace aJ := Lib.hid aJ
 refine Reg2.ro wA 20 30 [.p 0, .m 1, .p 3, .p 7, .m 15, .p 31, .p 63, .p 127, .p 255, .m 511, .p 1023, .p 2047, .p 4095, .p 8191, .m 16383, .p 8191, .p 40959, .p 106495, .m 237567, .m 499711] [.bool false, .int .i64 rk, .int .i64 rw, .int .i64 rw, .pointer (some ⟨d, 0, none⟩), .int .i64 nl] (by kernel_rfl) (by kernel_rfl) rfl rfl ⟨rfl, rfl, rfl, Nat.le_refl _, fun _ _ => rfl⟩ ?_
 dsimp only [Reg2.gU]
 repeat (refine' Reg2.ak _ (by rfl) (fun wz => ?_) ?_; rotate_left; (go_simp; first | rfl | rw [if_neg (by omega)]); simp only [Act.put, xA, xB, xC, xD, xE, id])
 refine Reg2.pm (fun wz hI hF => ?_) (fun r1 => ?_) (by rfl)
 ·go_wp2_with (go_at_call 41; go_must (refine (hno wz hI).mono ?_); rintro e w' ⟨rfl, rfl⟩)
  first | exact ⟨_, rfl, rfl, Reg2.Ext.refl _⟩ | exact ⟨_, rfl, ⟨(), rfl, trivial⟩, Reg2.Ext.refl _⟩
 simp only [Act.put, xA, xB, xC, xD, xE, id]
 repeat ((first
  | (refine' Reg2.ak _ (by rfl) (fun wz => ?_) ?_; rotate_left; (go_simp; first | rfl | rw [if_neg (by omega)]))
  | (refine Reg2.au (by rfl) (fun wz hI hF => ?_) (fun _ => ?_)
     ·unfold Reg2.One
      have q0 : wz.cell? ⟨w.heap.size, 0, none⟩ = some (.int .i64 rk) := by simp [World.cell?, (hI.block _ (aD jD.out)).trans jD.out, e0]
      have Ep : wz.cell? ⟨w.heap.size, 3, none⟩ = some (.int .i64 rw) := by simp [World.cell?, (hI.block _ (aD jD.out)).trans jD.out, e3]
      have c0 := (iY.out.kept hI).c1
      go_wp2_with fail
      first | exact ⟨_, rfl, rfl, Reg2.Ext.refl _⟩ | exact ⟨_, rfl, ⟨(), rfl, trivial⟩, Reg2.Ext.refl _⟩)); simp only [Act.put, xA, xB, xC, xD, xE, id])
 refine Reg2.pm (fun wz hI hF => ?_) (fun Xv => ?_) (by rfl)
 ·go_wp2_with (go_at_call 119; go_must (refine (hsz wz hI).mono ?_); rintro e w' ⟨rfl, rfl⟩)
  first | exact ⟨_, rfl, rfl, Reg2.Ext.refl _⟩ | exact ⟨_, rfl, ⟨(), rfl, trivial⟩, Reg2.Ext.refl _⟩
 simp only [Act.put, xA, xB, xC, xD, xE, id]
 refine Reg2.aA ?_
 intro w7 kF _ kV
 clear kV
 dsimp only [List.drop]
 have kD := bS.out.trans (kF.mono bS.out.size)
 go_wp2_with fail
 go_ret
 exact ⟨rfl, kD⟩
theorem Lg (h : CW w c t d p v g a m P) (hl : iC P.T) (r : Rq) (hk : r.kind = 1) (hw : r.width ≤ 64) (hn : ¬ r.width ≤ P.T.length) (hrf : aQ r = 1) : Calls Tryz.prog 97 #[.pointer (some ⟨c, 0, none⟩), .agg (encR r).toArray] w fun e w' => e = .returned (.int .i64 0) ∧ Below w.heap.size w w' := by
 have zR := kC
 obtain ⟨k9, bP⟩ : ∃ k, k = 9 := ⟨_, rfl⟩
 rw [← bP] at zR
 have hk0 : ¬ k9 = 0 := by omega
 have lR := gP r
 rw [← bP] at lR
 replace bP := Lib.hid bP
 obtain ⟨wA, aJ⟩ : ∃ wA, wA = w.alloc (.cells (encR r).toArray 24) := ⟨_, rfl⟩
 have bS : Hid (Below w.heap.size w wA) := by show Below _ _ _; rw [aJ]; exact (Below.refl _ _).alloc (Nat.le_refl _) _
 have jD : Hid (wA.heap[w.heap.size]? = some (.cells (encR r).toArray 24 (0, 0))) := by show _ = _; rw [aJ]; exact heap_alloc_new w _
 have iY := Lib.hid (h.kept bS.out)
 have hno := fun (W : World) (hW : Below wA.heap.size wA W) => kT (iY.out.kept hW)
 have hsz := fun (W : World) (hW : Below wA.heap.size wA W) => ru (iY.out.kept hW).nodes hl
 have Oy := fun (W : World) => oK r W
 have e0 : (encR r)[0]? = some (.int .i64 r.kind) := rfl
 have e3 : (encR r)[3]? = some (.int .i64 r.width) := rfl
 generalize r.kind = rk at *
 generalize r.width = rw at *
 generalize aQ r = rf at *
 generalize encR r = cR at *
 generalize (P.T.length : Int) = nl at *
 have d1 : (rk != 1) = false := by simp [hk]
 replace hk := Lib.hid hk
 have d2 : decide (rw > 64) = false := decide_eq_false (by omega)
 have d3 : decide (rw ≤ nl) = false := decide_eq_false hn
 subst hrf
 clear h
 go_enter Tryz.func97, Tryz.ntmps97
 go_wp2_with fail
 rw [← aJ]
 replace aJ := Lib.hid aJ
 refine Reg2.ro wA 20 30 [.p 0, .m 1, .p 3, .p 7, .m 15, .p 31, .p 63, .p 127, .p 255, .m 511, .p 1023, .p 2047, .p 4095, .p 8191, .m 16383, .p 8191, .p 40959, .p 106495, .m 237567, .m 499711] [.bool false, .int .i64 rk, .int .i64 rw, .int .i64 rw, .pointer (some ⟨d, 0, none⟩), .int .i64 nl] (by kernel_rfl) (by kernel_rfl) rfl rfl ⟨rfl, rfl, rfl, Nat.le_refl _, fun _ _ => rfl⟩ ?_
 dsimp only [Reg2.gU]
 repeat (refine' Reg2.ak _ (by rfl) (fun wz => ?_) ?_; rotate_left; (go_simp; first | rfl | rw [if_neg (by omega)]); simp only [Act.put, xA, xB, xC, xD, xE, id])
 refine Reg2.pm (fun wz hI hF => ?_) (fun r1 => ?_) (by rfl)
 ·go_wp2_with (go_at_call 41; go_must (refine (hno wz hI).mono ?_); rintro e w' ⟨rfl, rfl⟩)
  first | exact ⟨_, rfl, rfl, Reg2.Ext.refl _⟩ | exact ⟨_, rfl, ⟨(), rfl, trivial⟩, Reg2.Ext.refl _⟩
 simp only [Act.put, xA, xB, xC, xD, xE, id]
 repeat ((first
  | (refine' Reg2.ak _ (by rfl) (fun wz => ?_) ?_; rotate_left; (go_simp; first | rfl | rw [if_neg (by omega)]))
  | (refine Reg2.au (by rfl) (fun wz hI hF => ?_) (fun _ => ?_)
     ·unfold Reg2.One
      have q0 : wz.cell? ⟨w.heap.size, 0, none⟩ = some (.int .i64 rk) := by simp [World.cell?, (hI.block _ (aD jD.out)).trans jD.out, e0]
      have Ep : wz.cell? ⟨w.heap.size, 3, none⟩ = some (.int .i64 rw) := by simp [World.cell?, (hI.block _ (aD jD.out)).trans jD.out, e3]
      have c0 := (iY.out.kept hI).c1
      go_wp2_with fail
      first | exact ⟨_, rfl, rfl, Reg2.Ext.refl _⟩ | exact ⟨_, rfl, ⟨(), rfl, trivial⟩, Reg2.Ext.refl _⟩)); simp only [Act.put, xA, xB, xC, xD, xE, id])
 refine Reg2.pm (fun wz hI hF => ?_) (fun Xv => ?_) (by rfl)
 ·go_wp2_with (go_at_call 119; go_must (refine (hsz wz hI).mono ?_); rintro e w' ⟨rfl, rfl⟩)
  first | exact ⟨_, rfl, rfl, Reg2.Ext.refl _⟩ | exact ⟨_, rfl, ⟨(), rfl, trivial⟩, Reg2.Ext.refl _⟩
 simp only [Act.put, xA, xB, xC, xD, xE, id]
 refine Reg2.aA ?_
 intro w7 kF _ kV
 clear kV
 dsimp only [List.drop]
 have kD := bS.out.trans (kF.mono bS.out.size)
 have Ai : w7.heap[w.heap.size]? = some (.cells cR.toArray 24 (0, 0)) := (kF.block _ (aD jD.out)).trans jD.out
 have Um := fu Ai lR
 have VU := Oy w7
 go_wp2_with (go_at_call 120; go_must (refine VU.mono ?_); rintro e w8 ⟨rfl, ob, rfl⟩)
 go_ret
 exact ⟨rfl, kD.alloc kD.size _⟩
theorem Jd (h : CW w c t d p v g a m P) (hl : iC P.T) (r : Rq) (hk : r.kind = 1) (hw : r.width ≤ 64) (hn : ¬ r.width ≤ P.T.length) (hrf : ¬ aQ r = 1) : Calls Tryz.prog 97 #[.pointer (some ⟨c, 0, none⟩), .agg (encR r).toArray] w fun e w' => e = .returned (.int .i64 9) ∧ Below w.heap.size w w' := by
 have zR := kC
 obtain ⟨k9, bP⟩ : ∃ k, k = 9 := ⟨_, rfl⟩
 rw [← bP] at zR
 have hk0 : ¬ k9 = 0 := by omega
 have lR := gP r
 rw [← bP] at lR
 replace bP := Lib.hid bP
 obtain ⟨wA, aJ⟩ : ∃ wA, wA = w.alloc (.cells (encR r).toArray 24) := ⟨_, rfl⟩
 have bS : Hid (Below w.heap.size w wA) := by show Below _ _ _; rw [aJ]; exact (Below.refl _ _).alloc (Nat.le_refl _) _
 have jD : Hid (wA.heap[w.heap.size]? = some (.cells (encR r).toArray 24 (0, 0))) := by show _ = _; rw [aJ]; exact heap_alloc_new w _
 have iY := Lib.hid (h.kept bS.out)
 have hno := fun (W : World) (hW : Below wA.heap.size wA W) => kT (iY.out.kept hW)
 have hsz := fun (W : World) (hW : Below wA.heap.size wA W) => ru (iY.out.kept hW).nodes hl
 have Oy := fun (W : World) => oK r W
 have e0 : (encR r)[0]? = some (.int .i64 r.kind) := rfl
 have e3 : (encR r)[3]? = some (.int .i64 r.width) := rfl
 generalize r.kind = rk at *
 generalize r.width = rw at *
 generalize aQ r = rf at *
 generalize encR r = cR at *
 generalize (P.T.length : Int) = nl at *
 have d1 : (rk != 1) = false := by simp [hk]
 replace hk := Lib.hid hk
 have d2 : decide (rw > 64) = false := decide_eq_false (by omega)
 have d3 : decide (rw ≤ nl) = false := decide_eq_false hn
 have d5 : (rf == 1) = false := by simp [hrf]
 clear h
 go_enter Tryz.func97, Tryz.ntmps97
 go_wp2_with fail
 rw [← aJ]
 replace aJ := Lib.hid aJ
 refine Reg2.ro wA 20 30 [.p 0, .m 1, .p 3, .p 7, .m 15, .p 31, .p 63, .p 127, .p 255, .m 511, .p 1023, .p 2047, .p 4095, .p 8191, .m 16383, .p 8191, .p 40959, .p 106495, .m 237567, .m 499711] [.bool false, .int .i64 rk, .int .i64 rw, .int .i64 rw, .pointer (some ⟨d, 0, none⟩), .int .i64 nl] (by kernel_rfl) (by kernel_rfl) rfl rfl ⟨rfl, rfl, rfl, Nat.le_refl _, fun _ _ => rfl⟩ ?_
 dsimp only [Reg2.gU]
 repeat (refine' Reg2.ak _ (by rfl) (fun wz => ?_) ?_; rotate_left; (go_simp; first | rfl | rw [if_neg (by omega)]); simp only [Act.put, xA, xB, xC, xD, xE, id])
 refine Reg2.pm (fun wz hI hF => ?_) (fun r1 => ?_) (by rfl)
 ·go_wp2_with (go_at_call 41; go_must (refine (hno wz hI).mono ?_); rintro e w' ⟨rfl, rfl⟩)
  first | exact ⟨_, rfl, rfl, Reg2.Ext.refl _⟩ | exact ⟨_, rfl, ⟨(), rfl, trivial⟩, Reg2.Ext.refl _⟩
 simp only [Act.put, xA, xB, xC, xD, xE, id]
 repeat ((first
  | (refine' Reg2.ak _ (by rfl) (fun wz => ?_) ?_; rotate_left; (go_simp; first | rfl | rw [if_neg (by omega)]))
  | (refine Reg2.au (by rfl) (fun wz hI hF => ?_) (fun _ => ?_)
     ·unfold Reg2.One
      have q0 : wz.cell? ⟨w.heap.size, 0, none⟩ = some (.int .i64 rk) := by simp [World.cell?, (hI.block _ (aD jD.out)).trans jD.out, e0]
      have Ep : wz.cell? ⟨w.heap.size, 3, none⟩ = some (.int .i64 rw) := by simp [World.cell?, (hI.block _ (aD jD.out)).trans jD.out, e3]
      have c0 := (iY.out.kept hI).c1
      go_wp2_with fail
      first | exact ⟨_, rfl, rfl, Reg2.Ext.refl _⟩ | exact ⟨_, rfl, ⟨(), rfl, trivial⟩, Reg2.Ext.refl _⟩)); simp only [Act.put, xA, xB, xC, xD, xE, id])
 refine Reg2.pm (fun wz hI hF => ?_) (fun Xv => ?_) (by rfl)
 ·go_wp2_with (go_at_call 119; go_must (refine (hsz wz hI).mono ?_); rintro e w' ⟨rfl, rfl⟩)
  first | exact ⟨_, rfl, rfl, Reg2.Ext.refl _⟩ | exact ⟨_, rfl, ⟨(), rfl, trivial⟩, Reg2.Ext.refl _⟩
 simp only [Act.put, xA, xB, xC, xD, xE, id]
 refine Reg2.aA ?_
 intro w7 kF _ kV
 clear kV
 dsimp only [List.drop]
 have kD := bS.out.trans (kF.mono bS.out.size)
 have Ai : w7.heap[w.heap.size]? = some (.cells cR.toArray 24 (0, 0)) := (kF.block _ (aD jD.out)).trans jD.out
 have Um := fu Ai lR
 have VU := Oy w7
 go_wp2_with (go_at_call 120; go_must (refine VU.mono ?_); rintro e w8 ⟨rfl, ob, rfl⟩)
 go_ret
 exact ⟨rfl, kD.alloc kD.size _⟩
theorem vw (h : CW w c t d p v g a m P) (hl : iC P.T) (r : Rq) : Calls Tryz.prog 97 #[.pointer (some ⟨c, 0, none⟩), .agg (encR r).toArray] w fun e w' => e = .returned (.int .i64 (nI P.T.length r)) ∧ Below w.heap.size w w' := by
 unfold nI
 by_cases h1 : r.kind = 1
 ·by_cases h2 : r.width ≤ 64
  ·by_cases h3 : r.width ≤ P.T.length
   ·rw [if_neg (by omega)]; exact Jc h hl r h1 h2 h3
   ·by_cases h4 : aQ r = 1
    ·rw [if_neg (by simp [h4])]; exact Lg h hl r h1 h2 h3 h4
    ·rw [if_pos ⟨h1, by omega, h2, h4⟩]; exact Jd h hl r h1 h2 h3 h4
  ·rw [if_neg (by omega)]; exact Ja h hl r h1 (by omega)
 ·rw [if_neg (by simp [h1])]; exact I9 h hl r h1
end
end Go.Proofs.YtelnhablglomjaaGreat

namespace Go.Proofs.YtelnhablglomjaaGreat
open Go.RowKit Go.Lib Go.Sort
def ic (w : World) (b c t d p : Nat) (v : Value) (g a : Nat) (m : Int) (R : Wk) (P : Pg) (W : World) : Prop := ∃ v' g', SW W b c t d p v' g' a m R P ∧ WS w W b c t d p v g v' g'
theorem ic.ext {w : World} {b c t d p g a : Nat} {v : Value} {m : Int} {R : Wk} {P : Pg} : ∀ (x y : World), Reg2.Ext x y → ic w b c t d p v g a m R P x → ic w b c t d p v g a m R P y := by
 rintro x y h ⟨v', g', h1, h2⟩
 exact ⟨v', g', h1.kept h, h2.trans (WS.of_below h)⟩
def kK (e : Int) : Ry := ⟨e, 0, 0, 0, 0, 0, 0, 0, 0⟩
def toW (r : Rq) : Rw := ⟨r.kind, r.id, r.user, r.width, r.limit, r.prio, r.held, r.node, r.till⟩
theorem Et {M : Md} (x : Jb) (h1 : x.st ≠ 3) (h2 : aj x = false) : ah { M with L := M.L ++ [x] } = { ah M with J := M.L ++ [x] } := by
 have e1 : dh { M with L := M.L ++ [x] } = dh M := by
  refine pW (by rw [bC, bC]) fun n hn => ?_
  rw [dm, dm]
  unfold aR
  rw [show ({ M with L := M.L ++ [x] } : Md).L = M.L ++ [x] from rfl, xz M.L x _ (by unfold aH; simp [h1])]
 have e2 : (fun t => ay { M with L := M.L ++ [x] } t 0) = fun t => ay M t 0 := funext fun t => A9 x h1 h2 t 0
 unfold ah
 rw [e1, e2]
section
variable {w : World} {b c t d p g a : Nat} {v : Value} {m : Int} {M : Md} {R : Wk}
theorem Df (h : SW w b c t d p v g a m R (ah M)) (hk : PK (ah M)) (hw : nI M.dr.length R.ag = 9) :
 Calls Tryz.prog 83 #[.pointer (some ⟨b, 0, none⟩), .pointer (some ⟨c, 0, none⟩)] w (az w b c t d p v g a m .nilFunc { R with rep := kK 9, ok := false } (ah M)) := by
 have zR := kC
 have zJ := bJ
 obtain ⟨k9, bP⟩ : ∃ k, k = 9 := ⟨_, rfl⟩
 obtain ⟨k, hkk⟩ : ∃ k, k = 10 := ⟨_, rfl⟩
 rw [← bP] at zR
 rw [← hkk] at zJ
 have hk0 : ¬ k9 = 0 := by omega
 have hk1 : ¬ k = 0 := by omega
 have lR := gP R.ag
 rw [← bP] at lR
 replace bP := Lib.hid bP
 replace hkk := Lib.hid hkk
 have hS := Lib.hid h
 have rD := h.wk.nO lR
 have Oz : Hid (∀ W, Below w.heap.size w W → Sem.run Tryz.prog (loadCellsFrom ⟨b, 0, none⟩ 0 k9 #[]) W = .ok (encR R.ag).toArray W) := fun W hW => (h.kept hW).wk.nO lR
 have sH := vw h.cw hk.rz R.ag
 have hsub := fun (W : World) (hW : Below w.heap.size w W) => qo (h.kept hW).cw hk R.ag
 have hn : (ah M).T.length = M.dr.length := bC
 rw [hn] at sH
 replace hn := Lib.hid hn
 generalize encR R.ag = cR at *
 rw [hw] at sH
 clear h hsub
 go_enter Tryz.func83, Tryz.ntmps83
 go_wp2_with fail
 go_at_call 97
 refine sH.mono ?_
 clear sH rD
 rintro e w1 ⟨rfl, hb1⟩
 have hS1 := hS.out.kept hb1
 have hf := iK hS1.wk 9
 go_wp2_with (go_at_call 42; go_must (refine hf.mono ?_); rintro e w9 ⟨rfl, kL, RF⟩)
 go_ret
 exact ⟨rfl, v, g, hS1.work kL RF, (WS.of_below hb1).trans (WS.bD RF)⟩
theorem submit_bad (h : SW w b c t d p v g a m R (ah M)) (hk : PK (ah M)) (hw : nI M.dr.length R.ag = 0) (e0 : Int) (he0 : e0 ≠ 0) (hE : je M.L R.ag = e0) :
 Calls Tryz.prog 83 #[.pointer (some ⟨b, 0, none⟩), .pointer (some ⟨c, 0, none⟩)] w (az w b c t d p v g a m .nilFunc { R with rep := kK e0, ok := false } (ah M)) := by
 have zR := kC
 have zJ := bJ
 obtain ⟨k9, bP⟩ : ∃ k, k = 9 := ⟨_, rfl⟩
 obtain ⟨k, hkk⟩ : ∃ k, k = 10 := ⟨_, rfl⟩
 rw [← bP] at zR
 rw [← hkk] at zJ
 have hk0 : ¬ k9 = 0 := by omega
 have hk1 : ¬ k = 0 := by omega
 have lR := gP R.ag
 rw [← bP] at lR
 replace bP := Lib.hid bP
 replace hkk := Lib.hid hkk
 have hS := Lib.hid h
 have rD := h.wk.nO lR
 have Oz : Hid (∀ W, Below w.heap.size w W → Sem.run Tryz.prog (loadCellsFrom ⟨b, 0, none⟩ 0 k9 #[]) W = .ok (encR R.ag).toArray W) := fun W hW => (h.kept hW).wk.nO lR
 have sH := vw h.cw hk.rz R.ag
 have hsub := fun (W : World) (hW : Below w.heap.size w W) => qo (h.kept hW).cw hk R.ag
 have hn : (ah M).T.length = M.dr.length := bC
 rw [hn] at sH
 replace hn := Lib.hid hn
 generalize encR R.ag = cR at *
 rw [hw] at sH
 unfold fw at hsub
 obtain ⟨RG, rE⟩ : ∃ x, x = mf (ah M).J R.ag := ⟨_, rfl⟩
 obtain ⟨se, hse⟩ : ∃ x, x = je (ah M).J R.ag := ⟨_, rfl⟩
 rw [← rE, ← hse] at hsub
 have hL : ql (ah M).J R.ag = M.L := by
  have hE2 := hE
  unfold je at hE2
  show ql M.L R.ag = M.L
  unfold ql
  split
  ·rfl
  ·rename_i h1
   rw [if_neg h1] at hE2
   split
   ·rfl
   ·rename_i h2
    rw [if_neg h2] at hE2
    omega
 rw [hL, show ({ ah M with J := M.L } : Pg) = ah M from rfl] at hsub
 have Je : se = e0 := hse.trans hE
 subst Je
 replace rE := Lib.hid rE
 replace hse := Lib.hid hse
 replace hL := Lib.hid hL
 have d0 : (se != 0) = true := by simp [he0]
 clear h
 go_enter Tryz.func83, Tryz.ntmps83
 go_wp2_with fail
 go_at_call 97
 refine sH.mono ?_
 clear sH rD
 rintro e w1 ⟨rfl, hb1⟩
 have hS1 := Lib.hid (hS.out.kept hb1)
 go_wp2_with fail
 refine Reg2.rM 13 49 [[],[af],[af,af],[af,af,af],[ae,ae,ae,ae],[ae,ae,ae,ae,af],[ae,ae,ae,ae,af,af],[ae,ae,ae,ae,af,af,af],[af,af,af,af,af,af,af,af],[af,af,af,af,af,af,af,af,af],[af,af,af,af,af,af,af,af,af,af],[af,af,af,af,af,af,af,af,af,af,ae],[af,af,af,af,af,af,af,af,af,af,af,ae]] [0, 0, 0, 2, 0, 0, 0, 2, 3, 0, 0, 0, 0]
  [.pure, .pure, .pure, .pinned Unit () (fun _ => .pointer (some ⟨t, 0, none⟩)) (fun _ _ => True), .pure, .pure, .pure, .pinned Unit () (fun _ => .agg cR.toArray) (fun _ _ => True), .major Unit () (fun _ => .tuple #[.int .i64 RG, .int .i64 se]), .pure, .pure, .pure, .pure]
  (fun _ => True) (fun vs W => match vs with | [] => Below w1.heap.size w1 W | _ :: _ => (ic w b c t d p v g a m R (ah M)) W) (fun _ _ => True) (by kernel_rfl) (by kernel_rfl) rfl rfl (fun vs a b h hs => by cases vs with | nil => exact Below.trans hs (h.mono (Below.size hs)) | cons v vs => exact ic.ext a b h hs) ?_ ?_ ?_ ?_ ?_ ?_
 ·intro a b he hb; trivial
 ·intro a b he hb; trivial
 ·exact ⟨trivial, trivial, trivial, ⟨fun _ _ _ _ _ => trivial, fun _ _ _ _ _ => trivial⟩, trivial, trivial, trivial, ⟨fun _ _ _ _ _ => trivial, fun _ _ _ _ _ => trivial⟩, trivial, trivial, trivial, trivial, trivial, trivial⟩
 ·trivial
 ·exact ⟨rfl, rfl, rfl, Nat.le_refl _, fun _ _ => rfl⟩
 dsimp only [Reg2.mk, List.zip, List.zipWith, List.take]
 repeat (refine' Reg2.ak _ (by rfl) (fun wz => ?_) ?_; rotate_left; (go_simp; first | rfl | rw [if_neg (by omega)]); simp only [Act.put, xA, xB, xC, xD, xE, id])
 refine Reg2.pp (fun wz _ hI hF => ?_) (fun r3 => ?_) (by rfl)
 ·have c0 := (hS1.out.cw.kept hI).c0
  go_wp2_with fail
  first | exact ⟨_, rfl, rfl, Reg2.Ext.refl _⟩ | exact ⟨_, rfl, ⟨(), rfl, trivial⟩, Reg2.Ext.refl _⟩
 simp only [Act.put, xA, xB, xC, xD, xE, id]
 repeat (refine' Reg2.ak _ (by rfl) (fun wz => ?_) ?_; rotate_left; (go_simp; first | rfl | rw [if_neg (by omega)]); simp only [Act.put, xA, xB, xC, xD, xE, id])
 refine Reg2.pp (fun wz _ hI hF => ?_) (fun r7 => ?_) (by rfl)
 ·have d0 := Oz.out wz (hb1.trans (Below.mono hI hb1.size))
  go_wp2_with fail
  first | exact ⟨_, rfl, rfl, Reg2.Ext.refl _⟩ | exact ⟨_, rfl, ⟨(), rfl, trivial⟩, Reg2.Ext.refl _⟩
 simp only [Act.put, xA, xB, xC, xD, xE, id]
 refine Reg2.pj (fun wz _ hI hF => ?_) (fun r8 => ?_) (by rfl)
 ·go_wp2_with (go_at_call 98; go_must (refine (hsub wz (hb1.trans (Below.mono hI hb1.size))).mono ?_); rintro e w' ⟨rfl, v4, g4, p9, bM⟩)
  have hpost : ic w b c t d p v g a m R (ah M) w' := ⟨v4, g4, (hS1.out.kept hI).core p9 bM, (WS.of_below (hb1.trans (Below.mono hI hb1.size))).trans (WS.dD bM)⟩
  exact ⟨_, rfl, ⟨⟨(), rfl⟩, hpost⟩, trivial⟩
 simp only [Act.put, xA, xB, xC, xD, xE, id]
 repeat (refine' Reg2.ak _ (by rfl) (fun wz => ?_) ?_; rotate_left; (go_simp; first | rfl | rw [if_neg (by omega)]); simp only [Act.put, xA, xB, xC, xD, xE, id])
 refine Reg2.aA ?_
 intro w7 _ tq kV
 clear kV
 dsimp only [List.drop]
 obtain ⟨v7, g7, gM, yS⟩ : ic w b c t d p v g a m R (ah M) w7 := tq
 have hf := iK gM.wk se
 go_wp2_with (go_at_call 42; go_must (refine hf.mono ?_); rintro e w9 ⟨rfl, kL, RF⟩)
 go_ret
 exact ⟨rfl, v7, g7, gM.work kL RF, yS.trans (WS.bD RF)⟩
theorem Ck (h : SW w b c t d p v g a m R (ah M)) (hk : PK (ah M)) (hw : nI M.dr.length R.ag = 0) (hE : je M.L R.ag = 0) (hh : R.ag.held = true) :
 Calls Tryz.prog 83 #[.pointer (some ⟨b, 0, none⟩), .pointer (some ⟨c, 0, none⟩)] w (az w b c t d p v g a m .nilFunc { R with rep := jh (dB M (toW R.ag)), aC := dB M (toW R.ag) } (ah { M with L := M.L ++ [dB M (toW R.ag)] })) := by
 have zR := kC
 have zJ := bJ
 obtain ⟨k9, bP⟩ : ∃ k, k = 9 := ⟨_, rfl⟩
 obtain ⟨k, hkk⟩ : ∃ k, k = 10 := ⟨_, rfl⟩
 rw [← bP] at zR
 rw [← hkk] at zJ
 have hk0 : ¬ k9 = 0 := by omega
 have hk1 : ¬ k = 0 := by omega
 have lR := gP R.ag
 rw [← bP] at lR
 replace bP := Lib.hid bP
 replace hkk := Lib.hid hkk
 have hS := Lib.hid h
 have rD := h.wk.nO lR
 have Oz : Hid (∀ W, Below w.heap.size w W → Sem.run Tryz.prog (loadCellsFrom ⟨b, 0, none⟩ 0 k9 #[]) W = .ok (encR R.ag).toArray W) := fun W hW => (h.kept hW).wk.nO lR
 have sH := vw h.cw hk.rz R.ag
 have hsub := fun (W : World) (hW : Below w.heap.size w W) => qo (h.kept hW).cw hk R.ag
 have hn : (ah M).T.length = M.dr.length := bC
 rw [hn] at sH
 replace hn := Lib.hid hn
 generalize encR R.ag = cR at *
 rw [hw] at sH
 unfold fw at hsub
 obtain ⟨RG, rE⟩ : ∃ x, x = mf (ah M).J R.ag := ⟨_, rfl⟩
 obtain ⟨se, hse⟩ : ∃ x, x = je (ah M).J R.ag := ⟨_, rfl⟩
 rw [← rE, ← hse] at hsub
 have hL : ql (ah M).J R.ag = M.L ++ [dB M (toW R.ag)] := by
  have hE2 := hE
  unfold je at hE2
  show ql M.L R.ag = _
  unfold ql
  split
  ·rename_i h1; rw [if_pos h1] at hE2; omega
  ·rename_i h1
   rw [if_neg h1] at hE2
   split
   ·rename_i h2; rw [if_pos h2] at hE2; omega
   ·rfl
 have hI0 : mf (ah M).J R.ag = (M.L.length : Int) + 1 := by
  have hE2 := hE
  unfold je at hE2
  show mf M.L R.ag = _
  unfold mf
  split
  ·rename_i h1; rw [if_pos h1] at hE2; omega
  ·rename_i h1
   rw [if_neg h1] at hE2
   split
   ·rename_i h2; rw [if_pos h2] at hE2; omega
   ·rfl
 obtain ⟨x, hx⟩ : ∃ x, x = dB M (toW R.ag) := ⟨_, rfl⟩
 have hxs : x.st = if R.ag.held then 2 else 1 := by rw [hx]; rfl
 have hxp : x.aN = -1 := by rw [hx]; rfl
 have hcore := Et (M := M) x (by rw [hxs]; split <;> decide) (by unfold aj; rw [hxp]; simp)
 rw [hL, ← hx, show ({ ah M with J := M.L ++ [x] } : Pg) = ah { M with L := M.L ++ [x] } from hcore.symm] at hsub
 rw [← hx]
 have hget : bO (M.L ++ [x]) ((M.L.length : Int) + 1) = x := by
  unfold bO
  rw [if_neg (by omega), if_neg (by simp), show ((M.L.length : Int) + 1 - 1).toNat = M.L.length by omega]
  simp
 have Je : se = 0 := hse.trans hE
 have Lh : RG = (M.L.length : Int) + 1 := rE.trans hI0
 subst Je
 subst Lh
 replace rE := Lib.hid rE
 replace hse := Lib.hid hse
 replace hL := Lib.hid hL
 replace hx := Lib.hid hx
 replace hcore := Lib.hid hcore
 replace hI0 := Lib.hid hI0
 clear h
 rw [hh] at hxs
 replace hxs : x.st = 2 := hxs
 go_enter Tryz.func83, Tryz.ntmps83
 go_wp2_with fail
 go_at_call 97
 refine sH.mono ?_
 clear sH rD
 rintro e w1 ⟨rfl, hb1⟩
 have hS1 := Lib.hid (hS.out.kept hb1)
 go_wp2_with fail
 refine Reg2.rM 13 49 [[],[af],[af,af],[af,af,af],[ae,ae,ae,ae],[ae,ae,ae,ae,af],[ae,ae,ae,ae,af,af],[ae,ae,ae,ae,af,af,af],[af,af,af,af,af,af,af,af],[af,af,af,af,af,af,af,af,af],[af,af,af,af,af,af,af,af,af,af],[af,af,af,af,af,af,af,af,af,af,ae],[af,af,af,af,af,af,af,af,af,af,af,ae]] [0, 0, 0, 2, 0, 0, 0, 2, 3, 0, 0, 0, 0]
  [.pure, .pure, .pure, .pinned Unit () (fun _ => .pointer (some ⟨t, 0, none⟩)) (fun _ _ => True), .pure, .pure, .pure, .pinned Unit () (fun _ => .agg cR.toArray) (fun _ _ => True), .major Unit () (fun _ => .tuple #[.int .i64 ((M.L.length : Int) + 1), .int .i64 0]), .pure, .pure, .pure, .pure]
  (fun _ => True) (fun vs W => match vs with | [] => Below w1.heap.size w1 W | _ :: _ => (ic w b c t d p v g a m R (ah { M with L := M.L ++ [x] })) W) (fun _ _ => True) (by kernel_rfl) (by kernel_rfl) rfl rfl (fun vs a b h hs => by cases vs with | nil => exact Below.trans hs (h.mono (Below.size hs)) | cons v vs => exact ic.ext a b h hs) ?_ ?_ ?_ ?_ ?_ ?_
 ·intro a b he hb; trivial
 ·intro a b he hb; trivial
 ·exact ⟨trivial, trivial, trivial, ⟨fun _ _ _ _ _ => trivial, fun _ _ _ _ _ => trivial⟩, trivial, trivial, trivial, ⟨fun _ _ _ _ _ => trivial, fun _ _ _ _ _ => trivial⟩, trivial, trivial, trivial, trivial, trivial, trivial⟩
 ·trivial
 ·exact ⟨rfl, rfl, rfl, Nat.le_refl _, fun _ _ => rfl⟩
 dsimp only [Reg2.mk, List.zip, List.zipWith, List.take]
 repeat (refine' Reg2.ak _ (by rfl) (fun wz => ?_) ?_; rotate_left; (go_simp; first | rfl | rw [if_neg (by omega)]); simp only [Act.put, xA, xB, xC, xD, xE, id])
 refine Reg2.pp (fun wz _ hI hF => ?_) (fun r3 => ?_) (by rfl)
 ·have c0 := (hS1.out.cw.kept hI).c0
  go_wp2_with fail
  first | exact ⟨_, rfl, rfl, Reg2.Ext.refl _⟩ | exact ⟨_, rfl, ⟨(), rfl, trivial⟩, Reg2.Ext.refl _⟩
 simp only [Act.put, xA, xB, xC, xD, xE, id]
 repeat (refine' Reg2.ak _ (by rfl) (fun wz => ?_) ?_; rotate_left; (go_simp; first | rfl | rw [if_neg (by omega)]); simp only [Act.put, xA, xB, xC, xD, xE, id])
 refine Reg2.pp (fun wz _ hI hF => ?_) (fun r7 => ?_) (by rfl)
 ·have d0 := Oz.out wz (hb1.trans (Below.mono hI hb1.size))
  go_wp2_with fail
  first | exact ⟨_, rfl, rfl, Reg2.Ext.refl _⟩ | exact ⟨_, rfl, ⟨(), rfl, trivial⟩, Reg2.Ext.refl _⟩
 simp only [Act.put, xA, xB, xC, xD, xE, id]
 refine Reg2.pj (fun wz _ hI hF => ?_) (fun r8 => ?_) (by rfl)
 ·go_wp2_with (go_at_call 98; go_must (refine (hsub wz (hb1.trans (Below.mono hI hb1.size))).mono ?_); rintro e w' ⟨rfl, v4, g4, p9, bM⟩)
  have hpost : ic w b c t d p v g a m R (ah { M with L := M.L ++ [x] }) w' := ⟨v4, g4, (hS1.out.kept hI).core p9 bM, (WS.of_below (hb1.trans (Below.mono hI hb1.size))).trans (WS.dD bM)⟩
  exact ⟨_, rfl, ⟨⟨(), rfl⟩, hpost⟩, trivial⟩
 simp only [Act.put, xA, xB, xC, xD, xE, id]
 repeat (refine' Reg2.ak _ (by rfl) (fun wz => ?_) ?_; rotate_left; (go_simp; first | rfl | rw [if_neg (by omega)]); simp only [Act.put, xA, xB, xC, xD, xE, id])
 refine Reg2.aA ?_
 intro w7 _ tq kV
 clear kV
 dsimp only [List.drop]
 obtain ⟨v7, g7, gM, yS⟩ : ic w b c t d p v g a m R (ah { M with L := M.L ++ [x] }) w7 := tq
 have kM := oO gM ((M.L.length : Int) + 1)
 rw [show (ah { M with L := M.L ++ [x] }).J = M.L ++ [x] from rfl, hget] at kM
 go_wp2_with fail
 go_at_call 78
 refine kM.mono ?_
 clear kM
 rintro e w8 ⟨rfl, dS, gq⟩
 have gL := gM.work dS gq
 have RH := yS.trans (WS.bD gq)
 obtain ⟨Xw, kL⟩ := dS.uG x
 have lJ := ax x
 rw [← hkk.out] at lJ
 have gy := gL.work kL (cK w8 _)
 have hfin := RH.trans (WS.bD (cK w8 (gG { ({ R with rep := jh x } : Wk) with aC := x }).toArray))
 have c17 := kL.at 17 (.int .i64 2) (by rw [← hxs]; rfl)
 generalize gG { ({ R with rep := jh x } : Wk) with aC := x } = W9 at *
 generalize ai x = cJ at *
 go_wp2_with fail
 go_ret
 exact ⟨rfl, v7, g7, gy, hfin⟩
theorem Jf (h : SW w b c t d p v g a m R (ah M)) (hk : PK (ah M)) (hw : nI M.dr.length R.ag = 0) (hE : je M.L R.ag = 0) (hh : R.ag.held = false) :
 Calls Tryz.prog 83 #[.pointer (some ⟨b, 0, none⟩), .pointer (some ⟨c, 0, none⟩)] w (az w b c t d p v g a m (fG 99) { R with rep := jh (dB M (toW R.ag)), aC := dB M (toW R.ag) } (ah { M with L := M.L ++ [dB M (toW R.ag)] })) := by
 have zR := kC
 have zJ := bJ
 obtain ⟨k9, bP⟩ : ∃ k, k = 9 := ⟨_, rfl⟩
 obtain ⟨k, hkk⟩ : ∃ k, k = 10 := ⟨_, rfl⟩
 rw [← bP] at zR
 rw [← hkk] at zJ
 have hk0 : ¬ k9 = 0 := by omega
 have hk1 : ¬ k = 0 := by omega
 have lR := gP R.ag
 rw [← bP] at lR
 replace bP := Lib.hid bP
 replace hkk := Lib.hid hkk
 have hS := Lib.hid h
 have rD := h.wk.nO lR
 have Oz : Hid (∀ W, Below w.heap.size w W → Sem.run Tryz.prog (loadCellsFrom ⟨b, 0, none⟩ 0 k9 #[]) W = .ok (encR R.ag).toArray W) := fun W hW => (h.kept hW).wk.nO lR
 have sH := vw h.cw hk.rz R.ag
 have hsub := fun (W : World) (hW : Below w.heap.size w W) => qo (h.kept hW).cw hk R.ag
 have hn : (ah M).T.length = M.dr.length := bC
 rw [hn] at sH
 replace hn := Lib.hid hn
 generalize encR R.ag = cR at *
 rw [hw] at sH
 unfold fw at hsub
 obtain ⟨RG, rE⟩ : ∃ x, x = mf (ah M).J R.ag := ⟨_, rfl⟩
 obtain ⟨se, hse⟩ : ∃ x, x = je (ah M).J R.ag := ⟨_, rfl⟩
 rw [← rE, ← hse] at hsub
 have hL : ql (ah M).J R.ag = M.L ++ [dB M (toW R.ag)] := by
  have hE2 := hE
  unfold je at hE2
  show ql M.L R.ag = _
  unfold ql
  split
  ·rename_i h1; rw [if_pos h1] at hE2; omega
  ·rename_i h1
   rw [if_neg h1] at hE2
   split
   ·rename_i h2; rw [if_pos h2] at hE2; omega
   ·rfl
 have hI0 : mf (ah M).J R.ag = (M.L.length : Int) + 1 := by
  have hE2 := hE
  unfold je at hE2
  show mf M.L R.ag = _
  unfold mf
  split
  ·rename_i h1; rw [if_pos h1] at hE2; omega
  ·rename_i h1
   rw [if_neg h1] at hE2
   split
   ·rename_i h2; rw [if_pos h2] at hE2; omega
   ·rfl
 obtain ⟨x, hx⟩ : ∃ x, x = dB M (toW R.ag) := ⟨_, rfl⟩
 have hxs : x.st = if R.ag.held then 2 else 1 := by rw [hx]; rfl
 have hxp : x.aN = -1 := by rw [hx]; rfl
 have hcore := Et (M := M) x (by rw [hxs]; split <;> decide) (by unfold aj; rw [hxp]; simp)
 rw [hL, ← hx, show ({ ah M with J := M.L ++ [x] } : Pg) = ah { M with L := M.L ++ [x] } from hcore.symm] at hsub
 rw [← hx]
 have hget : bO (M.L ++ [x]) ((M.L.length : Int) + 1) = x := by
  unfold bO
  rw [if_neg (by omega), if_neg (by simp), show ((M.L.length : Int) + 1 - 1).toNat = M.L.length by omega]
  simp
 have Je : se = 0 := hse.trans hE
 have Lh : RG = (M.L.length : Int) + 1 := rE.trans hI0
 subst Je
 subst Lh
 replace rE := Lib.hid rE
 replace hse := Lib.hid hse
 replace hL := Lib.hid hL
 replace hx := Lib.hid hx
 replace hcore := Lib.hid hcore
 replace hI0 := Lib.hid hI0
 clear h
 rw [hh] at hxs
 replace hxs : x.st = 1 := hxs
 go_enter Tryz.func83, Tryz.ntmps83
 go_wp2_with fail
 go_at_call 97
 refine sH.mono ?_
 clear sH rD
 rintro e w1 ⟨rfl, hb1⟩
 have hS1 := Lib.hid (hS.out.kept hb1)
 go_wp2_with fail
 refine Reg2.rM 13 49 [[],[af],[af,af],[af,af,af],[ae,ae,ae,ae],[ae,ae,ae,ae,af],[ae,ae,ae,ae,af,af],[ae,ae,ae,ae,af,af,af],[af,af,af,af,af,af,af,af],[af,af,af,af,af,af,af,af,af],[af,af,af,af,af,af,af,af,af,af],[af,af,af,af,af,af,af,af,af,af,ae],[af,af,af,af,af,af,af,af,af,af,af,ae]] [0, 0, 0, 2, 0, 0, 0, 2, 3, 0, 0, 0, 0]
  [.pure, .pure, .pure, .pinned Unit () (fun _ => .pointer (some ⟨t, 0, none⟩)) (fun _ _ => True), .pure, .pure, .pure, .pinned Unit () (fun _ => .agg cR.toArray) (fun _ _ => True), .major Unit () (fun _ => .tuple #[.int .i64 ((M.L.length : Int) + 1), .int .i64 0]), .pure, .pure, .pure, .pure]
  (fun _ => True) (fun vs W => match vs with | [] => Below w1.heap.size w1 W | _ :: _ => (ic w b c t d p v g a m R (ah { M with L := M.L ++ [x] })) W) (fun _ _ => True) (by kernel_rfl) (by kernel_rfl) rfl rfl (fun vs a b h hs => by cases vs with | nil => exact Below.trans hs (h.mono (Below.size hs)) | cons v vs => exact ic.ext a b h hs) ?_ ?_ ?_ ?_ ?_ ?_
 ·intro a b he hb; trivial
 ·intro a b he hb; trivial
 ·exact ⟨trivial, trivial, trivial, ⟨fun _ _ _ _ _ => trivial, fun _ _ _ _ _ => trivial⟩, trivial, trivial, trivial, ⟨fun _ _ _ _ _ => trivial, fun _ _ _ _ _ => trivial⟩, trivial, trivial, trivial, trivial, trivial, trivial⟩
 ·trivial
 ·exact ⟨rfl, rfl, rfl, Nat.le_refl _, fun _ _ => rfl⟩
 dsimp only [Reg2.mk, List.zip, List.zipWith, List.take]
 repeat (refine' Reg2.ak _ (by rfl) (fun wz => ?_) ?_; rotate_left; (go_simp; first | rfl | rw [if_neg (by omega)]); simp only [Act.put, xA, xB, xC, xD, xE, id])
 refine Reg2.pp (fun wz _ hI hF => ?_) (fun r3 => ?_) (by rfl)
 ·have c0 := (hS1.out.cw.kept hI).c0
  go_wp2_with fail
  first | exact ⟨_, rfl, rfl, Reg2.Ext.refl _⟩ | exact ⟨_, rfl, ⟨(), rfl, trivial⟩, Reg2.Ext.refl _⟩
 simp only [Act.put, xA, xB, xC, xD, xE, id]
 repeat (refine' Reg2.ak _ (by rfl) (fun wz => ?_) ?_; rotate_left; (go_simp; first | rfl | rw [if_neg (by omega)]); simp only [Act.put, xA, xB, xC, xD, xE, id])
 refine Reg2.pp (fun wz _ hI hF => ?_) (fun r7 => ?_) (by rfl)
 ·have d0 := Oz.out wz (hb1.trans (Below.mono hI hb1.size))
  go_wp2_with fail
  first | exact ⟨_, rfl, rfl, Reg2.Ext.refl _⟩ | exact ⟨_, rfl, ⟨(), rfl, trivial⟩, Reg2.Ext.refl _⟩
 simp only [Act.put, xA, xB, xC, xD, xE, id]
 refine Reg2.pj (fun wz _ hI hF => ?_) (fun r8 => ?_) (by rfl)
 ·go_wp2_with (go_at_call 98; go_must (refine (hsub wz (hb1.trans (Below.mono hI hb1.size))).mono ?_); rintro e w' ⟨rfl, v4, g4, p9, bM⟩)
  have hpost : ic w b c t d p v g a m R (ah { M with L := M.L ++ [x] }) w' := ⟨v4, g4, (hS1.out.kept hI).core p9 bM, (WS.of_below (hb1.trans (Below.mono hI hb1.size))).trans (WS.dD bM)⟩
  exact ⟨_, rfl, ⟨⟨(), rfl⟩, hpost⟩, trivial⟩
 simp only [Act.put, xA, xB, xC, xD, xE, id]
 repeat (refine' Reg2.ak _ (by rfl) (fun wz => ?_) ?_; rotate_left; (go_simp; first | rfl | rw [if_neg (by omega)]); simp only [Act.put, xA, xB, xC, xD, xE, id])
 refine Reg2.aA ?_
 intro w7 _ tq kV
 clear kV
 dsimp only [List.drop]
 obtain ⟨v7, g7, gM, yS⟩ : ic w b c t d p v g a m R (ah { M with L := M.L ++ [x] }) w7 := tq
 have kM := oO gM ((M.L.length : Int) + 1)
 rw [show (ah { M with L := M.L ++ [x] }).J = M.L ++ [x] from rfl, hget] at kM
 go_wp2_with fail
 go_at_call 78
 refine kM.mono ?_
 clear kM
 rintro e w8 ⟨rfl, dS, gq⟩
 have gL := gM.work dS gq
 have RH := yS.trans (WS.bD gq)
 obtain ⟨Xw, kL⟩ := dS.uG x
 have lJ := ax x
 rw [← hkk.out] at lJ
 have gy := gL.work kL (cK w8 _)
 have hfin := RH.trans (WS.bD (cK w8 (gG { ({ R with rep := jh x } : Wk) with aC := x }).toArray))
 have c17 := kL.at 17 (.int .i64 1) (by rw [← hxs]; rfl)
 generalize gG { ({ R with rep := jh x } : Wk) with aC := x } = W9 at *
 generalize ai x = cJ at *
 go_wp2_with fail
 go_ret
 exact ⟨rfl, v7, g7, gy, hfin⟩
end
end Go.Proofs.YtelnhablglomjaaGreat

namespace Go.Proofs.YtelnhablglomjaaGreat
open Go.RowKit Go.Lib Go.Sort
section
variable {w : World} {b c t d p g a : Nat} {v : Value} {m : Int} {P : Pg} {R : Wk}
theorem SW.drew (h : SW w b c t d p v g a m R P) : SW w.drew b c t d p v g a m R P := h.kept (Below.refl _ _).drew
theorem WS.yT {w1 : World} {v1 : Value} {g1 : Nat} (h : WS w.drew w1 b c t d p v g v1 g1) : WS w w1 b c t d p v g v1 g1 := (WS.of_below (Below.refl _ _).drew).trans h
theorem CW.VV (h : CW w c t d p v g a m P) (F : Int → Int) (hf : ∀ t, P.now ≤ t → P.f t = F t) : CW w c t d p v g a m { P with f := F } := by
 obtain ⟨S, aK, hp, hC, hrest⟩ := h.lL
 exact ⟨h.cell, h.eU, h.nodes, S, aK, hp, hC.congr hf, hrest⟩
theorem OA (h : SW w b c t d p v g a m R P) (hk : PK P) (hr : R.aC.st = 3) (hn : 0 ≤ R.aC.bQ ∧ R.aC.bQ ≤ 18446744073709551615) :
 Calls Tryz.prog 101 #[.pointer (some ⟨b, 0, none⟩), .pointer (some ⟨c, 0, none⟩)] w fun e w' => ∃ (n x : Int) (T' : List Int), BK P.T R.aC.bQ.toNat n x T' ∧ az w b c t d p v g a m (fG 103) { R with idle := n } { P with T := T' } e w' := by
 have hS := Lib.hid h
 have hg := Em h.drew.cw hk R.aC.bQ.toNat (by omega)
 rw [show ((R.aC.bQ.toNat : Nat) : Int) = R.aC.bQ by omega] at hg
 have c17 := h.wk.at 17 (.int .i64 R.aC.st) rfl
 have c21 := h.wk.at 21 (.int .u64 R.aC.bQ) rfl
 have c1 := h.cw.c1
 rw [hr] at c17
 replace hn := Lib.hid hn
 clear h
 go_enter Tryz.func101, Tryz.ntmps101
 go_wp2_with fail
 go_region_with (go_at_call 129; go_must (refine hg.mono ?_); rintro e w' ⟨n, x, T', hG, hL, rfl, v4, g4, p9, bM⟩; have gL := hS.out.drew.core p9 bM; have a22 := gL.wk.at 22 (.int .i64 R.idle) rfl; have f22 := gL.wk.free 22)
 all_goals
  have kL := gL.wk.idle n
  have gy := gL.work kL (dw w' 22 (.int .i64 n))
  have hfin := ((WS.dD bM : WS w.drew w' b c t d p v g v4 g4).trans (WS.bD (dw w' 22 (.int .i64 n)))).yT
  go_wp2_with fail
  go_ret
  exact ⟨n, x, T', hG, rfl, v4, g4, gy, hfin⟩
theorem RI (h : SW w b c t d p v g a m R P) (hr : R.aC.st ≠ 3) :
 Calls Tryz.prog 101 #[.pointer (some ⟨b, 0, none⟩), .pointer (some ⟨c, 0, none⟩)] w (az w b c t d p v g a m (fG 103) R P) := by
 have c17 := h.wk.at 17 (.int .i64 R.aC.st) rfl
 have d0 : (R.aC.st == 3) = false := by simp [hr]
 generalize R.aC.st = s at *
 go_enter Tryz.func101, Tryz.ntmps101
 go_wp2_with fail
 go_ret
 exact ⟨rfl, v, g, h, WS.refl _⟩
theorem Gm (h : SW w b c t d p v g a m R P) (hk : PK P) (ha : a ≤ 800) (hm : m ≤ 1000000) (hP : aj R.aC = true) (hb1 : R.aC.aN ≤ 1099511627776) (hb2 : 0 ≤ R.aC.lim ∧ R.aC.lim ≤ 1048576) (hb3 : 1 ≤ R.aC.lim) (hb4 : 0 ≤ R.aC.wid ∧ R.aC.wid ≤ 64) (F : Int → Int)
 (hF : ∀ t, P.now ≤ t → F t = P.f t + had (max R.aC.aN P.now) (R.aC.aN + R.aC.lim) R.aC.wid t) (hr : ∀ t, P.now ≤ t → 0 ≤ F t ∧ F t ≤ 64) :
 Calls Tryz.prog 103 #[.pointer (some ⟨b, 0, none⟩), .pointer (some ⟨c, 0, none⟩)] w (az w b c t d p v g (a + 2) (m + 1) .nilFunc R { P with f := F }) := by
 have zJ := bJ
 have zS := kU
 obtain ⟨k, hk1⟩ : ∃ k, k = 10 := ⟨_, rfl⟩
 obtain ⟨k3, hk3⟩ : ∃ k, k = 3 := ⟨_, rfl⟩
 rw [← hk1] at zJ
 rw [← hk3] at zS
 have hk0 : ¬ k = 0 := by omega
 have zN : ¬ k3 = 0 := by omega
 have lJ := ax R.aC
 rw [← hk1] at lJ
 replace hk1 := Lib.hid hk1
 have hS := Lib.hid h
 have rD := h.wk.nP lJ
 have hpl := lM (w := w) R.aC hb1 hb2
 have lS : (aM R.aC).length = 3 := by unfold aM; split <;> rfl
 have oS : ∀ u ∈ aM R.aC, u.oneCell' = true := by unfold aM; split <;> (intro u hu; simp at hu; rcases hu with rfl | rfl | rfl <;> rfl)
 have ST : Hid (∀ W : World, Sem.run Tryz.prog (storeCells ⟨W.heap.size, 0, none⟩ (aM R.aC) 0) (W.alloc (.cells #[.int .i64 0, .int .i64 0, .int .i64 0] 148)) = .ok () (W.alloc (.cells (aM R.aC).toArray 148))) := fun W => dE W W.heap.size (aM R.aC) [.int .i64 0, .int .i64 0, .int .i64 0] 148 rfl lS oS
 rw [← hk3] at lS
 replace hk3 := Lib.hid hk3
 have hst : ∀ W, SW W b c t d p v g a m R P → W.cell? ⟨b, 17, none⟩ = some (.int .i64 R.aC.st) := fun W hW => hW.wk.at 17 (.int .i64 R.aC.st) rfl
 generalize lT : aM R.aC = cS at *
 replace lT := Lib.hid lT
 generalize ai R.aC = cJ at *
 clear h
 have DR : R.aC.st = 1 := (bq.1 hP).1
 rw [DR] at hst
 have mO : cS = [.int .i64 R.aC.aN, .int .i64 (R.aC.aN + R.aC.lim), .int .i64 R.aC.wid] := by rw [← lT.out]; unfold aM; rw [if_pos hP]
 rw [hP] at hpl
 replace hP := Lib.hid hP
 replace DR := Lib.hid DR
 replace mO := Lib.hid mO
 replace hst := Lib.hid hst
 go_enter Tryz.func103, Tryz.ntmps103
 go_wp2_with fail
 go_at_call 112
 refine hpl.mono ?_
 clear hpl rD
 rintro e w1 ⟨rfl, hb⟩
 have st1 := ST.out w1
 obtain ⟨w2, hw2⟩ : ∃ w2, w2 = w1.alloc (.cells cS.toArray 148) := ⟨_, rfl⟩
 rw [← hw2] at st1
 have hb2' : Below w.heap.size w w2 := by rw [hw2]; exact hb.alloc hb.size _
 have hy2 : Hid (w2.heap[w1.heap.size]? = some (.cells cS.toArray 148 (0, 0))) := by show _ = _; rw [hw2]; exact heap_alloc_new w1 _
 have hs2 : w2.heap.size = w1.heap.size + 1 := by rw [hw2]; simp
 replace hw2 := Lib.hid hw2
 have hS2 := Lib.hid (hS.out.kept hb2')
 go_wp2_with fail
 refine Reg2.ro w2 5 47 [.p 0, .p 1, .p 3, .m 7, .m 0] [.pointer (some ⟨p, 0, none⟩), .agg cS.toArray] (by kernel_rfl) (by kernel_rfl) rfl rfl ⟨rfl, rfl, rfl, Nat.le_refl _, fun _ _ => rfl⟩ ?_
 dsimp only [Reg2.gU]
 repeat ((first
  | (refine' Reg2.ak _ (by rfl) (fun wz => ?_) ?_; rotate_left; (go_simp; first | rfl | rw [if_neg (by omega)]))
  | (refine Reg2.au (by rfl) (fun wz hI hF => ?_) (fun _ => ?_)
     ·unfold Reg2.One
      have c0 := (hS2.out.cw.kept hI).c2
      have d0 := fu ((hI.block _ (aD hy2.out)).trans hy2.out) lS
      go_wp2_with fail
      first | exact ⟨_, rfl, rfl, Reg2.Ext.refl _⟩ | exact ⟨_, rfl, ⟨(), rfl, trivial⟩, Reg2.Ext.refl _⟩)); simp only [Act.put, xA, xB, xC, xD, xE, id])
 refine Reg2.aA ?_
 intro w4 HI4 _ dY
 clear dY
 dsimp only [List.drop]
 have bM := hS2.out.kept HI4
 have hrel := uD bM.cw hk ha hm R.aC.aN (R.aC.aN + R.aC.lim) R.aC.wid F (by omega) (by omega) hb4 hF hr
 have Jg := mO.out
 clear lT mO
 subst Jg
 go_wp2_with fail
 go_at_call 114
 refine hrel.mono ?_
 clear hrel
 rintro e w5 ⟨rfl, v5, g5, gJ, hS5⟩
 have eX := bM.core gJ hS5
 have hfin := (WS.of_below (hb2'.trans (HI4.mono hb2'.size)) : WS w w4 b c t d p v g v g).trans (WS.dD hS5)
 have c17 := eX.wk.at 17 (.int .i64 R.aC.st) rfl
 rw [DR.out] at c17
 go_wp2_with fail
 go_ret
 exact ⟨rfl, v5, g5, eX, hfin⟩
theorem Jh (h : SW w b c t d p v g a m R P) (hk : PK P) (ha : a ≤ 800) (hm : m ≤ 1000000) (hP : R.aC.st = 3) (hb1 : R.aC.aN ≤ 1099511627776) (hb2 : 0 ≤ R.aC.lim ∧ R.aC.lim ≤ 1048576) (hb3 : P.now < R.aC.fin ∧ R.aC.fin ≤ 1099512676352) (hb4 : -64 ≤ R.idle ∧ R.idle ≤ 64) (F : Int → Int)
 (hF : ∀ t, P.now ≤ t → F t = P.f t + had (max P.now P.now) R.aC.fin R.idle t) (hr : ∀ t, P.now ≤ t → 0 ≤ F t ∧ F t ≤ 64) :
 Calls Tryz.prog 103 #[.pointer (some ⟨b, 0, none⟩), .pointer (some ⟨c, 0, none⟩)] w (az w b c t d p v g (a + 2) (m + 1) .nilFunc R { P with f := F }) := by
 have zJ := bJ
 have zS := kU
 obtain ⟨k, hk1⟩ : ∃ k, k = 10 := ⟨_, rfl⟩
 obtain ⟨k3, hk3⟩ : ∃ k, k = 3 := ⟨_, rfl⟩
 rw [← hk1] at zJ
 rw [← hk3] at zS
 have hk0 : ¬ k = 0 := by omega
 have zN : ¬ k3 = 0 := by omega
 have lJ := ax R.aC
 rw [← hk1] at lJ
 replace hk1 := Lib.hid hk1
 have hS := Lib.hid h
 have rD := h.wk.nP lJ
 have hpl := lM (w := w) R.aC hb1 hb2
 have lS : (aM R.aC).length = 3 := by unfold aM; split <;> rfl
 have oS : ∀ u ∈ aM R.aC, u.oneCell' = true := by unfold aM; split <;> (intro u hu; simp at hu; rcases hu with rfl | rfl | rfl <;> rfl)
 have ST : Hid (∀ W : World, Sem.run Tryz.prog (storeCells ⟨W.heap.size, 0, none⟩ (aM R.aC) 0) (W.alloc (.cells #[.int .i64 0, .int .i64 0, .int .i64 0] 148)) = .ok () (W.alloc (.cells (aM R.aC).toArray 148))) := fun W => dE W W.heap.size (aM R.aC) [.int .i64 0, .int .i64 0, .int .i64 0] 148 rfl lS oS
 rw [← hk3] at lS
 replace hk3 := Lib.hid hk3
 have hst : ∀ W, SW W b c t d p v g a m R P → W.cell? ⟨b, 17, none⟩ = some (.int .i64 R.aC.st) := fun W hW => hW.wk.at 17 (.int .i64 R.aC.st) rfl
 generalize lT : aM R.aC = cS at *
 replace lT := Lib.hid lT
 generalize ai R.aC = cJ at *
 clear h
 have hno : aj R.aC = false := by unfold aj; rw [hP]; rfl
 rw [hP] at hst
 rw [hno] at hpl
 replace hP := Lib.hid hP
 replace hno := Lib.hid hno
 go_enter Tryz.func103, Tryz.ntmps103
 go_wp2_with fail
 go_at_call 112
 refine hpl.mono ?_
 clear hpl rD
 rintro e w1 ⟨rfl, hb⟩
 have st1 := ST.out w1
 obtain ⟨w2, hw2⟩ : ∃ w2, w2 = w1.alloc (.cells cS.toArray 148) := ⟨_, rfl⟩
 rw [← hw2] at st1
 have hb2' : Below w.heap.size w w2 := by rw [hw2]; exact hb.alloc hb.size _
 have hy2 : Hid (w2.heap[w1.heap.size]? = some (.cells cS.toArray 148 (0, 0))) := by show _ = _; rw [hw2]; exact heap_alloc_new w1 _
 have hs2 : w2.heap.size = w1.heap.size + 1 := by rw [hw2]; simp
 replace hw2 := Lib.hid hw2
 have hS2 := Lib.hid (hS.out.kept hb2')
 have c17 := hst w2 hS2.out
 replace hst := Lib.hid hst
 go_wp2_with fail
 refine Reg2.ro w2 18 47 [.p 0, .p 1, .p 3, .m 7, .p 0, .p 16, .p 48, .m 112, .m 240, .p 0, .p 512, .p 1536, .p 3584, .m 7680, .p 0, .p 16384, .p 49152, .m 114688] [.pointer (some ⟨p, 0, none⟩), .pointer (some ⟨p, 0, none⟩), .int .i64 P.now, .int .i64 R.aC.fin, .int .i64 R.idle] (by kernel_rfl) (by kernel_rfl) rfl rfl ⟨rfl, rfl, rfl, Nat.le_refl _, fun _ _ => rfl⟩ ?_
 dsimp only [Reg2.gU]
 repeat ((first
  | (refine' Reg2.ak _ (by rfl) (fun wz => ?_) ?_; rotate_left; (go_simp; first | rfl | rw [if_neg (by omega)]))
  | (refine Reg2.au (by rfl) (fun wz hI hF => ?_) (fun _ => ?_)
     ·unfold Reg2.One
      have c0 := (hS2.out.cw.kept hI).c2
      go_wp2_with fail
      first | exact ⟨_, rfl, rfl, Reg2.Ext.refl _⟩ | exact ⟨_, rfl, ⟨(), rfl, trivial⟩, Reg2.Ext.refl _⟩)); simp only [Act.put, xA, xB, xC, xD, xE, id])
 refine Reg2.pm (fun wz hI hF => ?_) (fun r8 => ?_) (by rfl)
 ·go_wp2_with (go_at_call 95; go_must (refine (gK (hS2.out.kept hI).cw).mono ?_); rintro e w' ⟨rfl, rfl⟩)
  first | exact ⟨_, rfl, rfl, Reg2.Ext.refl _⟩ | exact ⟨_, rfl, ⟨(), rfl, trivial⟩, Reg2.Ext.refl _⟩
 simp only [Act.put, xA, xB, xC, xD, xE, id]
 repeat ((first
  | (refine' Reg2.ak _ (by rfl) (fun wz => ?_) ?_; rotate_left; (go_simp; first | rfl | rw [if_neg (by omega)]))
  | (refine Reg2.au (by rfl) (fun wz hI hF => ?_) (fun _ => ?_)
     ·unfold Reg2.One
      have q0 := (hS2.out.kept hI).wk.at 19 (.int .i64 R.aC.fin) rfl
      have Ep := (hS2.out.kept hI).wk.at 22 (.int .i64 R.idle) rfl
      go_wp2_with fail
      first | exact ⟨_, rfl, rfl, Reg2.Ext.refl _⟩ | exact ⟨_, rfl, ⟨(), rfl, trivial⟩, Reg2.Ext.refl _⟩)); simp only [Act.put, xA, xB, xC, xD, xE, id])
 refine Reg2.aA ?_
 intro w4 HI4 _ dY
 clear dY
 dsimp only [List.drop]
 have bM := hS2.out.kept HI4
 have hadd := MN bM.cw hk ha hm P.now R.aC.fin R.idle F hb3.1 (by omega) hb4 hF hr
 go_wp2_with fail
 go_at_call 130
 refine hadd.mono ?_
 clear hadd
 rintro e w5 ⟨rfl, v5, g5, gJ, hS5⟩
 have eX := bM.core gJ hS5
 have hfin := (WS.of_below (hb2'.trans (HI4.mono hb2'.size)) : WS w w4 b c t d p v g v g).trans (WS.dD hS5)
 go_wp2_with fail
 go_ret
 exact ⟨rfl, v5, g5, eX, hfin⟩
theorem Gn (h : SW w b c t d p v g a m R P) (hk : PK P) (ha : a ≤ 800) (hm : m ≤ 1000000) (hP : aj R.aC = false) (hP2 : R.aC.st ≠ 3) (hb1 : R.aC.aN ≤ 1099511627776) (hb2 : 0 ≤ R.aC.lim ∧ R.aC.lim ≤ 1048576) :
 Calls Tryz.prog 103 #[.pointer (some ⟨b, 0, none⟩), .pointer (some ⟨c, 0, none⟩)] w (az w b c t d p v g a m .nilFunc R P) := by
 have zJ := bJ
 have zS := kU
 obtain ⟨k, hk1⟩ : ∃ k, k = 10 := ⟨_, rfl⟩
 obtain ⟨k3, hk3⟩ : ∃ k, k = 3 := ⟨_, rfl⟩
 rw [← hk1] at zJ
 rw [← hk3] at zS
 have hk0 : ¬ k = 0 := by omega
 have zN : ¬ k3 = 0 := by omega
 have lJ := ax R.aC
 rw [← hk1] at lJ
 replace hk1 := Lib.hid hk1
 have hS := Lib.hid h
 have rD := h.wk.nP lJ
 have hpl := lM (w := w) R.aC hb1 hb2
 have lS : (aM R.aC).length = 3 := by unfold aM; split <;> rfl
 have oS : ∀ u ∈ aM R.aC, u.oneCell' = true := by unfold aM; split <;> (intro u hu; simp at hu; rcases hu with rfl | rfl | rfl <;> rfl)
 have ST : Hid (∀ W : World, Sem.run Tryz.prog (storeCells ⟨W.heap.size, 0, none⟩ (aM R.aC) 0) (W.alloc (.cells #[.int .i64 0, .int .i64 0, .int .i64 0] 148)) = .ok () (W.alloc (.cells (aM R.aC).toArray 148))) := fun W => dE W W.heap.size (aM R.aC) [.int .i64 0, .int .i64 0, .int .i64 0] 148 rfl lS oS
 rw [← hk3] at lS
 replace hk3 := Lib.hid hk3
 have hst : ∀ W, SW W b c t d p v g a m R P → W.cell? ⟨b, 17, none⟩ = some (.int .i64 R.aC.st) := fun W hW => hW.wk.at 17 (.int .i64 R.aC.st) rfl
 generalize lT : aM R.aC = cS at *
 replace lT := Lib.hid lT
 generalize ai R.aC = cJ at *
 clear h
 have d0 : (R.aC.st == 3) = false := by simp [hP2]
 rw [hP] at hpl
 generalize R.aC.st = s at *
 go_enter Tryz.func103, Tryz.ntmps103
 go_wp2_with fail
 go_at_call 112
 refine hpl.mono ?_
 clear hpl rD
 rintro e w1 ⟨rfl, hb⟩
 have st1 := ST.out w1
 obtain ⟨w2, hw2⟩ : ∃ w2, w2 = w1.alloc (.cells cS.toArray 148) := ⟨_, rfl⟩
 rw [← hw2] at st1
 have hb2' : Below w.heap.size w w2 := by rw [hw2]; exact hb.alloc hb.size _
 have hy2 : Hid (w2.heap[w1.heap.size]? = some (.cells cS.toArray 148 (0, 0))) := by show _ = _; rw [hw2]; exact heap_alloc_new w1 _
 have hs2 : w2.heap.size = w1.heap.size + 1 := by rw [hw2]; simp
 replace hw2 := Lib.hid hw2
 have hS2 := Lib.hid (hS.out.kept hb2')
 have c17 := hst w2 hS2.out
 replace hst := Lib.hid hst
 go_wp2_with fail
 go_ret
 exact ⟨rfl, v, g, hS2.out, WS.of_below hb2'⟩
end
end Go.Proofs.YtelnhablglomjaaGreat

namespace Go.Proofs.YtelnhablglomjaaGreat
open Go.RowKit Go.Lib
theorem Gp {p : Jb → Bool} : ∀ {X : List Jb} {x : Jb} {r : List Jb}, X.filter p = x :: r → ∃ q, q < X.length ∧ X.getD q default = x ∧ (∀ k, k < q → p (X.getD k default) = false) ∧ (X.drop (q + 1)).filter p = r ∧ p x = true := by
 intro X
 induction X with
 | nil => intro x r h; cases h
 | cons y X ih =>
   intro x r h
   cases hp : p y with
   | true =>
     rw [List.filter_cons_of_pos hp] at h
     obtain ⟨rfl, rfl⟩ := List.cons.inj h
     exact ⟨0, by simp, rfl, fun k hk => absurd hk (Nat.not_lt_zero _), rfl, hp⟩
   | false =>
     rw [List.filter_cons_of_neg (by simp [hp])] at h
     obtain ⟨q, h1, h2, h3, h4, h5⟩ := ih h
     refine ⟨q + 1, by simp; omega, by simpa using h2, fun k hk => ?_, by simpa using h4, h5⟩
     cases k with
     | zero => simpa using hp
     | succ k => simpa using h3 k (by omega)
theorem filter_none {p : Jb → Bool} {X : List Jb} (h : X.filter p = []) (k : Nat) (hk : k < X.length) : p (X.getD k default) = false := by
 have h1 := List.filter_eq_nil_iff.1 h (X.getD k default) (aY hk)
 simpa using h1
theorem getD_drop {L : List Jb} {k q : Nat} : (L.drop k).getD q default = L.getD (k + q) default := by simp [List.getD]
theorem zO {f : Jb → Jb} {L : List Jb} {k : Nat} : ∀ {k' : Nat}, k ≤ k' → k' ≤ L.length → (∀ m, k ≤ m → m < k' → f (L.getD m default) = L.getD m default) → eQ f L k = eQ f L k' := by
 intro k'
 induction k' with
 | zero =>
   intro h _ _
   obtain rfl : k = 0 := by omega
   rfl
 | succ k' ih =>
   intro h1 h2 h3
   rcases Nat.lt_or_ge k' k with h4 | h4
   ·obtain rfl : k = k' + 1 := by omega
    rfl
   ·rw [ih h4 (by omega) fun m a b => h3 m a (by omega)]
    exact nK (by omega) (h3 k' h4 (by omega))
theorem wN {t : Int} {j : Jb} (h : ¬ (j.st = 3 ∧ j.fin = t)) : aU t j = j := if_neg h
theorem Cm {t : Int} {j : Jb} (h : j.st = 3 ∧ j.fin = t) : aU t j = j.setSt 6 := if_pos h
def jE (M : Md) (k : Nat) : Md := { M with L := eQ (aU M.now) M.L k }
section
variable {M : Md}
theorem xQ (k : Nat) : (jE M k).L.length = M.L.length := oW M.L k
theorem RJ : jE M M.L.length = { M with L := M.L.map (aU M.now) } := by unfold jE; rw [rO]
theorem OB : jE M 0 = M := by unfold jE eQ; simp
theorem RL (h : aF M) (h1 : 1 ≤ M.dr.length) (h2 : M.L.length ≤ 900) {f0 : Int → Int} (hf : ∀ t, M.now ≤ t → 0 ≤ f0 t ∧ f0 t ≤ 64) : PK { ah M with f := f0 } := by
 have := fq h h1 h2
 exact ⟨this.now, this.few, this.st, this.lim, this.rz, hf⟩
theorem Gq {x y : Jb} (h : x.id ≠ y.id) (hn : aV y x = false) : aV x y = true := by
 unfold aV at *
 simp only [Bool.or_eq_false_iff, Bool.and_eq_false_iff, decide_eq_false_iff_not, Bool.or_eq_true, Bool.and_eq_true, decide_eq_true_eq] at *
 omega
theorem Ji {L : List Jb} {now : Int} {f : Nat} (hd : dA now (L.getD f default) = true) (hf : ∀ q, q < L.length → q ≠ f → dA now (L.getD q default) = true → aV (L.getD f default) (L.getD q default) = true) :
 ∀ k, k ≤ L.length → f < k → iG L now k = f := by
 have sp : ∀ q, dA now (L.getD q default) = true ↔ (aj (L.getD q default) = true ∧ (L.getD q default).aN = now) := fun q => by unfold dA; simp
 intro k
 induction k with
 | zero => intro _ h; omega
 | succ k ih =>
   intro hk ZV
   unfold iG
   rcases Nat.lt_or_ge f k with h1 | h1
   ·rw [ih (by omega) h1, if_neg]
    rintro ⟨h2, h3, h4⟩
    have h5 := hf k (by omega) (by omega) ((sp k).2 ⟨h2, h3⟩)
    rcases h4 with h4 | h4
    ·omega
    ·rw [Int.toNat_natCast] at h4
     have := GU h5
     rw [this] at h4
     cases h4
   ·obtain rfl : f = k := by omega
    obtain ⟨h2, h3⟩ := (sp f).1 hd
    rw [if_pos]
    refine ⟨h2, h3, ?_⟩
    rcases nG L now f with ⟨h4, _⟩ | ⟨q, h4, h5, h6⟩
    ·exact .inl h4
    ·refine .inr ?_
     rw [h4, Int.toNat_natCast]
     exact hf q (by omega) (by omega) h6
theorem Li {f : Nat} (hfl : f < M.L.length) (hd : dA M.now (M.L.getD f default) = true) (hf : ∀ q, q < M.L.length → q ≠ f → dA M.now (M.L.getD q default) = true → aV (M.L.getD f default) (M.L.getD q default) = true) : firstM M = f :=
 Ji hd hf _ (Nat.le_refl _) hfl
theorem Dh (n : Nat) (h : ∀ q, q < M.L.length → dA M.now (M.L.getD q default) = false) : startGo n M = M := by
 have hf : ¬ 0 ≤ firstM M := by
  unfold firstM
  rcases nG M.L M.now M.L.length with ⟨h4, _⟩ | ⟨q, h4, h5, h6⟩
  ·omega
  ·rw [h q h5] at h6; cases h6
 induction n with
 | zero => rfl
 | succ n ih => unfold startGo; rw [if_neg hf]; exact ih
structure Going (M F : Md) (r : List Jb) : Prop where
 inv : aF M
 run : ∀ j ∈ M.L, j.st = 3 → M.now < j.fin
 goes : ∃ n, startGo n M = F ∧ mK M ≤ n
 still : ∀ x ∈ r, 1 ≤ x.id ∧ x.id ≤ M.L.length ∧ M.L.getD (x.id - 1).toNat default = x
 due : ∀ q, q < M.L.length → dA M.now (M.L.getD q default) = true → M.L.getD q default ∈ r
 sorted : r.Pairwise (fun x y => aV y x = false)
 nodup : r.Pairwise (fun x y => x.id ≠ y.id)
 pend : ∀ x ∈ r, x.st = 1
theorem Going.skip {F : Md} {x : Jb} {r : List Jb} (h : Going M F (x :: r)) (hx : dA M.now x = false) : Going M F r :=
 ⟨h.inv, h.run, h.goes, fun y hy => h.still y (List.mem_cons_of_mem _ hy), fun q hq hd => by
  rcases List.mem_cons.1 (h.due q hq hd) with e | e
  ·rw [e, hx] at hd; cases hd
  ·exact e, (List.pairwise_cons.1 h.sorted).2, (List.pairwise_cons.1 h.nodup).2, fun y hy => h.pend y (List.mem_cons_of_mem _ hy)⟩
theorem Going.last {F : Md} (h : Going M F []) : F = M := by
 obtain ⟨n, h1, _⟩ := h.goes
 rw [← h1]
 refine Dh n fun q hq => ?_
 cases hd : dA M.now (M.L.getD q default) with
 | false => rfl
 | true => exact absurd (h.due q hq hd) (by simp)
theorem Going.next {F : Md} {x : Jb} {r : List Jb} (h : Going M F (x :: r)) (hx : dA M.now x = true) : (x.id - 1).toNat < M.L.length ∧ M.L.getD (x.id - 1).toNat default = x ∧ Going (aW M (x.id - 1).toNat) F r := by
 obtain ⟨i1, i2, i3⟩ := h.still x (List.mem_cons_self ..)
 obtain ⟨f, hf⟩ : ∃ f, f = (x.id - 1).toNat := ⟨_, rfl⟩
 have hfl : f < M.L.length := by omega
 rw [← hf] at i3 ⊢
 have hs := List.pairwise_cons.1 h.sorted
 have hn := List.pairwise_cons.1 h.nodup
 have hdf : dA M.now (M.L.getD f default) = true := by rw [i3]; exact hx
 have uY : firstM M = f := Li hfl hdf fun q hq hne hd => by
  have hmem := h.due q hq hd
  have RN := h.inv.ids q hq
  have I5 := h.inv.ids f hfl
  rcases List.mem_cons.1 hmem with e | e
  ·rw [e] at RN; rw [i3] at I5; omega
  ·rw [i3]
   exact Gq (hn.1 _ e) (hs.1 _ e)
 obtain ⟨n, h1, h2⟩ := h.goes
 obtain ⟨s1, s2, s3, _⟩ := h.inv.start h.run hfl hdf
 have hpos : 1 ≤ mK M := by
  have h5 := Ba (fun j => if dA M.now j = true then (1 : Int) else 0) M.L (fun j _ => by split <;> omega) (aY hfl)
  rw [if_pos hdf] at h5
  exact h5
 have hlen : (aW M f).L.length = M.L.length := by unfold aW; exact List.length_set
 have hget : ∀ q, (aW M f).L.getD q default = if f = q ∧ f < M.L.length then fT M (M.L.getD f default) else M.L.getD q default := fun q => gz
 refine ⟨hfl, i3, s1, s2, ?_, ?_, ?_, hs.2, hn.2, fun y hy => h.pend y (List.mem_cons_of_mem _ hy)⟩
 ·cases n with
  | zero => omega
  | succ n =>
    refine ⟨n, ?_, by omega⟩
    unfold startGo at h1
    rw [uY, if_pos (by omega), Int.toNat_natCast] at h1
    exact h1
 ·intro y hy
  obtain ⟨a1, a2, a3⟩ := h.still y (List.mem_cons_of_mem _ hy)
  refine ⟨a1, by rw [hlen]; exact a2, ?_⟩
  rw [hget, if_neg, a3]
  rintro ⟨e, _⟩
  exact hn.1 y hy (by omega)
 ·intro q hq hd
  rw [hlen] at hq
  rw [hget] at hd ⊢
  by_cases e : f = q ∧ f < M.L.length
  ·rw [if_pos e] at hd
   have : dA (aW M f).now (fT M (M.L.getD f default)) = false := by unfold dA aj; rfl
   rw [this] at hd; cases hd
  ·rw [if_neg e] at hd ⊢
   rcases List.mem_cons.1 (h.due q hq hd) with e2 | e2
   ·exfalso
    have RN := h.inv.ids q hq
    rw [e2] at RN
    exact e ⟨by omega, hfl⟩
   ·exact e2
end
end Go.Proofs.YtelnhablglomjaaGreat

namespace Go.Proofs.YtelnhablglomjaaGreat
open Go.RowKit Go.Lib Go.Sort
def yU (w : World) (c t d p : Nat) (v : Value) (g a : Nat) (m : Int) (P : Pg) (W : World) : Prop := ∃ v' g', CW W c t d p v' g' a m P ∧ CS w W c t d p v g v' g'
theorem yU.ext {w : World} {c t d p g a : Nat} {v : Value} {m : Int} {P : Pg} : ∀ (x y : World), Reg2.Ext x y → yU w c t d p v g a m P x → yU w c t d p v g a m P y := by
 rintro x y h ⟨v', g', h1, h2⟩
 exact ⟨v', g', h1.kept h, h2.trans (CS.of_below h)⟩
def vz (w : World) (c t d p : Nat) (v : Value) (g a : Nat) (m : Int) (P : Pg) (T : List Int) (W : World) : Prop := yU w c t d p v g a m P W ∧ iC T
theorem vz.ext {w : World} {c t d p g a : Nat} {v : Value} {m : Int} {P : Pg} {T : List Int} : ∀ (x y : World), Reg2.Ext x y → vz w c t d p v g a m P T x → vz w c t d p v g a m P T y := fun x y h hs => ⟨yU.ext x y h hs.1, hs.2⟩
section
variable {w : World} {c t d p g a : Nat} {v : Value} {m : Int} {P : Pg} {M : Md}
theorem launch_fn (h : CW w c t d p v g a m P) (hk : PK P) (j : Jb) (hj : -9223372036854775808 ≤ j.wid ∧ j.wid ≤ 9223372036854775807) {s : Nat} {T0 : List Int} (hT0 : qD P.T j.wid s 0 T0) :
 Calls Tryz.prog 160 #[.pointer (some ⟨c, 0, none⟩), .agg (ai j).toArray] w (fw w c t d p v g a m (.tuple #[]) { P with T := T0, J := cz P.J (gF P.now) j.id (fun j : Jb => decide (j.state = 1)) (mg P.now s) }) := by
 obtain ⟨wA, aJ⟩ : ∃ wA, wA = w.alloc (.cells (ai j).toArray 92) := ⟨_, rfl⟩
 have bS : Below w.heap.size w wA := by rw [aJ]; exact (Below.refl _ _).alloc (Nat.le_refl _) _
 have hsA : wA.heap.size = w.heap.size + 1 := by rw [aJ]; simp
 have oF : Hid (wA.heap[w.heap.size]? = some (.cells (ai j).toArray 92 (0, 0))) := by show _ = _; rw [aJ]; exact heap_alloc_new w _
 have iY := Lib.hid (h.kept bS)
 have hft : Hid (¬ dC c t d p v g w.heap.size) := fun hf => absurd (h.lt hf) (Nat.lt_irrefl _)
 have e0 : (ai j)[0]? = some (.int .i64 j.id) := rfl
 have e2 : (ai j)[2]? = some (.int .i64 j.wid) := rfl
 have zE := bJ
 obtain ⟨k, hk1⟩ : ∃ k, k = 10 := ⟨_, rfl⟩
 rw [← hk1] at zE
 have hk0 : ¬ k = 0 := by omega
 replace hk1 := Lib.hid hk1
 have RO := fun (W : World) (hW : CW W c t d p v g a m P) => Oq hW hk j.wid hj
 have hbe := fun (W : World) (v1 : Value) (g1 : Nat) (hL : iC T0) (hW : CW W c t d p v1 g1 a m { P with T := T0 }) => K9 hW ⟨hk.now, hk.few, hk.st, hk.lim, hL, hk.f⟩ j.id P.now s
 rw [show ({ P with T := T0 } : Pg).J = P.J from rfl] at hbe
 have ZW : Hid (∀ {T' : List Int}, iC T' → T0 = T' → iC T0) := fun h1 h2 => h2 ▸ h1
 generalize ai j = cJ at *
 generalize j.wid = jw at *
 generalize j.id = ji at *
 replace hT0 := Lib.hid hT0
 clear h
 go_enter Tryz.func160, Tryz.ntmps160
 go_wp2_with fail
 rw [← aJ]
 replace aJ := Lib.hid aJ
 refine Reg2.rM 11 31 [[],[af],[af,af],[af,af,af],[ae,ae,ae,ae],[ae,ae,ae,ae,af],[af,af,af,af,af,af],[af,af,af,af,af,af,af],[af,af,af,af,af,af,af,af],[af,af,af,af,af,af,af,af,ae],[af,af,af,af,af,af,af,af,af,ae]] [0, 0, 0, 2, 0, 2, 3, 0, 0, 0, 0]
  [.pure, .pure, .pure, .pinned Unit () (fun _ => .pointer (some ⟨d, 0, none⟩)) (fun _ _ => True), .pure, .pinned Unit () (fun _ => .int .i64 jw) (fun _ _ => True), .major Unit () (fun _ => .tuple #[.int .u64 s, .int .i64 0]), .pure, .pure, .pure, .pure]
  (fun _ => True) (fun vs W => match vs with | [] => Below wA.heap.size wA W | _ :: _ => (vz wA c t d p v g a m { P with T := T0 } T0) W) (fun _ _ => True) (by kernel_rfl) (by kernel_rfl) rfl rfl (fun vs a b h hs => by cases vs with | nil => exact Below.trans hs (h.mono (Below.size hs)) | cons v vs => exact vz.ext a b h hs) ?_ ?_ ?_ ?_ ?_ ?_
 ·intro a b he hb; trivial
 ·intro a b he hb; trivial
 ·exact ⟨trivial, trivial, trivial, ⟨fun _ _ _ _ _ => trivial, fun _ _ _ _ _ => trivial⟩, trivial, ⟨fun _ _ _ _ _ => trivial, fun _ _ _ _ _ => trivial⟩, trivial, trivial, trivial, trivial, trivial, trivial⟩
 ·trivial
 ·exact ⟨rfl, rfl, rfl, Nat.le_refl _, fun _ _ => rfl⟩
 dsimp only [Reg2.mk, List.zip, List.zipWith, List.take]
 repeat (refine' Reg2.ak _ (by rfl) (fun wz => ?_) ?_; rotate_left; (go_simp; first | rfl | rw [if_neg (by omega)]); simp only [Act.put, xA, xB, xC, xD, xE, id])
 refine Reg2.pp (fun wz _ hI hF => ?_) (fun r3 => ?_) (by rfl)
 ·have c0 := (iY.out.kept hI).c1
  go_wp2_with fail
  first | exact ⟨_, rfl, rfl, Reg2.Ext.refl _⟩ | exact ⟨_, rfl, ⟨(), rfl, trivial⟩, Reg2.Ext.refl _⟩
 simp only [Act.put, xA, xB, xC, xD, xE, id]
 repeat (refine' Reg2.ak _ (by rfl) (fun wz => ?_) ?_; rotate_left; (go_simp; first | rfl | rw [if_neg (by omega)]); simp only [Act.put, xA, xB, xC, xD, xE, id])
 refine Reg2.pp (fun wz _ hI hF => ?_) (fun r5 => ?_) (by rfl)
 ·have q0 : wz.cell? ⟨w.heap.size, 2, none⟩ = some (.int .i64 jw) := by simp [World.cell?, (hI.block _ (aD oF.out)).trans oF.out, e2]
  go_wp2_with fail
  first | exact ⟨_, rfl, rfl, Reg2.Ext.refl _⟩ | exact ⟨_, rfl, ⟨(), rfl, trivial⟩, Reg2.Ext.refl _⟩
 simp only [Act.put, xA, xB, xC, xD, xE, id]
 refine Reg2.pj (fun wz _ hI hF => ?_) (fun r6 => ?_) (by rfl)
 ·go_wp2_with (go_at_call 167; go_must (refine (RO wz (iY.out.kept hI)).mono ?_); rintro e w' ⟨s1, x1, T', hT, hL, rfl, v4, g4, p9, bM⟩)
  obtain ⟨rfl, rfl, rfl⟩ := hT0.out.uniq hT
  have hpost : vz wA c t d p v g a m { P with T := T0 } T0 w' := ⟨⟨v4, g4, p9, (CS.of_below hI).trans bM⟩, hL⟩
  exact ⟨_, rfl, ⟨⟨(), rfl⟩, hpost⟩, trivial⟩
 simp only [Act.put, xA, xB, xC, xD, xE, id]
 repeat (refine' Reg2.ak _ (by rfl) (fun wz => ?_) ?_; rotate_left; (go_simp; first | rfl | rw [if_neg (by omega)]); simp only [Act.put, xA, xB, xC, xD, xE, id])
 refine Reg2.aA ?_
 intro w7 _ tq kV
 clear kV
 dsimp only [List.drop]
 obtain ⟨⟨v7, g7, Ah, gM⟩, hL7⟩ : yU wA c t d p v g a m { P with T := T0 } w7 ∧ iC T0 := tq
 have Ai : Hid (w7.heap[w.heap.size]? = some (.cells cJ.toArray 92 (0, 0))) := (gM.heap (aD oF.out) hft.out).trans oF.out
 replace Ah := Lib.hid Ah
 go_wp2_with fail
 refine Reg2.ro w7 12 31 [.p 0, .p 1, .p 3, .m 7, .p 0, .m 16, .p 0, .p 64, .p 192, .m 448, .m 960, .p 0] [.pointer (some ⟨t, 0, none⟩), .int .i64 ji, .pointer (some ⟨p, 0, none⟩), .int .i64 P.now] (by kernel_rfl) (by kernel_rfl) rfl rfl ⟨rfl, rfl, rfl, Nat.le_refl _, fun _ _ => rfl⟩ ?_
 dsimp only [Reg2.gU]
 repeat ((first
  | (refine' Reg2.ak _ (by rfl) (fun wz => ?_) ?_; rotate_left; (go_simp; first | rfl | rw [if_neg (by omega)]))
  | (refine Reg2.au (by rfl) (fun wz hI hF => ?_) (fun _ => ?_)
     ·unfold Reg2.One
      have c0 := (Ah.out.kept hI).c0
      have q0 : wz.cell? ⟨w.heap.size, 0, none⟩ = some (.int .i64 ji) := by simp [World.cell?, (hI.block _ (aD Ai.out)).trans Ai.out, e0]
      have UR := (Ah.out.kept hI).c2
      go_wp2_with fail
      first | exact ⟨_, rfl, rfl, Reg2.Ext.refl _⟩ | exact ⟨_, rfl, ⟨(), rfl, trivial⟩, Reg2.Ext.refl _⟩)); simp only [Act.put, xA, xB, xC, xD, xE, id])
 refine Reg2.pm (fun wz hI hF => ?_) (fun Bz => ?_) (by rfl)
 ·go_wp2_with (go_at_call 95; go_must (refine (gK (Ah.out.kept hI)).mono ?_); rintro e w' ⟨rfl, rfl⟩)
  first | exact ⟨_, rfl, rfl, Reg2.Ext.refl _⟩ | exact ⟨_, rfl, ⟨(), rfl, trivial⟩, Reg2.Ext.refl _⟩
 simp only [Act.put, xA, xB, xC, xD, xE, id]
 repeat (refine' Reg2.ak _ (by rfl) (fun wz => ?_) ?_; rotate_left; (go_simp; first | rfl | rw [if_neg (by omega)]); simp only [Act.put, xA, xB, xC, xD, xE, id])
 refine Reg2.aA ?_
 intro w8 Xx _ dY
 clear dY
 dsimp only [List.drop]
 have VT := Ah.out.kept Xx
 have pY := hbe w8 v7 g7 hL7 VT
 go_wp2_with fail
 go_at_call 168
 refine pY.mono ?_
 clear pY
 rintro e w9 ⟨rfl, v9, g9, Jj, gy⟩
 have hfin := (((CS.of_below bS : CS w wA c t d p v g v g).trans gM).trans (CS.of_below Xx)).trans gy
 go_wp2_with fail
 go_end0
 exact ⟨rfl, v9, g9, Jj, hfin⟩
theorem boxed (wr : World) (x : Jb) : Sem.run Tryz.prog (storeCells ⟨wr.heap.size, 0, none⟩ (ai x) 0) (wr.alloc (.cells #[.int .i64 0, .int .i64 0, .int .i64 0, .int .i64 0, .int .i64 0, .int .i64 0, .int .i64 0, .int .i64 0, .int .i64 0, .int .u64 0] 92)) = .ok () (wr.alloc (.cells (ai x).toArray 92)) :=
 dE wr wr.heap.size (ai x) (ai iD) 92 rfl rfl (dJ x)
theorem nM.off {w w1 : World} {gb off : Nat} {l : List Jb} {v1 : Value} {g1 : Nat} (hJ : nM w gb off l) (hs : CS w w1 c t d p v g v1 g1) (hg : ¬ dC c t d p v g gb) : nM w1 gb off l := by
 have hb : w1.heap[gb]? = w.heap[gb]? := hs.heap hJ.1 hg
 exact ⟨Nat.lt_of_lt_of_le hJ.1 hs.off.size, fun i s j u hi hj => by
  have := hJ.2 i s j u hi hj
  simp only [World.cell?, World.frozen?, hb] at this ⊢
  exact this⟩
theorem Lj (f0 : Int → Int) (h : CW w c t d p v g a m { ah M with f := f0 }) (hI : aF M) (h1 : 1 ≤ M.dr.length) (hll : M.L.length ≤ 900) (hf0 : ∀ u, M.now ≤ u → 0 ≤ f0 u ∧ f0 u ≤ 64) :
 Calls Tryz.prog 139 #[.pointer (some ⟨c, 0, none⟩), .int .i64 M.now] w (fw w c t d p v g a m (.tuple #[]) { ah ({ M with L := M.L.map (aU M.now) } : Md) with f := f0 }) := by
 have zE := bJ
 obtain ⟨k, hk⟩ : ∃ k, k = 10 := ⟨_, rfl⟩
 rw [← hk] at zE
 have hk0 : ¬ k = 0 := by omega
 replace hk := Lib.hid hk
 obtain ⟨wA, aJ⟩ : ∃ wA, wA = w.alloc (.cells #[.int .i64 3] 3) := ⟨_, rfl⟩
 have bS : Below w.heap.size w wA := by rw [aJ]; exact (Below.refl _ _).alloc (Nat.le_refl _) _
 have Ll : aB enc1 1 wA (.slice (some ⟨w.heap.size, 0, none⟩) 1 1) [3] := by rw [aJ]; exact gB w w.heap.size [3] rfl (by decide)
 have iY := h.kept bS
 have hin := wE iY.eU (by show M.L.length ≤ 1000; omega) Ll
 rw [show ({ ah M with f := f0 } : Pg).J = M.L from rfl] at hin
 have c0 := h.c0
 have hlt : Hid (∀ k, dC c t d p v g k → k < w.heap.size) := fun k hk => h.lt hk
 have MO : Hid (∀ {W : World}, CW W c t d p v g a m { ah M with f := f0 } → CW W c t d p v g a m { ah (jE M 0) with f := f0 }) := fun hW => by rw [OB]; exact hW
 generalize hL1 : (M.L.filter fun j : Jb => decide (j.state ∈ [(3 : Int)])) = l at *
 have hn1 : l.length ≤ 900 := by rw [← hL1]; exact Nat.le_trans (List.length_filter_le _ _) hll
 obtain ⟨tn, htn⟩ : ∃ tn, tn = M.now := ⟨_, rfl⟩
 rw [← htn]
 have htb := hI.mb.now
 rw [← htn] at htb
 replace htn := Lib.hid htn
 replace hL1 := Lib.hid hL1
 rw [aJ] at hin
 clear h
 go_enter Tryz.func139, Tryz.ntmps139
 go_wp2_with fail
 go_at_call 125
 refine hin.mono ?_
 clear hin c0
 rw [← aJ]
 rintro e w0 ⟨u, rfl, ho, hb0⟩
 have hbw0 : Below w.heap.size w w0 := bS.trans (hb0.mono bS.size)
 have hC0 := MO.out (iY.kept hb0)
 replace aJ := Lib.hid aJ
 have hsh : Hid (∀ {ao : Option Addr} {n cap : Nat}, u = .slice ao n cap → 0 < l.length → ∃ g0, ao = some ⟨g0, 0, none⟩ ∧ wA.heap.size ≤ g0) := fun {ao n cap} e hp => by
  obtain ⟨Nb, cap', e0, hp'⟩ := gH ho
  obtain ⟨g0, e4⟩ := hp' hp
  subst e4
  rw [e] at e0
  injection e0 with e0 _ _
  exact ⟨g0, e0, (ho.lt g0 (by rw [e, e0]; rfl)).1⟩
 have hr := aB.jk ho ax rfl rfl
 obtain ⟨ao, cap, rfl, q1, q2, q3⟩ := hr
 obtain ⟨n, hn⟩ : ∃ n, l.length = n := ⟨_, rfl⟩
 rw [hn] at q1 q3 hn1 ho ⊢
 have HQ : Hid (0 < n → ∃ b, ao = some ⟨b, 0, none⟩ ∧ nM w0 b 0 l ∧ w.heap.size ≤ b) := fun hp => by
  obtain ⟨b, off, e1, e2, e3⟩ := q3 hp
  obtain ⟨g0, e4, e5⟩ := hsh.out rfl (by have := hn; omega)
  rw [e4] at e1
  injection e1 with e1
  injection e1 with e6 e7
  subst e6; subst e7
  exact ⟨g0, e4, ⟨e2, e3⟩, by have := bS.size; omega⟩
 have EO : cap ≤ 9223372036854775807 := by unfold maxLen at q2; omega
 replace hn := Lib.hid hn
 clear q2 q3 ho hb0 iY
 go_wp2_with fail
 go_loopw [13] (fun ii wr => ∃ (i kk : Nat) (vr : Value) (gr : Nat), i ≤ n ∧ ii = .int .i64 i ∧ CW wr c t d p vr gr a m { ah (jE M kk) with f := f0 } ∧ CS w0 wr c t d p v g vr gr ∧ Hid (kk ≤ M.L.length ∧ (M.L.drop kk).filter (fun j : Jb => decide (j.state ∈ [(3 : Int)])) = l.drop i)) (fun ii _ => n - (intOf ii).toNat)
 case atStart => exact ⟨0, 0, v, g, Nat.zero_le _, rfl, hC0, CS.refl _, Lib.hid ⟨Nat.zero_le _, by rw [List.drop_zero, List.drop_zero, hL1.out]⟩⟩
 case round =>
  obtain ⟨i, kk, vr, gr, hin, rfl, Gs, hSr, hpos⟩ := hrel
  by_cases hlt2 : i < n
  ·have b2 : (i : Int) < (n : Int) := by omega
   have wi : IntKind.i64.wrap ((i : Int) + 1) = (i : Int) + 1 := by rw [IntKind.wrap_i64]; omega
   obtain ⟨gb, rfl, hJ, hgb⟩ := HQ.out (by omega)
   have hgf : ¬ dC c t d p v g gb := fun hf => absurd (hlt.out gb hf) (by omega)
   have sW := hJ.off hSr hgf
   have iM : i < l.length := by have := hn.out; omega
   have LI := sW.load hk.out iM
   obtain ⟨x, hx⟩ : ∃ x, x = l[i]! := ⟨_, rfl⟩
   rw [← hx, Nat.zero_add] at LI
   replace hx := Lib.hid hx
   have hdrop : l.drop i = x :: l.drop (i + 1) := by rw [hx.out, getElem!_pos l i iM]; exact List.drop_eq_getElem_cons iM
   obtain ⟨hkk, hfil⟩ := hpos.out
   rw [hdrop] at hfil
   obtain ⟨q, a1, a2, a3, a4, a5⟩ := Gp hfil
   have hq : kk + q < M.L.length := by rw [List.length_drop] at a1; omega
   rw [getD_drop] at a2
   have RP : eQ (aU M.now) M.L kk = eQ (aU M.now) M.L (kk + q) := zO (by omega) (by omega) fun mm b1 b2 => wN fun hh => by
    have := a3 (mm - kk) (by omega)
    rw [getD_drop, show kk + (mm - kk) = mm by omega] at this
    exact absurd this (by show ¬ (decide ((M.L.getD mm default).state ∈ [(3 : Int)]) = false); rw [show (M.L.getD mm default).state = 3 from hh.1]; decide)
   have hov : jE M kk = jE M (kk + q) := by unfold jE; rw [RP]
   rw [hov] at Gs
   have hx3 : x.st = 3 := (show x.state = 3 by simpa using a5)
   have Gt : (M.L.drop (kk + q + 1)).filter (fun j : Jb => decide (j.state ∈ [(3 : Int)])) = l.drop (i + 1) := by rw [← a4, List.drop_drop]; rfl
   have RQ := hI.Ar (kk + q) (by omega)
   have UT := hI.Ar (kk + q + 1) (by omega)
   have yV : (jE M (kk + q)).L.getD (kk + q) default = x := (qP hq).trans a2
   have hxm := aY hq
   rw [a2] at hxm
   have Jk := hI.ids (kk + q) hq
   rw [a2] at Jk
   have Mo := hI.mb.bQ x hxm
   have Xy := Lib.hid (RL RQ h1 (by show (jE M (kk + q)).L.length ≤ 900; rw [xQ]; exact hll) hf0)
   have VW := Lib.hid (RL UT h1 (by show (jE M (kk + q + 1)).L.length ≤ 900; rw [xQ]; exact hll) hf0)
   have XA := Lib.hid (IV (M := jE M (kk + q)) RQ h1)
   replace Gt := Lib.hid Gt
   replace yV := Lib.hid yV
   replace a2 := Lib.hid a2
   replace Jk := Lib.hid Jk
   replace RQ := Lib.hid RQ
   clear hfil hdrop a3 a4 a5 a1 RP hpos hov UT
   have lI := ax x
   rw [← hk.out] at lI
   have e0 : (ai x)[0]? = some (.int .i64 x.id) := rfl
   have e7 : (ai x)[7]? = some (.int .i64 x.fin) := rfl
   have e9 : (ai x)[9]? = some (.int .u64 x.bQ) := rfl
   have st := boxed wr x
   obtain ⟨w1, hw1⟩ : ∃ w1, w1 = wr.alloc (.cells (ai x).toArray 92) := ⟨_, rfl⟩
   have hb1 : Below wr.heap.size wr w1 := by rw [hw1]; exact (Below.refl _ _).alloc (Nat.le_refl _) _
   have hz1 : w1.heap[wr.heap.size]? = some (.cells (ai x).toArray 92 (0, 0)) := by rw [hw1]; exact heap_alloc_new wr _
   have hft : ¬ dC c t d p vr gr wr.heap.size := fun hf => absurd (Gs.lt hf) (Nat.lt_irrefl _)
   have c7 : w1.cell? ⟨wr.heap.size, 7, none⟩ = some (.int .i64 x.fin) := by simp [World.cell?, hz1, e7]
   replace hz1 := Lib.hid hz1
   have qH := Lib.hid (Gs.kept hb1)
   have hS1 := hSr.trans (CS.of_below hb1)
   generalize hcI : ai x = cI at *
   replace hcI := Lib.hid hcI
   rw [← hw1] at st
   replace hw1 := Lib.hid hw1
   by_cases hfin : x.fin = tn
   ·have D5 : x.st = 3 ∧ x.fin = M.now := ⟨hx3, hfin.trans htn.out⟩
    have d1 : (x.fin == tn) = true := by simp [hfin]
    have hset : Hid (cz (jE M (kk + q)).L (bB 6 tn) x.id (fe 6) (bR 6 tn) = (jE M (kk + q + 1)).L) := by
     have hle := xQ (M := M) (kk + q)
     have FM : bN (jE M (kk + q)).L (bB 6 tn) x.id (fe 6) = 0 := by
      have e1 : bB 6 tn = 0 := by unfold bB; rw [if_neg (by decide), if_neg (by decide), if_neg (by omega), if_neg (by omega)]
      unfold bN
      rw [Jk.out, e1, if_neg (by decide), if_neg (by omega), if_neg (by omega), show ((((kk + q : Nat) : Int)) + 1 - 1).toNat = kk + q by omega, if_pos]
      rw [getElem!_pos _ _ (by omega)]
      have : (jE M (kk + q)).L[kk + q]'(by omega) = x := by rw [← yV.out]; simp [List.getD, show kk + q < (jE M (kk + q)).L.length by omega]
      rw [this]
      unfold fe
      rw [show x.state = 3 from hx3]
      rfl
     show cz _ _ _ _ _ = _
     unfold cz
     rw [if_pos FM, Jk.out, show ((((kk + q : Nat) : Int)) + 1 - 1).toNat = kk + q by omega, getElem!_pos _ _ (by omega)]
     have e2 : (jE M (kk + q)).L[kk + q]'(by omega) = x := by rw [← yV.out]; simp [List.getD, show kk + q < (jE M (kk + q)).L.length by omega]
     rw [e2]
     have e3 : bR 6 tn x = aU M.now (M.L.getD (kk + q) default) := by
      rw [a2.out, Cm D5]
      have h8 := hI.rest x hxm (by omega)
      obtain ⟨x1, x2, x3, x4, x5, x6, x7, x8, x9, x0⟩ := x
      obtain rfl : x6 = 3 := hx3
      obtain rfl : x8 = tn := hfin
      obtain rfl : x9 = -1 := h8
      rfl
     rw [e3]
     exact jq hq
    have hfi := fun (W : World) (hW : CW W c t d p vr gr a m { ah (jE M (kk + q)) with f := f0 }) => uE hW Xy.out x.id 6 tn
    rw [show ({ ah (jE M (kk + q)) with f := f0 } : Pg).J = (jE M (kk + q)).L from rfl, hset.out] at hfi
    have hgi := fun (W : World) (v1 : Value) (g1 : Nat) (hW : CW W c t d p v1 g1 a m { ({ ah (jE M (kk + q)) with f := f0 } : Pg) with J := (jE M (kk + q + 1)).L }) => Em hW (by
     have h9 := VW.out
     exact ⟨h9.now, h9.few, h9.st, h9.lim, XA.out, h9.f⟩) x.bQ.toNat (by omega)
    rw [show ((x.bQ.toNat : Nat) : Int) = x.bQ by omega] at hgi
    have hge : Hid (∀ {n1 x1 : Int} {T' : List Int}, BK (dh (jE M (kk + q))) x.bQ.toNat n1 x1 T' → T' = dh (jE M (kk + q + 1))) := fun {n1 x1 T'} hG => by
     have h8 := En (M := jE M (kk + q)) RQ.out (i := kk + q) (y := aU M.now (M.L.getD (kk + q) default)) (by rw [xQ]; exact hq) (by rw [yV.out]; exact hx3) (by rw [a2.out, Cm D5]; show (6 : Int) ≠ 3; decide) (n := n1) (x := x1) (T' := T') (by rw [yV.out]; exact hG)
     rw [h8.2.2]
     have e4 : ({ jE M (kk + q) with L := (jE M (kk + q)).L.set (kk + q) (aU M.now (M.L.getD (kk + q) default)) } : Md) = jE M (kk + q + 1) := by unfold jE; rw [jq hq]
     rw [e4]
    replace hfin := Lib.hid hfin
    go_wp2_with fail
    refine Reg2.ro w1 7 37 [.p 0, .p 1, .p 3, .m 7, .p 0, .m 16, .p 0] [.pointer (some ⟨t, 0, none⟩), .int .i64 x.id] (by kernel_rfl) (by kernel_rfl) rfl rfl ⟨rfl, rfl, rfl, Nat.le_refl _, fun _ _ => rfl⟩ ?_
    dsimp only [Reg2.gU]
    repeat ((first
     | (refine' Reg2.ak _ (by rfl) (fun wz => ?_) ?_; rotate_left; (go_simp; first | rfl | rw [if_neg (by omega)]))
     | (refine Reg2.au (by rfl) (fun wz hI hF => ?_) (fun _ => ?_)
        ·unfold Reg2.One
         have c0 := (qH.out.kept hI).c0
         have q0 : wz.cell? ⟨wr.heap.size, 0, none⟩ = some (.int .i64 x.id) := by simp [World.cell?, (hI.block _ (aD hz1.out)).trans hz1.out, e0]
         go_wp2_with fail
         first | exact ⟨_, rfl, rfl, Reg2.Ext.refl _⟩ | exact ⟨_, rfl, ⟨(), rfl, trivial⟩, Reg2.Ext.refl _⟩)); simp only [Act.put, xA, xB, xC, xD, xE, id])
    refine Reg2.aA ?_
    intro w4 HI4 _ dY
    clear dY
    dsimp only [List.drop]
    have p9 := qH.out.kept HI4
    have XB := hfi w4 p9
    have Ag : w4.heap[wr.heap.size]? = some (.cells cI.toArray 92 (0, 0)) := (HI4.block _ (aD hz1.out)).trans hz1.out
    go_wp2_with fail
    go_at_call 100
    refine XB.mono ?_
    clear XB
    rintro e w5 ⟨rfl, v5, g5, gJ, hS5⟩
    have Ig : Hid (w5.heap[wr.heap.size]? = some (.cells cI.toArray 92 (0, 0))) := (hS5.heap (aD Ag) hft).trans Ag
    replace gJ := Lib.hid gJ
    go_wp2_with fail
    refine Reg2.ro w5 6 37 [.p 0, .p 1, .p 3, .m 7, .p 0, .m 16] [.pointer (some ⟨d, 0, none⟩), .int .u64 x.bQ] (by kernel_rfl) (by kernel_rfl) rfl rfl ⟨rfl, rfl, rfl, Nat.le_refl _, fun _ _ => rfl⟩ ?_
    dsimp only [Reg2.gU]
    repeat ((first
     | (refine' Reg2.ak _ (by rfl) (fun wz => ?_) ?_; rotate_left; (go_simp; first | rfl | rw [if_neg (by omega)]))
     | (refine Reg2.au (by rfl) (fun wz hI hF => ?_) (fun _ => ?_)
        ·unfold Reg2.One
         have c0 := (gJ.out.kept hI).c1
         have q0 : wz.cell? ⟨wr.heap.size, 9, none⟩ = some (.int .u64 x.bQ) := by simp [World.cell?, (hI.block _ (aD Ig.out)).trans Ig.out, e9]
         go_wp2_with fail
         first | exact ⟨_, rfl, rfl, Reg2.Ext.refl _⟩ | exact ⟨_, rfl, ⟨(), rfl, trivial⟩, Reg2.Ext.refl _⟩)); simp only [Act.put, xA, xB, xC, xD, xE, id])
    refine Reg2.aA ?_
    intro w6 I6 _ dY
    clear dY
    dsimp only [List.drop]
    have I7 := gJ.out.kept I6
    have XC := hgi w6 v5 g5 I7
    go_wp2_with fail
    go_at_call 129
    refine XC.mono ?_
    clear XC
    rintro e w7 ⟨n1, x1, T', hG, _, rfl, v7, g7, Ah, gM⟩
    obtain rfl := hge.out hG
    have gy := (hS1.trans (CS.of_below HI4)).trans (hS5.trans ((CS.of_below I6).trans gM))
    go_wp2_with fail
    go_roundw
    case rel => exact ⟨i + 1, kk + q + 1, v7, g7, by omega, by go_num, Ah, gy, Lib.hid ⟨by omega, Gt.out⟩⟩
    case measure => simp [intOf]; omega
   ·have d1 : (x.fin == tn) = false := by simp [hfin]
    have hsame : jE M (kk + q) = jE M (kk + q + 1) := by
     unfold jE
     rw [nK hq (wN fun hh => hfin (by rw [← a2.out]; exact hh.2.trans htn.out.symm))]
    have Jj := qH.out
    rw [hsame] at Jj
    go_wp2_with fail
    go_roundw
    case rel => exact ⟨i + 1, kk + q + 1, vr, gr, by omega, by go_num, Jj, hS1, Lib.hid ⟨by omega, Gt.out⟩⟩
    case measure => simp [intOf]; omega
  ·have e : i = n := by omega
   subst e
   obtain ⟨hkk, hfil⟩ := hpos.out
   have hend : l.drop i = [] := List.drop_eq_nil_of_le (by have := hn.out; omega)
   rw [hend] at hfil
   have hall : jE M kk = { M with L := M.L.map (aU M.now) } := by
    rw [← RJ]
    unfold jE
    rw [zO (k' := M.L.length) hkk (Nat.le_refl _) fun mm b1 b2 => wN fun hh => by
     have := filter_none hfil (mm - kk) (by rw [List.length_drop]; omega)
     rw [getD_drop, show kk + (mm - kk) = mm by omega] at this
     exact absurd this (by show ¬ (decide ((M.L.getD mm default).state ∈ [(3 : Int)]) = false); rw [show (M.L.getD mm default).state = 3 from hh.1]; decide)]
   rw [hall] at Gs
   have hfin := (CS.of_below hbw0 : CS w w0 c t d p v g v g).trans hSr
   go_wp2_with fail
   go_end0
   have e9 := htn.out
   clear htn
   subst e9
   exact ⟨rfl, vr, gr, Gs, hfin⟩
end
end Go.Proofs.YtelnhablglomjaaGreat

namespace Go.Proofs.YtelnhablglomjaaGreat
open Go.RowKit Go.Lib Go.Sort
theorem OC {w : World} {base base' : Nat} {e : TypeId} {sz n : Nat} {v : Value} {xs : List Value} (h : w.ownsRow base e sz v n xs) (hb : base' ≤ base) : w.ownsRow base' e sz v n xs := by
 obtain ⟨h0, h1⟩ := h
 refine ⟨h0, ?_⟩
 rcases h1 with h1 | ⟨g, cap, cur, e0, h2, h3, h4⟩
 ·exact .inl h1
 ·exact .inr ⟨g, cap, cur, e0, by omega, h3, h4⟩
theorem OD (v : Value) (l : List Jb) (w : World) (hr : aB ai 10 w v l) (hl : l.length ≤ 1000) : Calls Tryz.prog 166 #[v] w fun e w' => ∃ (v' : Value) (r : List Jb), e = .returned v' ∧ w'.ownsRow w.heap.size 92 10 v' r.length (r.flatMap ai) ∧ r.length = l.length ∧ r.Perm l ∧ r.Pairwise (fun x y => aV y x = false) ∧ Below w.heap.size w w' := by
 have hc := D7 hr (by omega)
 have hso := fun (v : Value) (w1 : World) (h : w1.ownsRow w.heap.size 92 10 v l.length (l.flatMap ai)) (hb : w.heap.size ≤ w1.heap.size) => NH v l w1 h (by omega) hb
 clear hr
 replace hso := Lib.hid hso
 go_enter Tryz.func166, Tryz.ntmps166
 go_wp2_with fail
 go_at_call 50
 refine hc.mono ?_
 clear hc
 rintro e w1 ⟨v1, rfl, ho, hb⟩
 have hs := hso.out v1 w1 ho hb.size
 clear hso ho
 go_wp2_with fail
 go_at_call 172
 refine hs.mono ?_
 clear hs
 rintro e w2 ⟨rfl, r, ⟨h1, _, h2, h5⟩, h3, h4⟩
 have hfin : Hid (∃ (v' : Value) (r : List Jb), Ending.returned v1 = .returned v' ∧ w2.ownsRow w.heap.size 92 10 v' r.length (r.flatMap ai) ∧ r.length = l.length ∧ r.Perm l ∧ r.Pairwise (fun x y => aV y x = false) ∧ Below w.heap.size w w2) :=
  ⟨v1, r, rfl, h3, h1, h2, h5, hb.trans h4⟩
 clear h1 h2 h3 h4 h5 hb
 go_wp2_with fail
 go_ret
 exact hfin.out
section
variable {w w' : World} {p : Nat} {v : Value} {L : List Jb}
theorem Gu (h : TV w p v L) (hL : L.length ≤ 1000) : Calls Tryz.prog 159 #[.pointer (some ⟨p, 0, none⟩)] w fun e w' => ∃ (v' : Value) (r : List Jb), e = .returned v' ∧ w'.ownsRow w.heap.size 92 10 v' r.length (r.flatMap ai) ∧ r.Perm (L.filter fun j => decide (j.state = 1)) ∧ r.Pairwise (fun x y => aV y x = false) ∧ Below w.heap.size w w' := by
 have hb1 := (Below.refl w.heap.size w).alloc (Nat.le_refl _) (.cells #[.int .i64 1] 3)
 have hr : aB enc1 1 (w.alloc (.cells #[.int .i64 1] 3)) (.slice (some ⟨w.heap.size, 0, none⟩) 1 1) [1] := gB w w.heap.size [1] rfl (by decide)
 have hI := wE (h.kept hb1) hL hr
 have ef : (L.filter fun j => decide (j.state ∈ ([1] : List Int))) = L.filter fun j => decide (j.state = 1) := by
  congr 1
  funext j
  simp
 rw [ef] at hI
 have hF : (L.filter fun j => decide (j.state = 1)).length ≤ 1000 := Nat.le_trans (List.length_filter_le _ _) hL
 clear ef h hr
 generalize (L.filter fun j => decide (j.state = 1)) = F at *
 replace hb1 := Lib.hid hb1
 go_enter Tryz.func159, Tryz.ntmps159
 go_wp2_with fail
 go_at_call 125
 refine hI.mono ?_
 clear hI
 rintro e w2 ⟨v2, rfl, ho, hb⟩
 have hs := OD v2 F w2 (aB.jk ho ax rfl rfl) hF
 have hb2 := hb1.out.trans (hb.mono hb1.out.size)
 replace hb2 := Lib.hid hb2
 clear ho hb hb1
 go_wp2_with fail
 go_at_call 166
 refine hs.mono ?_
 clear hs
 rintro e w3 ⟨v3, r, rfl, h1, _, h2, h3, h4⟩
 have hfin : Hid (∃ (v' : Value) (r : List Jb), Ending.returned v3 = .returned v' ∧ w3.ownsRow w.heap.size 92 10 v' r.length (r.flatMap ai) ∧ r.Perm F ∧ r.Pairwise (fun x y => aV y x = false) ∧ Below w.heap.size w w3) := ⟨v3, r, rfl, OC h1 hb2.out.size, h2, h3, hb2.out.trans (h4.mono hb2.out.size)⟩
 clear h1 h2 h3 h4 hb2
 go_wp2_with fail
 go_ret
 exact hfin.out
end
section
variable {w : World} {c t d p g a : Nat} {v : Value} {m : Int} {M : Md}
theorem Jl (hrun : ∀ j ∈ M.L, j.st = 3 → M.now < j.fin) : aL M M.now M.dr.length = (((List.range M.dr.length).countP fun n : Nat => decide (aR M n = 1) : Nat) : Int) := by
 unfold aL
 congr 1
 refine List.countP_congr fun n hn => ?_
 have hn := List.mem_range.1 hn
 have hs := jV (M := M) hn
 unfold bU
 rcases fH M.L n with g | ⟨q, g, hq, g2⟩
 ·rw [decide_eq_true_iff, hs]
  simp [g]
 ·have hr : (M.L.getD q default).st = 3 := by unfold aH at g2; simp at g2; exact g2.1
  have := hrun _ (aY hq) hr
  rw [decide_eq_true_iff, hs, g, Int.toNat_natCast]
  have e1 : ¬ ((q : Int) < 0) := by omega
  have e2 : decide ((M.L.getD q default).fin ≤ M.now) = false := decide_eq_false (by omega)
  rw [e2, decide_eq_false e1, Bool.or_false, Bool.and_false]
  exact ⟨fun e => (nomatch e), fun e => absurd e.1 e1⟩
theorem OE (hI : aF M) (hrun : ∀ j ∈ M.L, j.st = 3 → M.now < j.fin) {f : Nat} (hf : f < M.L.length) (hd : dA M.now (M.L.getD f default) = true) : (M.L.getD f default).wid ≤ ((List.range M.dr.length).countP fun n : Nat => decide (aR M n = 1) : Nat) := by
 have hm := aY hf
 have bo := hI.one _ hm
 unfold dA at hd
 rw [Bool.and_eq_true, decide_eq_true_iff, bq] at hd
 have hpl : aj (M.L.getD f default) = true := bq.2 hd.1
 have hid := hI.ids f hf
 have hc := fun t => mR (t := t) (but := 0) hpl (by rw [hid]; omega)
 have h0 := hI.free M.now (Int.le_refl _)
 have hge := vV (L := M.L) (fun j hj => (hI.mb.wid j hj).1) M.now 0 hm
 rw [hc, if_pos (by omega)] at hge
 rw [← Jl hrun]
 unfold ay at h0
 omega
theorem Jm (hI : aF M) {f : Nat} (hf : f < M.L.length) (hs : (M.L.getD f default).st ≠ 3) (hidle : (M.L.getD f default).wid ≤ ((List.range M.dr.length).countP fun n : Nat => decide (aR M n = 1) : Nat)) : qD (dh M) (M.L.getD f default).wid (iP M (M.L.getD f default).wid) 0 (dh (aW M f)) := by
 have hw := (hI.one _ (aY hf)).1
 have hc : (M.L.getD f default).wid ≤ aO (iq (dh M)) (dh M).length := by
  rw [sD, bC]
  have e : iq (dh M) = fun n : Nat => decide (aR M n = 1) := funext vk
  rw [e]; exact hidle
 have hT : qD (dh M) (M.L.getD f default).wid (aP (iB (dh M) (M.L.getD f default).wid)) 0 (fo (dh M) (M.L.getD f default).wid) := ⟨fun h => by omega, fun _ h => by omega, fun _ _ => ⟨rfl, rfl, rfl⟩⟩
 obtain ⟨e1, _, e3⟩ := Lc hf hs hI.mb.nn hw hidle hT
 rw [e1, e3] at hT
 exact hT
theorem zP (hI : aF M) {f : Nat} (hf : f < M.L.length) (hs : (M.L.getD f default).st = 1) : cz M.L (gF M.now) (M.L.getD f default).id (fun j : Jb => decide (j.state = 1)) (mg M.now (iP M (M.L.getD f default).wid : Int)) = (aW M f).L := by
 have hid := hI.ids f hf
 have kG := hI.mb.now
 have e2 : M.L[f]! = M.L.getD f default := by rw [getElem!_pos M.L f hf]; simp [List.getD, hf]
 have FM : bN M.L (gF M.now) (M.L.getD f default).id (fun j : Jb => decide (j.state = 1)) = 0 := by
  have e1 : gF M.now = 0 := by unfold gF; rw [if_neg (by omega), if_neg (by omega)]
  unfold bN
  rw [hid, e1, if_neg (by decide), if_neg (by omega), if_neg (by omega), show ((f : Int) + 1 - 1).toNat = f by omega, e2]
  exact if_pos (decide_eq_true hs)
 unfold cz
 rw [if_pos FM, hid, show ((f : Int) + 1 - 1).toNat = f by omega, e2]
 rfl
theorem OG (f0 : Int → Int) (h : CW w c t d p v g a m { ah M with f := f0 }) (hI : aF M) (hrun : ∀ j ∈ M.L, j.st = 3 → M.now < j.fin) (n0 : Nat) (Ht : mK M ≤ n0) (h1 : 1 ≤ M.dr.length) (hll : M.L.length ≤ 900) (hf0 : ∀ u, M.now ≤ u → 0 ≤ f0 u ∧ f0 u ≤ 64) :
 Calls Tryz.prog 140 #[.pointer (some ⟨c, 0, none⟩), .int .i64 M.now] w (fw w c t d p v g a m (.tuple #[]) { ah (startGo n0 M) with f := f0 }) := by
 have zE := bJ
 obtain ⟨k, hk⟩ : ∃ k, k = 10 := ⟨_, rfl⟩
 rw [← hk] at zE
 have hk0 : ¬ k = 0 := by omega
 replace hk := Lib.hid hk
 have hwt := Gu h.eU (by show M.L.length ≤ 1000; omega)
 rw [show ({ ah M with f := f0 } : Pg).J = M.L from rfl] at hwt
 have c0 := h.c0
 have hlt : Hid (∀ k, dC c t d p v g k → k < w.heap.size) := fun k hk => h.lt hk
 have hC := Lib.hid h
 obtain ⟨tn, htn⟩ : ∃ tn, tn = M.now := ⟨_, rfl⟩
 obtain ⟨F, hF⟩ : ∃ F, F = startGo n0 M := ⟨_, rfl⟩
 rw [← hF]
 have hg0 : Hid (∀ {r : List Jb}, r.Perm (M.L.filter fun j => decide (j.state = 1)) → r.Pairwise (fun x y => aV y x = false) → Going M F r) := fun {r} hp hs => by
  have hin : ∀ x ∈ r, x ∈ M.L := fun x hx => (List.mem_filter.1 (hp.mem_iff.1 hx)).1
  refine ⟨hI, hrun, ⟨n0, hF.symm, Ht⟩, fun x hx => ?_, fun q hq hd => ?_, hs, ?_, fun x hx => by have := (List.mem_filter.1 (hp.mem_iff.1 hx)).2; exact of_decide_eq_true this⟩
  ·obtain ⟨q, hq, e⟩ := List.getElem_of_mem (hin x hx)
   have e2 : M.L.getD q default = x := by simp [List.getD, hq, e]
   have := hI.ids q hq
   rw [e2] at this
   refine ⟨by omega, by omega, ?_⟩
   rw [show (x.id - 1).toNat = q by omega]
   exact e2
  ·refine hp.mem_iff.2 (List.mem_filter.2 ⟨aY hq, ?_⟩)
   unfold dA at hd
   rw [Bool.and_eq_true] at hd
   exact decide_eq_true (bq.1 hd.1).1
  ·refine (hp.pairwise_iff (fun {x y} hxy => Ne.symm hxy)).2 (List.Pairwise.filter _ ?_)
   refine List.pairwise_iff_getElem.2 fun i q hi hq hlt2 e => ?_
   have e1 := hI.ids i hi
   have e2 := hI.ids q hq
   rw [show M.L.getD i default = M.L[i] by simp [List.getD, hi]] at e1
   rw [show M.L.getD q default = M.L[q] by simp [List.getD, hq]] at e2
   omega
 have hM : Hid (∃ N : Md, N = M) := ⟨M, rfl⟩
 have hdl : Hid (1 ≤ M.dr.length ∧ M.dr.length ≤ 64) := ⟨h1, hI.mb.nn⟩
 have hlen : (M.L.filter fun j : Jb => decide (j.state = 1)).length ≤ 900 := Nat.le_trans (List.length_filter_le _ _) hll
 rw [← htn] at hf0 ⊢
 have htb := hI.mb.now
 rw [← htn] at htb
 clear h hrun Ht
 replace hF := Lib.hid hF
 replace htn := Lib.hid htn
 go_enter Tryz.func140, Tryz.ntmps140
 go_wp2_with fail
 go_at_call 159
 refine hwt.mono ?_
 clear hwt c0
 rintro e w0 ⟨u, l, rfl, ho, hp, hs, hb0⟩
 have hG0 := hg0.out hp hs
 have hC0 := hC.out.kept hb0
 have hn1 : l.length ≤ 900 := by rw [hp.length_eq]; exact hlen
 clear hp hs hlen hg0
 have hsh : Hid (∀ {ao : Option Addr} {n cap : Nat}, u = .slice ao n cap → 0 < l.length → ∃ g0, ao = some ⟨g0, 0, none⟩ ∧ w.heap.size ≤ g0) := fun {ao n cap} e hp => by
  obtain ⟨Nb, cap', e0, hp'⟩ := gH ho
  obtain ⟨g0, e4⟩ := hp' hp
  subst e4
  rw [e] at e0
  injection e0 with e0 _ _
  exact ⟨g0, e0, (ho.lt g0 (by rw [e, e0]; rfl)).1⟩
 have hr := aB.jk ho ax rfl rfl
 obtain ⟨ao, cap, rfl, q1, q2, q3⟩ := hr
 obtain ⟨n, hn⟩ : ∃ n, l.length = n := ⟨_, rfl⟩
 rw [hn] at q1 q3 hn1 ho ⊢
 have HQ : Hid (0 < n → ∃ b, ao = some ⟨b, 0, none⟩ ∧ nM w0 b 0 l ∧ w.heap.size ≤ b) := fun hp => by
  obtain ⟨b, off, e1, e2, e3⟩ := q3 hp
  obtain ⟨g0, e4, e5⟩ := hsh.out rfl (by have := hn; omega)
  rw [e4] at e1
  injection e1 with e1
  injection e1 with e6 e7
  subst e6; subst e7
  exact ⟨g0, e4, ⟨e2, e3⟩, e5⟩
 have EO : cap ≤ 9223372036854775807 := by unfold maxLen at q2; omega
 replace hn := Lib.hid hn
 clear q2 q3 ho
 go_wp2_with fail
 go_loopw [12] (fun ii wr => ∃ (i : Nat) (N : Md) (vr : Value) (gr : Nat), i ≤ n ∧ ii = .int .i64 i ∧ CW wr c t d p vr gr a m { ah N with f := f0 } ∧ CS w0 wr c t d p v g vr gr ∧ Hid (Going N F (l.drop i) ∧ N.now = tn ∧ N.dr.length = M.dr.length ∧ N.L.length = M.L.length)) (fun ii _ => n - (intOf ii).toNat)
 case atStart => exact ⟨0, M, v, g, Nat.zero_le _, rfl, hC0, CS.refl _, Lib.hid ⟨by rw [List.drop_zero]; exact hG0, htn.out.symm, rfl, rfl⟩⟩
 case round =>
  obtain ⟨i, N, vr, gr, hin, rfl, Gs, hSr, hgo⟩ := hrel
  by_cases hlt2 : i < n
  ·have b2 : (i : Int) < (n : Int) := by omega
   have wi : IntKind.i64.wrap ((i : Int) + 1) = (i : Int) + 1 := by rw [IntKind.wrap_i64]; omega
   obtain ⟨gb, rfl, hJ, hgb⟩ := HQ.out (by omega)
   have hgf : ¬ dC c t d p v g gb := fun hf => absurd (hlt.out gb hf) (by omega)
   have sW := hJ.off hSr hgf
   have iM : i < l.length := by have := hn.out; omega
   have LI := sW.load hk.out iM
   obtain ⟨x, hx⟩ : ∃ x, x = l[i]! := ⟨_, rfl⟩
   rw [← hx, Nat.zero_add] at LI
   replace hx := Lib.hid hx
   have hdrop : l.drop i = x :: l.drop (i + 1) := by rw [hx.out, getElem!_pos l i iM]; exact List.drop_eq_getElem_cons iM
   obtain ⟨uH, kG, hdr, Un⟩ := hgo.out
   rw [hdrop] at uH
   replace uH := Lib.hid uH
   clear hgo
   have lI := ax x
   rw [← hk.out] at lI
   have e8 : (ai x)[8]? = some (.int .i64 x.aN) := rfl
   have st := boxed wr x
   obtain ⟨w1, hw1⟩ : ∃ w1, w1 = wr.alloc (.cells (ai x).toArray 92) := ⟨_, rfl⟩
   have hb1 : Below wr.heap.size wr w1 := by rw [hw1]; exact (Below.refl _ _).alloc (Nat.le_refl _) _
   have hz1 : w1.heap[wr.heap.size]? = some (.cells (ai x).toArray 92 (0, 0)) := by rw [hw1]; exact heap_alloc_new wr _
   have c8 : w1.cell? ⟨wr.heap.size, 8, none⟩ = some (.int .i64 x.aN) := by simp [World.cell?, hz1, e8]
   have ld1 := fu hz1 lI
   replace hz1 := Lib.hid hz1
   have qH := Gs.kept hb1
   have hS1 := hSr.trans (CS.of_below hb1)
   rw [← hw1] at st
   replace hw1 := Lib.hid hw1
   by_cases hpl : x.aN = tn
   ·have d1 : (x.aN == tn) = true := by simp [hpl]
    have UU := uH.out.pend x (List.mem_cons_self ..)
    have hxd : dA N.now x = true := by
     unfold dA
     rw [bq.2 ⟨UU, by omega⟩, kG, decide_eq_true hpl]
     rfl
    obtain ⟨a1, a2, a3⟩ := uH.out.next hxd
    obtain ⟨f, hf⟩ : ∃ f, f = (x.id - 1).toNat := ⟨_, rfl⟩
    rw [← hf] at a1 a2 a3
    have OH := uH.out.inv
    have XD := uH.out.run
    have RO := Jm OH a1 (by rw [a2]; omega) (OE OH XD a1 (by rw [a2]; exact hxd))
    have hbs := zP OH a1 (by rw [a2]; exact UU)
    rw [a2] at RO hbs
    have hla := launch_fn qH (RL OH (by rw [hdr]; exact h1) (by rw [Un]; exact hll) (by rw [kG]; exact hf0)) x (by have := OH.mb.wid x (by rw [← a2]; exact aY a1); omega) RO
    rw [show ({ ah N with f := f0 } : Pg).J = N.L from rfl, show ({ ah N with f := f0 } : Pg).now = N.now from rfl, hbs] at hla
    have RS : (aW N f).L.length = M.L.length := by unfold aW; rw [List.length_set]; exact Un
    have RU := Lib.hid (show Going (aW N f) F (l.drop (i + 1)) ∧ (aW N f).now = tn ∧ (aW N f).dr.length = M.dr.length ∧ (aW N f).L.length = M.L.length from ⟨a3, kG, hdr, RS⟩)
    replace hpl := Lib.hid hpl
    replace hf := Lib.hid hf
    clear a1 a2 a3 RO hbs OH XD hxd RS
    generalize ai x = cI at *
    go_wp2_with fail
    go_at_call 160
    refine hla.mono ?_
    clear hla
    rintro e w5 ⟨rfl, v5, g5, gJ, hS5⟩
    have gy := hS1.trans hS5
    go_wp2_with fail
    go_roundw
    case rel => exact ⟨i + 1, aW N f, v5, g5, by omega, by go_num, (show CW _ _ _ _ _ _ _ _ _ { ah (aW N f) with f := f0 } from gJ), gy, RU⟩
    case measure => simp [intOf]; omega
   ·have d1 : (x.aN == tn) = false := by simp [hpl]
    have RU := Lib.hid (show Going N F (l.drop (i + 1)) ∧ N.now = tn ∧ N.dr.length = M.dr.length ∧ N.L.length = M.L.length from ⟨uH.out.skip (by unfold dA; rw [kG, decide_eq_false hpl, Bool.and_false]), kG, hdr, Un⟩)
    generalize ai x = cI at *
    go_wp2_with fail
    go_roundw
    case rel => exact ⟨i + 1, N, vr, gr, by omega, by go_num, qH, hS1, RU⟩
    case measure => simp [intOf]; omega
  ·have e : i = n := by omega
   subst e
   obtain ⟨uH, kG, hdr, Un⟩ := hgo.out
   have hend : l.drop i = [] := List.drop_eq_nil_of_le (by have := hn.out; omega)
   rw [hend] at uH
   have VX := uH.last
   have hfin := (CS.of_below hb0 : CS w w0 c t d p v g v g).trans hSr
   rw [← VX] at Gs
   replace VX := Lib.hid VX
   go_wp2_with fail
   go_end0
   have e9 := htn.out
   clear htn
   exact ⟨rfl, vr, gr, Gs, hfin⟩
end
end Go.Proofs.YtelnhablglomjaaGreat
