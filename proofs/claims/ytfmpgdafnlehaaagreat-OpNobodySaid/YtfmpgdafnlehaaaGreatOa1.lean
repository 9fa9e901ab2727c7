/-
 Own words and walks, merged: part 1 of 2.
-/
import Derived.WalkKit
import Derived.ProofKit
import Derived.OpenShut
import Derived.Deep.Slices
import Derived.Deep.Fields
import Derived.ChangeSame
import Derived.Laws.AppendOwn
import Derived.Test.YtfmpgdafnlehaaaGreatChecked
import Derived.Laws.Rows
import Derived.WalkSpells
import Derived.WalkLawsBesides
import Derived.Lib.Hide
import Derived.Lib.MinMax
import Derived.Deep.AppendSrc
import Derived.Lib.OwnBridge
import Derived.Sort.Grow
import Derived.Shelf.GgSortFunc.RowK
import Derived.Lib.AppendZerosOnto
import Derived.Lib.Overlaps
import Derived.Laws.CopyRow
import Derived.Laws.Externs
import Derived.BigQuiet
import Derived.Laws.StructEq
import Derived.Deep.DeepMust
import Derived.LaidEql
import Derived.Orders
import Derived.Deep.LoopGhost
set_option maxRecDepth 1000000
set_option maxHeartbeats 8000000
set_option linter.all false
namespace Go.Proofs.YtfmpgdafnlehaaaGreat
theorem xA.{u} {a : Type u} (l : List a) (i : Nat) (x : a) : l.toArray.setIfInBounds i x = (l.set i x).toArray := List.setIfInBounds_toArray l i x
theorem xB.{u} {a : Type u} {x : a} {xs : List a} {y : a} : (x :: xs).set 0 y = y :: xs := rfl
theorem xC.{u} {a : Type u} {x : a} {xs : List a} {i : Nat} {y : a} : (x :: xs).set (i + 1) y = x :: xs.set i y := rfl
theorem xD.{u} {a : Type u} (l : List a) : [] ++ l = l := rfl
theorem xE.{u} {a : Type u} {x : a} {l k : List a} : x :: l ++ k = x :: (l ++ k) := rfl
end Go.Proofs.YtfmpgdafnlehaaaGreat


namespace Go.Proofs.YtfmpgdafnlehaaaGreat
open Go.ChangeShapes Go.WideShapes Go.RowKit
theorem bZ {H : Type} {enc : TypeId × Value → H} {P : Program} (hl : laidOutB P = true) {W W' : World} (hb : Below W.heap.size W W') {sp : Nat → Bool} :
 ∀ (ts : List TypeId) (vs : List Value) (ds : List (DataW H)) (ps : List MemPlace), (∀ t ∈ ts, P.readableRec t = true ∧ t < P.types.size) → (∀ x ∈ ps, x.block < W.heap.size ∧ sp x.block = true) →
  DataW.TrodAll enc P W 0 (fun _ => true) true ts vs ds ps → DataW.TrodAll enc P W' 0 sp true ts vs ds ps
 | [], vs, ds, ps, _, _, h => by
   obtain ⟨rfl, rfl, rfl⟩ := trodAll_nil h
   exact trodAll_mk0
 | t :: ts, vs, ds, ps, hr, hp, h => by
   obtain ⟨v, vs1, d, ds1, a, b, rfl, rfl, rfl, h1, h2⟩ := trodAll_cons h
   refine ⟨a, b, ?_, bZ hl hb ts vs1 ds1 b (fun t ht => hr t (List.mem_cons_of_mem _ ht)) (fun x hx => hp x (List.mem_append_right _ hx)) h2, rfl⟩
   exact WideElems.Trod_stays hl (hr t (List.mem_cons_self ..)).1 (hr t (List.mem_cons_self ..)).2 h1 (fun x hx => hb.same (hp x (List.mem_append_left _ hx)).1) (fun x hx => (hp x (List.mem_append_left _ hx)).2)
theorem jq {H : Type} {enc : TypeId × Value → H} {P : Program} {f : Func} {s : ChangeSpec} {apart fresh handsOn again : Bool} {W W' : World} {args : Array Value} {ds : List (DataW H)} {before : List MemPlace} {tb : TypeId}
 (hW : DataW.Whole enc P f.params.toList s.vars apart W args.toList ds [] before) (hvars : s.vars = []) (hfn : s.fn H (ds ++ []) = { results := [.lit (.bool true)], args := ds, vars := [] })
 (hrt : f.resultTypes = #[tb]) (htb : P.underlying tb = some .bool) (hl : laidOutB P = true) (hr : ∀ t ∈ f.params.toList, P.readableRec t = true ∧ t < P.types.size) (hb : Below W.heap.size W W') :
 s.post enc P f apart fresh handsOn again W args (.bool true) W' := by
 have hlt := fun p hp => hW.lt p hp
 obtain ⟨p, q, hA, hV, hps, hz, hn⟩ := hW
 have hW0 : DataW.Whole enc P f.params.toList s.vars apart W args.toList ds [] before := ⟨p, q, hA, hV, hps, hz, hn⟩
 rw [hvars] at hV
 obtain ⟨_, rfl⟩ := trodVars_none hV
 rw [List.append_nil] at hps
 subst hps
 have hold : ∀ x ∈ before, x.block < W.heap.size ∧ (fun b => decide (b < W.heap.size)) x.block = true := fun x hx => by have := hlt x hx; exact ⟨this, by simpa using this⟩
 have hres : ∀ (b : Nat) (sp : Nat → Bool) (hd : Bool), DataW.TrodAll enc P W' b sp hd f.resultTypes.toList ((Value.bool true).resultList f.resultTypes.size) (s.fn H (ds ++ [])).results [] := by
  intro b sp hd
  rw [hrt, hfn]
  exact trodAll_mk1 (shut_bool htb true)
 have hargs : ∀ sp : Nat → Bool, (∀ x ∈ before, sp x.block = true) → DataW.TrodAll enc P W' 0 sp true f.params.toList args.toList (s.fn H (ds ++ [])).args before := by
  intro sp hsp
  rw [hfn]
  exact bZ hl hb _ _ _ _ hr (fun x hx => ⟨(hold x hx).1, hsp x hx⟩) hA
 have hvs : ∀ sp : Nat → Bool, DataW.TrodVars enc P W' sp s.vars (s.fn H (ds ++ [])).vars [] := by
  intro sp
  rw [hfn, hvars]
  rfl
 refine ⟨ds, [], before, [], before, [], hW0, hres _ _ _, hargs _ fun x hx => (hold x hx).2, hvs _, World.keptBut_mono (fun x hx => ⟨hx, by first | exact Or.inr hx | (right; simpa using hx)⟩) (hb.frame (· ∈ before)), fun _ => ?_⟩
 refine ⟨ok_one hrt rfl (okWide_bool_mk htb true), _, _, ([] ++ before) ++ [], ⟨[] ++ before, [], trodAll_append (hargs _ (fun _ _ => rfl)) (hres _ _ _), hvs _, rfl, ?_, ?_⟩, ?_⟩
 ·intro b off hp
  have hp : MemPlace.cell b off ∈ before := by simpa using hp
  rw [hb.frozen (p := ⟨b, off, none⟩) (hold _ hp).1]
  exact hz b off hp
 ·intro ha
  simpa using hn ha
 ·intro x hx _
  simpa using hx
theorem mo {P : Program} {l : List TypeId} (h : (l.all fun t => P.readableRec t && decide (t < P.types.size)) = true) : ∀ t ∈ l, P.readableRec t = true ∧ t < P.types.size := by
 intro t ht
 have := List.all_eq_true.1 h t ht
 simpa using this
end Go.Proofs.YtfmpgdafnlehaaaGreat

namespace Go.Proofs.YtfmpgdafnlehaaaGreat
open Go.ChangeShapes Go.WideShapes Go.ChangeAt Go.RowKit Go.Deep
def aT {α : Type} (enc : α → List Value) (sz : Nat) (w : World) (v : Value) (l : List α) : Prop :=
 ∃ ao cap, v = .slice ao l.length cap ∧ l.length ≤ cap ∧ cap ≤ maxLen ∧
  (0 < l.length → ∃ b off, ao = some ⟨b, off, none⟩ ∧ b < w.heap.size ∧ ∀ i s j u, l[i]? = some s → (enc s)[j]? = some u → w.cell? ⟨b, off + (i * sz + j), none⟩ = some u)
section
variable {α : Type} {enc : α → List Value} {sz : Nat} {w w' : World} {v : Value} {l : List α}
theorem aT.nil (w : World) : aT enc sz w (.slice none 0 0) ([] : List α) := ⟨none, 0, rfl, Nat.le_refl _, Nat.zero_le _, fun h => absurd h (by simp)⟩
end
section
end
end Go.Proofs.YtfmpgdafnlehaaaGreat

namespace Go.Proofs.YtfmpgdafnlehaaaGreat
open Go.RowKit
theorem heap_put {w : World} {g i : Nat} {cs : Array Value} {t : TypeId} {fr : Nat × Nat} (h : w.heap[g]? = some (.cells cs t fr)) (v : Value) : (w.setCell ⟨g, i, none⟩ v).heap[g]? = some (.cells (cs.setIfInBounds i v) t fr) := by
 simp [World.setCell, Array.getElem?_modify, h]
theorem au {w : World} {g : Nat} {o o' : Obj} (h : w.heap[g]? = some o) : (w.alloc o').heap[g]? = some o := by
 have hlt : g < w.heap.size := by
  rcases Nat.lt_or_ge g w.heap.size with h1 | h1
  ·exact h1
  ·rw [Array.getElem?_eq_none h1] at h; cases h
 exact (Go.heap_alloc_old w o' hlt).trans h
def oo (d : TypeDesc) : Bool := match d with | .struct _ | .array _ _ => true | _ => false
theorem ah {fn : Func} {K : Ending → World → Prop} {a : Act} {w : World} {p : Tmp} {ty : TypeId} {g : Nat} {t : TypeId} {cs : Array Value} {fr : Nat × Nat} {d : TypeDesc} (h : fn.results = #[.cell p ty]) (hd0 : a.defers = [])
 (hp : a.tmps.getD p undef = .pointer (some ⟨g, 0, none⟩)) (hg : w.heap[g]? = some (.cells cs t fr))
 (hu : Tryz.prog.underlying ty = some d) (hd : oo d = true) (hi : (Tryz.prog.info? ty).map (·.size) = some cs.size)
 (hK : K (.returned (.agg cs)) w) : bodyPost Tryz.prog fn K .ret a w := bodyPost_ret (results_cell_row h a.tmps w g t cs fr d hp hg hu (by cases d <;> first | rfl | cases hd) hi) hd0 hK
theorem aD {w : World} {g : Nat} {o : Obj} (h : w.heap[g]? = some o) : g < w.heap.size := by
 rcases Nat.lt_or_ge g w.heap.size with h1 | h1
 ·exact h1
 ·rw [Array.getElem?_eq_none h1] at h; cases h
end Go.Proofs.YtfmpgdafnlehaaaGreat

namespace Go.Proofs.YtfmpgdafnlehaaaGreat
open Go.RowKit Go.Lib
def bM (x : Int) : List Value := [.int .i64 x]
theorem aQ (w : World) (b : Nat) (l : List Int) (hb : b = w.heap.size) (hl : l.length ≤ 1000) : aT bM 1 (w.alloc (.cells (l.flatMap bM).toArray 3)) (.slice (some ⟨b, 0, none⟩) l.length l.length) l := by
 subst hb
 have hlen : (l.flatMap bM).length = l.length := by
  clear hl
  induction l with
  | nil => rfl
  | cons a l ih => rw [List.flatMap_cons, List.length_append, ih, List.length_cons]; simp [bM]; omega
 have hnew := heap_alloc_new w (.cells (l.flatMap bM).toArray 3)
 refine ⟨_, _, rfl, Nat.le_refl _, by unfold maxLen; omega, fun hp => ⟨w.heap.size, 0, rfl, by simp, fun i s j u hi hj => ?_⟩⟩
 have hj0 : j = 0 := by
  have := (List.getElem?_eq_some_iff.1 hj).1
  simp [bM] at this
  exact this
 subst hj0
 have key : ∀ (l : List Int) (i : Nat), l[i]? = some s → (l.flatMap bM)[i]? = some u := by
  intro l
  induction l with
  | nil => intro i hi; simp at hi
  | cons a l ih =>
    intro i hi
    rcases i with _ | i
    ·simp at hi
     subst hi
     simpa [bM] using hj
    ·have := ih i (by simpa using hi)
     simpa [List.flatMap_cons, bM] using this
 have h2 := key l i hi
 simp only [World.cell?, hnew, Nat.zero_add, Nat.mul_one, Nat.add_zero]
 simpa using h2
def ae (a b c : Bool) : Value := .agg #[.bool a, .bool b, .bool c]
def aB (l : List Int) (j : Int) : Bool := decide (j ∈ l)
theorem aU {w : World} {v : Value} {ps : List Int} (hr : aT bM 1 w v ps) (hin : ∀ x ∈ ps, x = 0 ∨ x = 1 ∨ x = 2) (hl : ps.length ≤ 10) : Calls Tryz.prog 39 #[v] w fun e w' => e = .returned (ae (aB ps 0) (aB ps 1) (aB ps 2)) ∧ Below w.heap.size w w' := by
 obtain ⟨ao, cap, rfl, q1, q2, q3⟩ := hr
 obtain ⟨n, hn⟩ : ∃ n, ps.length = n := ⟨_, rfl⟩
 have HQ : Hid (∀ i, i < n → ∃ b off, ao = some ⟨b, off, none⟩ ∧ b < w.heap.size ∧ w.cell? ⟨b, off + i, none⟩ = some (.int .i64 ps[i]!)) := fun i hi => by
  obtain ⟨b, off, e, hb, hc⟩ := q3 (by omega)
  refine ⟨b, off, e, hb, ?_⟩
  have := hc i _ 0 _ (by rw [List.getElem?_eq_getElem (by omega), getElem!_pos ps i (by omega)]) (show (bM ps[i]!)[0]? = some _ from rfl)
  simpa using this
 have pG : cap ≤ 9223372036854775807 := by unfold maxLen at q2; omega
 clear q3
 rw [hn] at q1 hl ⊢
 replace hn := Lib.hid hn
 have hin' := Lib.hid hin
 clear hin
 obtain ⟨w1, hw1⟩ : ∃ w1, w1 = w.alloc (.cells #[.bool false, .bool false, .bool false] 31) := ⟨_, rfl⟩
 have hb1 : Below w.heap.size w w1 := by rw [hw1]; exact (Below.refl _ _).alloc (Nat.le_refl _) _
 have hs1 : w1.heap.size = w.heap.size + 1 := by rw [hw1]; simp
 have hA1 : w1.heap[w.heap.size]? = some (.cells #[.bool false, .bool false, .bool false] 31 (0, 0)) := by rw [hw1]; exact heap_alloc_new w _
 have k0 : w1.cell? ⟨w.heap.size, 0, none⟩ = some (.bool false) := by simp [World.cell?, hA1]
 have k1 : w1.cell? ⟨w.heap.size, 1, none⟩ = some (.bool false) := by simp [World.cell?, hA1]
 have k2 : w1.cell? ⟨w.heap.size, 2, none⟩ = some (.bool false) := by simp [World.cell?, hA1]
 have f0 : w1.frozen? ⟨w.heap.size, 0, none⟩ = false := by simp [World.frozen?, hA1]
 have f1 : w1.frozen? ⟨w.heap.size, 1, none⟩ = false := by simp [World.frozen?, hA1]
 have f2 : w1.frozen? ⟨w.heap.size, 2, none⟩ = false := by simp [World.frozen?, hA1]
 go_enter Tryz.func39, Tryz.ntmps39
 go_wp2_with fail
 rw [← hw1]
 clear hw1
 go_loopw [8] (fun ii wr => ∃ (i : Nat), i ≤ n ∧ ii = .int .i64 i ∧ wr = w1.alloc (.cells #[.bool (aB (ps.take i) 0), .bool (aB (ps.take i) 1), .bool (aB (ps.take i) 2)] 31)) (fun ii _ => n - (intOf ii).toNat)
 case atStart => exact ⟨0, Nat.zero_le _, rfl, by simp [aB]⟩
 case round =>
  obtain ⟨i, hin2, rfl, rfl⟩ := hrel
  by_cases hlt : i < n
  ·have b2 : (i : Int) < (n : Int) := by omega
   have wi : IntKind.i64.wrap ((i : Int) + 1) = (i : Int) + 1 := by rw [IntKind.wrap_i64]; omega
   obtain ⟨b, off, rfl, hb, c⟩ := HQ.out i hlt
   have c2 : w1.cell? ⟨b, off + i, none⟩ = some (.int .i64 ps[i]!) := (hb1.cell (p := ⟨b, _, none⟩) hb).trans c
   have c3 : (w1.alloc (.cells #[.bool (aB (ps.take i) 0), .bool (aB (ps.take i) 1), .bool (aB (ps.take i) 2)] 31)).cell? ⟨b, off + i, none⟩ = some (.int .i64 ps[i]!) := by
    exact (((Below.refl w1.heap.size w1).alloc (Nat.le_refl _) _).cell (p := ⟨b, _, none⟩) (show b < w1.heap.size by omega)).trans c2
   have nz : i < ps.length := by have := hn.out; omega
   have hm : ∀ j, aB (ps.take (i + 1)) j = (aB (ps.take i) j || decide (j = ps[i]!)) := fun j => by
    unfold aB
    have e1 : ps.take (i + 1) = ps.take i ++ [ps[i]!] := by rw [List.take_add_one, List.getElem?_eq_getElem nz, getElem!_pos ps i nz, Option.toList_some]
    rw [e1, Bool.eq_iff_iff]
    generalize ps.take i = l0
    generalize ps[i]! = y
    simp [List.mem_append]
   have hy := hin'.out ps[i]! (by rw [getElem!_pos ps i nz]; exact List.getElem_mem _)
   clear c c2
   have hm0 := hm 0
   have hm1 := hm 1
   have hm2 := hm 2
   clear hm
   generalize ps[i]! = y at *
   generalize aB (ps.take i) 0 = g0 at *
   generalize aB (ps.take i) 1 = g1 at *
   generalize aB (ps.take i) 2 = g2 at *
   have ss : w1.heap.size = w.heap.size + 1 := hs1
   rcases hy with rfl | rfl | rfl
   all_goals
    simp only [decide_true, Bool.or_true, show decide ((0 : Int) = 1) = false from rfl, show decide ((0 : Int) = 2) = false from rfl, show decide ((1 : Int) = 0) = false from rfl, show decide ((1 : Int) = 2) = false from rfl, show decide ((2 : Int) = 0) = false from rfl, show decide ((2 : Int) = 1) = false from rfl, Bool.or_false] at hm0 hm1 hm2
    replace hm0 := Lib.hid hm0
    replace hm1 := Lib.hid hm1
    replace hm2 := Lib.hid hm2
    go_wp2_with fail
    go_roundw
    case rel => exact ⟨i + 1, by omega, by go_num, by rw [hm0.out, hm1.out, hm2.out]⟩
    case measure => simp [intOf]; omega
  ·obtain rfl : i = n := by omega
   have b2 : ¬ (i : Int) < (i : Int) := by omega
   have e1 : ps.take i = ps := List.take_of_length_le (by rw [hn.out]; exact Nat.le_refl _)
   rw [e1]
   obtain ⟨g0, hg0⟩ : ∃ g, g = aB ps 0 := ⟨_, rfl⟩
   obtain ⟨g1, hg1⟩ : ∃ g, g = aB ps 1 := ⟨_, rfl⟩
   obtain ⟨g2, hg2⟩ : ∃ g, g = aB ps 2 := ⟨_, rfl⟩
   rw [← hg0, ← hg1, ← hg2]
   replace hg0 := Lib.hid hg0
   replace hg1 := Lib.hid hg1
   replace hg2 := Lib.hid hg2
   clear e1 HQ
   go_wp2_with fail
   refine ah rfl rfl rfl (au (heap_put (heap_put (heap_put hA1 _) _) _)) Tryz.underlying31 rfl (by kernel_rfl) ⟨by rw [← hg0.out, ← hg1.out, ← hg2.out]; rfl, ?_⟩
   exact (((hb1.setCell (Nat.le_refl _) _).setCell (Nat.le_refl _) _).setCell (Nat.le_refl _) _).alloc (by simp [hs1]) _
structure Three (w : World) (g : Nat) : Prop where
 h : w.heap[g]? = some (.cells #[.bool false, .bool false, .bool false] 31 (0, 0))
theorem Three.below {w w' : World} {g B : Nat} (h : Three w g) (hb : Below B w w') (hg : g < B) : Three w' g := ⟨(hb.block g hg).trans h.h⟩
theorem Three.cell {w : World} {g : Nat} (h : Three w g) : (w.cell? ⟨g, 0, none⟩ = some (.bool false) ∧ w.cell? ⟨g, 1, none⟩ = some (.bool false) ∧ w.cell? ⟨g, 2, none⟩ = some (.bool false)) ∧ w.frozen? ⟨g, 0, none⟩ = false ∧ w.frozen? ⟨g, 1, none⟩ = false ∧ w.frozen? ⟨g, 2, none⟩ = false := by
 have := h.h
 refine ⟨⟨?_, ?_, ?_⟩, ?_, ?_, ?_⟩ <;> simp [World.cell?, World.frozen?, this]
theorem Three.put {w : World} {g : Nat} (h : Three w g) (a b c : Bool) : (((w.setCell ⟨g, 0, none⟩ (.bool a)).setCell ⟨g, 1, none⟩ (.bool b)).setCell ⟨g, 2, none⟩ (.bool c)).heap[g]? = some (.cells #[.bool a, .bool b, .bool c] 31 (0, 0)) :=
 heap_put (heap_put (heap_put h.h _) _) _
theorem ak (w : World) : Three (w.alloc (.cells #[.bool false, .bool false, .bool false] 31)) w.heap.size := ⟨heap_alloc_new w _⟩
theorem bN (w : World) : Calls Tryz.prog 40 #[] w fun e w' => e = .returned (ae true true true) ∧ Below w.heap.size w w' := by
 obtain ⟨w1, hw1⟩ : ∃ w1, w1 = w.alloc (.cells #[.bool false, .bool false, .bool false] 31) := ⟨_, rfl⟩
 have hT1 : Three w1 w.heap.size := by rw [hw1]; exact ak w
 have hb1 : Below w.heap.size w w1 := by rw [hw1]; exact (Below.refl _ _).alloc (Nat.le_refl _) _
 have hs1 : w1.heap.size = w.heap.size + 1 := by rw [hw1]; simp
 have hr : aT bM 1 (w1.alloc (.cells #[.int .i64 0, .int .i64 1, .int .i64 2] 3)) (.slice (some ⟨w.heap.size + 1, 0, none⟩) 3 3) [0, 1, 2] := aQ w1 _ [0, 1, 2] hs1.symm (by decide)
 have hb2 : Below (w.heap.size + 1) w1 (w1.alloc (.cells #[.int .i64 0, .int .i64 1, .int .i64 2] 3)) := (Below.refl _ _).alloc (by omega) _
 have hs2 : (w1.alloc (.cells #[.int .i64 0, .int .i64 1, .int .i64 2] 3)).heap.size = w.heap.size + 2 := by simp [hs1]
 have hc := aU hr (by decide) (by decide)
 unfold ae at hc
 rw [show aB [0, 1, 2] 0 = true from rfl, show aB [0, 1, 2] 1 = true from rfl, show aB [0, 1, 2] 2 = true from rfl] at hc
 clear hr
 rw [hw1] at hc
 go_enter Tryz.func40, Tryz.ntmps40
 go_wp2_with fail
 go_at_call 39
 refine hc.mono ?_
 clear hc
 rintro e w3 ⟨rfl, hb3⟩
 rw [← hw1] at hb3
 rw [hs2] at hb3
 have aj := (hT1.below hb2 (by omega)).below hb3 (by omega)
 have hbb : Below w.heap.size w w3 := (hb1.trans (hb2.mono (by omega))).trans (hb3.mono (by omega))
 clear hb2 hs2
 obtain ⟨⟨k0, k1, k2⟩, f0, f1, f2⟩ := aj.cell
 clear hT1 hb1 hb3
 replace aj := Lib.hid aj
 replace hw1 := Lib.hid hw1
 go_wp2_with fail
 refine ah rfl rfl rfl (aj.out.put _ _ _) Tryz.underlying31 rfl (by kernel_rfl) ⟨rfl, ?_⟩
 exact ((hbb.setCell (Nat.le_refl _) _).setCell (Nat.le_refl _) _).setCell (Nat.le_refl _) _
theorem ko (w : World) : Calls Tryz.prog 7 #[.int .i64 1] w fun e w' => e = .returned (ae true false true) ∧ Below w.heap.size w w' := by
 obtain ⟨w1, hw1⟩ : ∃ w1, w1 = w.alloc (.cells #[.bool false, .bool false, .bool false] 31) := ⟨_, rfl⟩
 have hT1 : Three w1 w.heap.size := by rw [hw1]; exact ak w
 have hb1 : Below w.heap.size w w1 := by rw [hw1]; exact (Below.refl _ _).alloc (Nat.le_refl _) _
 have hs1 : w1.heap.size = w.heap.size + 1 := by rw [hw1]; simp
 have hr : aT bM 1 (w1.alloc (.cells #[.int .i64 0, .int .i64 2] 3)) (.slice (some ⟨w.heap.size + 1, 0, none⟩) 2 2) [0, 2] := aQ w1 _ [0, 2] hs1.symm (by decide)
 have hb2 : Below (w.heap.size + 1) w1 (w1.alloc (.cells #[.int .i64 0, .int .i64 2] 3)) := (Below.refl _ _).alloc (by omega) _
 have hs2 : (w1.alloc (.cells #[.int .i64 0, .int .i64 2] 3)).heap.size = w.heap.size + 2 := by simp [hs1]
 have hc := aU hr (by decide) (by decide)
 unfold ae at hc
 rw [show aB [0, 2] 0 = true from rfl, show aB [0, 2] 1 = false from rfl, show aB [0, 2] 2 = true from rfl] at hc
 clear hr
 rw [hw1] at hc
 go_enter Tryz.func7, Tryz.ntmps7
 go_wp2_with fail
 go_at_call 39
 refine hc.mono ?_
 clear hc
 rintro e w3 ⟨rfl, hb3⟩
 rw [← hw1] at hb3
 rw [hs2] at hb3
 have aj := (hT1.below hb2 (by omega)).below hb3 (by omega)
 have hbb : Below w.heap.size w w3 := (hb1.trans (hb2.mono (by omega))).trans (hb3.mono (by omega))
 clear hb2 hs2
 obtain ⟨⟨k0, k1, k2⟩, f0, f1, f2⟩ := aj.cell
 clear hT1 hb1 hb3
 replace aj := Lib.hid aj
 replace hw1 := Lib.hid hw1
 go_wp2_with fail
 refine ah rfl rfl rfl (aj.out.put _ _ _) Tryz.underlying31 rfl (by kernel_rfl) ⟨rfl, ?_⟩
 exact ((hbb.setCell (Nat.le_refl _) _).setCell (Nat.le_refl _) _).setCell (Nat.le_refl _) _
theorem kr (w : World) : Calls Tryz.prog 7 #[.int .i64 3] w fun e w' => e = .returned (ae true false true) ∧ Below w.heap.size w w' := by
 obtain ⟨w1, hw1⟩ : ∃ w1, w1 = w.alloc (.cells #[.bool false, .bool false, .bool false] 31) := ⟨_, rfl⟩
 have hT1 : Three w1 w.heap.size := by rw [hw1]; exact ak w
 have hb1 : Below w.heap.size w w1 := by rw [hw1]; exact (Below.refl _ _).alloc (Nat.le_refl _) _
 have hs1 : w1.heap.size = w.heap.size + 1 := by rw [hw1]; simp
 have hr : aT bM 1 (w1.alloc (.cells #[.int .i64 0, .int .i64 2] 3)) (.slice (some ⟨w.heap.size + 1, 0, none⟩) 2 2) [0, 2] := aQ w1 _ [0, 2] hs1.symm (by decide)
 have hb2 : Below (w.heap.size + 1) w1 (w1.alloc (.cells #[.int .i64 0, .int .i64 2] 3)) := (Below.refl _ _).alloc (by omega) _
 have hs2 : (w1.alloc (.cells #[.int .i64 0, .int .i64 2] 3)).heap.size = w.heap.size + 2 := by simp [hs1]
 have hc := aU hr (by decide) (by decide)
 unfold ae at hc
 rw [show aB [0, 2] 0 = true from rfl, show aB [0, 2] 1 = false from rfl, show aB [0, 2] 2 = true from rfl] at hc
 clear hr
 rw [hw1] at hc
 go_enter Tryz.func7, Tryz.ntmps7
 go_wp2_with fail
 go_at_call 39
 refine hc.mono ?_
 clear hc
 rintro e w3 ⟨rfl, hb3⟩
 rw [← hw1] at hb3
 rw [hs2] at hb3
 have aj := (hT1.below hb2 (by omega)).below hb3 (by omega)
 have hbb : Below w.heap.size w w3 := (hb1.trans (hb2.mono (by omega))).trans (hb3.mono (by omega))
 clear hb2 hs2
 obtain ⟨⟨k0, k1, k2⟩, f0, f1, f2⟩ := aj.cell
 clear hT1 hb1 hb3
 replace aj := Lib.hid aj
 replace hw1 := Lib.hid hw1
 go_wp2_with fail
 refine ah rfl rfl rfl (aj.out.put _ _ _) Tryz.underlying31 rfl (by kernel_rfl) ⟨rfl, ?_⟩
 exact ((hbb.setCell (Nat.le_refl _) _).setCell (Nat.le_refl _) _).setCell (Nat.le_refl _) _
theorem ku (w : World) : Calls Tryz.prog 7 #[.int .i64 4] w fun e w' => e = .returned (ae true false true) ∧ Below w.heap.size w w' := by
 obtain ⟨w1, hw1⟩ : ∃ w1, w1 = w.alloc (.cells #[.bool false, .bool false, .bool false] 31) := ⟨_, rfl⟩
 have hT1 : Three w1 w.heap.size := by rw [hw1]; exact ak w
 have hb1 : Below w.heap.size w w1 := by rw [hw1]; exact (Below.refl _ _).alloc (Nat.le_refl _) _
 have hs1 : w1.heap.size = w.heap.size + 1 := by rw [hw1]; simp
 have hr : aT bM 1 (w1.alloc (.cells #[.int .i64 0, .int .i64 2] 3)) (.slice (some ⟨w.heap.size + 1, 0, none⟩) 2 2) [0, 2] := aQ w1 _ [0, 2] hs1.symm (by decide)
 have hb2 : Below (w.heap.size + 1) w1 (w1.alloc (.cells #[.int .i64 0, .int .i64 2] 3)) := (Below.refl _ _).alloc (by omega) _
 have hs2 : (w1.alloc (.cells #[.int .i64 0, .int .i64 2] 3)).heap.size = w.heap.size + 2 := by simp [hs1]
 have hc := aU hr (by decide) (by decide)
 unfold ae at hc
 rw [show aB [0, 2] 0 = true from rfl, show aB [0, 2] 1 = false from rfl, show aB [0, 2] 2 = true from rfl] at hc
 clear hr
 rw [hw1] at hc
 go_enter Tryz.func7, Tryz.ntmps7
 go_wp2_with fail
 go_at_call 39
 refine hc.mono ?_
 clear hc
 rintro e w3 ⟨rfl, hb3⟩
 rw [← hw1] at hb3
 rw [hs2] at hb3
 have aj := (hT1.below hb2 (by omega)).below hb3 (by omega)
 have hbb : Below w.heap.size w w3 := (hb1.trans (hb2.mono (by omega))).trans (hb3.mono (by omega))
 clear hb2 hs2
 obtain ⟨⟨k0, k1, k2⟩, f0, f1, f2⟩ := aj.cell
 clear hT1 hb1 hb3
 replace aj := Lib.hid aj
 replace hw1 := Lib.hid hw1
 go_wp2_with fail
 refine ah rfl rfl rfl (aj.out.put _ _ _) Tryz.underlying31 rfl (by kernel_rfl) ⟨rfl, ?_⟩
 exact ((hbb.setCell (Nat.le_refl _) _).setCell (Nat.le_refl _) _).setCell (Nat.le_refl _) _
theorem kv (w : World) : Calls Tryz.prog 7 #[.int .i64 6] w fun e w' => e = .returned (ae true false false) ∧ Below w.heap.size w w' := by
 obtain ⟨w1, hw1⟩ : ∃ w1, w1 = w.alloc (.cells #[.bool false, .bool false, .bool false] 31) := ⟨_, rfl⟩
 have hT1 : Three w1 w.heap.size := by rw [hw1]; exact ak w
 have hb1 : Below w.heap.size w w1 := by rw [hw1]; exact (Below.refl _ _).alloc (Nat.le_refl _) _
 have hs1 : w1.heap.size = w.heap.size + 1 := by rw [hw1]; simp
 have hr : aT bM 1 (w1.alloc (.cells #[.int .i64 0] 3)) (.slice (some ⟨w.heap.size + 1, 0, none⟩) 1 1) [0] := aQ w1 _ [0] hs1.symm (by decide)
 have hb2 : Below (w.heap.size + 1) w1 (w1.alloc (.cells #[.int .i64 0] 3)) := (Below.refl _ _).alloc (by omega) _
 have hs2 : (w1.alloc (.cells #[.int .i64 0] 3)).heap.size = w.heap.size + 2 := by simp [hs1]
 have hc := aU hr (by decide) (by decide)
 unfold ae at hc
 rw [show aB [0] 0 = true from rfl, show aB [0] 1 = false from rfl, show aB [0] 2 = false from rfl] at hc
 clear hr
 rw [hw1] at hc
 go_enter Tryz.func7, Tryz.ntmps7
 go_wp2_with fail
 go_at_call 39
 refine hc.mono ?_
 clear hc
 rintro e w3 ⟨rfl, hb3⟩
 rw [← hw1] at hb3
 rw [hs2] at hb3
 have aj := (hT1.below hb2 (by omega)).below hb3 (by omega)
 have hbb : Below w.heap.size w w3 := (hb1.trans (hb2.mono (by omega))).trans (hb3.mono (by omega))
 clear hb2 hs2
 obtain ⟨⟨k0, k1, k2⟩, f0, f1, f2⟩ := aj.cell
 clear hT1 hb1 hb3
 replace aj := Lib.hid aj
 replace hw1 := Lib.hid hw1
 go_wp2_with fail
 refine ah rfl rfl rfl (aj.out.put _ _ _) Tryz.underlying31 rfl (by kernel_rfl) ⟨rfl, ?_⟩
 exact ((hbb.setCell (Nat.le_refl _) _).setCell (Nat.le_refl _) _).setCell (Nat.le_refl _) _
theorem jr (w : World) : Calls Tryz.prog 7 #[.int .i64 11] w fun e w' => e = .returned (ae true false false) ∧ Below w.heap.size w w' := by
 obtain ⟨w1, hw1⟩ : ∃ w1, w1 = w.alloc (.cells #[.bool false, .bool false, .bool false] 31) := ⟨_, rfl⟩
 have hT1 : Three w1 w.heap.size := by rw [hw1]; exact ak w
 have hb1 : Below w.heap.size w w1 := by rw [hw1]; exact (Below.refl _ _).alloc (Nat.le_refl _) _
 have hs1 : w1.heap.size = w.heap.size + 1 := by rw [hw1]; simp
 have hr : aT bM 1 (w1.alloc (.cells #[.int .i64 0] 3)) (.slice (some ⟨w.heap.size + 1, 0, none⟩) 1 1) [0] := aQ w1 _ [0] hs1.symm (by decide)
 have hb2 : Below (w.heap.size + 1) w1 (w1.alloc (.cells #[.int .i64 0] 3)) := (Below.refl _ _).alloc (by omega) _
 have hs2 : (w1.alloc (.cells #[.int .i64 0] 3)).heap.size = w.heap.size + 2 := by simp [hs1]
 have hc := aU hr (by decide) (by decide)
 unfold ae at hc
 rw [show aB [0] 0 = true from rfl, show aB [0] 1 = false from rfl, show aB [0] 2 = false from rfl] at hc
 clear hr
 rw [hw1] at hc
 go_enter Tryz.func7, Tryz.ntmps7
 go_wp2_with fail
 go_at_call 39
 refine hc.mono ?_
 clear hc
 rintro e w3 ⟨rfl, hb3⟩
 rw [← hw1] at hb3
 rw [hs2] at hb3
 have aj := (hT1.below hb2 (by omega)).below hb3 (by omega)
 have hbb : Below w.heap.size w w3 := (hb1.trans (hb2.mono (by omega))).trans (hb3.mono (by omega))
 clear hb2 hs2
 obtain ⟨⟨k0, k1, k2⟩, f0, f1, f2⟩ := aj.cell
 clear hT1 hb1 hb3
 replace aj := Lib.hid aj
 replace hw1 := Lib.hid hw1
 go_wp2_with fail
 refine ah rfl rfl rfl (aj.out.put _ _ _) Tryz.underlying31 rfl (by kernel_rfl) ⟨rfl, ?_⟩
 exact ((hbb.setCell (Nat.le_refl _) _).setCell (Nat.le_refl _) _).setCell (Nat.le_refl _) _
theorem jv (w : World) : Calls Tryz.prog 7 #[.int .i64 10] w fun e w' => e = .returned (ae false true false) ∧ Below w.heap.size w w' := by
 obtain ⟨w1, hw1⟩ : ∃ w1, w1 = w.alloc (.cells #[.bool false, .bool false, .bool false] 31) := ⟨_, rfl⟩
 have hT1 : Three w1 w.heap.size := by rw [hw1]; exact ak w
 have hb1 : Below w.heap.size w w1 := by rw [hw1]; exact (Below.refl _ _).alloc (Nat.le_refl _) _
 have hs1 : w1.heap.size = w.heap.size + 1 := by rw [hw1]; simp
 have hr : aT bM 1 (w1.alloc (.cells #[.int .i64 1] 3)) (.slice (some ⟨w.heap.size + 1, 0, none⟩) 1 1) [1] := aQ w1 _ [1] hs1.symm (by decide)
 have hb2 : Below (w.heap.size + 1) w1 (w1.alloc (.cells #[.int .i64 1] 3)) := (Below.refl _ _).alloc (by omega) _
 have hs2 : (w1.alloc (.cells #[.int .i64 1] 3)).heap.size = w.heap.size + 2 := by simp [hs1]
 have hc := aU hr (by decide) (by decide)
 unfold ae at hc
 rw [show aB [1] 0 = false from rfl, show aB [1] 1 = true from rfl, show aB [1] 2 = false from rfl] at hc
 clear hr
 rw [hw1] at hc
 go_enter Tryz.func7, Tryz.ntmps7
 go_wp2_with fail
 go_at_call 39
 refine hc.mono ?_
 clear hc
 rintro e w3 ⟨rfl, hb3⟩
 rw [← hw1] at hb3
 rw [hs2] at hb3
 have aj := (hT1.below hb2 (by omega)).below hb3 (by omega)
 have hbb : Below w.heap.size w w3 := (hb1.trans (hb2.mono (by omega))).trans (hb3.mono (by omega))
 clear hb2 hs2
 obtain ⟨⟨k0, k1, k2⟩, f0, f1, f2⟩ := aj.cell
 clear hT1 hb1 hb3
 replace aj := Lib.hid aj
 replace hw1 := Lib.hid hw1
 go_wp2_with fail
 refine ah rfl rfl rfl (aj.out.put _ _ _) Tryz.underlying31 rfl (by kernel_rfl) ⟨rfl, ?_⟩
 exact ((hbb.setCell (Nat.le_refl _) _).setCell (Nat.le_refl _) _).setCell (Nat.le_refl _) _
theorem jw (w : World) : Calls Tryz.prog 7 #[.int .i64 12] w fun e w' => e = .returned (ae false false true) ∧ Below w.heap.size w w' := by
 obtain ⟨w1, hw1⟩ : ∃ w1, w1 = w.alloc (.cells #[.bool false, .bool false, .bool false] 31) := ⟨_, rfl⟩
 have hT1 : Three w1 w.heap.size := by rw [hw1]; exact ak w
 have hb1 : Below w.heap.size w w1 := by rw [hw1]; exact (Below.refl _ _).alloc (Nat.le_refl _) _
 have hs1 : w1.heap.size = w.heap.size + 1 := by rw [hw1]; simp
 have hr : aT bM 1 (w1.alloc (.cells #[.int .i64 2] 3)) (.slice (some ⟨w.heap.size + 1, 0, none⟩) 1 1) [2] := aQ w1 _ [2] hs1.symm (by decide)
 have hb2 : Below (w.heap.size + 1) w1 (w1.alloc (.cells #[.int .i64 2] 3)) := (Below.refl _ _).alloc (by omega) _
 have hs2 : (w1.alloc (.cells #[.int .i64 2] 3)).heap.size = w.heap.size + 2 := by simp [hs1]
 have hc := aU hr (by decide) (by decide)
 unfold ae at hc
 rw [show aB [2] 0 = false from rfl, show aB [2] 1 = false from rfl, show aB [2] 2 = true from rfl] at hc
 clear hr
 rw [hw1] at hc
 go_enter Tryz.func7, Tryz.ntmps7
 go_wp2_with fail
 go_at_call 39
 refine hc.mono ?_
 clear hc
 rintro e w3 ⟨rfl, hb3⟩
 rw [← hw1] at hb3
 rw [hs2] at hb3
 have aj := (hT1.below hb2 (by omega)).below hb3 (by omega)
 have hbb : Below w.heap.size w w3 := (hb1.trans (hb2.mono (by omega))).trans (hb3.mono (by omega))
 clear hb2 hs2
 obtain ⟨⟨k0, k1, k2⟩, f0, f1, f2⟩ := aj.cell
 clear hT1 hb1 hb3
 replace aj := Lib.hid aj
 replace hw1 := Lib.hid hw1
 go_wp2_with fail
 refine ah rfl rfl rfl (aj.out.put _ _ _) Tryz.underlying31 rfl (by kernel_rfl) ⟨rfl, ?_⟩
 exact ((hbb.setCell (Nat.le_refl _) _).setCell (Nat.le_refl _) _).setCell (Nat.le_refl _) _
theorem jy (k : Int) (w : World) (h1 : k ≠ 1) (h3 : k ≠ 3) (h4 : k ≠ 4) (h2 : k ≠ 2) (h5 : k ≠ 5) (h7 : k ≠ 7) (h8 : k ≠ 8) (h9 : k ≠ 9) (h6 : k ≠ 6) (h11 : k ≠ 11) (h10 : k ≠ 10) (h12 : k ≠ 12) : Calls Tryz.prog 7 #[.int .i64 k] w fun e w' => e = .returned (ae false false false) ∧ Below w.heap.size w w' := by
 have t1 : (k == 1) = false := beq_eq_false_iff_ne.2 h1
 have t3 : (k == 3) = false := beq_eq_false_iff_ne.2 h3
 have t4 : (k == 4) = false := beq_eq_false_iff_ne.2 h4
 have t2 : (k == 2) = false := beq_eq_false_iff_ne.2 h2
 have t5 : (k == 5) = false := beq_eq_false_iff_ne.2 h5
 have t7 : (k == 7) = false := beq_eq_false_iff_ne.2 h7
 have t8 : (k == 8) = false := beq_eq_false_iff_ne.2 h8
 have t9 : (k == 9) = false := beq_eq_false_iff_ne.2 h9
 have t6 : (k == 6) = false := beq_eq_false_iff_ne.2 h6
 have t11 : (k == 11) = false := beq_eq_false_iff_ne.2 h11
 have t10 : (k == 10) = false := beq_eq_false_iff_ne.2 h10
 have t12 : (k == 12) = false := beq_eq_false_iff_ne.2 h12
 clear h1 h3 h4 h2 h5 h7 h8 h9 h6 h11 h10 h12
 obtain ⟨w1, hw1⟩ : ∃ w1, w1 = w.alloc (.cells #[.bool false, .bool false, .bool false] 31) := ⟨_, rfl⟩
 have hT1 : Three w1 w.heap.size := by rw [hw1]; exact ak w
 have hb1 : Below w.heap.size w w1 := by rw [hw1]; exact (Below.refl _ _).alloc (Nat.le_refl _) _
 have hs1 : w1.heap.size = w.heap.size + 1 := by rw [hw1]; simp
 have hr : aT bM 1 w1 (.slice none 0 0) ([] : List Int) := aT.nil w1
 have hc := aU hr (by decide) (by decide)
 unfold ae at hc
 rw [show aB ([] : List Int) 0 = false from rfl, show aB ([] : List Int) 1 = false from rfl, show aB ([] : List Int) 2 = false from rfl] at hc
 clear hr
 rw [hw1] at hc
 go_enter Tryz.func7, Tryz.ntmps7
 go_wp2_with fail
 go_at_call 39
 refine hc.mono ?_
 clear hc
 rintro e w3 ⟨rfl, hb3⟩
 rw [← hw1] at hb3
 rw [hs1] at hb3
 have aj := hT1.below hb3 (by omega)
 have hbb : Below w.heap.size w w3 := hb1.trans (hb3.mono (by omega))
 obtain ⟨⟨k0, k1, k2⟩, f0, f1, f2⟩ := aj.cell
 clear hT1 hb1 hb3
 replace aj := Lib.hid aj
 replace hw1 := Lib.hid hw1
 go_wp2_with fail
 refine ah rfl rfl rfl (aj.out.put _ _ _) Tryz.underlying31 rfl (by kernel_rfl) ⟨rfl, ?_⟩
 exact ((hbb.setCell (Nat.le_refl _) _).setCell (Nat.le_refl _) _).setCell (Nat.le_refl _) _
theorem ky (w : World) : Calls Tryz.prog 7 #[.int .i64 2] w fun e w' => e = .returned (ae true true true) ∧ Below w.heap.size w w' := by
 obtain ⟨w1, hw1⟩ : ∃ w1, w1 = w.alloc (.cells #[.bool false, .bool false, .bool false] 31) := ⟨_, rfl⟩
 have hT1 : Three w1 w.heap.size := by rw [hw1]; exact ak w
 have hb1 : Below w.heap.size w w1 := by rw [hw1]; exact (Below.refl _ _).alloc (Nat.le_refl _) _
 have hs1 : w1.heap.size = w.heap.size + 1 := by rw [hw1]; simp
 have hc := bN w1
 unfold ae at hc
 rw [hw1] at hc
 go_enter Tryz.func7, Tryz.ntmps7
 go_wp2_with fail
 go_at_call 40
 refine hc.mono ?_
 clear hc
 rintro e w3 ⟨rfl, hb3⟩
 rw [← hw1] at hb3
 rw [hs1] at hb3
 have aj := hT1.below hb3 (by omega)
 have hbb : Below w.heap.size w w3 := hb1.trans (hb3.mono (by omega))
 obtain ⟨⟨k0, k1, k2⟩, f0, f1, f2⟩ := aj.cell
 clear hT1 hb1 hb3
 replace aj := Lib.hid aj
 replace hw1 := Lib.hid hw1
 go_wp2_with fail
 refine ah rfl rfl rfl (aj.out.put _ _ _) Tryz.underlying31 rfl (by kernel_rfl) ⟨rfl, ?_⟩
 exact ((hbb.setCell (Nat.le_refl _) _).setCell (Nat.le_refl _) _).setCell (Nat.le_refl _) _
theorem kz (w : World) : Calls Tryz.prog 7 #[.int .i64 5] w fun e w' => e = .returned (ae true true true) ∧ Below w.heap.size w w' := by
 obtain ⟨w1, hw1⟩ : ∃ w1, w1 = w.alloc (.cells #[.bool false, .bool false, .bool false] 31) := ⟨_, rfl⟩
 have hT1 : Three w1 w.heap.size := by rw [hw1]; exact ak w
 have hb1 : Below w.heap.size w w1 := by rw [hw1]; exact (Below.refl _ _).alloc (Nat.le_refl _) _
 have hs1 : w1.heap.size = w.heap.size + 1 := by rw [hw1]; simp
 have hc := bN w1
 unfold ae at hc
 rw [hw1] at hc
 go_enter Tryz.func7, Tryz.ntmps7
 go_wp2_with fail
 go_at_call 40
 refine hc.mono ?_
 clear hc
 rintro e w3 ⟨rfl, hb3⟩
 rw [← hw1] at hb3
 rw [hs1] at hb3
 have aj := hT1.below hb3 (by omega)
 have hbb : Below w.heap.size w w3 := hb1.trans (hb3.mono (by omega))
 obtain ⟨⟨k0, k1, k2⟩, f0, f1, f2⟩ := aj.cell
 clear hT1 hb1 hb3
 replace aj := Lib.hid aj
 replace hw1 := Lib.hid hw1
 go_wp2_with fail
 refine ah rfl rfl rfl (aj.out.put _ _ _) Tryz.underlying31 rfl (by kernel_rfl) ⟨rfl, ?_⟩
 exact ((hbb.setCell (Nat.le_refl _) _).setCell (Nat.le_refl _) _).setCell (Nat.le_refl _) _
theorem kC (w : World) : Calls Tryz.prog 7 #[.int .i64 7] w fun e w' => e = .returned (ae true true true) ∧ Below w.heap.size w w' := by
 obtain ⟨w1, hw1⟩ : ∃ w1, w1 = w.alloc (.cells #[.bool false, .bool false, .bool false] 31) := ⟨_, rfl⟩
 have hT1 : Three w1 w.heap.size := by rw [hw1]; exact ak w
 have hb1 : Below w.heap.size w w1 := by rw [hw1]; exact (Below.refl _ _).alloc (Nat.le_refl _) _
 have hs1 : w1.heap.size = w.heap.size + 1 := by rw [hw1]; simp
 have hc := bN w1
 unfold ae at hc
 rw [hw1] at hc
 go_enter Tryz.func7, Tryz.ntmps7
 go_wp2_with fail
 go_at_call 40
 refine hc.mono ?_
 clear hc
 rintro e w3 ⟨rfl, hb3⟩
 rw [← hw1] at hb3
 rw [hs1] at hb3
 have aj := hT1.below hb3 (by omega)
 have hbb : Below w.heap.size w w3 := hb1.trans (hb3.mono (by omega))
 obtain ⟨⟨k0, k1, k2⟩, f0, f1, f2⟩ := aj.cell
 clear hT1 hb1 hb3
 replace aj := Lib.hid aj
 replace hw1 := Lib.hid hw1
 go_wp2_with fail
 refine ah rfl rfl rfl (aj.out.put _ _ _) Tryz.underlying31 rfl (by kernel_rfl) ⟨rfl, ?_⟩
 exact ((hbb.setCell (Nat.le_refl _) _).setCell (Nat.le_refl _) _).setCell (Nat.le_refl _) _
theorem kD (w : World) : Calls Tryz.prog 7 #[.int .i64 8] w fun e w' => e = .returned (ae true true true) ∧ Below w.heap.size w w' := by
 obtain ⟨w1, hw1⟩ : ∃ w1, w1 = w.alloc (.cells #[.bool false, .bool false, .bool false] 31) := ⟨_, rfl⟩
 have hT1 : Three w1 w.heap.size := by rw [hw1]; exact ak w
 have hb1 : Below w.heap.size w w1 := by rw [hw1]; exact (Below.refl _ _).alloc (Nat.le_refl _) _
 have hs1 : w1.heap.size = w.heap.size + 1 := by rw [hw1]; simp
 have hc := bN w1
 unfold ae at hc
 rw [hw1] at hc
 go_enter Tryz.func7, Tryz.ntmps7
 go_wp2_with fail
 go_at_call 40
 refine hc.mono ?_
 clear hc
 rintro e w3 ⟨rfl, hb3⟩
 rw [← hw1] at hb3
 rw [hs1] at hb3
 have aj := hT1.below hb3 (by omega)
 have hbb : Below w.heap.size w w3 := hb1.trans (hb3.mono (by omega))
 obtain ⟨⟨k0, k1, k2⟩, f0, f1, f2⟩ := aj.cell
 clear hT1 hb1 hb3
 replace aj := Lib.hid aj
 replace hw1 := Lib.hid hw1
 go_wp2_with fail
 refine ah rfl rfl rfl (aj.out.put _ _ _) Tryz.underlying31 rfl (by kernel_rfl) ⟨rfl, ?_⟩
 exact ((hbb.setCell (Nat.le_refl _) _).setCell (Nat.le_refl _) _).setCell (Nat.le_refl _) _
theorem kE (w : World) : Calls Tryz.prog 7 #[.int .i64 9] w fun e w' => e = .returned (ae true true true) ∧ Below w.heap.size w w' := by
 obtain ⟨w1, hw1⟩ : ∃ w1, w1 = w.alloc (.cells #[.bool false, .bool false, .bool false] 31) := ⟨_, rfl⟩
 have hT1 : Three w1 w.heap.size := by rw [hw1]; exact ak w
 have hb1 : Below w.heap.size w w1 := by rw [hw1]; exact (Below.refl _ _).alloc (Nat.le_refl _) _
 have hs1 : w1.heap.size = w.heap.size + 1 := by rw [hw1]; simp
 have hc := bN w1
 unfold ae at hc
 rw [hw1] at hc
 go_enter Tryz.func7, Tryz.ntmps7
 go_wp2_with fail
 go_at_call 40
 refine hc.mono ?_
 clear hc
 rintro e w3 ⟨rfl, hb3⟩
 rw [← hw1] at hb3
 rw [hs1] at hb3
 have aj := hT1.below hb3 (by omega)
 have hbb : Below w.heap.size w w3 := hb1.trans (hb3.mono (by omega))
 obtain ⟨⟨k0, k1, k2⟩, f0, f1, f2⟩ := aj.cell
 clear hT1 hb1 hb3
 replace aj := Lib.hid aj
 replace hw1 := Lib.hid hw1
 go_wp2_with fail
 refine ah rfl rfl rfl (aj.out.put _ _ _) Tryz.underlying31 rfl (by kernel_rfl) ⟨rfl, ?_⟩
 exact ((hbb.setCell (Nat.le_refl _) _).setCell (Nat.le_refl _) _).setCell (Nat.le_refl _) _
end Go.Proofs.YtfmpgdafnlehaaaGreat

namespace Go.Proofs.YtfmpgdafnlehaaaGreat
open Go.RowKit Go.Lib
def ax (a b c : Bool) (f : Int) : Int := if f ≤ 0 ∧ a = true then 0 else if f ≤ 1 ∧ b = true then 1 else if f ≤ 2 ∧ c = true then 2 else 3
theorem jA (a b c : Bool) (f : Int) (h : 3 ≤ f) : ax a b c f = 3 := by
 unfold ax; rw [if_neg (by omega), if_neg (by omega), if_neg (by omega)]
theorem jB (a b c : Bool) (f : Int) (h : f ≤ 0) : ax a b c f = ax a b c 0 := by
 unfold ax; simp [h, show f ≤ 1 by omega, show f ≤ 2 by omega]
def dx (a b c : Bool) : Int := a.toNat + b.toNat + c.toNat
theorem dI (a b c : Bool) (f : Int) (hf : -9223372036854775808 ≤ f ∧ f ≤ 9223372036854775807) (w : World) : Calls Tryz.prog 72 #[ae a b c, .int .i64 f] w fun e w' => e = .returned (.int .i64 (ax a b c f)) ∧ Below w.heap.size w w' := by
 obtain ⟨hf1, hf2⟩ := hf
 obtain ⟨r, hr⟩ : ∃ r, r = ax a b c f := ⟨_, rfl⟩
 obtain ⟨s, hs⟩ : ∃ s : Int, s = max f 0 := ⟨_, rfl⟩
 have hs0 : 0 ≤ s := by omega
 have oQ : s ≤ 9223372036854775807 := by omega
 have mq : Hid (ax a b c s = r) := by
  show _ = _
  rw [hr]
  by_cases h : f ≤ 0
  ·rw [jB a b c f h, show s = 0 by omega]
  ·rw [show s = f by omega]
 rw [← hr]
 replace hr := Lib.hid hr
 obtain ⟨w1, hw1⟩ : ∃ w1, w1 = w.alloc (.cells #[.bool a, .bool b, .bool c] 31) := ⟨_, rfl⟩
 have hb1 : Below w.heap.size w w1 := by rw [hw1]; exact (Below.refl _ _).alloc (Nat.le_refl _) _
 have hA1 : w1.heap[w.heap.size]? = some (.cells #[.bool a, .bool b, .bool c] 31 (0, 0)) := by rw [hw1]; exact heap_alloc_new w _
 have k0 : w1.cell? ⟨w.heap.size, 0, none⟩ = some (.bool a) := by simp [World.cell?, hA1]
 have k1 : w1.cell? ⟨w.heap.size, 1, none⟩ = some (.bool b) := by simp [World.cell?, hA1]
 have k2 : w1.cell? ⟨w.heap.size, 2, none⟩ = some (.bool c) := by simp [World.cell?, hA1]
 clear hA1
 unfold ae
 go_enter Tryz.func72, Tryz.ntmps72
 go_wp2_with fail
 rw [← hs, ← hw1]
 replace hs := Lib.hid hs
 replace hw1 := Lib.hid hw1
 go_loopw [5] (fun ii wr => ∃ k : Int, 0 ≤ k ∧ k ≤ 9223372036854775807 ∧ ii = .int .i64 k ∧ Hid (ax a b c k = r) ∧ w1 = wr) (fun ii _ => 3 - (intOf ii).toNat)
 case atStart => exact ⟨s, hs0, oQ, rfl, mq, rfl⟩
 case round =>
  obtain ⟨k, h0, hM, rfl, hk, rfl⟩ := hrel
  by_cases h3 : k < 3
  ·have hc : k = 0 ∨ k = 1 ∨ k = 2 := by omega
   rcases hc with rfl | rfl | rfl
   ·cases a
    ·have hn : Hid (ax false b c 1 = r) := by
      show _ = _
      rw [← hk.out]; simp [ax]
     clear hk mq
     go_wp2_with fail
     go_roundw
     case rel => exact ⟨1, by omega, by omega, rfl, hn, trivial⟩
     case measure => simp [intOf]
    ·go_wp2_with fail
     go_ret
     exact ⟨by rw [← hk.out]; rfl, hb1⟩
   ·cases b
    ·have hn : Hid (ax a false c 2 = r) := by
      show _ = _
      rw [← hk.out]; simp [ax]
     clear hk mq
     go_wp2_with fail
     go_roundw
     case rel => exact ⟨2, by omega, by omega, rfl, hn, trivial⟩
     case measure => simp [intOf]
    ·go_wp2_with fail
     go_ret
     exact ⟨by rw [← hk.out]; simp [ax], hb1⟩
   ·cases c
    ·have hn : Hid (ax a b false 3 = r) := by
      show _ = _
      rw [← hk.out]; simp [ax]
     clear hk mq
     go_wp2_with fail
     go_roundw
     case rel => exact ⟨3, by omega, by omega, rfl, hn, trivial⟩
     case measure => simp [intOf]
    ·go_wp2_with fail
     go_ret
     exact ⟨by rw [← hk.out]; simp [ax], hb1⟩
  ·have e3 : Hid (r = 3) := by show _ = _; rw [← hk.out]; exact jA a b c k (by omega)
   go_wp2_with fail
   go_ret
   exact ⟨by rw [e3.out]; rfl, hb1⟩
theorem jg (a b c : Bool) (w : World) : Calls Tryz.prog 10 #[ae a b c] w fun e w' => e = .returned (.int .i64 (dx a b c)) ∧ Below w.heap.size w w' := by
 have hb1 : Below w.heap.size w (w.alloc (.cells #[.bool a, .bool b, .bool c] 31)) := (Below.refl _ _).alloc (Nat.le_refl _) _
 unfold ae
 obtain ⟨na, hna⟩ : ∃ n : Nat, n = a.toNat := ⟨_, rfl⟩
 obtain ⟨nb, hnb⟩ : ∃ n : Nat, n = b.toNat := ⟨_, rfl⟩
 obtain ⟨nc, hnc⟩ : ∃ n : Nat, n = c.toNat := ⟨_, rfl⟩
 have la : na ≤ 1 := by rw [hna]; cases a <;> decide
 have lb : nb ≤ 1 := by rw [hnb]; cases b <;> decide
 have lc : nc ≤ 1 := by rw [hnc]; cases c <;> decide
 unfold dx
 rw [← hna, ← hnb, ← hnc]
 replace hna := Lib.hid hna
 replace hnb := Lib.hid hnb
 replace hnc := Lib.hid hnc
 have i0 : ∀ (a b c : Bool) w, (Instr.index 31 (.agg #[.bool a, .bool b, .bool c]) (.int .i64 0)).run Tryz.prog w = .ok (.bool a) w := fun _ _ _ _ => by kernel_rfl
 have i1 : ∀ (a b c : Bool) w, (Instr.index 31 (.agg #[.bool a, .bool b, .bool c]) (.int .i64 1)).run Tryz.prog w = .ok (.bool b) w := fun _ _ _ _ => by kernel_rfl
 have i2 : ∀ (a b c : Bool) w, (Instr.index 31 (.agg #[.bool a, .bool b, .bool c]) (.int .i64 2)).run Tryz.prog w = .ok (.bool c) w := fun _ _ _ _ => by kernel_rfl
 go_enter Tryz.func10, Tryz.ntmps10
 go_wp2_with fail
 go_loopw [3, 7] (fun mm ii wr => ∃ (i m : Int), ii = .int .i64 i ∧ mm = .int .i64 m ∧ Hid ((i = 0 ∧ m = 0) ∨ (i = 1 ∧ m = (na : Int)) ∨ (i = 2 ∧ m = (na : Int) + nb) ∨ (i = 3 ∧ m = (na : Int) + nb + nc)) ∧ w.alloc (.cells #[.bool a, .bool b, .bool c] 31) = wr) (fun _ ii _ => 3 - (intOf ii).toNat)
 case atStart => exact ⟨0, 0, rfl, rfl, .inl ⟨rfl, rfl⟩, rfl⟩
 case round =>
  obtain ⟨i, m, rfl, rfl, hm, rfl⟩ := hrel
  rcases hm.out with ⟨rfl, rfl⟩ | ⟨rfl, hmm⟩ | ⟨rfl, hmm⟩ | ⟨rfl, hmm⟩
  ·clear hm
   cases a
   ·have e : Hid (na = 0) := hna.out
    go_wp2_with fail
    go_roundw
    case rel => exact ⟨1, 0, by go_num, rfl, .inr (.inl ⟨rfl, by rw [e.out]; rfl⟩), trivial⟩
    case measure => simp [intOf]
   ·have e : Hid (na = 1) := hna.out
    go_wp2_with fail
    go_roundw
    case rel => exact ⟨1, 1, by go_num, by go_num, .inr (.inl ⟨rfl, by rw [e.out]; rfl⟩), trivial⟩
    case measure => simp [intOf]
  ·clear hm
   have wi : IntKind.i64.wrap (m + 1) = m + 1 := by rw [IntKind.wrap_i64]; omega
   replace hmm := Lib.hid hmm
   cases b
   ·have e : Hid (nb = 0) := hnb.out
    go_wp2_with fail
    go_roundw
    case rel => exact ⟨2, m, by go_num, rfl, .inr (.inr (.inl ⟨rfl, by rw [e.out, hmm.out]; simp⟩)), trivial⟩
    case measure => simp [intOf]
   ·have e : Hid (nb = 1) := hnb.out
    go_wp2_with fail
    go_roundw
    case rel => exact ⟨2, m + 1, by go_num, by go_num, .inr (.inr (.inl ⟨rfl, by rw [e.out, hmm.out]; rfl⟩)), trivial⟩
    case measure => simp [intOf]
  ·clear hm
   have wi : IntKind.i64.wrap (m + 1) = m + 1 := by rw [IntKind.wrap_i64]; omega
   replace hmm := Lib.hid hmm
   cases c
   ·have e : Hid (nc = 0) := hnc.out
    go_wp2_with fail
    go_roundw
    case rel => exact ⟨3, m, by go_num, rfl, .inr (.inr (.inr ⟨rfl, by rw [e.out, hmm.out]; simp⟩)), trivial⟩
    case measure => simp [intOf]
   ·have e : Hid (nc = 1) := hnc.out
    go_wp2_with fail
    go_roundw
    case rel => exact ⟨3, m + 1, by go_num, by go_num, .inr (.inr (.inr ⟨rfl, by rw [e.out, hmm.out]; rfl⟩)), trivial⟩
    case measure => simp [intOf]
  ·clear hm
   replace hmm := Lib.hid hmm
   go_wp2_with fail
   go_ret
   exact ⟨by rw [hmm.out]; rfl, hb1⟩
theorem nA (k : Int) (w : World) : Calls Tryz.prog 75 #[.int .i64 k] w fun e w' => e = .returned (.bool (decide (1 ≤ k) && decide (k ≤ 13))) ∧ w = w' := by
 by_cases h1 : 1 ≤ k
 ·have d1 : decide (1 ≤ k) = true := decide_eq_true h1
  go_enter Tryz.func75, Tryz.ntmps75
  go_wp2_with fail
  go_ret
  exact ⟨by simp [h1], rfl⟩
 ·have d1 : decide (1 ≤ k) = false := decide_eq_false h1
  go_enter Tryz.func75, Tryz.ntmps75
  go_wp2_with fail
  go_ret
  exact ⟨by simp, rfl⟩
def eO (k : Int) : Bool := decide (k = 6) || decide (k = 10) || decide (k = 11) || decide (k = 12)
theorem jC (k : Int) (w : World) : Calls Tryz.prog 76 #[.int .i64 k] w fun e w' => e = .returned (.bool (eO k)) ∧ w = w' := by
 by_cases h6 : k = 6
 ·subst h6
  go_enter Tryz.func76, Tryz.ntmps76
  go_wp2_with fail
  go_ret
  exact ⟨rfl, rfl⟩
 by_cases h10 : k = 10
 ·subst h10
  go_enter Tryz.func76, Tryz.ntmps76
  go_wp2_with fail
  go_ret
  exact ⟨rfl, rfl⟩
 by_cases h11 : k = 11
 ·subst h11
  go_enter Tryz.func76, Tryz.ntmps76
  go_wp2_with fail
  go_ret
  exact ⟨rfl, rfl⟩
 by_cases h12 : k = 12
 ·subst h12
  go_enter Tryz.func76, Tryz.ntmps76
  go_wp2_with fail
  go_ret
  exact ⟨rfl, rfl⟩
 have e : eO k = false := by simp [eO, h6, h10, h11, h12]
 rw [e]
 have t6 : (k == 6) = false := beq_eq_false_iff_ne.2 h6
 have t10 : (k == 10) = false := beq_eq_false_iff_ne.2 h10
 have t11 : (k == 11) = false := beq_eq_false_iff_ne.2 h11
 have t12 : (k == 12) = false := beq_eq_false_iff_ne.2 h12
 clear h6 h10 h11 h12 e
 go_enter Tryz.func76, Tryz.ntmps76
 go_wp2_with fail
 go_ret
 exact ⟨rfl, rfl⟩
end Go.Proofs.YtfmpgdafnlehaaaGreat

namespace Go.Proofs.YtfmpgdafnlehaaaGreat
open Go.RowKit
theorem aI {w w' : World} {base : Nat} {e : TypeId} {size : Nat} {v : Value} {n : Nat} {xs : List Value} (h : w.ownsRow base e size v n xs) (hk : ∀ k, v.ownBlock = some k → w'.heap[k]? = w.heap[k]?) : w'.ownsRow base e size v n xs := by
 obtain ⟨h1, h2⟩ := h
 refine ⟨h1, ?_⟩
 rcases h2 with h2 | ⟨g, cap, cur, rfl, hg, hh, r⟩
 ·exact Or.inl h2
 ·exact Or.inr ⟨g, cap, cur, rfl, hg, by rw [hk g rfl]; exact hh, r⟩
theorem ownsRow_below {w w' : World} {base B : Nat} {e : TypeId} {size : Nat} {v : Value} {n : Nat} {xs : List Value} (h : w.ownsRow base e size v n xs) (hb : Below B w w') (hv : ∀ k, v.ownBlock = some k → k < B) : w'.ownsRow base e size v n xs :=
 aI h fun k hk => hb.block k (hv k hk)
end Go.Proofs.YtfmpgdafnlehaaaGreat

namespace Go.Proofs.YtfmpgdafnlehaaaGreat
open Go.RowKit Go.Sort
theorem kF {w : World} {base : Nat} {e : TypeId} {sz n g : Nat} {vs : List Value} (hg : g = w.heap.size) (hb : base ≤ w.heap.size) (hl : vs.length = n * sz) (hn : n ≤ maxLen) : (w.alloc (.cells vs.toArray e)).ownsRow base e sz (.slice (some ⟨g, 0, none⟩) n n) n vs := by
 subst hg
 exact ⟨hl, .inr ⟨w.heap.size, n, vs.toArray, rfl, hb, heap_alloc_new w _, Nat.le_refl _, hn, by simpa using hl, by simp [← hl]⟩⟩
end Go.Proofs.YtfmpgdafnlehaaaGreat

namespace Go.Proofs.YtfmpgdafnlehaaaGreat
open Go.RowKit Go.Sort Go.Lib
namespace Put
theorem jD {w w' : World} {base : Nat} {e : TypeId} {size : Nat} {v : Value} {n : Nat} {xs : List Value} (h : w.ownsRow base e size v n xs) (hb : Below w.heap.size w w') : w'.ownsRow base e size v n xs :=
 ownsRow_below h hb fun k hk => (h.lt k hk).2
structure Off (p g : Nat) (w w' : World) : Prop where
 os : w'.os = w.os
 tape : w'.tape = w.tape
 output : w'.output = w.output
 size : w.heap.size ≤ w'.heap.size
 block : ∀ k, k < w.heap.size → k ≠ p → k ≠ g → w'.heap[k]? = w.heap[k]?
section
variable {p g g' : Nat} {w w' w'' : World}
theorem Off.refl (p g : Nat) (w : World) : Off p g w w := ⟨rfl, rfl, rfl, Nat.le_refl _, fun _ _ _ _ => rfl⟩
theorem Off.of_below (h : Below w.heap.size w w') : Off p g w w' := ⟨h.os, h.tape, h.output, h.size, fun k hk _ _ => h.block k hk⟩
theorem Off.trans (h : Off p g w w') (h' : Off p g' w' w'') (hg : g' = g ∨ w.heap.size ≤ g') : Off p g w w'' :=
 ⟨h'.os.trans h.os, h'.tape.trans h.tape, h'.output.trans h.output, Nat.le_trans h.size h'.size, fun k hk h1 h2 => by
  rw [h'.block k (Nat.lt_of_lt_of_le hk h.size) h1 (by omega), h.block k hk h1 h2]⟩
theorem Off.setCell {b j : Nat} {v : Value} (h : Off p g w w') (hb : b = p ∨ b = g ∨ w.heap.size ≤ b) : Off p g w (w'.setCell ⟨b, j, none⟩ v) :=
 ⟨h.os, h.tape, h.output, by simpa using h.size, fun k hk h1 h2 => by
  rw [Below.heap_setCell w' ⟨b, j, none⟩ v k (by show k ≠ b; omega)]; exact h.block k hk h1 h2⟩
theorem Off.aC (h : Off p g w w') (h' : Below w'.heap.size w' w'') : Off p g w w'' := h.trans (Off.of_below h') (.inl rfl)
end
theorem lt_of_heap {w : World} {p : Nat} {o : Obj} (h : w.heap[p]? = some o) : p < w.heap.size := by
 rcases Nat.lt_or_ge p w.heap.size with h' | h'
 ·exact h'
 ·rw [Array.getElem?_eq_none h'] at h; cases h
theorem bT {w : World} {p q : Nat} {a b : Array Value} {s t : TypeId} {x y : Nat × Nat} (h : w.heap[p]? = some (.cells a s x)) (h' : w.heap[q]? = some (.cells b t y)) (hne : s ≠ t) : p ≠ q := by
 intro e
 subst e
 rw [h] at h'
 injection h' with h'
 injection h' with _ h3
 exact hne h3
section
end
end Put
end Go.Proofs.YtfmpgdafnlehaaaGreat

namespace Go.Proofs.YtfmpgdafnlehaaaGreat
open Go.RowKit Go.Lib
structure Lk where
 a : Int
 b : Int
 c : Int
 n : Int
def Lk.own (l : Lk) (k : Int) : Int := if k = 0 then l.a else if k = 1 then l.b else if k = 2 then l.c else 0
def Lk.has (l : Lk) (k who : Int) : Bool := decide (0 < who) && decide (l.own k = who)
def Lk.free (l : Lk) : Bool := l.a == 0 && l.b == 0 && l.c == 0
def fG (k : Int) : Bool := decide (0 ≤ k) && decide (k < 3)
def aJ (k who : Int) : Bool := !fG k || decide (who ≤ 0)
def ag (T : TypeId) (w : World) (s : Nat) (l : Lk) : Prop := w.heap[s]? = some (.cells #[.int .i64 l.a, .int .i64 l.b, .int .i64 l.c, .int .i64 l.n] T (0, 0))
section
variable {T : TypeId} {w w' : World} {s : Nat} {l : Lk}
theorem ag.c0 (h : ag T w s l) : w.cell? ⟨s, 0, none⟩ = some (.int .i64 l.a) := by simp [World.cell?, show w.heap[s]? = _ from h]
theorem ag.c1 (h : ag T w s l) : w.cell? ⟨s, 1, none⟩ = some (.int .i64 l.b) := by simp [World.cell?, show w.heap[s]? = _ from h]
theorem ag.c2 (h : ag T w s l) : w.cell? ⟨s, 2, none⟩ = some (.int .i64 l.c) := by simp [World.cell?, show w.heap[s]? = _ from h]
theorem ag.c3 (h : ag T w s l) : w.cell? ⟨s, 3, none⟩ = some (.int .i64 l.n) := by simp [World.cell?, show w.heap[s]? = _ from h]
theorem ag.lt (h : ag T w s l) : s < w.heap.size := aD h
theorem ag.below {B : Nat} (h : ag T w s l) (hb : Below B w w') (hs : s < B) : ag T w' s l := by
 unfold ag at *; rw [hb.block s hs]; exact h
end
theorem eP {P : Program} (d : Nat) (t e : TypeId) (ht : P.underlying t = some (.array 3 e)) (xs ys : Array Value) (w : World) (hz : (sizeOf e).run P w = .ok 1 w) (b0 b1 b2 : Bool) (x0 x1 x2 y0 y1 y2 : Value)
 (p0 : (part e xs 0).run P w = .ok x0 w) (p1 : (part e xs 1).run P w = .ok x1 w) (p2 : (part e xs 2).run P w = .ok x2 w)
 (q0 : (part e ys 0).run P w = .ok y0 w) (q1 : (part e ys 1).run P w = .ok y1 w) (q2 : (part e ys 2).run P w = .ok y2 w)
 (h0 : (Op.equalIn d e x0 y0).run P w = .ok b0 w) (h1 : (Op.equalIn d e x1 y1).run P w = .ok b1 w) (h2 : (Op.equalIn d e x2 y2).run P w = .ok b2 w) :
 (Op.equalIn (d + 1) t (.agg xs) (.agg ys)).run P w = .ok (b0 && b1 && b2) w := by
 simp only [Op.equalIn, Sem.run_bind, run_underlying ht, Result.andThen_ok, hz]
 simp only [Std.Legacy.Range.forIn_eq_forIn_range', Std.Legacy.Range.size]
 simp only [Nat.sub_zero, Nat.add_sub_cancel, Nat.div_one, List.range', List.forIn_cons, List.forIn_nil]
 cases b0 <;> cases b1 <;> cases b2 <;> simp [p0, p1, p2, q0, q1, q2, h0, h1, h2]
theorem kG (a b c : Int) (w : World) : (Op.equalIn 10000 27 (.agg #[.int .i64 a, .int .i64 b, .int .i64 c]) (.agg #[.int .i64 0, .int .i64 0, .int .i64 0])).run Tryz.prog w = .ok (a == 0 && b == 0 && c == 0) w :=
 eP 9999 _ 3 Tryz.underlying27 _ _ w (by kernel_rfl) _ _ _ _ _ _ _ _ _ (by kernel_rfl) (by kernel_rfl) (by kernel_rfl) (by kernel_rfl) (by kernel_rfl) (by kernel_rfl)
  (run_equalIn_int w 9998 _ .i64 .i64 a 0 Tryz.underlying3) (run_equalIn_int w 9998 _ .i64 .i64 b 0 Tryz.underlying3) (run_equalIn_int w 9998 _ .i64 .i64 c 0 Tryz.underlying3)
theorem zero_eq (a b c : Int) (w : World) : (binOp .eql 27 (.agg #[.int .i64 a, .int .i64 b, .int .i64 c]) (.agg #[.int .i64 0, .int .i64 0, .int .i64 0])).run Tryz.prog w = .ok (.bool (a == 0 && b == 0 && c == 0)) w := by
 rw [run_eql_struct, kG]; rfl
theorem fK (k : Int) (w : World) : Calls Tryz.prog 79 #[.int .i64 k] w fun e w' => e = .returned (.bool (fG k)) ∧ w = w' := by
 unfold fG
 by_cases h1 : 0 ≤ k
 ·have d1 : decide (0 ≤ k) = true := decide_eq_true h1
  go_enter Tryz.func79, Tryz.ntmps79
  go_wp2_with fail
  go_ret
  exact ⟨by simp [h1], rfl⟩
 ·have d1 : decide (0 ≤ k) = false := decide_eq_false h1
  go_enter Tryz.func79, Tryz.ntmps79
  go_wp2_with fail
  go_ret
  exact ⟨by simp, rfl⟩
section
variable {w : World} {s : Nat} {l : Lk}
theorem jE (k : Int) (h : ag 29 w s l) : Calls Tryz.prog 44 #[.pointer (some ⟨s, 0, none⟩), .int .i64 k] w fun e w' => e = .returned (.int .i64 (l.own k)) ∧ w = w' := by
 have k0 := h.c0
 have k1 := h.c1
 have k2 := h.c2
 have hi := fK k w
 by_cases hk : k = 0 ∨ k = 1 ∨ k = 2
 ·rcases hk with rfl | rfl | rfl
  ·have e : fG 0 = true := by decide
   rw [e] at hi
   clear e h
   go_enter Tryz.func44, Tryz.ntmps44
   go_wp2_with (go_at_call 79; go_must (refine hi.mono ?_); rintro e w' ⟨rfl, rfl⟩)
   go_ret
   exact ⟨rfl, rfl⟩
  ·have e : fG 1 = true := by decide
   rw [e] at hi
   clear e h
   go_enter Tryz.func44, Tryz.ntmps44
   go_wp2_with (go_at_call 79; go_must (refine hi.mono ?_); rintro e w' ⟨rfl, rfl⟩)
   go_ret
   exact ⟨rfl, rfl⟩
  ·have e : fG 2 = true := by decide
   rw [e] at hi
   clear e h
   go_enter Tryz.func44, Tryz.ntmps44
   go_wp2_with (go_at_call 79; go_must (refine hi.mono ?_); rintro e w' ⟨rfl, rfl⟩)
   go_ret
   exact ⟨rfl, rfl⟩
 ·have e : fG k = false := by unfold fG; simp; omega
  have e2 : l.own k = 0 := by unfold Lk.own; rw [if_neg (by omega), if_neg (by omega), if_neg (by omega)]
  rw [e] at hi
  rw [e2]
  clear e e2 h k0 k1 k2 hk
  go_enter Tryz.func44, Tryz.ntmps44
  go_wp2_with (go_at_call 79; go_must (refine hi.mono ?_); rintro e w' ⟨rfl, rfl⟩)
  go_ret
  exact ⟨rfl, rfl⟩
theorem mr (k who : Int) (p : Value) (o : Int) (hO : Calls Tryz.prog 44 #[p, .int .i64 k] w fun e w' => e = .returned (.int .i64 o) ∧ w = w') :
 Calls Tryz.prog 126 #[p, .int .i64 k, .int .i64 who] w fun e w' => e = .returned (.bool (decide (0 < who) && decide (o = who))) ∧ w = w' := by
 by_cases h1 : 0 < who
 ·have d1 : decide (0 < who) = true := decide_eq_true h1
  go_enter Tryz.func126, Tryz.ntmps126
  go_wp2_with (go_at_call 44; go_must (refine hO.mono ?_); rintro e w' ⟨rfl, rfl⟩)
  go_ret
  exact ⟨by simp [h1]; first | rfl | (by_cases e : o = who <;> simp [e]), rfl⟩
 ·have d1 : decide (0 < who) = false := decide_eq_false h1
  go_enter Tryz.func126, Tryz.ntmps126
  go_wp2_with fail
  go_ret
  exact ⟨by simp [d1], rfl⟩
theorem aY (k who : Int) (h : ag 29 w s l) : Calls Tryz.prog 126 #[.pointer (some ⟨s, 0, none⟩), .int .i64 k, .int .i64 who] w fun e w' => e = .returned (.bool (l.has k who)) ∧ w = w' := mr k who _ _ (jE k h)
theorem aR (k who : Int) (s : Nat) (w : World) : Calls Tryz.prog 123 #[.pointer (some ⟨s, 0, none⟩), .int .i64 k, .int .i64 who] w fun e w' => e = .returned (.bool (aJ k who)) ∧ w = w' := by
 have hi := fK k w
 unfold aJ
 obtain ⟨x, hx⟩ : ∃ x, x = fG k := ⟨_, rfl⟩
 rw [← hx] at hi ⊢
 clear hx
 cases x
 ·go_enter Tryz.func123, Tryz.ntmps123
  go_wp2_with (go_at_call 79; go_must (refine hi.mono ?_); rintro e w' ⟨rfl, rfl⟩)
  go_ret
  exact ⟨by simp, rfl⟩
 ·go_enter Tryz.func123, Tryz.ntmps123
  go_wp2_with (go_at_call 79; go_must (refine hi.mono ?_); rintro e w' ⟨rfl, rfl⟩)
  go_ret
  exact ⟨by simp, rfl⟩
theorem kH (h : ag 29 w s l) : Calls Tryz.prog 51 #[.pointer (some ⟨s, 0, none⟩)] w fun e w' => e = .returned (.bool l.free) ∧ w = w' := by
 have k0 := h.c0
 have k1 := h.c1
 have k2 := h.c2
 have hq := fun W => zero_eq l.a l.b l.c W
 clear h
 unfold Lk.free
 go_enter Tryz.func51, Tryz.ntmps51
 go_wp2_with fail
 go_ret
 exact ⟨rfl, rfl⟩
def gy (l : Lk) (who : Int) : Value := ae (l.has 0 who) (l.has 1 who) (l.has 2 who)
theorem kI (who : Int) (p : Value) (a b c : Bool) (w : World) (h0 : ∀ W, Below w.heap.size w W → Calls Tryz.prog 126 #[p, .int .i64 0, .int .i64 who] W fun e w' => e = .returned (.bool a) ∧ W = w')
 (h1 : ∀ W, Below w.heap.size w W → Calls Tryz.prog 126 #[p, .int .i64 1, .int .i64 who] W fun e w' => e = .returned (.bool b) ∧ W = w')
 (h2 : ∀ W, Below w.heap.size w W → Calls Tryz.prog 126 #[p, .int .i64 2, .int .i64 who] W fun e w' => e = .returned (.bool c) ∧ W = w') :
 Calls Tryz.prog 124 #[p, .int .i64 who] w fun e w' => e = .returned (ae a b c) ∧ Below w.heap.size w w' := by
 unfold ae
 obtain ⟨g, hg⟩ : ∃ g, g = w.heap.size + 1 := ⟨_, rfl⟩
 obtain ⟨w1, hw1⟩ : ∃ w1, w1 = (w.alloc (.cells #[.bool false, .bool false, .bool false] 31)).alloc (.cells #[.bool false, .bool false, .bool false] 31) := ⟨_, rfl⟩
 have hb1 : Below w.heap.size w w1 := by rw [hw1]; exact ((Below.refl _ _).alloc (Nat.le_refl _) _).alloc (by simp) _
 have hA1 : w1.heap[g]? = some (.cells #[.bool false, .bool false, .bool false] 31 (0, 0)) := by
  rw [hw1, hg]
  have := heap_alloc_new (w.alloc (.cells #[.bool false, .bool false, .bool false] 31)) (.cells #[.bool false, .bool false, .bool false] 31)
  simpa using this
 have nC : w1.heap[w.heap.size]? = some (.cells #[.bool false, .bool false, .bool false] 31 (0, 0)) := by
  rw [hw1]; exact au (heap_alloc_new w _)
 replace hb1 := Lib.hid hb1
 replace hA1 := Lib.hid hA1
 replace nC := Lib.hid nC
 replace h0 := Lib.hid h0
 replace h1 := Lib.hid h1
 replace h2 := Lib.hid h2
 go_enter Tryz.func124, Tryz.ntmps124
 go_wp2_with fail
 rw [← hw1]
 rw [← hg]
 replace hw1 := Lib.hid hw1
 have hg1 : w.heap.size ≠ g := by omega
 have hg2 : w.heap.size ≤ g := by omega
 replace hg := Lib.hid hg
 go_loopw [6, 7] (fun jj ii wr => ∃ (cs : Array Value) (k : Int), ii = .int .i64 k ∧ Hid (wr.heap[g]? = some (.cells cs 31 (0, 0))) ∧ Hid (wr.heap[w.heap.size]? = some (.cells #[.bool false, .bool false, .bool false] 31 (0, 0))) ∧ Hid (Below w.heap.size w wr) ∧ Hid ((k = 0 ∧ cs = #[.bool false, .bool false, .bool false]) ∨ (k = 1 ∧ cs = #[.bool a, .bool false, .bool false]) ∨ (k = 2 ∧ cs = #[.bool a, .bool b, .bool false]) ∨ (k = 3 ∧ cs = #[.bool a, .bool b, .bool c]))) (fun _ ii _ => 3 - (intOf ii).toNat)
 case atStart => exact ⟨_, 0, rfl, hA1.out, nC.out, hb1.out, .inl ⟨rfl, rfl⟩⟩
 case round =>
  obtain ⟨cs, k, rfl, hG, hR, hB, hk⟩ := hrel
  rcases hk.out with ⟨rfl, rfl⟩ | ⟨rfl, rfl⟩ | ⟨rfl, rfl⟩ | ⟨rfl, rfl⟩
  ·have hh := h0.out wr hB.out
   have kc : wr.cell? ⟨g, 0, none⟩ = some (.bool false) := by simp [World.cell?, hG.out]
   have kf : wr.frozen? ⟨g, 0, none⟩ = false := by simp [World.frozen?, hG.out]
   clear hk
   go_wp2_with (go_at_call 126; go_must (refine hh.mono ?_); rintro e w5 ⟨rfl, rfl⟩)
   go_roundw
   case rel => exact ⟨_, 1, by go_num, heap_put hG.out _, by show (wr.setCell _ _).heap[w.heap.size]? = _; rw [Below.heap_setCell wr ⟨g, 0, none⟩ _ _ hg1]; exact hR.out, hB.out.setCell hg2 _, .inr (.inl ⟨rfl, rfl⟩)⟩
   case measure => simp [intOf]
  ·have hh := h1.out wr hB.out
   have kc : wr.cell? ⟨g, 1, none⟩ = some (.bool false) := by simp [World.cell?, hG.out]
   have kf : wr.frozen? ⟨g, 1, none⟩ = false := by simp [World.frozen?, hG.out]
   clear hk
   go_wp2_with (go_at_call 126; go_must (refine hh.mono ?_); rintro e w5 ⟨rfl, rfl⟩)
   go_roundw
   case rel => exact ⟨_, 2, by go_num, heap_put hG.out _, by show (wr.setCell _ _).heap[w.heap.size]? = _; rw [Below.heap_setCell wr ⟨g, 1, none⟩ _ _ hg1]; exact hR.out, hB.out.setCell hg2 _, .inr (.inr (.inl ⟨rfl, rfl⟩))⟩
   case measure => simp [intOf]
  ·have hh := h2.out wr hB.out
   have kc : wr.cell? ⟨g, 2, none⟩ = some (.bool false) := by simp [World.cell?, hG.out]
   have kf : wr.frozen? ⟨g, 2, none⟩ = false := by simp [World.frozen?, hG.out]
   clear hk
   go_wp2_with (go_at_call 126; go_must (refine hh.mono ?_); rintro e w5 ⟨rfl, rfl⟩)
   go_roundw
   case rel => exact ⟨_, 3, by go_num, heap_put hG.out _, by show (wr.setCell _ _).heap[w.heap.size]? = _; rw [Below.heap_setCell wr ⟨g, 2, none⟩ _ _ hg1]; exact hR.out, hB.out.setCell hg2 _, .inr (.inr (.inr ⟨rfl, rfl⟩))⟩
   case measure => simp [intOf]
  ·clear hk
   have k0 : wr.cell? ⟨g, 0, none⟩ = some (.bool a) := by simp [World.cell?, hG.out]
   have k1 : wr.cell? ⟨g, 1, none⟩ = some (.bool b) := by simp [World.cell?, hG.out]
   have k2 : wr.cell? ⟨g, 2, none⟩ = some (.bool c) := by simp [World.cell?, hG.out]
   have r0 : wr.cell? ⟨w.heap.size, 0, none⟩ = some (.bool false) := by simp [World.cell?, hR.out]
   have f0 : wr.frozen? ⟨w.heap.size, 0, none⟩ = false := by simp [World.frozen?, hR.out]
   have r1 : wr.cell? ⟨w.heap.size, 1, none⟩ = some (.bool false) := by simp [World.cell?, hR.out]
   have f1 : wr.frozen? ⟨w.heap.size, 1, none⟩ = false := by simp [World.frozen?, hR.out]
   have r2 : wr.cell? ⟨w.heap.size, 2, none⟩ = some (.bool false) := by simp [World.cell?, hR.out]
   have f2 : wr.frozen? ⟨w.heap.size, 2, none⟩ = false := by simp [World.frozen?, hR.out]
   go_wp2_with fail
   refine ah rfl rfl rfl (heap_put (heap_put (heap_put hR.out _) _) _) Tryz.underlying31 rfl (by kernel_rfl) ⟨rfl, ?_⟩
   exact ((hB.out.setCell (Nat.le_refl _) _).setCell (Nat.le_refl _) _).setCell (Nat.le_refl _) _
theorem eQ (who : Int) (h : ag 29 w s l) : Calls Tryz.prog 124 #[.pointer (some ⟨s, 0, none⟩), .int .i64 who] w fun e w' => e = .returned (gy l who) ∧ Below w.heap.size w w' :=
 kI who _ _ _ _ w (fun _ hb => aY 0 who (h.below hb h.lt)) (fun _ hb => aY 1 who (h.below hb h.lt)) (fun _ hb => aY 2 who (h.below hb h.lt))
end
end Go.Proofs.YtfmpgdafnlehaaaGreat

namespace Go.Proofs.YtfmpgdafnlehaaaGreat
open Go.RowKit Go.Lib
def Lk.later (l : Lk) (k who : Int) : Bool := decide (k ≤ 0 ∧ l.a = who) || decide (k ≤ 1 ∧ l.b = who) || decide (k ≤ 2 ∧ l.c = who)
def Lk.put (l : Lk) (k v : Int) : Lk := ⟨if k = 0 then v else l.a, if k = 1 then v else l.b, if k = 2 then v else l.c, l.n⟩
def Lk.bI (l : Lk) (k who : Int) : Int := if aJ k who = true then 1 else if l.later k who = true then 17 else if l.own k = 0 then 0 else 18
def Lk.bX (l : Lk) (k who : Int) : Lk := if l.bI k who = 0 then { l.put k who with n := l.n + 1 } else l
def Lk.bD (l : Lk) (k who : Int) : Int := if aJ k who = true then 1 else if l.own k = who then 0 else 8
def Lk.bn (l : Lk) (k who : Int) : Lk := if l.bD k who = 0 then l.put k 0 else l
theorem bB {k who : Int} (h : aJ k who = false) : (k = 0 ∨ k = 1 ∨ k = 2) ∧ 0 < who := by
 unfold aJ fG at h
 simp at h
 omega
theorem cu (l : Lk) {k who : Int} (h : aJ k who = false) : decide (ax (l.has 0 who) (l.has 1 who) (l.has 2 who) k < 3) = l.later k who := by
 obtain ⟨hk, hw⟩ := bB h
 have o0 : l.own 0 = l.a := rfl
 have o1 : l.own 1 = l.b := rfl
 have o2 : l.own 2 = l.c := rfl
 unfold ax Lk.later Lk.has
 rw [o0, o1, o2]
 rw [decide_eq_true hw]
 rcases hk with rfl | rfl | rfl <;> by_cases h0 : l.a = who <;> by_cases h1 : l.b = who <;> by_cases h2 : l.c = who <;> simp [h0, h1, h2]
def bf (T : TypeId) (w : World) (s : Nat) (r : Int) (l' : Lk) (e : Ending) (w' : World) : Prop := e = .returned (.int .i64 r) ∧ ag T w' s l' ∧ Put.Off s s w w'
section
variable {T : TypeId} {w w' : World} {s : Nat} {l : Lk}
theorem ag.fz (h : ag T w s l) (j : Nat) : w.frozen? ⟨s, j, none⟩ = false := by simp [World.frozen?, show w.heap[s]? = _ from h]
theorem ag.set0 (h : ag T w s l) (v : Int) : ag T (w.setCell ⟨s, 0, none⟩ (.int .i64 v)) s (l.put 0 v) := heap_put h _
theorem ag.set1 (h : ag T w s l) (v : Int) : ag T (w.setCell ⟨s, 1, none⟩ (.int .i64 v)) s (l.put 1 v) := heap_put h _
theorem ag.set2 (h : ag T w s l) (v : Int) : ag T (w.setCell ⟨s, 2, none⟩ (.int .i64 v)) s (l.put 2 v) := heap_put h _
theorem ag.kJ (h : ag T w s l) (v : Int) : ag T (w.setCell ⟨s, 3, none⟩ (.int .i64 v)) s { l with n := v } := heap_put h _
end
section
variable {w : World} {s : Nat} {l : Lk}
theorem jF (k who : Int) (h : ag 29 w s l) (hl : aJ k who = true) : Calls Tryz.prog 80 #[.pointer (some ⟨s, 0, none⟩), .int .i64 k, .int .i64 who] w (bf 29 w s 1 l) := by
 have hc := aR k who s w
 rw [hl] at hc
 replace h := Lib.hid h
 clear hl
 go_enter Tryz.func80, Tryz.ntmps80
 go_wp2_with (go_at_call 123; go_must (refine hc.mono ?_); rintro e w5 ⟨rfl, rfl⟩)
 go_ret
 exact ⟨rfl, h.out, Put.Off.refl _ _ _⟩
theorem nD (who : Int) (h : ag 29 w s l) (hl : aJ 0 who = false) (hn : 0 ≤ l.n ∧ l.n ≤ 1000000) :
 Calls Tryz.prog 80 #[.pointer (some ⟨s, 0, none⟩), .int .i64 0, .int .i64 who] w (bf 29 w s (l.bI 0 who) (l.bX 0 who)) := by
 have hc := aR 0 who s w
 rw [hl] at hc
 have hH := eQ who h
 unfold gy ae at hH
 have hN := fun W => dI (l.has 0 who) (l.has 1 who) (l.has 2 who) 0 (by omega) W
 unfold ae at hN
 have hlt := cu l hl
 obtain ⟨nx, hnx⟩ : ∃ n, n = ax (l.has 0 who) (l.has 1 who) (l.has 2 who) 0 := ⟨_, rfl⟩
 rw [← hnx] at hN hlt
 clear hnx
 obtain ⟨x, hx⟩ : ∃ x, x = l.has 0 who := ⟨_, rfl⟩
 obtain ⟨y, hy⟩ : ∃ y, y = l.has 1 who := ⟨_, rfl⟩
 obtain ⟨z, hz⟩ : ∃ z, z = l.has 2 who := ⟨_, rfl⟩
 rw [← hx, ← hy, ← hz] at hH hN
 clear hx hy hz
 unfold Lk.bX
 unfold Lk.bI
 rw [hl, if_neg (show ¬ (false = true) by decide)]
 have wi : IntKind.i64.wrap (l.n + 1) = l.n + 1 := by rw [IntKind.wrap_i64]; omega
 have hsl := h.lt
 replace h := Lib.hid h
 clear hl hn
 cases hla : l.later 0 who
 ·rw [hla] at hlt
  rw [if_neg (show ¬ (false = true) by decide)]
  by_cases h0 : l.own 0 = 0
  ·rw [if_pos h0, if_pos rfl]
   have h0' : l.a = 0 := h0
   clear hla h0
   go_enter Tryz.func80, Tryz.ntmps80
   go_wp2_with fail
   go_at_call 123
   refine hc.mono ?_
   clear hc
   rintro e w5 ⟨rfl, rfl⟩
   go_wp2_with fail
   go_at_call 124
   refine hH.mono ?_
   clear hH
   rintro e w1 ⟨rfl, hb1⟩
   go_wp2_with fail
   go_at_call 72
   refine (hN w1).mono ?_
   clear hN
   rintro e w2 ⟨rfl, hb2⟩
   have g2 := (h.out.below hb1 hsl).below hb2 (Nat.lt_of_lt_of_le hsl hb1.size)
   have o2 := (Put.Off.of_below (p := s) (g := s) hb1).aC hb2
   have kc : w2.cell? ⟨s, 0, none⟩ = some (.int .i64 0) := by rw [g2.c0, h0']
   have kn := g2.c3
   have kf := g2.fz 0
   have kg := g2.fz 3
   replace g2 := Lib.hid g2
   replace o2 := Lib.hid o2
   clear hb1 hb2 h0' h
   go_wp2_with fail
   go_ret
   exact ⟨rfl, (g2.out.set0 who).kJ _, (o2.out.setCell (.inl rfl)).setCell (.inl rfl)⟩
  ·rw [if_neg h0, if_neg (show ¬ ((18 : Int) = 0) by decide)]
   have h0' : ¬ l.a = 0 := h0
   have h1' : (l.a != 0) = true := by simp [h0']
   clear hla h0 h0'
   obtain ⟨v, hv⟩ : ∃ v, v = l.a := ⟨_, rfl⟩
   rw [← hv] at h1'
   go_enter Tryz.func80, Tryz.ntmps80
   go_wp2_with fail
   go_at_call 123
   refine hc.mono ?_
   clear hc
   rintro e w5 ⟨rfl, rfl⟩
   go_wp2_with fail
   go_at_call 124
   refine hH.mono ?_
   clear hH
   rintro e w1 ⟨rfl, hb1⟩
   go_wp2_with fail
   go_at_call 72
   refine (hN w1).mono ?_
   clear hN
   rintro e w2 ⟨rfl, hb2⟩
   have g2 := (h.out.below hb1 hsl).below hb2 (Nat.lt_of_lt_of_le hsl hb1.size)
   have o2 := (Put.Off.of_below (p := s) (g := s) hb1).aC hb2
   have kc : w2.cell? ⟨s, 0, none⟩ = some (.int .i64 v) := by rw [g2.c0, hv]
   replace g2 := Lib.hid g2
   replace o2 := Lib.hid o2
   clear hb1 hb2 h hv
   go_wp2_with fail
   go_ret
   exact ⟨rfl, g2.out, o2.out⟩
 ·rw [hla] at hlt
  rw [if_pos rfl, if_neg (show ¬ ((17 : Int) = 0) by decide)]
  clear hla
  go_enter Tryz.func80, Tryz.ntmps80
  go_wp2_with fail
  go_at_call 123
  refine hc.mono ?_
  clear hc
  rintro e w5 ⟨rfl, rfl⟩
  go_wp2_with fail
  go_at_call 124
  refine hH.mono ?_
  clear hH
  rintro e w1 ⟨rfl, hb1⟩
  go_wp2_with fail
  go_at_call 72
  refine (hN w1).mono ?_
  clear hN
  rintro e w2 ⟨rfl, hb2⟩
  have g2 := (h.out.below hb1 hsl).below hb2 (Nat.lt_of_lt_of_le hsl hb1.size)
  have o2 := (Put.Off.of_below (p := s) (g := s) hb1).aC hb2
  replace g2 := Lib.hid g2
  replace o2 := Lib.hid o2
  clear hb1 hb2 h
  go_wp2_with fail
  go_ret
  exact ⟨rfl, g2.out, o2.out⟩
theorem nE (who : Int) (h : ag 29 w s l) (hl : aJ 1 who = false) (hn : 0 ≤ l.n ∧ l.n ≤ 1000000) :
 Calls Tryz.prog 80 #[.pointer (some ⟨s, 0, none⟩), .int .i64 1, .int .i64 who] w (bf 29 w s (l.bI 1 who) (l.bX 1 who)) := by
 have hc := aR 1 who s w
 rw [hl] at hc
 have hH := eQ who h
 unfold gy ae at hH
 have hN := fun W => dI (l.has 0 who) (l.has 1 who) (l.has 2 who) 1 (by omega) W
 unfold ae at hN
 have hlt := cu l hl
 obtain ⟨nx, hnx⟩ : ∃ n, n = ax (l.has 0 who) (l.has 1 who) (l.has 2 who) 1 := ⟨_, rfl⟩
 rw [← hnx] at hN hlt
 clear hnx
 obtain ⟨x, hx⟩ : ∃ x, x = l.has 0 who := ⟨_, rfl⟩
 obtain ⟨y, hy⟩ : ∃ y, y = l.has 1 who := ⟨_, rfl⟩
 obtain ⟨z, hz⟩ : ∃ z, z = l.has 2 who := ⟨_, rfl⟩
 rw [← hx, ← hy, ← hz] at hH hN
 clear hx hy hz
 unfold Lk.bX
 unfold Lk.bI
 rw [hl, if_neg (show ¬ (false = true) by decide)]
 have wi : IntKind.i64.wrap (l.n + 1) = l.n + 1 := by rw [IntKind.wrap_i64]; omega
 have hsl := h.lt
 replace h := Lib.hid h
 clear hl hn
 cases hla : l.later 1 who
 ·rw [hla] at hlt
  rw [if_neg (show ¬ (false = true) by decide)]
  by_cases h0 : l.own 1 = 0
  ·rw [if_pos h0, if_pos rfl]
   have h0' : l.b = 0 := h0
   clear hla h0
   go_enter Tryz.func80, Tryz.ntmps80
   go_wp2_with fail
   go_at_call 123
   refine hc.mono ?_
   clear hc
   rintro e w5 ⟨rfl, rfl⟩
   go_wp2_with fail
   go_at_call 124
   refine hH.mono ?_
   clear hH
   rintro e w1 ⟨rfl, hb1⟩
   go_wp2_with fail
   go_at_call 72
   refine (hN w1).mono ?_
   clear hN
   rintro e w2 ⟨rfl, hb2⟩
   have g2 := (h.out.below hb1 hsl).below hb2 (Nat.lt_of_lt_of_le hsl hb1.size)
   have o2 := (Put.Off.of_below (p := s) (g := s) hb1).aC hb2
   have kc : w2.cell? ⟨s, 1, none⟩ = some (.int .i64 0) := by rw [g2.c1, h0']
   have kn := g2.c3
   have kf := g2.fz 1
   have kg := g2.fz 3
   replace g2 := Lib.hid g2
   replace o2 := Lib.hid o2
   clear hb1 hb2 h0' h
   go_wp2_with fail
   go_ret
   exact ⟨rfl, (g2.out.set1 who).kJ _, (o2.out.setCell (.inl rfl)).setCell (.inl rfl)⟩
  ·rw [if_neg h0, if_neg (show ¬ ((18 : Int) = 0) by decide)]
   have h0' : ¬ l.b = 0 := h0
   have h1' : (l.b != 0) = true := by simp [h0']
   clear hla h0 h0'
   obtain ⟨v, hv⟩ : ∃ v, v = l.b := ⟨_, rfl⟩
   rw [← hv] at h1'
   go_enter Tryz.func80, Tryz.ntmps80
   go_wp2_with fail
   go_at_call 123
   refine hc.mono ?_
   clear hc
   rintro e w5 ⟨rfl, rfl⟩
   go_wp2_with fail
   go_at_call 124
   refine hH.mono ?_
   clear hH
   rintro e w1 ⟨rfl, hb1⟩
   go_wp2_with fail
   go_at_call 72
   refine (hN w1).mono ?_
   clear hN
   rintro e w2 ⟨rfl, hb2⟩
   have g2 := (h.out.below hb1 hsl).below hb2 (Nat.lt_of_lt_of_le hsl hb1.size)
   have o2 := (Put.Off.of_below (p := s) (g := s) hb1).aC hb2
   have kc : w2.cell? ⟨s, 1, none⟩ = some (.int .i64 v) := by rw [g2.c1, hv]
   replace g2 := Lib.hid g2
   replace o2 := Lib.hid o2
   clear hb1 hb2 h hv
   go_wp2_with fail
   go_ret
   exact ⟨rfl, g2.out, o2.out⟩
 ·rw [hla] at hlt
  rw [if_pos rfl, if_neg (show ¬ ((17 : Int) = 0) by decide)]
  clear hla
  go_enter Tryz.func80, Tryz.ntmps80
  go_wp2_with fail
  go_at_call 123
  refine hc.mono ?_
  clear hc
  rintro e w5 ⟨rfl, rfl⟩
  go_wp2_with fail
  go_at_call 124
  refine hH.mono ?_
  clear hH
  rintro e w1 ⟨rfl, hb1⟩
  go_wp2_with fail
  go_at_call 72
  refine (hN w1).mono ?_
  clear hN
  rintro e w2 ⟨rfl, hb2⟩
  have g2 := (h.out.below hb1 hsl).below hb2 (Nat.lt_of_lt_of_le hsl hb1.size)
  have o2 := (Put.Off.of_below (p := s) (g := s) hb1).aC hb2
  replace g2 := Lib.hid g2
  replace o2 := Lib.hid o2
  clear hb1 hb2 h
  go_wp2_with fail
  go_ret
  exact ⟨rfl, g2.out, o2.out⟩
theorem nG (who : Int) (h : ag 29 w s l) (hl : aJ 2 who = false) (hn : 0 ≤ l.n ∧ l.n ≤ 1000000) :
 Calls Tryz.prog 80 #[.pointer (some ⟨s, 0, none⟩), .int .i64 2, .int .i64 who] w (bf 29 w s (l.bI 2 who) (l.bX 2 who)) := by
 have hc := aR 2 who s w
 rw [hl] at hc
 have hH := eQ who h
 unfold gy ae at hH
 have hN := fun W => dI (l.has 0 who) (l.has 1 who) (l.has 2 who) 2 (by omega) W
 unfold ae at hN
 have hlt := cu l hl
 obtain ⟨nx, hnx⟩ : ∃ n, n = ax (l.has 0 who) (l.has 1 who) (l.has 2 who) 2 := ⟨_, rfl⟩
 rw [← hnx] at hN hlt
 clear hnx
 obtain ⟨x, hx⟩ : ∃ x, x = l.has 0 who := ⟨_, rfl⟩
 obtain ⟨y, hy⟩ : ∃ y, y = l.has 1 who := ⟨_, rfl⟩
 obtain ⟨z, hz⟩ : ∃ z, z = l.has 2 who := ⟨_, rfl⟩
 rw [← hx, ← hy, ← hz] at hH hN
 clear hx hy hz
 unfold Lk.bX
 unfold Lk.bI
 rw [hl, if_neg (show ¬ (false = true) by decide)]
 have wi : IntKind.i64.wrap (l.n + 1) = l.n + 1 := by rw [IntKind.wrap_i64]; omega
 have hsl := h.lt
 replace h := Lib.hid h
 clear hl hn
 cases hla : l.later 2 who
 ·rw [hla] at hlt
  rw [if_neg (show ¬ (false = true) by decide)]
  by_cases h0 : l.own 2 = 0
  ·rw [if_pos h0, if_pos rfl]
   have h0' : l.c = 0 := h0
   clear hla h0
   go_enter Tryz.func80, Tryz.ntmps80
   go_wp2_with fail
   go_at_call 123
   refine hc.mono ?_
   clear hc
   rintro e w5 ⟨rfl, rfl⟩
   go_wp2_with fail
   go_at_call 124
   refine hH.mono ?_
   clear hH
   rintro e w1 ⟨rfl, hb1⟩
   go_wp2_with fail
   go_at_call 72
   refine (hN w1).mono ?_
   clear hN
   rintro e w2 ⟨rfl, hb2⟩
   have g2 := (h.out.below hb1 hsl).below hb2 (Nat.lt_of_lt_of_le hsl hb1.size)
   have o2 := (Put.Off.of_below (p := s) (g := s) hb1).aC hb2
   have kc : w2.cell? ⟨s, 2, none⟩ = some (.int .i64 0) := by rw [g2.c2, h0']
   have kn := g2.c3
   have kf := g2.fz 2
   have kg := g2.fz 3
   replace g2 := Lib.hid g2
   replace o2 := Lib.hid o2
   clear hb1 hb2 h0' h
   go_wp2_with fail
   go_ret
   exact ⟨rfl, (g2.out.set2 who).kJ _, (o2.out.setCell (.inl rfl)).setCell (.inl rfl)⟩
  ·rw [if_neg h0, if_neg (show ¬ ((18 : Int) = 0) by decide)]
   have h0' : ¬ l.c = 0 := h0
   have h1' : (l.c != 0) = true := by simp [h0']
   clear hla h0 h0'
   obtain ⟨v, hv⟩ : ∃ v, v = l.c := ⟨_, rfl⟩
   rw [← hv] at h1'
   go_enter Tryz.func80, Tryz.ntmps80
   go_wp2_with fail
   go_at_call 123
   refine hc.mono ?_
   clear hc
   rintro e w5 ⟨rfl, rfl⟩
   go_wp2_with fail
   go_at_call 124
   refine hH.mono ?_
   clear hH
   rintro e w1 ⟨rfl, hb1⟩
   go_wp2_with fail
   go_at_call 72
   refine (hN w1).mono ?_
   clear hN
   rintro e w2 ⟨rfl, hb2⟩
   have g2 := (h.out.below hb1 hsl).below hb2 (Nat.lt_of_lt_of_le hsl hb1.size)
   have o2 := (Put.Off.of_below (p := s) (g := s) hb1).aC hb2
   have kc : w2.cell? ⟨s, 2, none⟩ = some (.int .i64 v) := by rw [g2.c2, hv]
   replace g2 := Lib.hid g2
   replace o2 := Lib.hid o2
   clear hb1 hb2 h hv
   go_wp2_with fail
   go_ret
   exact ⟨rfl, g2.out, o2.out⟩
 ·rw [hla] at hlt
  rw [if_pos rfl, if_neg (show ¬ ((17 : Int) = 0) by decide)]
  clear hla
  go_enter Tryz.func80, Tryz.ntmps80
  go_wp2_with fail
  go_at_call 123
  refine hc.mono ?_
  clear hc
  rintro e w5 ⟨rfl, rfl⟩
  go_wp2_with fail
  go_at_call 124
  refine hH.mono ?_
  clear hH
  rintro e w1 ⟨rfl, hb1⟩
  go_wp2_with fail
  go_at_call 72
  refine (hN w1).mono ?_
  clear hN
  rintro e w2 ⟨rfl, hb2⟩
  have g2 := (h.out.below hb1 hsl).below hb2 (Nat.lt_of_lt_of_le hsl hb1.size)
  have o2 := (Put.Off.of_below (p := s) (g := s) hb1).aC hb2
  replace g2 := Lib.hid g2
  replace o2 := Lib.hid o2
  clear hb1 hb2 h
  go_wp2_with fail
  go_ret
  exact ⟨rfl, g2.out, o2.out⟩
theorem mD (k who : Int) (h : ag 29 w s l) (hn : 0 ≤ l.n ∧ l.n ≤ 1000000) :
 Calls Tryz.prog 80 #[.pointer (some ⟨s, 0, none⟩), .int .i64 k, .int .i64 who] w (bf 29 w s (l.bI k who) (l.bX k who)) := by
 cases hl : aJ k who
 ·rcases (bB hl).1 with rfl | rfl | rfl
  ·exact nD who h hl hn
  ·exact nE who h hl hn
  ·exact nG who h hl hn
 ·have e : l.bI k who = 1 := by unfold Lk.bI; rw [if_pos hl]
  have e2 : l.bX k who = l := by unfold Lk.bX; rw [e, if_neg (by decide)]
  rw [e, e2]
  exact jF k who h hl
theorem iO (k who : Int) (h : ag 29 w s l) (hl : aJ k who = true) : Calls Tryz.prog 83 #[.pointer (some ⟨s, 0, none⟩), .int .i64 k, .int .i64 who] w (bf 29 w s 1 l) := by
 have hc := aR k who s w
 rw [hl] at hc
 replace h := Lib.hid h
 clear hl
 go_enter Tryz.func83, Tryz.ntmps83
 go_wp2_with (go_at_call 123; go_must (refine hc.mono ?_); rintro e w5 ⟨rfl, rfl⟩)
 go_ret
 exact ⟨rfl, h.out, Put.Off.refl _ _ _⟩
theorem mE (who : Int) (h : ag 29 w s l) (hl : aJ 0 who = false) :
 Calls Tryz.prog 83 #[.pointer (some ⟨s, 0, none⟩), .int .i64 0, .int .i64 who] w (bf 29 w s (l.bD 0 who) (l.bn 0 who)) := by
 have hc := aR 0 who s w
 have hh := aY 0 who h
 rw [hl] at hc
 have hw := (bB hl).2
 unfold Lk.bn
 unfold Lk.bD
 rw [hl, if_neg (show ¬ (false = true) by decide)]
 have hx : l.has 0 who = decide (l.own 0 = who) := by unfold Lk.has; rw [decide_eq_true hw, Bool.true_and]
 rw [hx] at hh
 have kc := h.c0
 have kf := h.fz 0
 replace h := Lib.hid h
 clear hl hx hw
 by_cases h0 : l.own 0 = who
 ·rw [decide_eq_true h0] at hh
  rw [if_pos h0, if_pos rfl]
  clear h0
  go_enter Tryz.func83, Tryz.ntmps83
  go_wp2_with (first | (go_at_call 123; go_must (refine hc.mono ?_); rintro e w5 ⟨rfl, rfl⟩) | (go_at_call 126; go_must (refine hh.mono ?_); rintro e w5 ⟨rfl, rfl⟩))
  go_ret
  exact ⟨rfl, h.out.set0 0, (Put.Off.refl _ _ _).setCell (.inl rfl)⟩
 ·rw [decide_eq_false h0] at hh
  rw [if_neg h0, if_neg (show ¬ ((8 : Int) = 0) by decide)]
  clear h0
  go_enter Tryz.func83, Tryz.ntmps83
  go_wp2_with (first | (go_at_call 123; go_must (refine hc.mono ?_); rintro e w5 ⟨rfl, rfl⟩) | (go_at_call 126; go_must (refine hh.mono ?_); rintro e w5 ⟨rfl, rfl⟩))
  go_ret
  exact ⟨rfl, h.out, Put.Off.refl _ _ _⟩
theorem mF (who : Int) (h : ag 29 w s l) (hl : aJ 1 who = false) :
 Calls Tryz.prog 83 #[.pointer (some ⟨s, 0, none⟩), .int .i64 1, .int .i64 who] w (bf 29 w s (l.bD 1 who) (l.bn 1 who)) := by
 have hc := aR 1 who s w
 have hh := aY 1 who h
 rw [hl] at hc
 have hw := (bB hl).2
 unfold Lk.bn
 unfold Lk.bD
 rw [hl, if_neg (show ¬ (false = true) by decide)]
 have hx : l.has 1 who = decide (l.own 1 = who) := by unfold Lk.has; rw [decide_eq_true hw, Bool.true_and]
 rw [hx] at hh
 have kc := h.c1
 have kf := h.fz 1
 replace h := Lib.hid h
 clear hl hx hw
 by_cases h0 : l.own 1 = who
 ·rw [decide_eq_true h0] at hh
  rw [if_pos h0, if_pos rfl]
  clear h0
  go_enter Tryz.func83, Tryz.ntmps83
  go_wp2_with (first | (go_at_call 123; go_must (refine hc.mono ?_); rintro e w5 ⟨rfl, rfl⟩) | (go_at_call 126; go_must (refine hh.mono ?_); rintro e w5 ⟨rfl, rfl⟩))
  go_ret
  exact ⟨rfl, h.out.set1 0, (Put.Off.refl _ _ _).setCell (.inl rfl)⟩
 ·rw [decide_eq_false h0] at hh
  rw [if_neg h0, if_neg (show ¬ ((8 : Int) = 0) by decide)]
  clear h0
  go_enter Tryz.func83, Tryz.ntmps83
  go_wp2_with (first | (go_at_call 123; go_must (refine hc.mono ?_); rintro e w5 ⟨rfl, rfl⟩) | (go_at_call 126; go_must (refine hh.mono ?_); rintro e w5 ⟨rfl, rfl⟩))
  go_ret
  exact ⟨rfl, h.out, Put.Off.refl _ _ _⟩
theorem mG (who : Int) (h : ag 29 w s l) (hl : aJ 2 who = false) :
 Calls Tryz.prog 83 #[.pointer (some ⟨s, 0, none⟩), .int .i64 2, .int .i64 who] w (bf 29 w s (l.bD 2 who) (l.bn 2 who)) := by
 have hc := aR 2 who s w
 have hh := aY 2 who h
 rw [hl] at hc
 have hw := (bB hl).2
 unfold Lk.bn
 unfold Lk.bD
 rw [hl, if_neg (show ¬ (false = true) by decide)]
 have hx : l.has 2 who = decide (l.own 2 = who) := by unfold Lk.has; rw [decide_eq_true hw, Bool.true_and]
 rw [hx] at hh
 have kc := h.c2
 have kf := h.fz 2
 replace h := Lib.hid h
 clear hl hx hw
 by_cases h0 : l.own 2 = who
 ·rw [decide_eq_true h0] at hh
  rw [if_pos h0, if_pos rfl]
  clear h0
  go_enter Tryz.func83, Tryz.ntmps83
  go_wp2_with (first | (go_at_call 123; go_must (refine hc.mono ?_); rintro e w5 ⟨rfl, rfl⟩) | (go_at_call 126; go_must (refine hh.mono ?_); rintro e w5 ⟨rfl, rfl⟩))
  go_ret
  exact ⟨rfl, h.out.set2 0, (Put.Off.refl _ _ _).setCell (.inl rfl)⟩
 ·rw [decide_eq_false h0] at hh
  rw [if_neg h0, if_neg (show ¬ ((8 : Int) = 0) by decide)]
  clear h0
  go_enter Tryz.func83, Tryz.ntmps83
  go_wp2_with (first | (go_at_call 123; go_must (refine hc.mono ?_); rintro e w5 ⟨rfl, rfl⟩) | (go_at_call 126; go_must (refine hh.mono ?_); rintro e w5 ⟨rfl, rfl⟩))
  go_ret
  exact ⟨rfl, h.out, Put.Off.refl _ _ _⟩
theorem kK (k who : Int) (h : ag 29 w s l) :
 Calls Tryz.prog 83 #[.pointer (some ⟨s, 0, none⟩), .int .i64 k, .int .i64 who] w (bf 29 w s (l.bD k who) (l.bn k who)) := by
 cases hl : aJ k who
 ·rcases (bB hl).1 with rfl | rfl | rfl
  ·exact mE who h hl
  ·exact mF who h hl
  ·exact mG who h hl
 ·have e : l.bD k who = 1 := by unfold Lk.bD; rw [if_pos hl]
  have e2 : l.bn k who = l := by unfold Lk.bn; rw [e, if_neg (by decide)]
  rw [e, e2]
  exact iO k who h hl
end
end Go.Proofs.YtfmpgdafnlehaaaGreat

namespace Go.Proofs.YtfmpgdafnlehaaaGreat
open Go.RowKit Go.Lib
abbrev Jb : Type := Int × Int × Int × Int × Int × Int × Int × Int × Int × Int
instance : DecidableEq Jb := (@instDecidableEqProd _ _ (inferInstanceAs (DecidableEq Int)) (@instDecidableEqProd _ _ (inferInstanceAs (DecidableEq Int)) (@instDecidableEqProd _ _ (inferInstanceAs (DecidableEq Int)) (@instDecidableEqProd _ _ (inferInstanceAs (DecidableEq Int)) (@instDecidableEqProd _ _ (inferInstanceAs (DecidableEq Int)) (@instDecidableEqProd _ _ (inferInstanceAs (DecidableEq Int)) (@instDecidableEqProd _ _ (inferInstanceAs (DecidableEq Int)) (@instDecidableEqProd _ _ (inferInstanceAs (DecidableEq Int)) (@instDecidableEqProd _ _ (inferInstanceAs (DecidableEq Int)) (inferInstanceAs (DecidableEq Int)))))))))))
instance : Inhabited Jb := ⟨(0, 0, 0, 0, 0, 0, 0, 0, 0, 0)⟩
def Jb.id (j : Jb) : Int := j.1
def mZ (j : Jb) : List Value := [.int .i64 j.1, .int .i64 j.2.1, .int .i64 j.2.2.1, .int .i64 j.2.2.2.1, .int .i64 j.2.2.2.2.1, .int .i64 j.2.2.2.2.2.1, .int .i64 j.2.2.2.2.2.2.1, .int .i64 j.2.2.2.2.2.2.2.1, .int .i64 j.2.2.2.2.2.2.2.2.1, .int .u64 j.2.2.2.2.2.2.2.2.2]
section
set_option maxRecDepth 100000
end
end Go.Proofs.YtfmpgdafnlehaaaGreat

namespace Go.Proofs.YtfmpgdafnlehaaaGreat
def Jb.wid (j : Jb) : Int := j.2.2.1
def Jb.lim (j : Jb) : Int := j.2.2.2.1
def Jb.st (j : Jb) : Int := j.2.2.2.2.2.1
def Jb.fin (j : Jb) : Int := j.2.2.2.2.2.2.2.1
def Jb.nH (j : Jb) : Int := j.2.2.2.2.2.2.2.2.1
def Jb.oU (j : Jb) : Int := j.2.2.2.2.2.2.2.2.2
structure Md where
 now : Int
 dr : List Bool
 L : List Jb
 cl : Bool
def oq (s n : Nat) : Bool := decide (s / 2 ^ n % 2 = 1)
def mH (k : Nat) (j : Jb) : Bool := decide (j.st = 3) && oq j.oU.toNat k
def holderL (L : List Jb) (k : Nat) : Int := match L.findIdx? (mH k) with | some i => (i : Int) | none => -1
def df (M : Md) (n : Int) : Int :=
 if n < 0 ∨ (M.dr.length : Int) ≤ n then 0
 else if 0 ≤ holderL M.L n.toNat then (if M.dr.getD n.toNat false then 3 else 2) else if M.dr.getD n.toNat false then 4 else 1
def jG (j : Jb) : Bool := decide (j.st = 1) && decide (0 ≤ j.nH)
def gz (M : Md) (t : Int) (k : Nat) : Bool := !(M.dr.getD k false) && (decide (holderL M.L k < 0) || decide ((M.L.getD (holderL M.L k).toNat default).fin ≤ t))
def mI (t but : Int) (j : Jb) : Bool := jG j && decide (j.id ≠ but) && decide (j.nH ≤ t) && decide (t < j.nH + j.lim)
def eT (M : Md) (t : Int) (k : Nat) : Int := (((List.range k).countP (gz M t) : Nat) : Int)
def jh (L : List Jb) (t but : Int) : Int := ((L.filter (mI t but)).map Jb.wid).sum
def iP (M : Md) (t but : Int) : Int := eT M t M.dr.length - jh M.L t but
end Go.Proofs.YtfmpgdafnlehaaaGreat

namespace Go.Proofs.YtfmpgdafnlehaaaGreat
def tA (L : List (Int × Int)) (i : Nat) : Int := (L.getD i (0, 0)).1
def tV (L : List (Int × Int)) (i : Nat) : Int := (L.getD i (0, 0)).2
structure Sm (L : List (Int × Int)) (now : Int) (f : Int → Int) : Prop where
 pos : 0 < L.length
 hd : tA L 0 = now
 inc : ∀ i, i + 1 < L.length → tA L i < tA L (i + 1)
 top : ∀ i, i < L.length → tA L i < 1152921504606846976
 rep : ∀ i t, i < L.length → tA L i ≤ t → (i + 1 < L.length → t < tA L (i + 1)) → f t = tV L i
def ou (L : List (Int × Int)) (X : Int → Prop) : Prop := ∀ i, i + 1 < L.length → ¬ X (tA L (i + 1)) → tV L i ≠ tV L (i + 1)
structure Can (L : List (Int × Int)) (now : Int) (f : Int → Int) : Prop where
 sm : Sm L now f
 alt : ou L (fun _ => False)
structure bu (L : List (Int × Int)) (t : Int) (i : Nat) : Prop where
 lt : i < L.length
 le : 0 < i → tA L i ≤ t
 nx : i + 1 < L.length → t < tA L (i + 1)
section
variable {L : List (Int × Int)} {now : Int} {f : Int → Int}
theorem Sm.lt (h : Sm L now f) {i j : Nat} (hij : i < j) (hj : j < L.length) : tA L i < tA L j := by
 induction j with
 | zero => omega
 | succ j ih =>
   rcases Nat.lt_or_ge i j with h1 | h1
   ·have := ih h1 (by omega)
    have := h.inc j hj
    omega
   ·have : i = j := by omega
    subst this
    exact h.inc i hj
theorem Sm.le (h : Sm L now f) {i j : Nat} (hij : i ≤ j) (hj : j < L.length) : tA L i ≤ tA L j := by
 rcases Nat.lt_or_ge i j with h1 | h1
 ·exact Int.le_of_lt (h.lt h1 hj)
 ·have : i = j := by omega
  subst this
  exact Int.le_refl _
theorem Sm.mJ (h : Sm L now f) {i : Nat} (hi : i < L.length) : now ≤ tA L i := by
 rw [← h.hd]
 exact h.le (Nat.zero_le _) hi
theorem bu.mK (h : Sm L now f) {t : Int} {i : Nat} (hi : bu L t i) (hn : now ≤ t) : tA L i ≤ t := by
 rcases Nat.eq_zero_or_pos i with h0 | h0
 ·subst h0
  rw [h.hd]; exact hn
 ·exact hi.le h0
theorem bu.val (h : Sm L now f) {t : Int} {i : Nat} (hi : bu L t i) (hn : now ≤ t) : f t = tV L i := h.rep i t hi.lt (hi.mK h hn) hi.nx
theorem Sm.ix (h : Sm L now f) (t : Int) : ∃ i, bu L t i := by
 have key : ∀ k, k ≤ L.length → (∃ i, bu L t i) ∨ (∀ j, j < L.length → L.length - k ≤ j → t < tA L j) := by
  intro k
  induction k with
  | zero => intro _; exact .inr fun j _ hk => by omega
  | succ k ih =>
    intro hk
    rcases ih (by omega) with h1 | h1
    ·exact .inl h1
    ·by_cases hle : tA L (L.length - (k + 1)) ≤ t
     ·exact .inl ⟨L.length - (k + 1), by omega, fun _ => hle, fun hx => h1 _ hx (by omega)⟩
     ·refine .inr fun j hj hjk => ?_
      rcases Nat.lt_or_ge j (L.length - k) with h2 | h2
      ·have : j = L.length - (k + 1) := by omega
       subst this; omega
      ·exact h1 j hj h2
 rcases key L.length (Nat.le_refl _) with h1 | h1
 ·exact h1
 ·exact ⟨0, h.pos, fun h => by omega, fun hx => h1 1 hx (by omega)⟩
theorem Can.congr {g : Int → Int} (h : Can L now f) (hfg : ∀ t, now ≤ t → f t = g t) : Can L now g :=
 ⟨⟨h.sm.pos, h.sm.hd, h.sm.inc, h.sm.top, fun i t hi ha hn => by have := h.sm.mJ hi; rw [← hfg t (by omega)]; exact h.sm.rep i t hi ha hn⟩, h.alt⟩
end
section
end
end Go.Proofs.YtfmpgdafnlehaaaGreat


namespace Go.Proofs.YtfmpgdafnlehaaaGreat
open Go.RowKit
namespace Reg2
inductive Kind : Type 1 where
 | pure
 | minor (α : Type) (d : α) (val : α → Value) (Post : α → World → Prop)
 | pinned (α : Type) (d : α) (val : α → Value) (Post : α → World → Prop)
 | major (α : Type) (d : α) (val : α → Value)
variable (P : Program) (ops : Array Oper)
def slot (o : Oper) (a : Act) : Value := match o.dst with | some d => a.tmps.getD d undef | none => undef
def Ext (w w' : World) : Prop := Below w.heap.size w w'
def Done (o : Oper) (R : Value → World → Prop) (a0 : Act) : Exit → Act → World → Prop
 | .normal, a, w => ∃ v, a = a0.put o.dst v ∧ R v w
 | _, _, _ => False
def One (o : Oper) (a : Act) (w : World) (R : Value → World → Prop) : Prop := wpList P ops (Done o R a) [o] a w
def aM : World → Prop := fun _ => True
def facts (w : World) : List Bool → List (World → Prop) → Prop
 | true :: bs, f :: fs => f w ∧ facts w bs fs
 | false :: bs, _ :: fs => facts w bs fs
 | _, _ => True
def dh (w : World) : List (World → Prop) → Prop
 | f :: fs => f w ∧ dh w fs
 | [] => True
variable (I : World → Prop) (S : List Value → World → Prop) (G : World → World → Prop) (fin : Act → List (World → Prop) → List Value → Prop)
def opPass (o : Oper) (m : List Bool) (a : Act) (F : List (World → Prop)) (vs : List Value) (nx : Act → List (World → Prop) → List Value → Prop) : Kind → Prop
 | .pure => ∃ v : Value, Yields P ops o v a ∧ nx (a.put o.dst v) (F ++ [aM]) vs
 | .minor α _ val Post =>
   (Region.wanted o (yielded ops a.tmps) = true → (∀ w, I w → facts w m F → One P ops o a w fun v w' => (∃ x : α, v = val x ∧ Post x w') ∧ Ext w w') ∧ ∀ x : α, nx (a.put o.dst (val x)) (F ++ [Post x]) vs) ∧
   (Region.wanted o (yielded ops a.tmps) = false → nx (a.put o.dst undef) (F ++ [aM]) vs)
 | .pinned α _ val Post =>
   (Region.wanted o (yielded ops a.tmps) = true → (∀ w, I w → S vs w → facts w m F → One P ops o a w fun v w' => (∃ x : α, v = val x ∧ Post x w') ∧ Ext w w') ∧ ∀ x : α, nx (a.put o.dst (val x)) (F ++ [Post x]) vs) ∧
   (Region.wanted o (yielded ops a.tmps) = false → nx (a.put o.dst undef) (F ++ [aM]) vs)
 | .major α _ val =>
   (Region.wanted o (yielded ops a.tmps) = true → (∀ w, I w → S vs w → facts w m F → One P ops o a w fun v w' => ((∃ x : α, v = val x) ∧ S (vs ++ [v]) w') ∧ G w w') ∧ ∀ x : α, nx (a.put o.dst (val x)) (F ++ [aM]) (vs ++ [val x])) ∧
   (Region.wanted o (yielded ops a.tmps) = false → (∀ w, I w → S vs w → S (vs ++ [undef]) w) ∧ nx (a.put o.dst undef) (F ++ [aM]) (vs ++ [undef]))
def pass : List (Oper × Kind × List Bool) → Act → List (World → Prop) → List Value → Prop
 | [], a, F, vs => fin a F vs
 | x :: r, a, F, vs => opPass P ops I S G x.1 x.2.2 a F vs (pass r) x.2.1
def dD : Kind → Prop
 | .minor _ _ _ Post => (∀ x w w', Ext w w' → Post x w → Post x w') ∧ (∀ x w w', G w w' → Post x w → Post x w')
 | .pinned _ _ _ Post => (∀ x w w', Ext w w' → Post x w → Post x w') ∧ (∀ x w w', G w w' → Post x w → Post x w')
 | _ => True
def stays : List (Oper × Kind × List Bool) → Prop
 | x :: r => dD G x.2.1 ∧ stays r
 | [] => True
def aa : Kind → Nat | .pure => 0 | .minor .. => 1 | .pinned .. => 2 | .major .. => 3
def at2 (ms : List (List Bool)) (i j : Nat) : Bool := (ms.getD i []).getD j false
def okRow (n : Nat) (ms : List (List Bool)) (tags : List Nat) (i : Nat) (o : Oper) : Bool :=
 (ms.getD i []).length == i && (o.dst.isSome || tags.getD i 0 == 3) && (match o.op with | .select _ _ => false | _ => true) &&
 o.after.all (fun e => !Region.binds .any e || e.on < i) &&
 (List.range n).all fun j =>
  (!at2 ms i j || o.after.any fun e => Region.binds .any e && (e.on == j || at2 ms e.on j)) &&
  (!at2 ms i j || (List.range n).all fun l => !at2 ms j l || at2 ms i l) &&
  (match ops[j]? with
   | none => false
   | some p => (i == j || !(o.dst == p.dst) || !o.dst.isSome) && (match p.dst with | some d => !(o.looksAt ops).contains d || at2 ms i j | none => true) &&
     (!((tags.getD i 0 == 3 || tags.getD i 0 == 2) && tags.getD j 0 == 3) || i == j || at2 ms i j || at2 ms j i))
def okB (n N : Nat) (ms : List (List Bool)) (tags : List Nat) : Bool :=
 (n ≤ ops.size) && (List.range ops.size).all fun i => match ops[i]? with
  | none => false
  | some o => if i < n then okRow ops n ms tags i o && (match o.dst with | some d => d < N | none => true)
   else o.after.all (fun e => !Region.binds .any e || e.on < i) && (List.range i).all fun j => o.after.any fun e => Region.binds .any e && (e.on == j || (decide (e.on < n) && at2 ms e.on j) || (decide (n ≤ e.on) && decide (j < e.on)))
def silent : Kind → Prop | .major _ _ val => ∀ x, val x = undef | _ => False
structure Ok (n N : Nat) (ms : List (List Bool)) (all : List (Oper × Kind × List Bool)) : Prop where
 le : n ≤ ops.size
 len : all.length = n
 get : ∀ (i : Nat) (o : Oper) (k : Kind) (m : List Bool), all[i]? = some (o, k, m) → ops[i]? = some o ∧ m = ms.getD i []
 fM : ∀ (i : Nat) (o : Oper), i < n → ops[i]? = some o → (ms.getD i []).length = i
 dst : ∀ (i : Nat) (o : Oper), i < n → ops[i]? = some o → ∀ d, o.dst = some d → d < N
 non : ∀ (i : Nat) (o : Oper) (k : Kind) (m : List Bool), all[i]? = some (o, k, m) → o.dst = none → silent k
 mM : ∀ (i : Nat) (o : Oper), i < n → ops[i]? = some o → ∀ cs b, o.op ≠ .select cs b
 back : ∀ (i : Nat) (o : Oper), ops[i]? = some o → ∀ e ∈ o.after, Region.binds .any e = true → e.on < i
 ahead : ∀ (i : Nat) (o : Oper) (j : Nat), i < n → ops[i]? = some o → at2 ms i j = true → ∃ e ∈ o.after, Region.binds .any e = true ∧ (e.on = j ∨ at2 ms e.on j = true)
 trans : ∀ (i j l : Nat), i < n → at2 ms i j = true → at2 ms j l = true → at2 ms i l = true
 apart : ∀ (i j : Nat) (o p : Oper), i < n → j < n → i ≠ j → ops[i]? = some o → ops[j]? = some p → ∀ d, o.dst = some d → p.dst ≠ some d
 looks : ∀ (i j : Nat) (o p : Oper) (d : Tmp), i < n → j < n → ops[i]? = some o → ops[j]? = some p → p.dst = some d → d ∈ o.looksAt ops → at2 ms i j = true
 ow : ∀ (i j : Nat) (o : Oper) (k : Kind) (m : List Bool) (p : Oper) (k' : Kind) (m' : List Bool), all[i]? = some (o, k, m) → (aa k = 3 ∨ aa k = 2) → all[j]? = some (p, k', m') → aa k' = 3 → i ≠ j → at2 ms i j = true ∨ at2 ms j i = true
 tail : ∀ (i : Nat) (o : Oper) (j : Nat), n ≤ i → ops[i]? = some o → j < i → ∃ e ∈ o.after, Region.binds .any e = true ∧ (e.on = j ∨ (e.on < n ∧ at2 ms e.on j = true) ∨ (n ≤ e.on ∧ j < e.on))
theorem bz {ms : List (List Bool)} {i j : Nat} (h : (ms.getD i []).length = i) (hj : at2 ms i j = true) : j < i := by
 unfold at2 at hj
 rcases Nat.lt_or_ge j i with hlt | hge
 ·exact hlt
 ·rw [List.getD_eq_getElem?_getD, List.getElem?_eq_none (by omega)] at hj
  cases hj
theorem kL {n N : Nat} {ms : List (List Bool)} {all : List (Oper × Kind × List Bool)} (h : okB ops n N ms (all.map fun x => aa x.2.1) = true) (hl : all.map (·.1) = ops.toList.take n) (hms : all.map (·.2.2) = ms) (bJ : ∀ x ∈ all, x.1.dst = none → silent x.2.1) : Ok ops n N ms all := by
 unfold okB at h
 rw [Bool.and_eq_true] at h
 obtain ⟨hle, h⟩ := h
 have hle : n ≤ ops.size := by simpa using hle
 rw [List.all_eq_true] at h
 have hlen : all.length = n := by
  have := congrArg List.length hl
  simp only [List.length_map, List.length_take, Array.length_toList] at this
  omega
 have hget : ∀ (i : Nat) (o : Oper) (k : Kind) (m : List Bool), all[i]? = some (o, k, m) → ops[i]? = some o ∧ m = ms.getD i [] := by
  intro i o k m hi
  refine ⟨?_, by rw [← hms]; simp [List.getD, hi]⟩
  have h1 : (all.map (·.1))[i]? = some o := by simp [hi]
  rw [hl, List.getElem?_take] at h1
  split at h1
  ·simpa using h1
  ·cases h1
 have row : ∀ (i : Nat) (o : Oper), i < n → ops[i]? = some o → okRow ops n ms (all.map fun x => aa x.2.1) i o = true ∧ ∀ d, o.dst = some d → d < N := by
  intro i o hi ho
  have := h i (List.mem_range.2 (by omega))
  simp only [ho, hi, if_true, Bool.and_eq_true] at this
  refine ⟨this.1, ?_⟩
  have h2 := this.2
  intro d hd
  simpa [hd] using h2
 have gW : ∀ (i : Nat) (o : Oper) (j : Nat), i < n → ops[i]? = some o → j < n →
  ((!at2 ms i j || o.after.any fun e => Region.binds .any e && (e.on == j || at2 ms e.on j)) &&
  (!at2 ms i j || (List.range n).all fun l => !at2 ms j l || at2 ms i l) &&
  (match ops[j]? with
   | none => false
   | some p => (i == j || !(o.dst == p.dst) || !o.dst.isSome) && (match p.dst with | some d => !(o.looksAt ops).contains d || at2 ms i j | none => true) &&
     (!(((all.map fun x => aa x.2.1).getD i 0 == 3 || (all.map fun x => aa x.2.1).getD i 0 == 2) && (all.map fun x => aa x.2.1).getD j 0 == 3) || i == j || at2 ms i j || at2 ms j i))) = true := by
  intro i o j hi ho hj
  have h1 := (row i o hi ho).1
  unfold okRow at h1
  rw [Bool.and_eq_true, List.all_eq_true] at h1
  exact h1.2 j (List.mem_range.2 hj)
 have gB : ∀ (i : Nat) (o : Oper), i < n → ops[i]? = some o → (ms.getD i []).length = i := by
  intro i o hi ho
  have h1 := (row i o hi ho).1
  unfold okRow at h1
  simp only [Bool.and_eq_true] at h1
  simpa using h1.1.1.1.1
 have gX : ∀ (i : Nat), i < ops.size → ∃ o, ops[i]? = some o := fun i hi => ⟨ops[i], by simp [hi]⟩
 refine ⟨hle, hlen, hget, gB, fun i o hi ho => (row i o hi ho).2, fun i o k m hi => bJ _ (List.mem_of_getElem? hi), ?_, ?_, ?_, ?_, ?_, ?_, ?_, ?_⟩
 ·intro i o hi ho cs b hop
  have h1 := (row i o hi ho).1
  unfold okRow at h1
  simp only [Bool.and_eq_true] at h1
  have := h1.1.1.2
  rw [hop] at this
  cases this
 ·intro i o ho e he hb
  have hi : i < ops.size := (Array.getElem?_eq_some_iff.1 ho).1
  have h1 := h i (List.mem_range.2 hi)
  simp only [ho] at h1
  split at h1
  ·rename_i hin
   have h2 := (row i o hin ho).1
   unfold okRow at h2
   simp only [Bool.and_eq_true, Array.all_eq_true_iff_forall_mem] at h2
   simpa [hb] using h2.1.2 e he
  ·rw [Bool.and_eq_true, Array.all_eq_true_iff_forall_mem] at h1
   simpa [hb] using h1.1 e he
 ·intro i o j hi ho hj
  have hlt := bz (gB i o hi ho) hj
  have h1 := gW i o j hi ho (by omega)
  simp only [Bool.and_eq_true, hj, Bool.not_true, Bool.false_or] at h1
  have h2 := h1.1.1
  rw [Array.any_eq_true] at h2
  obtain ⟨x, hx, h3⟩ := h2
  simp only [Bool.and_eq_true, Bool.or_eq_true, beq_iff_eq] at h3
  exact ⟨_, Array.getElem_mem hx, h3.1, h3.2⟩
 ·intro i j l hi hij hjl
  obtain ⟨o, ho⟩ := gX i (by omega)
  have hlt := bz (gB i o hi ho) hij
  obtain ⟨p, hp⟩ := gX j (by omega)
  have hlt2 := bz (gB j p (by omega) hp) hjl
  have h1 := gW i o j hi ho (by omega)
  simp only [Bool.and_eq_true, hij, Bool.not_true, Bool.false_or] at h1
  have h2 := h1.1.2
  rw [List.all_eq_true] at h2
  have := h2 l (List.mem_range.2 (by omega))
  simpa [hjl] using this
 ·intro i j o p hi hj hne ho hp d hd he
  have h1 := gW i o j hi ho hj
  simp only [hp, Bool.and_eq_true] at h1
  have h2 := h1.2.1.1
  rw [he, hd] at h2
  simp [hne] at h2
 ·intro i j o p d hi hj ho hp hd hm
  have h1 := gW i o j hi ho hj
  simp only [hp, Bool.and_eq_true, hd] at h1
  have h2 := h1.2.1.2
  simpa [List.contains_iff_mem, hm] using h2
 ·intro i j o k m p k' m' hi hk hj hk' hne
  have ho := (hget i o k m hi).1
  have hp := (hget j p k' m' hj).1
  have hin : i < n := by rw [← hlen]; exact (List.getElem?_eq_some_iff.1 hi).1
  have hjn : j < n := by rw [← hlen]; exact (List.getElem?_eq_some_iff.1 hj).1
  have h1 := gW i o j hin ho hjn
  simp only [hp, Bool.and_eq_true] at h1
  have h2 := h1.2.2
  have e1 : (all.map fun x => aa x.2.1).getD i 0 = aa k := by simp [List.getD, hi]
  have e2 : (all.map fun x => aa x.2.1).getD j 0 = 3 := by simp [List.getD, hj, hk']
  rw [e1, e2] at h2
  have e3 : ((aa k == 3 || aa k == 2) && (3 == 3)) = true := by rcases hk with hk | hk <;> simp [hk]
  rw [e3] at h2
  simpa [hne] using h2
 ·intro i o j hi ho hj
  have oV : i < ops.size := (Array.getElem?_eq_some_iff.1 ho).1
  have h1 := h i (List.mem_range.2 oV)
  simp only [ho, show ¬ i < n by omega, if_false, Bool.and_eq_true, List.all_eq_true] at h1
  have h2 := h1.2 j (List.mem_range.2 hj)
  rw [Array.any_eq_true] at h2
  obtain ⟨x, hx, h3⟩ := h2
  simp only [Bool.and_eq_true, Bool.or_eq_true, beq_iff_eq, decide_eq_true_eq] at h3
  refine ⟨_, Array.getElem_mem hx, h3.1, ?_⟩
  rcases h3.2 with (h4 | h4) | h4
  ·exact .inl h4
  ·exact .inr (.inl h4)
  ·exact .inr (.inr h4)
variable {P ops I S G fin}
def valsOf (L : Nat → Bool) (a : Act) : List (Oper × Kind × List Bool) → Nat → List Value
 | [], _ => []
 | x :: r, j => (if aa x.2.1 = 3 ∧ L j = true then [slot x.1 a] else []) ++ valsOf L a r (j + 1)
theorem aF (L : Nat → Bool) (a : Act) (r : List (Oper × Kind × List Bool)) : ∀ (l : List (Oper × Kind × List Bool)) (j : Nat), valsOf L a (l ++ r) j = valsOf L a l j ++ valsOf L a r (j + l.length)
 | [], j => by simp [valsOf]
 | x :: l, j => by
   simp only [xE, valsOf, aF L a r l (j + 1), List.append_assoc, List.length_cons]
   rw [show j + 1 + l.length = j + (l.length + 1) by omega]
theorem dz {L L' : Nat → Bool} {a a' : Act} : ∀ (l : List (Oper × Kind × List Bool)) (j : Nat), (∀ i x, l[i]? = some x → aa x.2.1 = 3 → L (j + i) = L' (j + i) ∧ (L (j + i) = true → slot x.1 a = slot x.1 a')) → valsOf L a l j = valsOf L' a' l j
 | [], _, _ => rfl
 | x :: l, j, h => by
   have h0 := h 0 x rfl
   simp only [valsOf]
   rw [dz l (j + 1) fun i y hy ht => by have := h (i + 1) y (by simpa using hy) ht; rw [show j + (i + 1) = j + 1 + i by omega] at this; exact this]
   by_cases ht : aa x.2.1 = 3
   ·obtain ⟨h1, h2⟩ := h0 ht
    simp only [Nat.add_zero] at h1 h2
    by_cases hL : L j = true
    ·rw [if_pos ⟨ht, hL⟩, if_pos ⟨ht, by rw [← h1]; exact hL⟩, h2 hL]
    ·rw [if_neg (by simp [hL]), if_neg (by rw [← h1]; simp [hL])]
   ·simp [ht]
theorem bK {L : Nat → Bool} {a : Act} : ∀ (l : List (Oper × Kind × List Bool)) (j : Nat), (∀ i x, l[i]? = some x → aa x.2.1 = 3 → L (j + i) = false) → valsOf L a l j = []
 | [], _, _ => rfl
 | x :: l, j, h => by
   have h0 := h 0 x rfl
   simp only [valsOf]
   rw [bK l (j + 1) fun i y hy ht => by have := h (i + 1) y (by simpa using hy) ht; rw [show j + (i + 1) = j + 1 + i by omega] at this; exact this]
   by_cases ht : aa x.2.1 = 3
   ·have h1 := h0 ht
    simp only [Nat.add_zero] at h1
    simp [h1]
   ·simp [ht]
def bE (P : Program) (ops : Array Oper) (o : Oper) (a : Act) (w : World) : Kind → Prop
 | .pure => Yields P ops o (slot o a) a
 | .minor α _ val Post => (Region.wanted o (yielded ops a.tmps) = true → ∃ x : α, slot o a = val x ∧ Post x w) ∧ (Region.wanted o (yielded ops a.tmps) = false → slot o a = undef)
 | .pinned α _ val Post => (Region.wanted o (yielded ops a.tmps) = true → ∃ x : α, slot o a = val x ∧ Post x w) ∧ (Region.wanted o (yielded ops a.tmps) = false → slot o a = undef)
 | .major α _ val => (Region.wanted o (yielded ops a.tmps) = true → ∃ x : α, slot o a = val x) ∧ (Region.wanted o (yielded ops a.tmps) = false → slot o a = undef)
variable (P ops S) in
structure Inv (n : Nat) (ms : List (List Bool)) (all : List (Oper × Kind × List Bool)) (a0 : Act) (L : Nat → Bool) (a : Act) (w : World) : Prop where
 defers : a.defers = a0.defers
 size : a.tmps.size = a0.tmps.size
 frame : ∀ t, (∀ (j : Nat) (o : Oper), j < n → L j = true → ops[j]? = some o → o.dst ≠ some t) → a.tmps[t]? = a0.tmps[t]?
 closed : ∀ i j, i < n → L i = true → at2 ms i j = true → L j = true
 holds : ∀ (j : Nat) (o : Oper) (k : Kind) (m : List Bool), L j = true → all[j]? = some (o, k, m) → bE P ops o a w k
 state : S (valsOf L a all 0) w
theorem gY {o : Oper} {v v' : Value} {a : Act} (w : World) (h : Yields P ops o v a) (h' : Yields P ops o v' a) : v = v' := by
 rcases h with ⟨h1, h2⟩ | ⟨h1, rfl⟩ <;> rcases h' with ⟨h3, h4⟩ | ⟨h3, rfl⟩
 ·have := (h2 w).symm.trans (h4 w); simpa using this
 ·rw [h1] at h3; cases h3
 ·rw [h1] at h3; cases h3
 ·rfl
theorem dJ {o : Oper} (hs : ∀ cs b, o.op ≠ .select cs b) {a b : Act} (h : ∀ t, t ∈ o.looksAt ops → a.tmps[t]? = b.tmps[t]?) :
 execOp a.eval o = execOp b.eval o ∧ Region.wanted o (yielded ops a.tmps) = Region.wanted o (yielded ops b.tmps) := by
 constructor
 ·refine execOp_congr o hs fun x hx => ?_
  cases x with
  | tmp t =>
    have : t ∈ o.looksAt ops := List.mem_append_left _ (List.mem_filterMap.2 ⟨.tmp t, by simpa using hx, rfl⟩)
    simp [Act.eval, h t this]
  | _ => rfl
 ·unfold Region.wanted
  cases hg : o.guard with
  | none => rfl
  | some gw =>
    obtain ⟨g, want⟩ := gw
    have hy : yielded ops a.tmps g = yielded ops b.tmps g := by
     unfold yielded
     cases ht : (ops[g]?).bind (·.dst) with
     | none => rfl
     | some t =>
       have : t ∈ o.looksAt ops := List.mem_append_right _ (by simp [hg, ht])
       simp [h t this]
    simp only [hy]
theorem jH {o : Oper} {a : Act} {d : Tmp} (hd : o.dst = some d) (hlt : d < a.tmps.size) (v : Value) : slot o (a.put o.dst v) = v := by
 simp [slot, hd, Act.put, hlt]
theorem gZ {a : Act} {d t : Tmp} (h : d ≠ t) (v : Value) : (a.put (some d) v).tmps[t]? = a.tmps[t]? := by
 simp [Act.put, Array.getElem?_setIfInBounds_ne h]
theorem gD {o : Oper} {a : Act} {d : Tmp} (h : o.dst ≠ some d) (v : Value) : slot o (a.put (some d) v) = slot o a := by
 unfold slot
 cases ho : o.dst with
 | none => rfl
 | some e =>
   have hne : d ≠ e := fun hx => h (by rw [ho, hx])
   simp only [Array.getD_eq_getD_getElem?, gZ hne]
theorem jI {a b : Act} {d : Tmp} (ha : d < a.tmps.size) (v : Value) (hv : v = b.tmps.getD d undef) (hb : d < b.tmps.size) : (a.put (some d) v).tmps[d]? = b.tmps[d]? := by
 subst hv; simp [Act.put, ha, hb]
theorem aK {o : Oper} {a : Act} {v : Value} (hn : o.dst = none → v = undef) (hlt : ∀ d, o.dst = some d → d < a.tmps.size) : slot o (a.put o.dst v) = v := by
 cases hd : o.dst with
 | none => rw [hn hd]; simp [slot, hd]
 | some d => rw [← hd]; exact jH hd (hlt d hd) v
theorem bO {o : Oper} {a : Act} {t : Tmp} (h : o.dst ≠ some t) (v : Value) : (a.put o.dst v).tmps[t]? = a.tmps[t]? := by
 cases hd : o.dst with
 | none => rfl
 | some d => exact gZ (fun e => h (by rw [hd, e])) v
theorem dA {o p : Oper} {a : Act} (h : ∀ d, o.dst = some d → p.dst ≠ some d) (v : Value) : slot p (a.put o.dst v) = slot p a := by
 cases hd : o.dst with
 | none => rfl
 | some d => exact gD (h d hd) v
theorem fO (a : Act) (d : Option Tmp) (v : Value) : (a.put d v).tmps.size = a.tmps.size := by
 cases d <;> simp [Act.put]
theorem put_defers (a : Act) (d : Option Tmp) (v : Value) : (a.put d v).defers = a.defers := by
 cases d <;> rfl
structure iQ (ops : Array Oper) (n : Nat) (L : Nat → Bool) (a0 a : Act) (j : Nat) (ac : Act) : Prop where
 defers : ac.defers = a0.defers
 size : ac.tmps.size = a0.tmps.size
 done : ∀ (i : Nat) (o : Oper) (t : Tmp), i < j → i < n → L i = true → ops[i]? = some o → o.dst = some t → ac.tmps[t]? = a.tmps[t]?
 rest : ∀ t, (∀ (i : Nat) (o : Oper), i < j → i < n → ops[i]? = some o → o.dst ≠ some t) → ac.tmps[t]? = a0.tmps[t]?
theorem iQ.step {n N : Nat} {ms : List (List Bool)} {all : List (Oper × Kind × List Bool)} {L : Nat → Bool} {a0 a ac : Act} {j : Nat} {o : Oper} (ok : Ok ops n N ms all) (hN : a0.tmps.size = N) (ha : a.tmps.size = a0.tmps.size)
 (h : iQ ops n L a0 a j ac) (hj : j < n) (ho : ops[j]? = some o) {v : Value} (hv : L j = true → v = slot o a) : iQ ops n L a0 a (j + 1) (ac.put o.dst v) := by
 refine ⟨(put_defers _ _ _).trans h.defers, (fO _ _ _).trans h.size, ?_, ?_⟩
 ·intro i p t hi hin dK hp ht
  by_cases hij : i = j
  ·subst hij
   rw [ho] at hp
   obtain rfl := Option.some.inj hp
   have hlt := ok.dst i o hj ho t ht
   rw [ht]
   exact jI (by rw [h.size, hN]; exact hlt) _ (by rw [hv dK]; simp [slot, ht]) (by rw [ha, hN]; exact hlt)
  ·rw [bO (ok.apart i j p o hin hj hij hp ho t ht) _]
   exact h.done i p t (by omega) hin dK hp ht
 ·intro t ht
  rw [bO (ht j o (by omega) hj ho)]
  exact h.rest t fun i p hi hin hp => ht i p (by omega) hin hp
theorem iQ.looks {n N : Nat} {ms : List (List Bool)} {all : List (Oper × Kind × List Bool)} {a0 a ac : Act} {j : Nat} {o : Oper} {L : Nat → Bool} {w : World} (ok : Ok ops n N ms all) (inv : Inv P ops S n ms all a0 L a w)
 (h : iQ ops n L a0 a j ac) (hjn : j < n) (ho : ops[j]? = some o) (hM : ∀ i, at2 ms j i = true → L i = true) :
 ∀ t, t ∈ o.looksAt ops → ac.tmps[t]? = a.tmps[t]? := by
 intro t ht
 by_cases hx : ∃ (i : Nat) (p : Oper), i < n ∧ ops[i]? = some p ∧ p.dst = some t
 ·obtain ⟨i, p, hin, hp, hd⟩ := hx
  have h2 := ok.looks j i o p t hjn hin ho hp hd ht
  have hlt := bz (ok.fM j o hjn ho) h2
  exact h.done i p t hlt hin (hM i h2) hp hd
 ·rw [h.rest t fun i p _ hin hp hd => hx ⟨i, p, hin, hp, hd⟩, inv.frame t fun i p hin _ hp hd => hx ⟨i, p, hin, hp, hd⟩]
theorem dU {w : World} : ∀ (m : List Bool) (F : List (World → Prop)), (∀ (i : Nat) (f : World → Prop), m.getD i false = true → F[i]? = some f → f w) → facts w m F
 | [], F, _ => by unfold facts; trivial
 | true :: m, [], _ => by unfold facts; trivial
 | false :: m, [], _ => by unfold facts; trivial
 | true :: m, f :: F, h => ⟨h 0 f rfl rfl, dU m F fun i g hi hg => h (i + 1) g (by simpa using hi) (by simpa using hg)⟩
 | false :: m, f :: F, h => dU m F fun i g hi hg => h (i + 1) g (by simpa using hi) (by simpa using hg)
theorem dL {w : World} : ∀ (F : List (World → Prop)), (∀ (i : Nat) (f : World → Prop), F[i]? = some f → f w) → dh w F
 | [], _ => trivial
 | f :: F, h => ⟨h 0 f rfl, dL F fun i g hg => h (i + 1) g (by simpa using hg)⟩
theorem fP {n N : Nat} {ms : List (List Bool)} {all : List (Oper × Kind × List Bool)} {a0 a : Act} {L : Nat → Bool} {w : World} (ok : Ok ops n N ms all) (hN : a0.tmps.size = N) (inv : Inv P ops S n ms all a0 L a w)
 (hp : pass P ops I S G fin all a0 [] []) : ∀ j, j ≤ n → ∃ ac F vs, pass P ops I S G fin (all.drop j) ac F vs ∧ iQ ops n L a0 a j ac ∧ F.length = j ∧ (∀ (i : Nat) (f : World → Prop), L i = true → F[i]? = some f → f w) ∧
  ((∀ i x, i < j → all[i]? = some x → aa x.2.1 = 3 → L i = true) → vs = valsOf L a (all.take j) 0) := by
 intro j
 induction j with
 | zero => exact fun _ => ⟨a0, [], [], by simpa using hp, ⟨rfl, rfl, fun i o t hi => by omega, fun t _ => rfl⟩, rfl, fun i f _ h => by simp at h, fun _ => by simp [valsOf]⟩
 | succ j ih =>
   intro hj
   obtain ⟨ac, F, vs, ay, hag, hF, hf, hvs⟩ := ih (by omega)
   have hjl : j < all.length := by rw [ok.len]; omega
   obtain ⟨⟨o, k, m⟩, hall⟩ : ∃ x, all[j]? = some x := ⟨all[j], by simp [hjl]⟩
   obtain ⟨ho, _⟩ := ok.get j o k m hall
   have hdrop : all.drop j = (o, k, m) :: all.drop (j + 1) := by
    rw [List.drop_eq_getElem_cons hjl]
    rw [List.getElem?_eq_getElem hjl] at hall
    rw [Option.some.inj hall]
   have htake : all.take (j + 1) = all.take j ++ [(o, k, m)] := by
    rw [List.take_succ_eq_append_getElem hjl]
    rw [List.getElem?_eq_getElem hjl] at hall
    rw [Option.some.inj hall]
   rw [hdrop] at ay
   have kM : (all.take j).length = j := by rw [List.length_take]; omega
   have hfn : ∀ (g : World → Prop), (L j = true → g w) → ∀ (i : Nat) (f : World → Prop), L i = true → (F ++ [g])[i]? = some f → f w := by
    intro g hg i f dK hfi
    rcases Nat.lt_or_ge i F.length with h | h
    ·rw [List.getElem?_append_left h] at hfi; exact hf i f dK hfi
    ·rw [List.getElem?_append_right h] at hfi
     have : i = j := by
      have := (List.getElem?_eq_some_iff.1 hfi).1
      simp at this; omega
     subst this
     rw [hF, Nat.sub_self] at hfi
     simp at hfi
     subst hfi
     exact hg dK
   have hv0 : aa k ≠ 3 → (∀ i x, i < j + 1 → all[i]? = some x → aa x.2.1 = 3 → L i = true) → vs = valsOf L a (all.take (j + 1)) 0 := by
    intro ht hx
    rw [htake, aF, kM, hvs fun i x hi => hx i x (by omega)]
    simp [valsOf, ht]
   have hv3 : aa k = 3 → ∀ v, (L j = true → v = slot o a) → (∀ i x, i < j + 1 → all[i]? = some x → aa x.2.1 = 3 → L i = true) → vs ++ [v] = valsOf L a (all.take (j + 1)) 0 := by
    intro ht v hv hx
    have cz := hx j _ (by omega) hall ht
    rw [htake, aF, kM, hvs fun i x hi => hx i x (by omega), hv cz]
    simp [valsOf, ht, cz]
   have hlk : L j = true → execOp ac.eval o = execOp a.eval o ∧ Region.wanted o (yielded ops ac.tmps) = Region.wanted o (yielded ops a.tmps) := fun cz =>
    dJ (fun cs b => ok.mM j o (by omega) ho cs b) (hag.looks ok inv (by omega) ho fun i hi => inv.closed j i (by omega) cz hi)
   have hst : ∀ v, (L j = true → v = slot o a) → iQ ops n L a0 a (j + 1) (ac.put o.dst v) := fun v hv => hag.step ok hN inv.size (by omega) ho hv
   have aV : ∀ (g : World → Prop), (F ++ [g]).length = j + 1 := fun g => by simp [hF]
   cases cz : L j with
   | false =>
     have hno : ∀ {p : Prop}, L j = true → p := fun h => by rw [cz] at h; cases h
     cases k with
     | pure =>
       obtain ⟨v, hy, hnx⟩ := ay
       exact ⟨_, _, _, hnx, hst v hno, aV _, hfn _ hno, hv0 (by simp [aa])⟩
     | minor α d val Post =>
       cases hw : Region.wanted o (yielded ops ac.tmps) with
       | true => exact ⟨_, _, _, (ay.1 hw).2 d, hst _ hno, aV _, hfn _ hno, hv0 (by simp [aa])⟩
       | false => exact ⟨_, _, _, ay.2 hw, hst _ hno, aV _, hfn _ hno, hv0 (by simp [aa])⟩
     | pinned α d val Post =>
       cases hw : Region.wanted o (yielded ops ac.tmps) with
       | true => exact ⟨_, _, _, (ay.1 hw).2 d, hst _ hno, aV _, hfn _ hno, hv0 (by simp [aa])⟩
       | false => exact ⟨_, _, _, ay.2 hw, hst _ hno, aV _, hfn _ hno, hv0 (by simp [aa])⟩
     | major α d val =>
       cases hw : Region.wanted o (yielded ops ac.tmps) with
       | true => exact ⟨_, _, _, (ay.1 hw).2 d, hst _ hno, aV _, hfn _ hno, hv3 rfl _ hno⟩
       | false => exact ⟨_, _, _, (ay.2 hw).2, hst _ hno, aV _, hfn _ hno, hv3 rfl _ hno⟩
   | true =>
     obtain ⟨hex, hwt⟩ := hlk cz
     have hh := inv.holds j o k m cz hall
     cases k with
     | pure =>
       obtain ⟨v, hy, hnx⟩ := ay
       have hv : v = slot o a := gY w hy (Yields.of_same (show Yields P ops o (slot o a) a from hh) hex hwt)
       exact ⟨_, _, _, hnx, hst v fun _ => hv, aV _, hfn _ fun _ => trivial, hv0 (by simp [aa])⟩
     | minor α d val Post =>
       cases hw : Region.wanted o (yielded ops ac.tmps) with
       | true =>
         obtain ⟨x, hx, hpx⟩ := hh.1 (by rw [← hwt]; exact hw)
         exact ⟨_, _, _, (ay.1 hw).2 x, hst _ fun _ => hx.symm, aV _, hfn _ fun _ => hpx, hv0 (by simp [aa])⟩
       | false =>
         have hu := hh.2 (by rw [← hwt]; exact hw)
         exact ⟨_, _, _, ay.2 hw, hst _ fun _ => hu.symm, aV _, hfn _ fun _ => trivial, hv0 (by simp [aa])⟩
     | pinned α d val Post =>
       cases hw : Region.wanted o (yielded ops ac.tmps) with
       | true =>
         obtain ⟨x, hx, hpx⟩ := hh.1 (by rw [← hwt]; exact hw)
         exact ⟨_, _, _, (ay.1 hw).2 x, hst _ fun _ => hx.symm, aV _, hfn _ fun _ => hpx, hv0 (by simp [aa])⟩
       | false =>
         have hu := hh.2 (by rw [← hwt]; exact hw)
         exact ⟨_, _, _, ay.2 hw, hst _ fun _ => hu.symm, aV _, hfn _ fun _ => trivial, hv0 (by simp [aa])⟩
     | major α d val =>
       cases hw : Region.wanted o (yielded ops ac.tmps) with
       | true =>
         obtain ⟨x, hx⟩ := hh.1 (by rw [← hwt]; exact hw)
         exact ⟨_, _, _, (ay.1 hw).2 x, hst _ fun _ => hx.symm, aV _, hfn _ fun _ => trivial, hv3 rfl _ fun _ => hx.symm⟩
       | false =>
         have hu := hh.2 (by rw [← hwt]; exact hw)
         exact ⟨_, _, _, (ay.2 hw).2, hst _ fun _ => hu.symm, aV _, hfn _ fun _ => trivial, hv3 rfl _ fun _ => hu.symm⟩
theorem kN {a : Act} {d : Tmp} (hlt : d < a.tmps.size) {u v : Value} (h : a.put (some d) u = a.put (some d) v) : u = v := by
 have := congrArg (fun b : Act => b.tmps[d]?) h
 simpa [Act.put, hlt] using this
theorem gF {o : Oper} {a ac : Act} {w : World} {R : Value → World → Prop} {K : Act → World → Prop} {Q : Exit → Act → World → Prop} (hlt : ∀ d, o.dst = some d → d < ac.tmps.size)
 (h : One P ops o ac w R) (hex : execOp ac.eval o = execOp a.eval o) (hw : Region.wanted o (yielded ops ac.tmps) = true) (hK : ∀ v w', R v w' → K (a.put o.dst v) w') : o.wp P a w K Q := by
 unfold One wpList at h
 rw [if_pos hw] at h
 rcases h with h | ⟨_, a', w', h⟩
 case inr => exact h.elim
 unfold Oper.wp at *
 rw [hex] at h
 generalize (execOp a.eval o).run P w = r at *
 have key : ∀ u w', wpList P ops (Done o R ac) [] (ac.put o.dst u) w' → K (a.put o.dst u) w' := by
  intro u w' hn
  obtain ⟨v, hv, hR⟩ := hn
  cases hd : o.dst with
  | none => rw [← show a.put o.dst v = a.put none u by rw [hd]; rfl]; exact hK _ _ hR
  | some d =>
    rw [hd] at hv
    have := kN (hlt d hd) hv
    subst this
    rw [← hd]
    exact hK _ _ hR
 cases r with
 | ok n w' =>
   cases n <;> simp only [Oper.upon] at h ⊢
   case value u => exact key _ _ h
   case skip => exact key _ _ h
   case defer x =>
    obtain ⟨v, hv, _⟩ := h
    have := congrArg (fun b : Act => b.defers.length) hv
    simp [put_defers] at this
   case enter f args =>
    refine Calls.mono h fun e w'' he => ?_
    cases e with
    | returned u => exact key _ _ he
    | panicked c => exact (he : False).elim
    | outgrown => obtain ⟨a', w', he⟩ := he; exact (he : False).elim
   case row row args => exact Rows.mono h fun u w'' he => key _ _ he
 | halt x w' =>
   cases x <;> simp only [Oper.upon] at h ⊢
   case panic u => exact (h : False).elim
def more (L : Nat → Bool) (i : Nat) : Nat → Bool := fun j => j == i || L j
theorem dE {L : Nat → Bool} {i : Nat} : more L i i = true := by simp [more]
theorem bP {L : Nat → Bool} {i j : Nat} (h : L j = true) : more L i j = true := by simp [more, h]
theorem ek {L : Nat → Bool} {i j : Nat} (h : more L i j = true) : j = i ∨ L j = true := by simpa [more] using h
theorem eD {n N : Nat} {ms : List (List Bool)} {all : List (Oper × Kind × List Bool)} {i j : Nat} {o p : Oper} {k : Kind} {a : Act} {w w' : World} (ok : Ok ops n N ms all) (hi : i < n) (hj : j < n) (hne : i ≠ j)
 (ho : ops[i]? = some o) (hp : ops[j]? = some p) (hnot : at2 ms j i ≠ true) (v : Value)
 (hpost : ∀ α d val Post, (k = .minor α d val Post ∨ k = .pinned α d val Post) → ∀ x, Post x w → Post x w') (h : bE P ops p a w k) : bE P ops p (a.put o.dst v) w' k := by
 have dF : slot p (a.put o.dst v) = slot p a := dA (ok.apart i j o p hi hj hne ho hp) v
 have hlk : ∀ t, t ∈ p.looksAt ops → (a.put o.dst v).tmps[t]? = a.tmps[t]? := by
  intro t ht
  exact bO (fun hd => hnot (ok.looks j i p o t hj hi hp ho hd ht)) v
 obtain ⟨hex, hwt⟩ := dJ (fun cs b => ok.mM j p hj hp cs b) hlk
 cases k with
 | pure => exact Yields.of_same (by rw [dF]; exact h) hex hwt
 | minor α dd val Post =>
   refine ⟨fun hw => ?_, fun hw => ?_⟩
   ·obtain ⟨x, hx, hpx⟩ := h.1 (by rw [← hwt]; exact hw)
    exact ⟨x, by rw [dF]; exact hx, hpost α dd val Post (Or.inl rfl) x hpx⟩
   ·rw [dF]; exact h.2 (by rw [← hwt]; exact hw)
 | pinned α dd val Post =>
   refine ⟨fun hw => ?_, fun hw => ?_⟩
   ·obtain ⟨x, hx, hpx⟩ := h.1 (by rw [← hwt]; exact hw)
    exact ⟨x, by rw [dF]; exact hx, hpost α dd val Post (Or.inr rfl) x hpx⟩
   ·rw [dF]; exact h.2 (by rw [← hwt]; exact hw)
 | major α dd val =>
   refine ⟨fun hw => ?_, fun hw => ?_⟩
   ·obtain ⟨x, hx⟩ := h.1 (by rw [← hwt]; exact hw)
    exact ⟨x, by rw [dF]; exact hx⟩
   ·rw [dF]; exact h.2 (by rw [← hwt]; exact hw)
theorem iR {l : List (Oper × Kind × List Bool)} (h : stays G l) {j : Nat} {o : Oper} {k : Kind} {m : List Bool} (hj : l[j]? = some (o, k, m)) : dD G k := by
 induction l generalizing j with
 | nil => simp at hj
 | cons x l ih =>
   cases j with
   | zero => simp at hj; subst hj; exact h.1
   | succ j => exact ih h.2 (by simpa using hj)
theorem Inv.next {n N : Nat} {ms : List (List Bool)} {all : List (Oper × Kind × List Bool)} {a0 a : Act} {L : Nat → Bool} {w w' : World} {i : Nat} {o : Oper} {k : Kind} {m : List Bool} {v : Value}
 (ok : Ok ops n N ms all) (hN : a0.tmps.size = N) (inv : Inv P ops S n ms all a0 L a w) (hi : i < n) (dK : L i = false) (hall : all[i]? = some (o, k, m)) (hm : ∀ j, at2 ms i j = true → L j = true)
 (hpost : ∀ (j : Nat) (p : Oper) (k' : Kind) (m' : List Bool), all[j]? = some (p, k', m') → ∀ α d val Post, (k' = .minor α d val Post ∨ k' = .pinned α d val Post) → ∀ x, Post x w → Post x w')
 (nI : o.dst = none → v = undef) (hself : bE P ops o (a.put o.dst v) w' k)
 (hS : S (if aa k = 3 then valsOf L a all 0 ++ [v] else valsOf L a all 0) w') : Inv P ops S n ms all a0 (more L i) (a.put o.dst v) w' := by
 obtain ⟨ho, _⟩ := ok.get i o k m hall
 have hsz : ∀ d, o.dst = some d → d < a.tmps.size := fun d hd => by rw [inv.size, hN]; exact ok.dst i o hi ho d hd
 have hjlt : ∀ (j : Nat) (p : Oper) (k' : Kind) (m' : List Bool), all[j]? = some (p, k', m') → j < n := fun j p k' m' hj => by rw [← ok.len]; exact (List.getElem?_eq_some_iff.1 hj).1
 refine ⟨(put_defers _ _ _).trans inv.defers, (fO _ _ _).trans inv.size, ?_, ?_, ?_, ?_⟩
 ·intro t ht
  rw [bO (ht i o hi dE ho)]
  exact inv.frame t fun j p hj cz hp => ht j p hj (bP cz) hp
 ·intro x j hx nJ hxj
  rcases ek nJ with rfl | nJ
  ·exact bP (hm j hxj)
  ·exact bP (inv.closed x j hx nJ hxj)
 ·intro j p k' m' cz hj
  rcases ek cz with rfl | cz
  ·rw [hall] at hj
   obtain ⟨rfl, rfl, rfl⟩ : o = p ∧ k = k' ∧ m = m' := by simpa using hj
   exact hself
  ·have hjn := hjlt j p k' m' hj
   have hne : i ≠ j := fun e => by subst e; rw [dK] at cz; cases cz
   refine eD ok hi hjn hne ho (ok.get j p k' m' hj).1 (fun h => ?_) v (hpost j p k' m' hj) (inv.holds j p k' m' cz hj)
   have := inv.closed j i hjn cz h
   rw [dK] at this; cases this
 ·have hil : i < all.length := by rw [ok.len]; exact hi
  have hsplit : all = all.take i ++ (o, k, m) :: all.drop (i + 1) := by
   have h1 := List.drop_eq_getElem_cons hil
   rw [List.getElem?_eq_getElem hil] at hall
   rw [Option.some.inj hall] at h1
   rw [← h1, List.take_append_drop]
  have hlen : (all.take i).length = i := by rw [List.length_take]; omega
  have hval : valsOf (more L i) (a.put o.dst v) all 0 = if aa k = 3 then valsOf L a all 0 ++ [v] else valsOf L a all 0 := by
   have kP : ∀ (l : List (Oper × Kind × List Bool)) (j0 : Nat), (∀ x y, l[x]? = some y → all[j0 + x]? = some y ∧ j0 + x ≠ i) → valsOf (more L i) (a.put o.dst v) l j0 = valsOf L a l j0 := by
    intro l j0 hl
    refine (dz l j0 fun x y hx ht => ?_).symm
    obtain ⟨h1, h2⟩ := hl x y hx
    refine ⟨by simp [more, h2], fun hL => ?_⟩
    obtain ⟨p, k', m'⟩ := y
    exact (dA (ok.apart i (j0 + x) o p hi (hjlt _ p k' m' h1) (Ne.symm h2) ho (ok.get _ p k' m' h1).1) v).symm
   have hA : valsOf (more L i) (a.put o.dst v) (all.take i) 0 = valsOf L a (all.take i) 0 := kP _ 0 fun x y hx => by
    rw [List.getElem?_take] at hx
    split at hx
    ·exact ⟨by simpa using hx, by omega⟩
    ·cases hx
   have hB : valsOf (more L i) (a.put o.dst v) (all.drop (i + 1)) (i + 1) = valsOf L a (all.drop (i + 1)) (i + 1) := kP _ (i + 1) fun x y hx => by
    rw [List.getElem?_drop] at hx
    exact ⟨hx, by omega⟩
   have e1 : valsOf (more L i) (a.put o.dst v) all 0 = valsOf L a (all.take i) 0 ++ ((if aa k = 3 then [v] else []) ++ valsOf L a (all.drop (i + 1)) (i + 1)) := by
    conv => lhs; rw [hsplit]
    rw [aF, hA, hlen]
    simp only [valsOf, Nat.zero_add, hB, dE, and_true]
    rw [aK nI hsz]
   have e2 : valsOf L a all 0 = valsOf L a (all.take i) 0 ++ valsOf L a (all.drop (i + 1)) (i + 1) := by
    conv => lhs; rw [hsplit]
    rw [aF, hlen]
    simp [valsOf, dK]
   by_cases ht : aa k = 3
   ·have hC : valsOf L a (all.drop (i + 1)) (i + 1) = [] := by
     refine bK _ _ fun x y hx hy => ?_
     rw [List.getElem?_drop] at hx
     obtain ⟨p, k', m'⟩ := y
     have hjn := hjlt _ p k' m' hx
     rcases ok.ow i (i + 1 + x) o k m p k' m' hall (Or.inl ht) hx hy (by omega) with h | h
     ·have := bz (ok.fM i o hi ho) h; omega
     ·cases hL : L (i + 1 + x) with
      | false => rfl
      | true => have := inv.closed _ i hjn hL h; rw [dK] at this; cases this
    rw [e1, e2, hC]
    simp [ht]
   ·rw [e1, e2]
    simp [ht]
  rw [hval]
  exact hS
structure kQ (I : World → Prop) (S : List Value → World → Prop) (G : World → World → Prop) (all : List (Oper × Kind × List Bool)) : Prop where
 s : ∀ vs w w', Ext w w' → S vs w → S vs w'
 ie : ∀ w w', Ext w w' → I w → I w'
 ig : ∀ w w', G w w' → I w → I w'
 st : stays G all
theorem Ext.refl (w : World) : Ext w w := Below.refl _ _
theorem jJ {n N : Nat} {ms : List (List Bool)} {all : List (Oper × Kind × List Bool)} {a0 a : Act} {L : Nat → Bool} {w : World} {i : Nat} {K : Act → World → Prop} {Q : Exit → Act → World → Prop} (ok : Ok ops n N ms all) (hN : a0.tmps.size = N) (dM : kQ I S G all)
 (hp : pass P ops I S G fin all a0 [] []) (inv : Inv P ops S n ms all a0 L a w) (hI : I w) (hi : i < n) (dK : L i = false) (hm : ∀ j, at2 ms i j = true → L j = true)
 (hK : ∀ a' w', Inv P ops S n ms all a0 (more L i) a' w' → I w' → K a' w') : wpOp P ops Q i K a w := by
 obtain ⟨ac, F, vs, ay, hag, hF, hf, hvs⟩ := fP ok hN inv hp i (by omega)
 have hil : i < all.length := by rw [ok.len]; exact hi
 obtain ⟨⟨o, k, m⟩, hall⟩ : ∃ x, all[i]? = some x := ⟨all[i], by simp [hil]⟩
 obtain ⟨ho, hmm⟩ := ok.get i o k m hall
 have hlt := ok.dst i o hi ho
 have bJ := ok.non i o k m hall
 have hdrop : all.drop i = (o, k, m) :: all.drop (i + 1) := by
  rw [List.drop_eq_getElem_cons hil]
  rw [List.getElem?_eq_getElem hil] at hall
  rw [Option.some.inj hall]
 rw [hdrop] at ay
 have eU : ∀ d, o.dst = some d → d < a.tmps.size := fun d hd => by rw [inv.size, hN]; exact hlt d hd
 have hcsz : ∀ d, o.dst = some d → d < ac.tmps.size := fun d hd => by rw [hag.size, hN]; exact hlt d hd
 obtain ⟨hex, hwt⟩ := dJ (fun cs b => ok.mM i o hi ho cs b) (hag.looks ok inv hi ho hm)
 have hjlt : ∀ (j : Nat) (p : Oper) (k' : Kind) (m' : List Bool), all[j]? = some (p, k', m') → j < n := fun j p k' m' hj => by rw [← ok.len]; exact (List.getElem?_eq_some_iff.1 hj).1
 have hown : ∀ v, execOp (a.put o.dst v).eval o = execOp a.eval o ∧ Region.wanted o (yielded ops (a.put o.dst v).tmps) = Region.wanted o (yielded ops a.tmps) := fun v =>
  dJ (fun cs b => ok.mM i o hi ho cs b) fun t ht => by
   refine bO (fun hd => ?_) v
   have h1 := ok.looks i i o o t hi hi ho ho hd ht
   have := bz (ok.fM i o hi ho) h1
   omega
 have gG : facts w m F := dU m F fun j f hj oW => hf j f (hm j (by subst hmm; exact hj)) oW
 have nK : ∀ w', Ext w w' ∨ G w w' → ∀ (j : Nat) (p : Oper) (k' : Kind) (m' : List Bool), all[j]? = some (p, k', m') → ∀ α dd val Post, (k' = .minor α dd val Post ∨ k' = .pinned α dd val Post) → ∀ x, Post x w → Post x w' := by
  intro w' hw' j p k' m' hj α dd val Post hk x hx
  have hs := iR dM.st hj
  rcases hk with rfl | rfl <;> rcases hw' with h | h
  ·exact hs.1 x w w' h hx
  ·exact hs.2 x w w' h hx
  ·exact hs.1 x w w' h hx
  ·exact hs.2 x w w' h hx
 have eX : (aa k = 3 ∨ aa k = 2) → vs = valsOf L a all 0 := by
  intro ht
  have hold : ∀ (j : Nat) (x : Oper × Kind × List Bool), j ≠ i → all[j]? = some x → aa x.2.1 = 3 → (j < i → L j = true) ∧ (i < j → L j = false) := by
   intro j x hne hj hx
   obtain ⟨p, k', m'⟩ := x
   have hjn := hjlt j p k' m' hj
   rcases ok.ow i j o k m p k' m' hall ht hj hx (Ne.symm hne) with h | h
   ·have hji := bz (ok.fM i o hi ho) h
    exact ⟨fun _ => hm j h, fun _ => by omega⟩
   ·have hji := bz (ok.fM j p hjn (ok.get j p k' m' hj).1) h
    refine ⟨fun _ => by omega, fun _ => ?_⟩
    cases hL : L j with
    | false => rfl
    | true => have := inv.closed j i hjn hL h; rw [dK] at this; cases this
  rw [hvs fun j x hji hj hx => (hold j x (by omega) hj hx).1 hji]
  have hsplit : all = all.take i ++ all.drop i := (List.take_append_drop i all).symm
  have hlen : (all.take i).length = i := by rw [List.length_take]; omega
  conv => rhs; rw [hsplit]
  rw [aF, hlen, Nat.zero_add, bK (all.drop i) i fun x y hx hy => ?_, List.append_nil]
  rw [List.getElem?_drop] at hx
  by_cases h0 : x = 0
  ·subst h0; simpa using dK
  ·exact (hold (i + x) y (by omega) hx hy).2 (by omega)
 have other : ∀ v w', (o.dst = none → v = undef) → (Ext w w' ∨ G w w') → bE P ops o (a.put o.dst v) w' k → S (if aa k = 3 then valsOf L a all 0 ++ [v] else valsOf L a all 0) w' → K (a.put o.dst v) w' := by
  intro v w' nI hw' hself hS
  refine hK _ _ (inv.next ok hN hi dK hall hm (nK w' hw') nI hself hS) ?_
  rcases hw' with h | h
  ·exact dM.ie w w' h hI
  ·exact dM.ig w w' h hI
 unfold wpOp
 simp only [ho]
 cases k with
 | pure =>
   obtain ⟨v, hy, _⟩ := ay
   have hya : Yields P ops o v a := hy.of_same hex.symm hwt.symm
   have hk := other v w (fun hn => absurd (bJ hn) id) (Or.inl (Ext.refl w)) (by
    show Yields P ops o (slot o (a.put o.dst v)) (a.put o.dst v)
    rw [aK (fun hn => absurd (bJ hn) id) eU]
    exact hya.of_same (hown v).1 (hown v).2) (by simpa [aa] using inv.state)
   rcases hya with ⟨hw, hv⟩ | ⟨hw, rfl⟩
   ·rw [if_pos hw]; left; simp only [Oper.wp, hv w, Oper.upon]; exact hk
   ·rw [if_neg (by simp [hw])]; exact hk
 | minor α dd val Post =>
   cases hw : Region.wanted o (yielded ops ac.tmps) with
   | true =>
     rw [if_pos (by rw [← hwt]; exact hw)]
     left
     refine gF hcsz ((ay.1 hw).1 w hI gG) hex hw fun v w' ⟨⟨x, hx, hpx⟩, he⟩ => ?_
     refine other v w' (fun hn => absurd (bJ hn) id) (Or.inl he) ⟨fun _ => ⟨x, by rw [aK (fun hn => absurd (bJ hn) id) eU]; exact hx, hpx⟩, fun h => ?_⟩ (by simpa [aa] using dM.s _ w w' he inv.state)
     rw [(hown v).2, ← hwt, hw] at h; cases h
   | false =>
     rw [if_neg (by rw [← hwt]; simp [hw])]
     refine other undef w (fun hn => absurd (bJ hn) id) (Or.inl (Ext.refl w)) ⟨fun h => ?_, fun _ => aK (fun hn => absurd (bJ hn) id) eU⟩ (by simpa [aa] using inv.state)
     rw [(hown undef).2, ← hwt, hw] at h; cases h
 | pinned α dd val Post =>
   cases hw : Region.wanted o (yielded ops ac.tmps) with
   | true =>
     rw [if_pos (by rw [← hwt]; exact hw)]
     left
     refine gF hcsz ((ay.1 hw).1 w hI (by rw [eX (Or.inr rfl)]; exact inv.state) gG) hex hw fun v w' ⟨⟨x, hx, hpx⟩, he⟩ => ?_
     refine other v w' (fun hn => absurd (bJ hn) id) (Or.inl he) ⟨fun _ => ⟨x, by rw [aK (fun hn => absurd (bJ hn) id) eU]; exact hx, hpx⟩, fun h => ?_⟩ (by simpa [aa] using dM.s _ w w' he inv.state)
     rw [(hown v).2, ← hwt, hw] at h; cases h
   | false =>
     rw [if_neg (by rw [← hwt]; simp [hw])]
     refine other undef w (fun hn => absurd (bJ hn) id) (Or.inl (Ext.refl w)) ⟨fun h => ?_, fun _ => aK (fun hn => absurd (bJ hn) id) eU⟩ (by simpa [aa] using inv.state)
     rw [(hown undef).2, ← hwt, hw] at h; cases h
 | major α dd val =>
   cases hw : Region.wanted o (yielded ops ac.tmps) with
   | true =>
     rw [if_pos (by rw [← hwt]; exact hw)]
     left
     refine gF hcsz ((ay.1 hw).1 w hI (by rw [eX (Or.inl rfl)]; exact inv.state) gG) hex hw fun v w' ⟨⟨⟨x, hx⟩, hS⟩, hg⟩ => ?_
     refine other v w' (fun hn => by rw [hx]; exact bJ hn x) (Or.inr hg) ⟨fun _ => ⟨x, by rw [aK (fun hn => by rw [hx]; exact bJ hn x) eU]; exact hx⟩, fun h => ?_⟩ (by rw [eX (Or.inl rfl)] at hS; simpa [aa] using hS)
     rw [(hown v).2, ← hwt, hw] at h; cases h
   | false =>
     rw [if_neg (by rw [← hwt]; simp [hw])]
     have hS := (ay.2 hw).1 w hI (by rw [eX (Or.inl rfl)]; exact inv.state)
     rw [eX (Or.inl rfl)] at hS
     refine other undef w (fun _ => rfl) (Or.inl (Ext.refl w)) ⟨fun h => ?_, fun _ => aK (fun _ => rfl) eU⟩ (by simpa [aa] using hS)
     rw [(hown undef).2, ← hwt, hw] at h; cases h
def Last (P : Program) (ops : Array Oper) (I : World → Prop) (S : List Value → World → Prop) (Q : Exit → Act → World → Prop) (n : Nat) (a : Act) (F : List (World → Prop)) (vs : List Value) : Prop :=
 ∀ w, I w → S vs w → dh w F → wpList P ops Q (ops.toList.drop n) a w
theorem kR {a b : Act} (h1 : a.defers = b.defers) (hs : a.tmps.size = b.tmps.size) (h : ∀ t : Nat, a.tmps[t]? = b.tmps[t]?) : a = b := by
 obtain ⟨at_, ad⟩ := a
 obtain ⟨bt, bd⟩ := b
 simp only at h1 hs h
 subst h1
 congr 1
 apply Array.ext hs
 intro i hi hi'
 have := h i
 simpa [hi, hi'] using this
theorem jK {n N : Nat} {ms : List (List Bool)} {all : List (Oper × Kind × List Bool)} {a0 a : Act} {L : Nat → Bool} {w : World} {Q : Exit → Act → World → Prop} (ok : Ok ops n N ms all) (hN : a0.tmps.size = N)
 (hp : pass P ops I S G (Last P ops I S Q n) all a0 [] []) (inv : Inv P ops S n ms all a0 L a w) (hI : I w) (hL : ∀ j, j < n → L j = true) : wpList P ops Q (ops.toList.drop n) a w := by
 obtain ⟨ac, F, vs, ay, hag, hF, hf, hvs⟩ := fP ok hN inv hp n (Nat.le_refl _)
 have hd : all.drop n = [] := List.drop_eq_nil_of_le (by rw [ok.len]; exact Nat.le_refl _)
 rw [hd] at ay
 have hv : vs = valsOf L a all 0 := by
  rw [hvs fun i x hi _ _ => hL i hi, List.take_of_length_le (by rw [ok.len]; exact Nat.le_refl _)]
 have hac : ac = a := by
  refine kR (hag.defers.trans inv.defers.symm) (hag.size.trans inv.size.symm) fun t => ?_
  by_cases hx : ∃ (i : Nat) (p : Oper), i < n ∧ ops[i]? = some p ∧ p.dst = some t
  ·obtain ⟨i, p, hin, hp, hdt⟩ := hx
   exact hag.done i p t hin hin (hL i hin) hp hdt
  ·rw [hag.rest t fun i p _ hin hp hdt => hx ⟨i, p, hin, hp, hdt⟩, inv.frame t fun i p hin _ hp hdt => hx ⟨i, p, hin, hp, hdt⟩]
 subst hac
 exact ay w hI (by rw [hv]; exact inv.state) (dL F fun i f hi => hf i f (hL i (by have := (List.getElem?_eq_some_iff.1 hi).1; omega)) hi)
theorem fQ {f : Nat → Bool} : ∀ n, (∃ j, j < n ∧ f j = false) → ∃ j, j < n ∧ f j = false ∧ ∀ i, i < j → f i = true
 | 0, ⟨j, h, _⟩ => by omega
 | n + 1, ⟨j, hj, hf⟩ => by
   by_cases hx : ∃ i, i < n ∧ f i = false
   ·obtain ⟨i, hi, h1, h2⟩ := fQ n hx
    exact ⟨i, by omega, h1, h2⟩
   ·have hjn : j = n := by
     rcases Nat.lt_or_ge j n with h | h
     ·exact (hx ⟨j, h, hf⟩).elim
     ·omega
    subst hjn
    refine ⟨j, hj, hf, fun i hi => ?_⟩
    cases h : f i with
    | true => rfl
    | false => exact (hx ⟨i, hi, h⟩).elim
theorem eY {l : Array Bool} {i : Nat} (h : l.getD i true = false) : i < l.size := by
 rcases Nat.lt_or_ge i l.size with h' | h'
 ·exact h'
 ·simp [Array.getElem?_eq_none h'] at h
theorem di {l : Array Bool} {i : Nat} (h : i < l.size) (d d' : Bool) : l.getD i d = l.getD i d' := by simp [h]
theorem fT {l : Array Bool} {i : Nat} (h : i < l.size) : (fun j => (l.setIfInBounds i true).getD j false) = more (fun j => l.getD j false) i := by
 funext j
 by_cases hij : i = j
 ·subst hij; simp [more, h]
 ·have : (j == i) = false := by simp [Ne.symm hij]
  simp only [more, this, Bool.false_or]
  exact getD_set_ne false hij
theorem count_set {l : Array Bool} {i : Nat} (h : l.getD i true = false) : (l.setIfInBounds i true).toList.count false + 1 = l.toList.count false := by
 have hi := eY h
 have hl : l[i] = false := by simpa [hi] using h
 have hpos : 0 < l.toList.count false := List.count_pos_iff.2 (by rw [← hl]; exact Array.mem_toList_iff.2 (Array.getElem_mem hi))
 rw [Array.toList_setIfInBounds, List.count_set (by simpa using hi)]
 have e : (l.toList[i]'(by simpa using hi) == false) = true := by simp [hl]
 rw [if_pos e, if_neg (by decide)]
 omega
theorem jL {n N : Nat} {ms : List (List Bool)} {all : List (Oper × Kind × List Bool)} {a0 : Act} {Q : Exit → Act → World → Prop} (ok : Ok ops n N ms all) (hN : a0.tmps.size = N) (dM : kQ I S G all)
 (hp : pass P ops I S G (Last P ops I S Q n) all a0 [] []) : ∀ (fuel : Nat) (listed : Array Bool) (a : Act) (w : World), listed.size = ops.size → listed.toList.count false ≤ fuel →
  (((∃ j, j < n ∧ listed.getD j false = false) ∧ Inv P ops S n ms all a0 (fun j => listed.getD j false) a w ∧ I w) ∨
    ∃ k, n ≤ k ∧ k ≤ ops.size ∧ (∀ j, j < k → listed.getD j false = true) ∧ (∀ j, k ≤ j → listed.getD j false = false) ∧ wpList P ops Q (ops.toList.drop k) a w) →
  (∀ j, n ≤ j → (∃ i, i < n ∧ listed.getD i false = false) → listed.getD j false = false) → wpAny P .any ops Q fuel listed a w := by
 intro fuel
 have dV : ∀ {listed : Array Bool} {i : Nat}, listed.size = ops.size → i ∈ Region.ready .any ops listed → ∃ o, ops[i]? = some o ∧ i < listed.size ∧ listed.getD i false = false ∧ ∀ e ∈ o.after, Region.binds .any e = true → listed.getD e.on false = true := by
  intro listed i hs h
  obtain ⟨h0, o, ho, hall⟩ := mem_ready.1 h
  have hlt := eY h0
  exact ⟨o, ho, hlt, by rw [di hlt false true]; exact h0, hall⟩
 have fU : ∀ {listed : Array Bool} {j : Nat}, listed.size = ops.size → j < ops.size → listed.getD j false = false → (∀ i, i < j → listed.getD i false = true) → j ∈ Region.ready .any ops listed := by
  intro listed j hs hj hf hbe
  refine mem_ready.2 ⟨by rw [di (by omega) true false]; exact hf, ops[j], by simp [hj], fun e he hb => hbe _ (ok.back j ops[j] (by simp [hj]) e he hb)⟩
 induction fuel with
 | zero =>
   intro listed a w hs hc gH _
   have hnone : ∀ j, j < ops.size → listed.getD j false = true := by
    intro j hj
    have hj' : j < listed.size := by omega
    have h0 : ¬ false ∈ listed.toList := fun h => by have := List.count_pos_iff.2 h; omega
    have : listed[j] ≠ false := fun e => h0 (by rw [← e]; exact Array.mem_toList_iff.2 (Array.getElem_mem hj'))
    simpa [hj'] using this
   have hr : Region.ready .any ops listed = [] := by
    cases hx : Region.ready .any ops listed with
    | nil => rfl
    | cons i l =>
      obtain ⟨o, ho, _, hf, _⟩ := dV hs (by rw [hx]; exact List.mem_cons_self ..)
      have := hnone i (Array.getElem?_eq_some_iff.1 ho).1
      rw [hf] at this; cases this
   refine ⟨hr, ?_⟩
   rcases gH with ⟨⟨j, hj, hf⟩, _⟩ | ⟨k, hnk, hks, _, hafter, hl⟩
   ·have := hnone j (by have := ok.le; omega)
    rw [hf] at this; cases this
   ·have hk : k = ops.size := by
     rcases Nat.lt_or_ge k ops.size with h | h
     ·have h1 := hnone k h; rw [hafter k (Nat.le_refl _)] at h1; cases h1
     ·omega
    rw [List.drop_eq_nil_of_le (by rw [Array.length_toList, hk]; exact Nat.le_refl _)] at hl
    exact hl
 | succ fuel ih =>
   intro listed a w hs hc gH iT
   rcases gH with ⟨hex, inv, hI⟩ | ⟨k, hnk, hks, dN, hafter, hl⟩
   ·obtain ⟨j0, hj0, hf0, hb0⟩ := fQ n hex
    have ng := fU (j := j0) hs (by have := ok.le; omega) hf0 hb0
    refine ⟨fun h => (by rw [h] at ng; cases ng), fun i hi => ?_⟩
    obtain ⟨o, ho, hil, hif, gI⟩ := dV hs hi
    have hin : i < n := by
     rcases Nat.lt_or_ge i n with h | h
     ·exact h
     ·obtain ⟨e, he, hb, hon⟩ := ok.tail i o j0 h ho (by omega)
      have := gI e he hb
      rcases hon with hon | ⟨hon, hat⟩ | ⟨hon, _⟩
      ·rw [hon, hf0] at this; cases this
      ·have h2 := inv.closed e.on j0 hon this hat
       have h2 : listed.getD j0 false = true := h2
       rw [hf0] at h2; cases h2
      ·rw [iT e.on hon hex] at this; cases this
    have hm : ∀ j, at2 ms i j = true → (fun j => listed.getD j false) j = true := by
     intro j hj
     obtain ⟨e, he, hb, hon⟩ := ok.ahead i o j hin ho hj
     have h1 := gI e he hb
     rcases hon with rfl | hon
     ·exact h1
     ·exact inv.closed e.on j (by have := ok.back i o ho e he hb; omega) h1 hon
    refine jJ ok hN dM hp inv hI hin hif hm fun a' w' ni hI' => ?_
    have hset : (fun j => (listed.setIfInBounds i true).getD j false) = more (fun j => listed.getD j false) i := fT hil
    have hcnt := count_set (l := listed) (i := i) (by rw [di hil true false]; exact hif)
    refine ih _ a' w' (by simpa using hs) (by omega) ?_ ?_
    ·by_cases hall : ∀ j, j < n → more (fun j => listed.getD j false) i j = true
     ·right
      refine ⟨n, Nat.le_refl _, ok.le, fun j hj => ?_, fun j hj => ?_, jK ok hN hp ni hI' hall⟩
      ·have := congrFun hset j; rw [this]; exact hall j hj
      ·have := congrFun hset j
       rw [this]
       have h1 := iT j hj hex
       have : (j == i) = false := by simp; omega
       simp only [more, this, Bool.false_or]
       exact h1
     ·left
      refine ⟨?_, by rw [hset]; exact ni, hI'⟩
      have ⟨j, hj⟩ := Classical.not_forall.1 hall
      have ⟨hjn, hj2⟩ := Classical.not_imp.1 hj
      exact ⟨j, hjn, by have := congrFun hset j; rw [this]; simpa using hj2⟩
    ·intro j hj _
     have := congrFun hset j
     rw [this]
     have h1 := iT j hj hex
     have : (j == i) = false := by simp; omega
     simp only [more, this, Bool.false_or]
     exact h1
   ·refine ⟨fun h => ?_, fun i hi => ?_⟩
    ·have hk : k = ops.size := by
      rcases Nat.lt_or_ge k ops.size with hlt | hge
      ·have := fU hs hlt (hafter k (Nat.le_refl _)) dN
       rw [h] at this; cases this
      ·omega
     rw [List.drop_eq_nil_of_le (by rw [Array.length_toList, hk]; exact Nat.le_refl _)] at hl
     exact hl
    ·obtain ⟨o, ho, hil, hif, gI⟩ := dV hs hi
     have hki : k ≤ i := by
      rcases Nat.lt_or_ge i k with h | h
      ·have := dN i h; rw [hif] at this; cases this
      ·exact h
     have hik : i = k := by
      rcases Nat.lt_or_ge k i with h | h
      ·obtain ⟨e, he, hb, hon⟩ := ok.tail i o k (by omega) ho h
       have := gI e he hb
       rcases hon with hon | ⟨hon, hat⟩ | ⟨_, hon⟩
       ·rw [hon, hafter k (Nat.le_refl _)] at this; cases this
       ·obtain ⟨oe, hoe⟩ : ∃ oe, ops[e.on]? = some oe := ⟨_, Array.getElem?_eq_getElem (by have := ok.le; omega)⟩
        have := bz (ok.fM e.on oe hon hoe) hat
        omega
       ·rw [hafter e.on (by omega)] at this; cases this
      ·omega
     subst hik
     have hilt : i < ops.toList.length := by rw [Array.length_toList]; exact (Array.getElem?_eq_some_iff.1 ho).1
     have nL : ops.toList.drop i = o :: ops.toList.drop (i + 1) := by
      rw [List.drop_eq_getElem_cons hilt]
      have h1 := ho
      rw [← Array.getElem?_toList, List.getElem?_eq_getElem hilt] at h1
      rw [Option.some.inj h1]
     rw [nL] at hl
     have hset : (fun j => (listed.setIfInBounds i true).getD j false) = more (fun j => listed.getD j false) i := fT hil
     have hcnt := count_set (l := listed) (i := i) (by rw [di hil true false]; exact hif)
     have hw : wpOp P ops Q i (wpList P ops Q (ops.toList.drop (i + 1))) a w := by
      unfold wpOp
      simp only [ho]
      exact hl
     refine wpOp_mono (fun a' w' h => ih _ a' w' (by simpa using hs) (by omega) (Or.inr ⟨i + 1, by omega, by rw [Array.length_toList] at hilt; omega, fun j hj => ?_, fun j hj => ?_, h⟩) ?_) hw
     ·have := congrFun hset j
      rw [this]
      by_cases hji : j = i
      ·subst hji; exact dE
      ·exact bP (dN j (by omega))
     ·have := congrFun hset j
      rw [this]
      have : (j == i) = false := by simp; omega
      simp only [more, this, Bool.false_or]
      exact hafter j (by omega)
     ·rintro j hj ⟨x, hx, nM⟩
      have := congrFun hset x
      rw [this] at nM
      have h2 := dN x (by omega)
      rw [bP h2] at nM; cases nM
theorem region {n N : Nat} {ms : List (List Bool)} (all : List (Oper × Kind × List Bool)) {a : Act} {w : World} {id : Nat} {Q : Exit → Act → World → Prop} (I : World → Prop) (S : List Value → World → Prop) (G : World → World → Prop)
 (hm : P.follows .mixedOrders = true) (ok : Ok ops n N ms all) (hN : a.tmps.size = N) (dM : kQ I S G all) (hn : 0 < n) (hI : I w.drew) (hS : S [] w.drew)
 (hp : pass P ops I S G (Last P ops I S Q n) all a [] []) : (Code.region id ops true).wp P Q a w := by
 refine wp_region_any hm ?_
 show wpAny P .any ops Q ops.size (Array.replicate ops.size false) a w.drew
 have gJ : ∀ j, (Array.replicate ops.size false).getD j false = false := by
  intro j
  rcases Nat.lt_or_ge j ops.size with h | h
  ·simp [h]
  ·simp [Array.getElem?_eq_none (xs := Array.replicate ops.size false) (i := j) (by simpa using h)]
 refine jL ok hN dM hp ops.size _ a w.drew (by simp) (by simp) (Or.inl ⟨⟨0, hn, gJ 0⟩, ?_, hI⟩) fun j _ _ => gJ j
 have hL : (fun j => (Array.replicate ops.size false).getD j false) = fun _ => false := funext gJ
 rw [hL]
 refine ⟨rfl, rfl, fun t _ => rfl, fun i j _ h => (nomatch h), fun j o k m h => (nomatch h), ?_⟩
 rw [bK all 0 fun i x _ _ => rfl]
 exact hS
def mk (ops : Array Oper) (n : Nat) (ks : List Kind) (ms : List (List Bool)) : List (Oper × Kind × List Bool) := (ops.toList.take n).zip (ks.zip ms)
def gK : List (Oper × Kind × List Bool) → Prop
 | x :: r => (x.1.dst = none → silent x.2.1) ∧ gK r
 | [] => True
theorem eZ : ∀ {l : List (Oper × Kind × List Bool)}, gK l → ∀ x ∈ l, x.1.dst = none → silent x.2.1
 | [], _, _, hx => nomatch hx
 | y :: l, h, x, hx => by
   rcases List.mem_cons.1 hx with rfl | hx
   ·exact h.1
   ·exact eZ h.2 x hx
theorem iU (n N : Nat) (ms : List (List Bool)) (tags : List Nat) (ks : List Kind) {a : Act} {w : World} {id : Nat} {Q : Exit → Act → World → Prop} (I : World → Prop) (S : List Value → World → Prop) (G : World → World → Prop)
 (hm : P.follows .mixedOrders = true) (hok : (okB ops n N ms tags && (ms.length == n) && (tags.length == n) && decide (0 < n)) = true) (dW : ks.map aa = tags) (hN : a.tmps.size = N)
 (hs : ∀ vs w w', Ext w w' → S vs w → S vs w') (hie : ∀ w w', Ext w w' → I w → I w') (hig : ∀ w w', G w w' → I w → I w') (hst : stays G (mk ops n ks ms)) (hnn : gK (mk ops n ks ms)) (hI : I w.drew) (hS : S [] w.drew)
 (hp : pass P ops I S G (Last P ops I S Q n) (mk ops n ks ms) a [] []) : (Code.region id ops true).wp P Q a w := by
 simp only [Bool.and_eq_true, beq_iff_eq, decide_eq_true_eq] at hok
 obtain ⟨⟨⟨hok, oz⟩, htl⟩, hn⟩ := hok
 have hle : n ≤ ops.size := by
  unfold okB at hok
  rw [Bool.and_eq_true] at hok
  simpa using hok.1
 have hkl : ks.length = n := by rw [← htl, ← dW, List.length_map]
 have h1 : (mk ops n ks ms).map (·.1) = ops.toList.take n := by
  unfold mk
  rw [List.map_fst_zip]
  rw [List.length_zip, List.length_take, hkl, oz]; omega
 have hl0 : (ops.toList.take n).length = n := by rw [List.length_take, Array.length_toList]; omega
 have h2 : (mk ops n ks ms).map (·.2) = ks.zip ms := by
  unfold mk
  rw [List.map_snd_zip]
  rw [List.length_zip, hl0, hkl, oz]; omega
 have h3 : (mk ops n ks ms).map (·.2.2) = ms := by
  have : (mk ops n ks ms).map (·.2.2) = ((mk ops n ks ms).map (·.2)).map (·.2) := by rw [List.map_map]; rfl
  rw [this, h2, List.map_snd_zip]
  omega
 have h4 : (mk ops n ks ms).map (fun x => aa x.2.1) = tags := by
  have : (mk ops n ks ms).map (fun x => aa x.2.1) = (((mk ops n ks ms).map (·.2)).map (·.1)).map aa := by rw [List.map_map, List.map_map]; rfl
  rw [this, h2, List.map_fst_zip, dW]
  omega
 exact region _ I S G hm (kL _ (by rw [h4]; exact hok) h1 h3 (eZ hnn)) hN ⟨hs, hie, hig, hst⟩ hn hI hS hp
theorem mO (k N : Nat) (ms : List (List Bool)) (tags : List Nat) (ks : List Kind) {a : Act} {w : World} {id : Nat} {Q : Exit → Act → World → Prop} (I : World → Prop) (S : List Value → World → Prop) (G : World → World → Prop)
 (hm : P.follows .mixedOrders = true) (hok : ((okB ops k N ms tags && (ms.length == k) && (tags.length == k) && decide (0 < k)) && (ops.toList.take k).all (fun o => o.dst.isSome)) = true) (dW : ks.map aa = tags) (hN : a.tmps.size = N)
 (hs : ∀ vs w w', Ext w w' → S vs w → S vs w') (hie : ∀ w w', Ext w w' → I w → I w') (hig : ∀ w w', G w w' → I w → I w') (hst : stays G (mk ops k ks ms)) (hI : I w.drew) (hS : S [] w.drew)
 (hp : pass P ops I S G (Last P ops I S Q k) (mk ops k ks ms) a [] []) : (Code.region id ops true).wp P Q a w := by
 have h := Bool.and_eq_true_iff.1 hok
 refine iU (P := P) (ops := ops) k N ms tags ks I S G hm h.1 dW hN hs hie hig hst ?_ hI hS hp
 have key : ∀ l : List (Oper × Kind × List Bool), (∀ x ∈ l, x.1.dst.isSome = true) → gK l := by
  intro l
  induction l with
  | nil => intro _; trivial
  | cons x l ih => exact fun hl => ⟨fun e => (by have := hl x List.mem_cons_self; rw [e] at this; cases this), ih fun z hz => hl z (List.mem_cons_of_mem _ hz)⟩
 exact key _ fun x hx => List.all_eq_true.1 h.2 x.1 (List.of_mem_zip (a := x.1) (b := x.2) hx).1
inductive RC where
 | p (n : Nat)
 | m (n : Nat)
def row (i n : Nat) : List Bool := (List.range i).map n.testBit
def tg : RC → Nat | .p _ => 0 | .m _ => 1
def rows : Nat → List RC → List (List Bool)
 | i, .p n :: cs => row i n :: rows (i + 1) cs
 | i, .m n :: cs => row i n :: rows (i + 1) cs
 | _, [] => []
def need : List RC → Nat
 | .p _ :: cs => need cs
 | .m _ :: cs => need cs + 1
 | [] => 0
def eF : List Oper → Nat → List RC → List Value → List (Oper × Kind × List Bool)
 | o :: os, i, .p n :: cs, vs => (o, .pure, row i n) :: eF os (i + 1) cs vs
 | o :: os, i, .m n :: cs, v :: vs => (o, .minor Unit () (fun _ => v) (fun _ _ => True), row i n) :: eF os (i + 1) cs vs
 | _, _, _, _ => []
theorem fe (G : World → World → Prop) : ∀ (cs : List RC) (os : List Oper) (i : Nat) (vs : List Value), cs.length ≤ os.length → need cs = vs.length →
 (eF os i cs vs).map (·.1) = os.take cs.length ∧ (eF os i cs vs).map (fun x => aa x.2.1) = cs.map tg ∧ (eF os i cs vs).map (·.2.2) = rows i cs ∧ stays G (eF os i cs vs)
 | [], os, i, vs, _, _ => by cases os <;> exact ⟨rfl, rfl, rfl, trivial⟩
 | .p n :: cs, [], i, vs, h, _ => by simp at h
 | .m n :: cs, [], i, vs, h, _ => by simp at h
 | .p n :: cs, o :: os, i, vs, h, hv => by
   obtain ⟨h1, h2, h3, h4⟩ := fe G cs os (i + 1) vs (by simpa using h) hv
   exact ⟨congrArg (List.cons o) h1, congrArg (List.cons 0) h2, congrArg (List.cons (row i n)) h3, trivial, h4⟩
 | .m n :: cs, o :: os, i, [], h, hv => by simp [need] at hv
 | .m n :: cs, o :: os, i, v :: vs, h, hv => by
   obtain ⟨h1, h2, h3, h4⟩ := fe G cs os (i + 1) vs (by simpa using h) (by simpa [need] using hv)
   exact ⟨congrArg (List.cons o) h1, congrArg (List.cons 1) h2, congrArg (List.cons (row i n)) h3, ⟨fun _ _ _ _ _ => trivial, fun _ _ _ _ _ => trivial⟩, h4⟩
def oC (ops : Array Oper) (n N : Nat) (cs : List RC) : Bool :=
 okB ops n N (rows 0 cs) (cs.map tg) && decide (n ≤ ops.size) && decide (0 < n) && (cs.length == n) && (ops.toList.take n).all (fun o => o.dst.isSome)
theorem ro (w0 : World) (n N : Nat) (cs : List RC) (vs : List Value) {a : Act} {w : World} {id : Nat} {Q : Exit → Act → World → Prop}
 (hm : P.follows .mixedOrders = true) (hok : oC ops n N cs = true) (hk : need cs = vs.length) (hN : a.tmps.size = N) (hI : Below w0.heap.size w0 w.drew)
 (hp : pass P ops (fun W => Below w0.heap.size w0 W) (fun _ _ => True) (fun a b => Below a.heap.size a b) (Last P ops (fun W => Below w0.heap.size w0 W) (fun _ _ => True) Q n) (eF ops.toList 0 cs vs) a [] []) : (Code.region id ops true).wp P Q a w := by
 unfold oC at hok
 simp only [Bool.and_eq_true, beq_iff_eq, decide_eq_true_eq] at hok
 obtain ⟨⟨⟨⟨hok, hle⟩, h0⟩, rfl⟩, hd⟩ := hok
 obtain ⟨h1, h2, h3, h4⟩ := fe (fun a b => Below a.heap.size a b) cs ops.toList 0 vs (by simpa using hle) hk
 exact region (P := P) (ops := ops) (eF ops.toList 0 cs vs) (fun W => Below w0.heap.size w0 W) (fun _ _ => True) (fun a b => Below a.heap.size a b) hm
  (kL (ops := ops) (by rw [h2]; exact hok) h1 h3 fun x hx e => (by
   have hx1 : x.1 ∈ ops.toList.take cs.length := by rw [← h1]; exact List.mem_map_of_mem hx
   have := List.all_eq_true.1 hd x.1 hx1
   rw [e] at this; cases this)) hN
  ⟨fun _ _ _ _ _ => trivial, fun _ _ he hb => hb.trans (Below.mono he hb.size), fun _ _ he hb => hb.trans (Below.mono he hb.size), h4⟩ h0 hI trivial hp
section
variable {o : Oper} {m : List Bool} {r : List (Oper × Kind × List Bool)} {a : Act} {F : List (World → Prop)} {vs : List Value}
theorem nN (v : Value) (h : Yields P ops o v a) (hn : pass P ops I S G fin r (a.put o.dst v) (F ++ [aM]) vs) : pass P ops I S G fin ((o, .pure, m) :: r) a F vs := ⟨v, h, hn⟩
theorem aW (v : Value) (hw : Region.wanted o (yielded ops a.tmps) = true) (h : ∀ w, (execOp a.eval o).run P w = .ok (.value v) w) (hn : pass P ops I S G fin r (a.put o.dst v) (F ++ [aM]) vs) : pass P ops I S G fin ((o, .pure, m) :: r) a F vs := ⟨v, Or.inl ⟨hw, h⟩, hn⟩
theorem om (hw : Region.wanted o (yielded ops a.tmps) = false) (hn : pass P ops I S G fin r (a.put o.dst undef) (F ++ [aM]) vs) : pass P ops I S G fin ((o, .pure, m) :: r) a F vs := ⟨undef, Or.inr ⟨hw, rfl⟩, hn⟩
theorem aL {α : Type} {d : α} {val : α → Value} {Post : α → World → Prop} (hw : Region.wanted o (yielded ops a.tmps) = true) (h : ∀ w, I w → facts w m F → One P ops o a w fun v w' => (∃ x : α, v = val x ∧ Post x w') ∧ Ext w w')
 (hn : ∀ x : α, pass P ops I S G fin r (a.put o.dst (val x)) (F ++ [Post x]) vs) : pass P ops I S G fin ((o, .minor α d val Post, m) :: r) a F vs := ⟨fun _ => ⟨h, hn⟩, fun h' => by rw [hw] at h'; cases h'⟩
theorem kS {α : Type} {d : α} {val : α → Value} {Post : α → World → Prop} (hw : Region.wanted o (yielded ops a.tmps) = false)
 (hn : pass P ops I S G fin r (a.put o.dst undef) (F ++ [aM]) vs) : pass P ops I S G fin ((o, .minor α d val Post, m) :: r) a F vs := ⟨fun h' => (by rw [hw] at h'; cases h'), fun _ => hn⟩
theorem gL {α : Type} {d : α} {val : α → Value} {Post : α → World → Prop} (hw : Region.wanted o (yielded ops a.tmps) = true) (h : ∀ w, I w → S vs w → facts w m F → One P ops o a w fun v w' => (∃ x : α, v = val x ∧ Post x w') ∧ Ext w w')
 (hn : ∀ x : α, pass P ops I S G fin r (a.put o.dst (val x)) (F ++ [Post x]) vs) : pass P ops I S G fin ((o, .pinned α d val Post, m) :: r) a F vs := ⟨fun _ => ⟨h, hn⟩, fun h' => by rw [hw] at h'; cases h'⟩
theorem j6 {α : Type} {d : α} {val : α → Value} {Post : α → World → Prop} (hw : Region.wanted o (yielded ops a.tmps) = false)
 (hn : pass P ops I S G fin r (a.put o.dst undef) (F ++ [aM]) vs) : pass P ops I S G fin ((o, .pinned α d val Post, m) :: r) a F vs := ⟨fun h' => (by rw [hw] at h'; cases h'), fun _ => hn⟩
theorem ib {α : Type} {d : α} {val : α → Value} (hw : Region.wanted o (yielded ops a.tmps) = true) (h : ∀ w, I w → S vs w → facts w m F → One P ops o a w fun v w' => ((∃ x : α, v = val x) ∧ S (vs ++ [v]) w') ∧ G w w')
 (hn : ∀ x : α, pass P ops I S G fin r (a.put o.dst (val x)) (F ++ [aM]) (vs ++ [val x])) : pass P ops I S G fin ((o, .major α d val, m) :: r) a F vs := ⟨fun _ => ⟨h, hn⟩, fun h' => by rw [hw] at h'; cases h'⟩
theorem kT {α : Type} {d : α} {val : α → Value} (hw : Region.wanted o (yielded ops a.tmps) = false) (h : ∀ w, I w → S vs w → S (vs ++ [undef]) w)
 (hn : pass P ops I S G fin r (a.put o.dst undef) (F ++ [aM]) (vs ++ [undef])) : pass P ops I S G fin ((o, .major α d val, m) :: r) a F vs := ⟨fun h' => (by rw [hw] at h'; cases h'), fun _ => ⟨h, hn⟩⟩
theorem aZ {n : Nat} {Q : Exit → Act → World → Prop} (h : ∀ w, I w → S vs w → dh w F → wpList P ops Q (ops.toList.drop n) a w) : pass P ops I S G (Last P ops I S Q n) [] a F vs := h
end
end Reg2
end Go.Proofs.YtfmpgdafnlehaaaGreat

namespace Go.Proofs.YtfmpgdafnlehaaaGreat
open Go.RowKit
abbrev aP : Bool := true
abbrev az : Bool := false
namespace Reg2
abbrev Kind.mU (v : Value) : Kind := .minor Unit () (fun _ => v) (fun _ _ => True)
theorem rd {P : Program} {ops : Array Oper} (w0 : World) (k N : Nat) (ms : List (List Bool)) (tags : List Nat) (ks : List Kind) {a : Act} {w : World} {id : Nat} {Q : Exit → Act → World → Prop}
 (hm : P.follows .mixedOrders = true) (hok : ((okB ops k N ms tags && (ms.length == k) && (tags.length == k) && decide (0 < k)) && (ops.toList.take k).all (fun o => o.dst.isSome)) = true)
 (dW : ks.map aa = tags) (hN : a.tmps.size = N) (hst : stays (fun a b => Below a.heap.size a b) (mk ops k ks ms)) (hI : Below w0.heap.size w0 w.drew)
 (hp : pass P ops (fun W => Below w0.heap.size w0 W) (fun _ _ => True) (fun a b => Below a.heap.size a b) (Last P ops (fun W => Below w0.heap.size w0 W) (fun _ _ => True) Q k) (mk ops k ks ms) a [] []) : (Code.region id ops true).wp P Q a w :=
 mO k N ms tags ks (fun W => Below w0.heap.size w0 W) (fun _ _ => True) (fun a b => Below a.heap.size a b) hm hok dW hN (fun _ _ _ _ _ => trivial) (fun _ _ he hb => hb.trans (Below.mono he hb.size)) (fun _ _ he hb => hb.trans (Below.mono he hb.size)) hst hI trivial hp
theorem tt {G : World → World → Prop} : dD G (Kind.mU .nilFunc) := ⟨fun _ _ _ _ _ => trivial, fun _ _ _ _ _ => trivial⟩
section
variable {P : Program} {ops : Array Oper} {I : World → Prop} {S : List Value → World → Prop} {G : World → World → Prop} {fin : Act → List (World → Prop) → List Value → Prop} {o : Oper} {m : List Bool} {r : List (Oper × Kind × List Bool)} {a : Act} {F : List (World → Prop)} {vs : List Value}
theorem pm {α : Type} {d : α} {val : α → Value} {Post : α → World → Prop} (h : ∀ w, I w → facts w m F → wpList P ops (Done o (fun v w' => (∃ x : α, v = val x ∧ Post x w') ∧ Ext w w') a) [o] a w) (hn : ∀ x : α, pass P ops I S G fin r (a.put o.dst (val x)) (F ++ [Post x]) vs) (hw : Region.wanted o (yielded ops a.tmps) = true) : pass P ops I S G fin ((o, .minor α d val Post, m) :: r) a F vs := aL hw h hn
theorem pp {α : Type} {d : α} {val : α → Value} {Post : α → World → Prop} (h : ∀ w, I w → S vs w → facts w m F → wpList P ops (Done o (fun v w' => (∃ x : α, v = val x ∧ Post x w') ∧ Ext w w') a) [o] a w) (hn : ∀ x : α, pass P ops I S G fin r (a.put o.dst (val x)) (F ++ [Post x]) vs) (hw : Region.wanted o (yielded ops a.tmps) = true) : pass P ops I S G fin ((o, .pinned α d val Post, m) :: r) a F vs := gL hw h hn
theorem pj {α : Type} {d : α} {val : α → Value} (h : ∀ w, I w → S vs w → facts w m F → wpList P ops (Done o (fun v w' => ((∃ x : α, v = val x) ∧ S (vs ++ [v]) w') ∧ G w w') a) [o] a w) (hn : ∀ x : α, pass P ops I S G fin r (a.put o.dst (val x)) (F ++ [aM]) (vs ++ [val x])) (hw : Region.wanted o (yielded ops a.tmps) = true) : pass P ops I S G fin ((o, .major α d val, m) :: r) a F vs := ib hw h hn

end
end Reg2
end Go.Proofs.YtfmpgdafnlehaaaGreat


namespace Go.Proofs.YtfmpgdafnlehaaaGreat
open Go.RowKit Go.Lib
structure ai (S : Nat → Prop) (w w' : World) : Prop where
 os : w'.os = w.os
 tape : w'.tape = w.tape
 output : w'.output = w.output
 size : w.heap.size ≤ w'.heap.size
 block : ∀ k, k < w.heap.size → ¬ S k → w'.heap[k]? = w.heap[k]?
def bL (w : World) (S S' : Nat → Prop) : Prop := ∀ k, S' k → S k ∨ w.heap.size ≤ k
section
variable {S S' : Nat → Prop} {w w1 w2 : World}
theorem ai.refl (S : Nat → Prop) (w : World) : ai S w w := ⟨rfl, rfl, rfl, Nat.le_refl _, fun _ _ _ => rfl⟩
theorem ai.of_below (h : Below w.heap.size w w1) : ai S w w1 := ⟨h.os, h.tape, h.output, h.size, fun k hk _ => h.block k hk⟩
theorem ai.ji {g : Nat} (h : Put.Off g g w w1) (hg : S g) : ai S w w1 := ⟨h.os, h.tape, h.output, h.size, fun k hk hn => h.block k hk (fun e => hn (e ▸ hg)) (fun e => hn (e ▸ hg))⟩
theorem ai.trans (h : ai S w w1) (h' : ai S' w1 w2) (hg : bL w S S') : ai S w w2 :=
 ⟨h'.os.trans h.os, h'.tape.trans h.tape, h'.output.trans h.output, Nat.le_trans h.size h'.size, fun k hk hn => by
  rw [h'.block k (Nat.lt_of_lt_of_le hk h.size) (fun hs => (hg k hs).elim hn (fun hle => absurd hk (Nat.not_lt.2 hle)))]
  exact h.block k hk hn⟩
theorem ai.below {B : Nat} (h : ai S w w1) (hS : ∀ k, S k → B ≤ k) (hB : B ≤ w.heap.size) : Below B w w1 :=
 ⟨h.os, h.tape, h.output, h.size, fun k hk => h.block k (by omega) (fun hs => absurd (hS k hs) (by omega))⟩
theorem bL.refl (w : World) (S : Nat → Prop) : bL w S S := fun _ h => .inl h
theorem bL.trans {oD : Nat → Prop} (h : bL w S S') (h' : bL w1 S' oD) (hs : w.heap.size ≤ w1.heap.size) : bL w S oD := fun k hk => (h' k hk).elim (h k) (fun hle => .inr (by omega))
end
section
variable {w w' : World} {p g n cap m : Nat} {dv lv : Value} {M : Md}
theorem dB {e : TypeId} {sz n B k : Nat} {v : Value} {xs : List Value} (h : w.ownsRow B e sz v n xs) (hk : v.ownBlock = some k) : ∃ cur, w.heap[k]? = some (.cells cur e (0, 0)) := by
 obtain ⟨_, ⟨rfl, _⟩ | ⟨g, cap, cur, rfl, _, hh, _⟩⟩ := h
 ·cases hk
 ·have : k = g := by simpa [Value.ownBlock] using hk.symm
  subst this
  exact ⟨cur, hh⟩
end
end Go.Proofs.YtfmpgdafnlehaaaGreat

namespace Go.Proofs.YtfmpgdafnlehaaaGreat
open Go.RowKit Go.Lib
structure Hd where
 wk : Nat
 who : Int
 x : Bool
 y : Bool
 z : Bool
 st : Int
 lk : Int
def af (w : World) (h : Nat) (H : Hd) : Prop := w.heap[h]? = some (.cells #[.pointer (some ⟨H.wk, 0, none⟩), .bool true, .int .i64 H.who, .bool H.x, .bool H.y, .bool H.z, .int .i64 H.st, .int .i64 H.lk] 86 (0, 0))
def Hd.want (H : Hd) (k : Int) : Hd := { H with st := if ax H.x H.y H.z k = 3 then 1 else 0, lk := ax H.x H.y H.z k }
def bF (x y z : Bool) (k : Int) : Int := if 2 < k ∧ z = true then 2 else if 1 < k ∧ y = true then 1 else if 0 < k ∧ x = true then 0 else -1
def Hd.yield (H : Hd) (k : Int) : Hd := { H with st := if bF H.x H.y H.z k = -1 then 4 else 3, lk := bF H.x H.y H.z k }
section
variable {w w' : World} {h : Nat} {H : Hd}
theorem af.lt (q : af w h H) : h < w.heap.size := aD q
theorem af.below {B : Nat} (q : af w h H) (hb : Below B w w') (hs : h < B) : af w' h H := by
 unfold af at *; rw [hb.block h hs]; exact q
theorem af.c0 (q : af w h H) : w.cell? ⟨h, 0, none⟩ = some (.pointer (some ⟨H.wk, 0, none⟩)) := by simp [World.cell?, show w.heap[h]? = _ from q]
theorem af.c1 (q : af w h H) : w.cell? ⟨h, 1, none⟩ = some (.bool true) := by simp [World.cell?, show w.heap[h]? = _ from q]
theorem af.c2 (q : af w h H) : w.cell? ⟨h, 2, none⟩ = some (.int .i64 H.who) := by simp [World.cell?, show w.heap[h]? = _ from q]
theorem af.c3 (q : af w h H) : w.cell? ⟨h, 3, none⟩ = some (.bool H.x) := by simp [World.cell?, show w.heap[h]? = _ from q]
theorem af.c4 (q : af w h H) : w.cell? ⟨h, 4, none⟩ = some (.bool H.y) := by simp [World.cell?, show w.heap[h]? = _ from q]
theorem af.c5 (q : af w h H) : w.cell? ⟨h, 5, none⟩ = some (.bool H.z) := by simp [World.cell?, show w.heap[h]? = _ from q]
theorem af.c6 (q : af w h H) : w.cell? ⟨h, 6, none⟩ = some (.int .i64 H.st) := by simp [World.cell?, show w.heap[h]? = _ from q]
theorem af.c7 (q : af w h H) : w.cell? ⟨h, 7, none⟩ = some (.int .i64 H.lk) := by simp [World.cell?, show w.heap[h]? = _ from q]
theorem af.free (q : af w h H) (j : Nat) : w.frozen? ⟨h, j, none⟩ = false := by simp [World.frozen?, show w.heap[h]? = _ from q]
theorem af.setSt (q : af w h H) (n : Int) : af (w.setCell ⟨h, 6, none⟩ (.int .i64 n)) h { H with st := n } := by
 have := heap_put (i := 6) q (.int .i64 n)
 exact this
theorem af.iV (q : af w h H) (n : Int) : af (w.setCell ⟨h, 7, none⟩ (.int .i64 n)) h { H with lk := n } := by
 have := heap_put (i := 7) q (.int .i64 n)
 exact this
theorem aN {S : Nat → Prop} (ho : ai S w w') (hs : S h) (j : Nat) (v : Value) : ai S w (w'.setCell ⟨h, j, none⟩ v) :=
 ⟨ho.os, ho.tape, ho.output, by simpa using ho.size, fun k hk hn => by rw [Below.heap_setCell _ _ _ _ (fun e => hn (by rw [e]; exact hs))]; exact ho.block k hk hn⟩
end
theorem bC {w : World} {h : Nat} {H : Hd} (q : af w h H) : Calls Tryz.prog 11 #[.pointer (some ⟨h, 0, none⟩)] w fun e w' => e = .returned (.int .i64 H.st) ∧ w = w' := by
 have c1 := q.c1
 have c6 := q.c6
 clear q
 go_enter Tryz.func11, Tryz.ntmps11
 go_wp2_with fail
 go_ret
 exact ⟨rfl, rfl⟩
theorem bU (w : World) : Calls Tryz.prog 11 #[.pointer none] w fun e w' => e = .returned (.int .i64 5) ∧ w = w' := by
 go_enter Tryz.func11, Tryz.ntmps11
 go_wp2_with fail
 go_ret
 exact ⟨rfl, rfl⟩
theorem fo (v : Value) (w : World) : Calls Tryz.prog 14 #[.pointer none, v] w fun e w' => e = .returned (.bool false) ∧ w = w' := by
 have hs := bU w
 go_enter Tryz.func14, Tryz.ntmps14
 go_wp2_with (go_at_call 11; go_must (refine hs.mono ?_); rintro e w' ⟨rfl, rfl⟩)
 go_ret
 exact ⟨rfl, rfl⟩
theorem fq (v u : Value) (w : World) : Calls Tryz.prog 15 #[.pointer none, v, u] w fun e w' => e = .returned (.bool false) ∧ w = w' := by
 have hs := bU w
 go_enter Tryz.func15, Tryz.ntmps15
 go_wp2_with (go_at_call 11; go_must (refine hs.mono ?_); rintro e w' ⟨rfl, rfl⟩)
 go_ret
 exact ⟨rfl, rfl⟩
def dO (w : World) (h : Nat) (H' : Hd) (e : Ending) (w' : World) : Prop := e = .returned (.tuple #[]) ∧ af w' h H' ∧ ai (fun k => k = h) w w'
theorem ic {w : World} {h : Nat} {H : Hd} (q : af w h H) (k : Int) (hk : 0 ≤ k ∧ k ≤ 100) : Calls Tryz.prog 41 #[.pointer (some ⟨h, 0, none⟩), .int .i64 k] w (dO w h (H.want k)) := by
 have hn := dI H.x H.y H.z k (by omega) w
 have c3 := q.c3
 have c4 := q.c4
 have c5 := q.c5
 obtain ⟨r, hr⟩ : ∃ r, r = ax H.x H.y H.z k := ⟨_, rfl⟩
 have hfin : Hid (∀ W, af W h { H with st := if r = 3 then 1 else 0, lk := r } → ai (fun k => k = h) w W → dO w h (H.want k) (.returned (.tuple #[])) W) := fun W h1 h2 => ⟨rfl, by rw [hr] at h1; exact h1, h2⟩
 rw [← hr] at hn
 unfold ae at hn
 replace hr := Lib.hid hr
 replace q := Lib.hid q
 go_enter Tryz.func41, Tryz.ntmps41
 go_wp2_with fail
 go_at_call 72
 refine hn.mono ?_
 clear hn c3 c4 c5
 rintro e w1 ⟨rfl, hb1⟩
 have q1 := q.out.below hb1 q.out.lt
 have o1 : ai (fun k => k = h) w w1 := ai.of_below hb1
 have c6 := q1.c6
 have f6 := q1.free 6
 have q2 := q1.setSt 0
 have o2 := aN (h := h) o1 rfl 6 (.int .i64 0)
 have c7 := q2.c7
 have f7 := q2.free 7
 have q3 := q2.iV r
 have o3 := aN (h := h) o2 rfl 7 (.int .i64 r)
 have k7 := q3.c7
 have k6 := q3.c6
 have g6 := q3.free 6
 have q4 := q3.setSt 1
 have o4 := aN (h := h) o3 rfl 6 (.int .i64 1)
 by_cases h3 : r = 3
 ·subst h3
  rw [if_pos rfl] at hfin
  have hf := Lib.hid (hfin.out _ q4 o4)
  clear q1 o1 q2 o2 q3 o3 q4 o4 hfin
  go_wp2_with fail
  go_end0
  exact hf.out
 ·have d3 : (r == 3) = false := by simp [h3]
  rw [if_neg h3] at hfin
  have hf := Lib.hid (hfin.out _ q3 o3)
  clear q1 o1 q2 o2 q3 o3 q4 o4 hfin
  go_wp2_with fail
  go_end0
  exact hf.out
end Go.Proofs.YtfmpgdafnlehaaaGreat

namespace Go.Proofs.YtfmpgdafnlehaaaGreat
open Go.RowKit Go.Lib
def Hd.take (H : Hd) (l : Lk) : Hd := if l.bI H.lk H.who = 0 then H.want (H.lk + 1) else H
theorem kU {w : World} {h s : Nat} {H : Hd} {l : Lk} (q : af w h H) (hl : ag 29 w s l) (hn : 0 ≤ l.n ∧ l.n ≤ 1000000) (hk : 0 ≤ H.lk ∧ H.lk ≤ 3) (hne : h ≠ s) :
 Calls Tryz.prog 45 #[.pointer (some ⟨h, 0, none⟩), .pointer (some ⟨s, 0, none⟩)] w fun e w' => e = .returned (.tuple #[]) ∧ af w' h (H.take l) ∧ ag 29 w' s (l.bX H.lk H.who) ∧ ai (fun k => k = h ∨ k = s) w w' := by
 have q0 := Lib.hid q
 have l0 := Lib.hid hl
 have wi : IntKind.i64.wrap (H.lk + 1) = H.lk + 1 := IntWalk.i64_in _ (by omega)
 have hy : Hid (l.bI H.lk H.who = 0 → H.take l = H.want (H.lk + 1)) := fun h => by unfold Hd.take; rw [if_pos h]
 have hno : Hid (l.bI H.lk H.who ≠ 0 → H.take l = H) := fun h => by unfold Hd.take; rw [if_neg h]
 clear q hl
 go_enter Tryz.func45, Tryz.ntmps45
 go_wp2_with fail
 refine Reg2.ro w 9 22 [.p 0, .p 0, .p 2, .p 6, .m 14, .p 0, .p 32, .p 96, .m 224] [.int .i64 H.lk, .int .i64 H.who] (by kernel_rfl) (by kernel_rfl) rfl rfl ⟨rfl, rfl, rfl, Nat.le_refl _, fun _ _ => rfl⟩ ?_
 dsimp only [Reg2.eF]
 repeat ((first
  | (refine' Reg2.aW _ (by rfl) (fun wz => ?_) ?_; rotate_left; (go_simp; first | rfl | rw [if_neg (by omega)]))
  | (refine Reg2.aL (by rfl) (fun wz hI hF => ?_) (fun _ => ?_)
     ·unfold Reg2.One
      have d0 := (q0.out.below hI q0.out.lt).c7
      have d1 := (q0.out.below hI q0.out.lt).c2
      go_wp2_with fail
      first | exact ⟨_, rfl, rfl, Reg2.Ext.refl _⟩ | exact ⟨_, rfl, ⟨(), rfl, trivial⟩, Reg2.Ext.refl _⟩)); simp only [Act.put, xA, xB, xC, xD, xE, id])
 refine Reg2.aZ ?_
 intro w1 HI1 _ iW
 clear iW
 dsimp only [List.drop]
 have q1 := Lib.hid (q0.out.below HI1 q0.out.lt)
 have ht := mD H.lk H.who (l0.out.below HI1 l0.out.lt) hn
 go_wp2_with fail
 go_at_call 80
 refine ht.mono ?_
 clear ht
 rintro e w2 ⟨rfl, hl2, ho2⟩
 have q2 : af w2 h H := (ho2.block h q1.out.lt hne hne).trans q1.out
 have bQ : ai (fun k => k = h ∨ k = s) w w2 := (ai.of_below HI1).trans (ai.ji (S := fun k => k = h ∨ k = s) ho2 (.inr rfl)) (bL.refl _ _)
 have c7 := q2.c7
 obtain ⟨r, hr⟩ : ∃ r, r = l.bI H.lk H.who := ⟨_, rfl⟩
 rw [← hr]
 replace hr := Lib.hid hr
 by_cases h0 : r = 0
 ·subst h0
  have hw := ic q2 (H.lk + 1) (by omega)
  replace hy := Lib.hid (hy.out hr.out.symm)
  replace hl2 := Lib.hid hl2
  replace bQ := Lib.hid bQ
  replace q2 := Lib.hid q2
  go_wp2_with fail
  go_at_call 41
  refine hw.mono ?_
  clear hw c7
  rintro e w3 ⟨rfl, q3, fH⟩
  have hl3 : Hid (ag 29 w3 s (l.bX H.lk H.who)) := (fH.block s hl2.out.lt (Ne.symm hne)).trans hl2.out
  have nO : Hid (ai (fun k => k = h ∨ k = s) w w3) := bQ.out.trans fH fun k hk => .inl (.inl hk)
  replace q3 := Lib.hid q3
  clear fH
  go_wp2_with fail
  go_end0
  exact ⟨rfl, by rw [hy.out]; exact q3.out, hl3.out, nO.out⟩
 ·have d3 : (r == 0) = false := by simp [h0]
  replace hno := Lib.hid (hno.out (by rw [← hr.out]; exact h0))
  replace q2 := Lib.hid q2
  replace hl2 := Lib.hid hl2
  replace bQ := Lib.hid bQ
  clear c7
  go_wp2_with fail
  go_end0
  exact ⟨rfl, by rw [hno.out]; exact q2.out, hl2.out, bQ.out⟩
theorem iX {x y z : Bool} {k : Int} (h0 : 0 < k) (h3 : k ≤ 3) (hb : (if k - 1 = 0 then x else if k - 1 = 1 then y else z) = false) : bF x y z k = bF x y z (k - 1) := by
 have : k = 1 ∨ k = 2 ∨ k = 3 := by omega
 rcases this with rfl | rfl | rfl <;> revert hb <;> cases x <;> cases y <;> cases z <;> decide
theorem iY {x y z : Bool} {k : Int} (h0 : 0 < k) (h3 : k ≤ 3) (hb : (if k - 1 = 0 then x else if k - 1 = 1 then y else z) = true) : bF x y z k = k - 1 := by
 have : k = 1 ∨ k = 2 ∨ k = 3 := by omega
 rcases this with rfl | rfl | rfl <;> revert hb <;> cases x <;> cases y <;> cases z <;> decide
theorem af.lane {w : World} {h : Nat} {H : Hd} (q : af w h H) {j : Int} (h0 : 0 ≤ j) (h2 : j ≤ 2) : w.cell? ⟨h, 3 + j.toNat, none⟩ = some (.bool (if j = 0 then H.x else if j = 1 then H.y else H.z)) := by
 have : j = 0 ∨ j = 1 ∨ j = 2 := by omega
 rcases this with rfl | rfl | rfl
 ·exact q.c3
 ·exact q.c4
 ·exact q.c5
theorem fV {w : World} {h : Nat} {H : Hd} (q : af w h H) (k : Int) (hk : 0 ≤ k ∧ k ≤ 3) : Calls Tryz.prog 82 #[.pointer (some ⟨h, 0, none⟩), .int .i64 k] w (dO w h (H.yield k)) := by
 obtain ⟨n, rfl⟩ := Int.eq_ofNat_of_zero_le hk.1
 have w1 : IntKind.i64.wrap ((n : Int) - 1) = (n : Int) - 1 := IntWalk.i64_in _ (by omega)
 have c7 := q.c7
 have f7 := q.free 7
 have hst : Hid (af (w.setCell ⟨h, 7, none⟩ (.int .i64 ((n : Int) - 1))) h { H with lk := (n : Int) - 1 } ∧ ai (fun k => k = h) w (w.setCell ⟨h, 7, none⟩ (.int .i64 ((n : Int) - 1)))) := ⟨q.iV ((n : Int) - 1), aN (h := h) (ai.refl (fun k => k = h) w) rfl 7 _⟩
 clear q
 go_enter Tryz.func82, Tryz.ntmps82
 go_wp2_with fail
 go_loopg [] n (fun m wr => ∃ j : Int, -1 ≤ j ∧ j ≤ 2 ∧ j + 1 = m ∧ Hid (af wr h { H with lk := j } ∧ ai (fun k => k = h) w wr ∧ bF H.x H.y H.z n = bF H.x H.y H.z (j + 1)))
 case atStart =>
  exact ⟨(n : Int) - 1, by omega, by omega, by omega, hst.out.1, hst.out.2, by congr 1; omega⟩
 case round =>
  obtain ⟨j, j1, j2, j3, hq⟩ := hrel
  have q := hq.out.1
  have of := Lib.hid hq.out.2.1
  have hp := Lib.hid hq.out.2.2
  have c7 := q.c7
  clear hst hq
  by_cases h0 : 0 ≤ j
  ·obtain ⟨m, rfl⟩ := Int.eq_ofNat_of_zero_le h0
   have nP := q.lane h0 j2
   obtain ⟨b, hb⟩ : ∃ b, b = if (m : Int) = 0 then H.x else if (m : Int) = 1 then H.y else H.z := ⟨_, rfl⟩
   rw [Int.toNat_natCast] at nP
   have cl : wr.cell? ⟨h, 3 + m, none⟩ = some (.bool b) := by rw [hb]; exact nP
   clear nP
   replace hb := Lib.hid hb
   have b3 : (m : Int) < 3 := by omega
   have q0 := Lib.hid q
   go_wp2_with fail
   refine Reg2.ro wr 7 36 [.p 0, .p 0, .p 2, .p 6, .m 14, .p 1, .p 33] [.int .i64 m] (by kernel_rfl) (by kernel_rfl) rfl rfl ⟨rfl, rfl, rfl, Nat.le_refl _, fun _ _ => rfl⟩ ?_
   dsimp only [Reg2.eF]
   repeat ((first
    | (refine' Reg2.aW _ (by rfl) (fun wz => ?_) ?_; rotate_left; (go_simp; first | rfl | rw [if_neg (by omega)]))
    | (refine Reg2.aL (by rfl) (fun wz hI hF => ?_) (fun _ => ?_)
       ·unfold Reg2.One
        have d0 := (q0.out.below hI q0.out.lt).c7
        go_wp2_with fail
        first | exact ⟨_, rfl, rfl, Reg2.Ext.refl _⟩ | exact ⟨_, rfl, ⟨(), rfl, trivial⟩, Reg2.Ext.refl _⟩)); simp only [Act.put, xA, xB, xC, xD, xE, id])
   refine Reg2.aZ ?_
   intro w2 HI _ iW
   clear iW
   dsimp only [List.drop]
   have q2 := q0.out.below HI q0.out.lt
   have bQ : ai (fun k => k = h) w w2 := of.out.trans (ai.of_below HI) (bL.refl _ _)
   have pI : w2.cell? ⟨h, 3 + m, none⟩ = some (.bool b) := (HI.cell (p := ⟨h, 3 + m, none⟩) q0.out.lt).trans cl
   clear cl c7 q q0
   cases b with
   | true =>
     have hpv := iY (x := H.x) (y := H.y) (z := H.z) (k := (m : Int) + 1) (by omega) (by omega) (by rw [show (m : Int) + 1 - 1 = m by omega]; exact hb.out.symm)
     have f6 := q2.free 6
     have c6 := q2.c6
     have q3 := q2.setSt 3
     have fH := aN (h := h) bQ rfl 6 (.int .i64 3)
     have hf : Hid (dO w h (H.yield n) (.returned (.tuple #[])) (w2.setCell ⟨h, 6, none⟩ (.int .i64 3))) := by
      refine ⟨rfl, ?_, fH⟩
      unfold Hd.yield
      rw [hp.out, hpv, if_neg (by omega), show (m : Int) + 1 - 1 = m by omega]
      exact q3
     clear q2 bQ q3 fH hpv
     go_wp2_with fail
     refine bodyPost_ret (results_none rfl _ _ _) rfl ?_
     exact hf.out
   | false =>
     have hpv := iX (x := H.x) (y := H.y) (z := H.z) (k := (m : Int) + 1) (by omega) (by omega) (by rw [show (m : Int) + 1 - 1 = m by omega]; exact hb.out.symm)
     have wm : IntKind.i64.wrap ((m : Int) - 1) = (m : Int) - 1 := IntWalk.i64_in _ (by omega)
     have c7 := q2.c7
     have f7 := q2.free 7
     have hf : Hid (af (w2.setCell ⟨h, 7, none⟩ (.int .i64 ((m : Int) - 1))) h { H with lk := (m : Int) - 1 } ∧ ai (fun k => k = h) w (w2.setCell ⟨h, 7, none⟩ (.int .i64 ((m : Int) - 1))) ∧ bF H.x H.y H.z n = bF H.x H.y H.z ((m : Int) - 1 + 1)) :=
      ⟨q2.iV _, aN (h := h) bQ rfl 7 _, by rw [hp.out, hpv]; congr 1; omega⟩
     clear q2 bQ hpv
     go_wp2_with fail
     go_roundg (gk - 1)
     case measure => omega
     case rel => exact ⟨(m : Int) - 1, by omega, by omega, by omega, hf.out⟩
  ·obtain rfl : j = -1 := by omega
   have f6 := q.free 6
   have c6 := q.c6
   have hf : Hid (dO w h (H.yield n) (.returned (.tuple #[])) (wr.setCell ⟨h, 6, none⟩ (.int .i64 4))) := by
    refine ⟨rfl, ?_, aN (h := h) of.out rfl 6 _⟩
    unfold Hd.yield
    rw [hp.out, show bF H.x H.y H.z (-1 + 1) = -1 by unfold bF; simp, if_pos rfl]
    exact q.setSt 4
   clear q
   go_wp2_with fail
   go_end0
   exact hf.out
end Go.Proofs.YtfmpgdafnlehaaaGreat

namespace Go.Proofs.YtfmpgdafnlehaaaGreat
open Go.RowKit Go.Lib
def Hd.give (H : Hd) : Hd := H.yield H.lk
def Hd.part (H : Hd) (dn : Bool) : Hd := if dn = true then H.yield 3 else { H with st := 2 }
section
variable {w : World} {h s : Nat} {H : Hd} {l : Lk} {cv : Value}
theorem kV (q : af w h H) (hl : ag 29 w s l) (hk : 0 ≤ H.lk ∧ H.lk ≤ 3) (hne : h ≠ s) :
 Calls Tryz.prog 47 #[.pointer (some ⟨h, 0, none⟩), .pointer (some ⟨s, 0, none⟩)] w fun e w' => e = .returned (.tuple #[]) ∧ af w' h H.give ∧ ag 29 w' s (l.bn H.lk H.who) ∧ ai (fun k => k = h ∨ k = s) w w' := by
 have q0 := Lib.hid q
 have l0 := Lib.hid hl
 clear q hl
 go_enter Tryz.func47, Tryz.ntmps47
 go_wp2_with fail
 refine Reg2.ro w 9 20 [.p 0, .p 0, .p 2, .p 6, .m 14, .p 0, .p 32, .p 96, .m 224] [.int .i64 H.lk, .int .i64 H.who] (by kernel_rfl) (by kernel_rfl) rfl rfl ⟨rfl, rfl, rfl, Nat.le_refl _, fun _ _ => rfl⟩ ?_
 dsimp only [Reg2.eF]
 repeat ((first
  | (refine' Reg2.aW _ (by rfl) (fun wz => ?_) ?_; rotate_left; (go_simp; first | rfl | rw [if_neg (by omega)]))
  | (refine Reg2.aL (by rfl) (fun wz hI hF => ?_) (fun _ => ?_)
     ·unfold Reg2.One
      have d0 := (q0.out.below hI q0.out.lt).c7
      have d1 := (q0.out.below hI q0.out.lt).c2
      go_wp2_with fail
      first | exact ⟨_, rfl, rfl, Reg2.Ext.refl _⟩ | exact ⟨_, rfl, ⟨(), rfl, trivial⟩, Reg2.Ext.refl _⟩)); simp only [Act.put, xA, xB, xC, xD, xE, id])
 refine Reg2.aZ ?_
 intro w1 HI1 _ iW
 clear iW
 dsimp only [List.drop]
 have q1 := Lib.hid (q0.out.below HI1 q0.out.lt)
 have ht := kK H.lk H.who (l0.out.below HI1 l0.out.lt)
 go_wp2_with fail
 go_at_call 83
 refine ht.mono ?_
 clear ht
 rintro e w2 ⟨rfl, hl2, ho2⟩
 have q2 : af w2 h H := (ho2.block h q1.out.lt hne hne).trans q1.out
 have bQ : Hid (ai (fun k => k = h ∨ k = s) w w2) := (ai.of_below HI1).trans (ai.ji (S := fun k => k = h ∨ k = s) ho2 (.inr rfl)) (bL.refl _ _)
 have c7 := q2.c7
 have hy := fV q2 H.lk hk
 replace hl2 := Lib.hid hl2
 replace q2 := Lib.hid q2
 generalize l.bD H.lk H.who = r at *
 clear ho2
 go_wp2_with fail
 go_at_call 82
 refine hy.mono ?_
 clear hy c7
 rintro e w3 ⟨rfl, q3, fH⟩
 have hl3 : Hid (ag 29 w3 s (l.bn H.lk H.who)) := (fH.block s hl2.out.lt (Ne.symm hne)).trans hl2.out
 have nO : Hid (ai (fun k => k = h ∨ k = s) w w3) := bQ.out.trans fH fun k hk => .inl (.inl hk)
 replace q3 := Lib.hid q3
 clear fH
 go_wp2_with fail
 go_end0
 exact ⟨rfl, q3.out, hl3.out, nO.out⟩
theorem kW (q : af w h H) {Q : World → Prop} (dn : Bool) (hs : Calls Tryz.prog 81 #[.pointer (some ⟨H.wk, 0, none⟩), cv] w fun e w' => e = .returned (.bool dn) ∧ Q w' ∧ af w' h H) :
 Calls Tryz.prog 46 #[.pointer (some ⟨h, 0, none⟩), cv] w fun e w' => e = .returned (.tuple #[]) ∧ ∃ w1, Q w1 ∧ af w' h (H.part dn) ∧ ai (fun k => k = h) w1 w' := by
 have c0 := q.c0
 clear q
 go_enter Tryz.func46, Tryz.ntmps46
 go_wp2_with fail
 go_at_call 81
 refine hs.mono ?_
 clear hs c0
 rintro e w1 ⟨rfl, hQ, q1⟩
 replace hQ := Lib.hid hQ
 cases dn with
 | true =>
   have hy := fV q1 3 (by decide)
   go_wp2_with fail
   go_at_call 82
   refine hy.mono ?_
   clear hy
   rintro e w2 ⟨rfl, q2, bQ⟩
   replace q2 := Lib.hid q2
   replace bQ := Lib.hid bQ
   go_wp2_with fail
   go_end0
   exact ⟨rfl, w1, hQ.out, q2.out, bQ.out⟩
 | false =>
   have c6 := q1.c6
   have f6 := q1.free 6
   have hf : Hid (af (w1.setCell ⟨h, 6, none⟩ (.int .i64 2)) h { H with st := 2 } ∧ ai (fun k => k = h) w1 (w1.setCell ⟨h, 6, none⟩ (.int .i64 2))) := ⟨q1.setSt 2, aN (h := h) (ai.refl (fun k => k = h) w1) rfl 6 _⟩
   clear q1
   go_wp2_with fail
   go_end0
   exact ⟨rfl, w1, hQ.out, hf.out⟩
theorem ik (q : af w h H) (h0 : H.st = 0) (hl : ag 29 w s l) (hn : 0 ≤ l.n ∧ l.n ≤ 1000000) (hk : 0 ≤ H.lk ∧ H.lk ≤ 3) (hne : h ≠ s) :
 Calls Tryz.prog 15 #[.pointer (some ⟨h, 0, none⟩), cv, .pointer (some ⟨s, 0, none⟩)] w fun e w' => e = .returned (.bool false) ∧ af w' h (H.take l) ∧ ag 29 w' s (l.bX H.lk H.who) ∧ ai (fun k => k = h ∨ k = s) w w' := by
 have hs := bC q
 rw [h0] at hs
 have ht := kU q hl hn hk hne
 clear q hl h0
 go_enter Tryz.func15, Tryz.ntmps15
 go_wp2_with (first | (go_at_call 11; go_must (refine hs.mono ?_); rintro e w' ⟨rfl, rfl⟩) | (go_at_call 45; go_must (refine ht.mono ?_); rintro e w' ⟨rfl, hz⟩; replace hz := Lib.hid hz))
 go_ret
 exact ⟨rfl, hz.out⟩
theorem il (q : af w h H) (h1 : H.st = 1 ∨ H.st = 2) {Q : World → Prop} (dn : Bool) (hs : Calls Tryz.prog 81 #[.pointer (some ⟨H.wk, 0, none⟩), cv] w fun e w' => e = .returned (.bool dn) ∧ Q w' ∧ af w' h H) :
 Calls Tryz.prog 15 #[.pointer (some ⟨h, 0, none⟩), cv, .pointer (some ⟨s, 0, none⟩)] w fun e w' => e = .returned (.bool (H.st == 1)) ∧ ∃ w1, Q w1 ∧ af w' h (H.part dn) ∧ ai (fun k => k = h) w1 w' := by
 have hg := bC q
 have ht := kW q dn hs
 clear q hs
 rcases h1 with h1 | h1
 ·rw [h1] at hg ⊢
  clear h1
  go_enter Tryz.func15, Tryz.ntmps15
  go_wp2_with (first | (go_at_call 11; go_must (refine hg.mono ?_); rintro e w' ⟨rfl, rfl⟩) | (go_at_call 46; go_must (refine ht.mono ?_); rintro e w' ⟨rfl, hz⟩; replace hz := Lib.hid hz))
  go_ret
  exact ⟨rfl, hz.out⟩
 ·rw [h1] at hg ⊢
  clear h1
  go_enter Tryz.func15, Tryz.ntmps15
  go_wp2_with (first | (go_at_call 11; go_must (refine hg.mono ?_); rintro e w' ⟨rfl, rfl⟩) | (go_at_call 46; go_must (refine ht.mono ?_); rintro e w' ⟨rfl, hz⟩; replace hz := Lib.hid hz))
  go_ret
  exact ⟨rfl, hz.out⟩
theorem iq (q : af w h H) (h3 : H.st = 3) (hl : ag 29 w s l) (hk : 0 ≤ H.lk ∧ H.lk ≤ 3) (hne : h ≠ s) :
 Calls Tryz.prog 15 #[.pointer (some ⟨h, 0, none⟩), cv, .pointer (some ⟨s, 0, none⟩)] w fun e w' => e = .returned (.bool false) ∧ af w' h H.give ∧ ag 29 w' s (l.bn H.lk H.who) ∧ ai (fun k => k = h ∨ k = s) w w' := by
 have hs := bC q
 rw [h3] at hs
 have ht := kV q hl hk hne
 clear q hl h3
 go_enter Tryz.func15, Tryz.ntmps15
 go_wp2_with (first | (go_at_call 11; go_must (refine hs.mono ?_); rintro e w' ⟨rfl, rfl⟩) | (go_at_call 47; go_must (refine ht.mono ?_); rintro e w' ⟨rfl, hz⟩; replace hz := Lib.hid hz))
 go_ret
 exact ⟨rfl, hz.out⟩
theorem iw (q : af w h H) (h4 : H.st = 4) (u : Value) :
 Calls Tryz.prog 15 #[.pointer (some ⟨h, 0, none⟩), cv, u] w fun e w' => e = .returned (.bool false) ∧ af w' h { H with st := 5 } ∧ ai (fun k => k = h) w w' := by
 have hs := bC q
 rw [h4] at hs
 have c6 := q.c6
 have f6 := q.free 6
 have hf : Hid (af (w.setCell ⟨h, 6, none⟩ (.int .i64 5)) h { H with st := 5 } ∧ ai (fun k => k = h) w (w.setCell ⟨h, 6, none⟩ (.int .i64 5))) := ⟨q.setSt 5, aN (h := h) (ai.refl (fun k => k = h) w) rfl 6 _⟩
 clear q h4
 go_enter Tryz.func15, Tryz.ntmps15
 go_wp2_with (go_at_call 11; go_must (refine hs.mono ?_); rintro e w' ⟨rfl, rfl⟩)
 go_ret
 exact ⟨rfl, hf.out⟩
def kX (wk : Nat) (who : Int) (x y z : Bool) : Hd := (⟨wk, who, x, y, z, 0, 0⟩ : Hd).want 0
theorem eu (wk : Nat) (who : Int) (x y z : Bool) (w : World) : Calls Tryz.prog 8 #[.pointer (some ⟨wk, 0, none⟩), .int .i64 who, ae x y z] w fun e w' => ∃ b, e = .returned (.pointer (some ⟨b, 0, none⟩)) ∧ af w' b (kX wk who x y z) ∧ w.heap.size ≤ b ∧ Below w.heap.size w w' := by
 unfold ae
 obtain ⟨w1, hw1⟩ : ∃ w1, w1 = (w.alloc (.cells #[.bool x, .bool y, .bool z] 31)).alloc (.cells #[.pointer (some ⟨wk, 0, none⟩), .bool true, .int .i64 who, .bool x, .bool y, .bool z, .int .i64 0, .int .i64 0] 86) := ⟨_, rfl⟩
 have hb1 : Below w.heap.size w w1 := by rw [hw1]; exact ((Below.refl _ _).alloc (Nat.le_refl _) _).alloc (by simp) _
 have q1 : af w1 (w.heap.size + 1) ⟨wk, who, x, y, z, 0, 0⟩ := by rw [hw1]; exact heap_alloc2_new w _ _
 have hw := ic q1 0 (by decide)
 replace hb1 := Lib.hid hb1
 clear q1
 go_enter Tryz.func8, Tryz.ntmps8
 go_wp2_with fail
 rw [← hw1]
 replace hw1 := Lib.hid hw1
 go_at_call 41
 refine hw.mono ?_
 clear hw
 rintro e w2 ⟨rfl, q2, bQ⟩
 have hb2 : Hid (Below w.heap.size w w2) := hb1.out.trans (bQ.below (fun k hk => by subst hk; omega) hb1.out.size)
 replace q2 := Lib.hid q2
 clear bQ
 go_wp2_with fail
 go_ret
 exact ⟨_, rfl, q2.out, Nat.le_succ _, hb2.out⟩
end
end Go.Proofs.YtfmpgdafnlehaaaGreat

namespace Go.Proofs.YtfmpgdafnlehaaaGreat
open Go.RowKit Go.Lib
def aH (n : Nat) : Md := ⟨0, List.replicate n false, [], false⟩
end Go.Proofs.YtfmpgdafnlehaaaGreat

namespace Go.Proofs.YtfmpgdafnlehaaaGreat
section
variable {M : Md}
theorem iZ {n : Nat} (hn : n < M.dr.length) : df M n = if 0 ≤ holderL M.L n then (if M.dr.getD n false = true then 3 else 2) else if M.dr.getD n false = true then 4 else 1 := by
 unfold df
 rw [if_neg (by omega)]
 simp only [Int.toNat_natCast]
theorem iy {n : Nat} (hn : ¬ n < M.dr.length) : df M n = 0 := by
 unfold df
 rw [if_pos (by omega)]
end
end Go.Proofs.YtfmpgdafnlehaaaGreat

namespace Go.Proofs.YtfmpgdafnlehaaaGreat
open Go.ChangeShapes Go.WideShapes Go.ChangeAt Go.RowKit Go.Deep
def leafy (P : Program) : Nat → TypeId → List TypeId
 | 0, t => [t]
 | n + 1, t => match P.underlying t with
   | some (.struct fs) => fs.toList.flatMap fun f => leafy P n f.type
   | _ => [t]
def offsOk (P : Program) (lv : TypeId → List TypeId) (ok : TypeId → Bool) : List Field → Nat → Bool
 | [], _ => true
 | f :: r, o => f.offset == o && P.cellsOf f.type == (lv f.type).length && ok f.type && offsOk P lv ok r (o + (lv f.type).length)
def dm (P : Program) : Nat → TypeId → Bool
 | 0, t => P.cellsOf t == 1
 | n + 1, t => match P.underlying t with
   | some (.struct fs) => P.cellsOf t == (leafy P (n + 1) t).length && offsOk P (leafy P n) (dm P n) fs.toList 0
   | _ => P.cellsOf t == 1
section
variable {H : Type} {enc : TypeId × Value → H} {P : Program} {w : World} {base : Nat} {spare : Nat → Bool} {held : Bool}
def bV (enc : TypeId × Value → H) (P : Program) (w : World) (base : Nat) (spare : Nat → Bool) (held : Bool) (ts : List TypeId) (cs : List Value) : Prop :=
 ∀ (j : Nat) (T : TypeId) (u : Value), ts[j]? = some T → cs[j]? = some u → ∃ (n : Nat) (y : DataW H × List MemPlace), DataW.trod enc P w base spare held n T [u] = some y
theorem fZ {t : TypeId} {fuel : Nat} {cs : List Value} {x : DataW H × List MemPlace} (hl : cs.length = 1) (h : DataW.trod enc P w base spare held fuel t cs = some x) : bV enc P w base spare held [t] cs := by
 intro j T u hT hu
 have hj : j = 0 := by
  have := (List.getElem?_eq_some_iff.1 hT).1
  simp at this
  exact this
 subst hj
 match cs, hl with
 | [c], _ =>
   simp at hT hu
   subst hT hu
   exact ⟨fuel, x, h⟩
theorem jM (n : Nat) : ∀ (t : TypeId) (fuel : Nat) (cs : List Value) (x : DataW H × List MemPlace), dm P n t = true → cs.length = P.cellsOf t → DataW.trod enc P w base spare held fuel t cs = some x →
 cs.length = (leafy P n t).length ∧ bV enc P w base spare held (leafy P n t) cs := by
 induction n with
 | zero =>
   intro t fuel cs x hok hl h
   simp only [dm, beq_iff_eq] at hok
   exact ⟨by rw [hl, hok]; rfl, fZ (by rw [hl, hok]) h⟩
 | succ n ih =>
   intro t fuel cs x hok hl h
   have plain : P.cellsOf t = 1 → leafy P (n + 1) t = [t] → cs.length = (leafy P (n + 1) t).length ∧ bV enc P w base spare held (leafy P (n + 1) t) cs := fun h1 h2 => by
    rw [h2]
    exact ⟨by rw [hl, h1]; rfl, fZ (by rw [hl, h1]) h⟩
   unfold dm at hok
   split at hok
   ·rename_i fs hu
    rw [Bool.and_eq_true, beq_iff_eq] at hok
    obtain ⟨hc, ho⟩ := hok
    refine ⟨by rw [hl, hc], ?_⟩
    obtain ⟨ys, n', _, _, _, hyl, hf⟩ := DataW.trod_struct hu h
    have hlv : leafy P (n + 1) t = fs.toList.flatMap fun f => leafy P n f.type := by rw [leafy, hu]
    rw [hlv] at hc ⊢
    have key : ∀ (fl : List Field) (o : Nat), offsOk P (leafy P n) (dm P n) fl o = true → o + (fl.flatMap fun f => leafy P n f.type).length ≤ cs.length → (∀ f ∈ fl, ∃ y, DataW.trod enc P w base spare held n' f.type ((cs.drop f.offset).take (P.cellsOf f.type)) = some y) →
     bV enc P w base spare held (fl.flatMap fun f => leafy P n f.type) (cs.drop o) := by
     intro fl
     induction fl with
     | nil => intro o _ _ _ j T u hT; simp at hT
     | cons f r ihr =>
       intro o ho hle hall
       simp only [offsOk, Bool.and_eq_true, beq_iff_eq] at ho
       obtain ⟨⟨⟨h1, h2⟩, h3⟩, h4⟩ := ho
       rw [List.flatMap_cons, List.length_append] at hle
       obtain ⟨y, hy⟩ := hall f (by simp)
       rw [h1, h2] at hy
       have hlen : ((cs.drop o).take (leafy P n f.type).length).length = P.cellsOf f.type := by rw [List.length_take, List.length_drop, h2]; omega
       obtain ⟨_, hL⟩ := ih f.type n' _ y h3 hlen hy
       have hR := ihr (o + (leafy P n f.type).length) h4 (by omega) (fun g hg => hall g (by simp [hg]))
       intro j T u hT hu
       rw [List.flatMap_cons] at hT
       rcases Nat.lt_or_ge j (leafy P n f.type).length with hlt | hge
       ·rw [List.getElem?_append_left hlt] at hT
        exact hL j T u hT (by rw [List.getElem?_take, if_pos hlt]; exact hu)
       ·rw [List.getElem?_append_right hge] at hT
        refine hR (j - (leafy P n f.type).length) T u hT ?_
        rw [List.getElem?_drop] at hu ⊢
        rw [← hu]
        congr 1
        omega
    have := key fs.toList 0 ho (by rw [hl, hc]; omega) (fun f hfm => by
     obtain ⟨i, hi, rfl⟩ := List.getElem_of_mem hfm
     have hi' : i < fs.size := by simpa using hi
     have h5 := hf i fs[i] (Array.getElem?_eq_getElem hi')
     have h6 : ys[i]? = some (ys[i]'(by omega)) := List.getElem?_eq_getElem (by omega)
     exact ⟨_, by rw [Array.getElem_toList]; exact h5.trans h6⟩)
    simpa using this
   ·rename_i hn
    refine plain (by simpa using hok) ?_
    rw [leafy]
    split
    ·rename_i fs hu; exact absurd hu (hn fs)
    ·rfl
end
theorem kY {H : Type} {enc : TypeId × Value → H} {P : Program} {w : World} {base : Nat} {t : TypeId} {fs : Array Field} {ts : List TypeId} {n : Nat} {v : Value} {d : DataW H} {ps : List MemPlace} (ht : P.underlying t = some (.struct fs))
 (hok : dm P n t = true) (hts : leafy P n t = ts) (hval : Value.okWide P w .any base t v) (hd : DataW.Trod enc P w 0 (fun _ => true) true t v d ps) :
 ∃ s : List Value, v = .agg s.toArray ∧ s.length = ts.length ∧ bV enc P w 0 (fun _ => true) true ts s := by
 subst hts
 obtain ⟨cs, rfl, hsz⟩ := okWide_struct ht hval
 obtain ⟨fuel, hf⟩ := hd
 obtain ⟨cs⟩ := cs
 obtain ⟨h1, h2⟩ := jM n t fuel cs _ hok (by simpa using hsz) hf
 exact ⟨cs, rfl, h1, h2⟩
end Go.Proofs.YtfmpgdafnlehaaaGreat
