/-
 Own words and walks, merged: part 1 of 9.
-/
import Derived.WalkKit
import Derived.ProofKit
import Derived.OpenShut
import Derived.Deep.Slices
import Derived.Deep.Fields
import Derived.ChangeSame
import Derived.Laws.AppendOwn
import Derived.Test.YtelnhablglomjaaGreatChecked
import Derived.Laws.Rows
import Derived.WalkSpells
import Derived.WalkLawsBesides
import Derived.Lib.Hide
import Derived.Lib.MinMax
import Derived.Deep.AppendSrc
import Derived.Lib.OwnBridge
import Derived.Sort.Grow
import Derived.Shelf.GgSortFunc.RowK
import Derived.Lib.AppendZerosOnto
import Derived.Lib.Overlaps
import Derived.Laws.CopyRow
import Derived.Laws.Externs
import Derived.BigQuiet
import Derived.Laws.StructEq
import Derived.Deep.DeepMust
import Derived.LaidEql
import Derived.Shelf.SlicesQ.Load
set_option maxRecDepth 1000000
set_option maxHeartbeats 8000000
set_option linter.all false
namespace Go.Proofs.YtelnhablglomjaaGreat
theorem xA.{u} {a : Type u} (l : List a) (i : Nat) (x : a) : l.toArray.setIfInBounds i x = (l.set i x).toArray := List.setIfInBounds_toArray l i x
theorem xB.{u} {a : Type u} {x : a} {xs : List a} {y : a} : (x :: xs).set 0 y = y :: xs := rfl
theorem xC.{u} {a : Type u} {x : a} {xs : List a} {i : Nat} {y : a} : (x :: xs).set (i + 1) y = x :: xs.set i y := rfl
theorem xD.{u} {a : Type u} (l : List a) : [] ++ l = l := rfl
theorem xE.{u} {a : Type u} {x : a} {l k : List a} : x :: l ++ k = x :: (l ++ k) := rfl
end Go.Proofs.YtelnhablglomjaaGreat


namespace Go.Proofs.YtelnhablglomjaaGreat
open Go.ChangeShapes Go.WideShapes Go.RowKit
theorem tC {H : Type} {enc : TypeId × Value → H} {P : Program} (hl : laidOutB P = true) {W W' : World} (hb : Below W.heap.size W W') {sp : Nat → Bool} :
 ∀ (ts : List TypeId) (vs : List Value) (ds : List (DataW H)) (ps : List MemPlace), (∀ t ∈ ts, P.readableRec t = true ∧ t < P.types.size) → (∀ x ∈ ps, x.block < W.heap.size ∧ sp x.block = true) →
  DataW.TrodAll enc P W 0 (fun _ => true) true ts vs ds ps → DataW.TrodAll enc P W' 0 sp true ts vs ds ps
 | [], vs, ds, ps, _, _, h => by
   obtain ⟨rfl, rfl, rfl⟩ := trodAll_nil h
   exact trodAll_mk0
 | t :: ts, vs, ds, ps, hr, hp, h => by
   obtain ⟨v, vs1, d, ds1, a, b, rfl, rfl, rfl, h1, h2⟩ := trodAll_cons h
   refine ⟨a, b, ?_, tC hl hb ts vs1 ds1 b (fun t ht => hr t (List.mem_cons_of_mem _ ht)) (fun x hx => hp x (List.mem_append_right _ hx)) h2, rfl⟩
   exact WideElems.Trod_stays hl (hr t (List.mem_cons_self ..)).1 (hr t (List.mem_cons_self ..)).2 h1 (fun x hx => hb.same (hp x (List.mem_append_left _ hx)).1) (fun x hx => (hp x (List.mem_append_left _ hx)).2)
theorem Na {H : Type} {enc : TypeId × Value → H} {P : Program} {f : Func} {s : ChangeSpec} {apart fresh handsOn again : Bool} {W W' : World} {args : Array Value} {ds : List (DataW H)} {before : List MemPlace} {tb : TypeId}
 (hW : DataW.Whole enc P f.params.toList s.vars apart W args.toList ds [] before) (hvars : s.vars = []) (hfn : s.fn H (ds ++ []) = { results := [.lit (.bool true)], args := ds, vars := [] })
 (hrt : f.resultTypes = #[tb]) (htb : P.underlying tb = some .bool) (hl : laidOutB P = true) (hr : ∀ t ∈ f.params.toList, P.readableRec t = true ∧ t < P.types.size) (hb : Below W.heap.size W W') :
 s.post enc P f apart fresh handsOn again W args (.bool true) W' := by
 have hlt := fun p hp => hW.lt p hp
 obtain ⟨p, q, hA, hV, hps, hz, hn⟩ := hW
 have hW0 : DataW.Whole enc P f.params.toList s.vars apart W args.toList ds [] before := ⟨p, q, hA, hV, hps, hz, hn⟩
 rw [hvars] at hV
 obtain ⟨_, rfl⟩ := trodVars_none hV
 rw [List.append_nil] at hps
 subst hps
 have hold : ∀ x ∈ before, x.block < W.heap.size ∧ (fun b => decide (b < W.heap.size)) x.block = true := fun x hx => by have := hlt x hx; exact ⟨this, by simpa using this⟩
 have hres : ∀ (b : Nat) (sp : Nat → Bool) (hd : Bool), DataW.TrodAll enc P W' b sp hd f.resultTypes.toList ((Value.bool true).resultList f.resultTypes.size) (s.fn H (ds ++ [])).results [] := by
  intro b sp hd
  rw [hrt, hfn]
  exact trodAll_mk1 (shut_bool htb true)
 have hargs : ∀ sp : Nat → Bool, (∀ x ∈ before, sp x.block = true) → DataW.TrodAll enc P W' 0 sp true f.params.toList args.toList (s.fn H (ds ++ [])).args before := by
  intro sp hsp
  rw [hfn]
  exact tC hl hb _ _ _ _ hr (fun x hx => ⟨(hold x hx).1, hsp x hx⟩) hA
 have hvs : ∀ sp : Nat → Bool, DataW.TrodVars enc P W' sp s.vars (s.fn H (ds ++ [])).vars [] := by
  intro sp
  rw [hfn, hvars]
  rfl
 refine ⟨ds, [], before, [], before, [], hW0, hres _ _ _, hargs _ fun x hx => (hold x hx).2, hvs _, World.keptBut_mono (fun x hx => ⟨hx, by first | exact Or.inr hx | (right; simpa using hx)⟩) (hb.frame (· ∈ before)), fun _ => ?_⟩
 refine ⟨ok_one hrt rfl (okWide_bool_mk htb true), _, _, ([] ++ before) ++ [], ⟨[] ++ before, [], trodAll_append (hargs _ (fun _ _ => rfl)) (hres _ _ _), hvs _, rfl, ?_, ?_⟩, ?_⟩
 ·intro b off hp
  have hp : MemPlace.cell b off ∈ before := by simpa using hp
  rw [hb.frozen (p := ⟨b, off, none⟩) (hold _ hp).1]
  exact hz b off hp
 ·intro ha
  simpa using hn ha
 ·intro x hx _
  simpa using hx
theorem Tq {P : Program} {l : List TypeId} (h : (l.all fun t => P.readableRec t && decide (t < P.types.size)) = true) : ∀ t ∈ l, P.readableRec t = true ∧ t < P.types.size := by
 intro t ht
 have := List.all_eq_true.1 h t ht
 simpa using this
end Go.Proofs.YtelnhablglomjaaGreat

namespace Go.Proofs.YtelnhablglomjaaGreat
open Go.ChangeShapes Go.WideShapes Go.ChangeAt Go.RowKit Go.Deep
def aB {α : Type} (enc : α → List Value) (sz : Nat) (w : World) (v : Value) (l : List α) : Prop :=
 ∃ ao cap, v = .slice ao l.length cap ∧ l.length ≤ cap ∧ cap ≤ maxLen ∧
  (0 < l.length → ∃ b off, ao = some ⟨b, off, none⟩ ∧ b < w.heap.size ∧ ∀ i s j u, l[i]? = some s → (enc s)[j]? = some u → w.cell? ⟨b, off + (i * sz + j), none⟩ = some u)
section
variable {α : Type} {enc : α → List Value} {sz : Nat} {w w' : World} {v : Value} {l : List α}
theorem aB.below (h : aB enc sz w v l) (hb : Below w.heap.size w w') : aB enc sz w' v l := by
 obtain ⟨ao, cap, h1, h2, h3, h4⟩ := h
 refine ⟨ao, cap, h1, h2, h3, fun hn => ?_⟩
 obtain ⟨b, off, e, hlt, hc⟩ := h4 hn
 refine ⟨b, off, e, Nat.lt_of_lt_of_le hlt hb.size, fun i s j u hi hj => ?_⟩
 rw [hb.cell (p := ⟨b, _, none⟩) hlt]
 exact hc i s j u hi hj
theorem aB.nil (w : World) : aB enc sz w (.slice none 0 0) ([] : List α) := ⟨none, 0, rfl, Nat.le_refl _, Nat.zero_le _, fun h => absurd h (by simp)⟩
theorem aB.cut {ao : Option Addr} {m cap n : Nat} (h : aB enc sz w (.slice ao m cap) l) (hn : n ≤ l.length) : aB enc sz w (.slice ao n cap) (l.take n) := by
 obtain ⟨Nb, cap', e, h2, h3, h4⟩ := h
 cases e
 have hl : (l.take n).length = n := by rw [List.length_take]; omega
 refine ⟨ao, cap, by rw [hl], by omega, h3, fun hp => ?_⟩
 obtain ⟨b, off, e, hlt, hc⟩ := h4 (by omega)
 refine ⟨b, off, e, hlt, fun i s j u hi hj => hc i s j u ?_ hj⟩
 rw [List.getElem?_take] at hi
 split at hi
 ·exact hi
 ·cases hi
theorem aB.jk {base : Nat} {e : TypeId} {n : Nat} {xs : List Value} (h : w.ownsRow base e sz v n xs) (hlen : ∀ s, (enc s).length = sz) (hx : xs = l.flatMap enc) (hn : n = l.length) : aB enc sz w v l := by
 subst hx
 subst hn
 rcases h.2 with ⟨rfl, h0⟩ | ⟨g, cap, cur, rfl, _, hg, hc1, hc2, _, _⟩
 ·have : l = [] := by
   rcases l with _ | ⟨s, l⟩
   ·rfl
   ·simp at h0
  subst this
  exact aB.nil w
 ·refine ⟨_, _, rfl, hc1, hc2, fun _ => ⟨g, 0, rfl, ?_, fun i s j u hi hj => ?_⟩⟩
  ·rcases Nat.lt_or_ge g w.heap.size with hlt | hge
   ·exact hlt
   ·rw [Array.getElem?_eq_none hge] at hg; cases hg
  ·have hj' : j < sz := by rw [← hlen s]; exact (List.getElem?_eq_some_iff.1 hj).1
   have key : ∀ (l : List α) (i : Nat), l[i]? = some s → (l.flatMap enc)[i * sz + j]? = some u := by
    intro l
    induction l with
    | nil => intro i hi; simp at hi
    | cons a l ih =>
      intro i hi
      rw [List.flatMap_cons]
      rcases i with _ | i
      ·simp at hi
       subst hi
       rw [List.getElem?_append_left (by rw [hlen]; omega)]
       simpa using hj
      ·rw [List.getElem?_append_right (by rw [hlen, Nat.add_mul]; omega), hlen]
       have := ih i (by simpa using hi)
       rw [← this]
       congr 1
       rw [Nat.add_mul]; omega
   have := h.cells (g := g) rfl (i * sz + j) u (key l i hi)
   rw [Go.WideShapes.add_plain] at this
   simpa using this
end
section
end
theorem vP {w : World} {n : Nat} {e : TypeId} {vs : List Value} (hn : n = w.heap.size) : ∀ j u, vs[j]? = some u → (w.alloc (.cells vs.toArray e)).cell? ((⟨n, 0, none⟩ : Addr).add j) = some u := by
 subst hn
 intro j u hj
 rw [Go.WideShapes.add_plain, cell_of_row _ _ _ vs.toArray e (0, 0) (heap_alloc_new w _)]
 simpa using hj
end Go.Proofs.YtelnhablglomjaaGreat

namespace Go.Proofs.YtelnhablglomjaaGreat
open Go.RowKit
theorem heap_put {w : World} {g i : Nat} {cs : Array Value} {t : TypeId} {fr : Nat × Nat} (h : w.heap[g]? = some (.cells cs t fr)) (v : Value) : (w.setCell ⟨g, i, none⟩ v).heap[g]? = some (.cells (cs.setIfInBounds i v) t fr) := by
 simp [World.setCell, Array.getElem?_modify, h]
theorem dW {w : World} {g : Nat} {o o' : Obj} (h : w.heap[g]? = some o) : (w.alloc o').heap[g]? = some o := by
 have hlt : g < w.heap.size := by
  rcases Nat.lt_or_ge g w.heap.size with h1 | h1
  ·exact h1
  ·rw [Array.getElem?_eq_none h1] at h; cases h
 exact (Go.heap_alloc_old w o' hlt).trans h
def Wq (d : TypeDesc) : Bool := match d with | .struct _ | .array _ _ => true | _ => false
theorem bG {fn : Func} {K : Ending → World → Prop} {a : Act} {w : World} {p : Tmp} {ty : TypeId} {g : Nat} {t : TypeId} {cs : Array Value} {fr : Nat × Nat} {d : TypeDesc} (h : fn.results = #[.cell p ty]) (hd0 : a.defers = [])
 (hp : a.tmps.getD p undef = .pointer (some ⟨g, 0, none⟩)) (hg : w.heap[g]? = some (.cells cs t fr))
 (hu : Tryz.prog.underlying ty = some d) (hd : Wq d = true) (hi : (Tryz.prog.info? ty).map (·.size) = some cs.size)
 (hK : K (.returned (.agg cs)) w) : bodyPost Tryz.prog fn K .ret a w := bodyPost_ret (results_cell_row h a.tmps w g t cs fr d hp hg hu (by cases d <;> first | rfl | cases hd) hi) hd0 hK
theorem aD {w : World} {g : Nat} {o : Obj} (h : w.heap[g]? = some o) : g < w.heap.size := by
 rcases Nat.lt_or_ge g w.heap.size with h1 | h1
 ·exact h1
 ·rw [Array.getElem?_eq_none h1] at h; cases h
theorem GM (W : World) (a b : Array Value) (T : TypeId) : (W.alloc (.cells a T)).setRow W.heap.size b = W.alloc (.cells b T) := by
 have h1 : ∀ o, W.alloc o = { W with heap := W.heap.push o } := fun o => rfl
 rw [h1, h1]
 unfold World.setRow
 have h2 : ∀ f : Obj → Obj, (W.heap.push (.cells a T)).modify W.heap.size f = W.heap.push (f (.cells a T)) := fun f => by
  refine Array.ext (by simp) fun i h1 h2 => ?_
  rw [Array.getElem_modify]
  by_cases e : W.heap.size = i
  ·subst e; simp
  ·have : i < W.heap.size := by simp at h2; omega
   simp [e, Array.getElem_push, this]
 simp only [h2]
theorem dE (W : World) (n : Nat) (cs zs : List Value) (T : TypeId) (hn : n = W.heap.size) (hl : cs.length = zs.length) (h1 : ∀ v ∈ cs, v.oneCell' = true) :
 Sem.run Tryz.prog (storeCells ⟨n, 0, none⟩ cs 0) (W.alloc (.cells zs.toArray T)) = .ok () (W.alloc (.cells cs.toArray T)) := by
 subst hn
 have hst := run_storeCells_at Tryz.prog W.heap.size 0 T cs 0 zs.toArray (W.alloc (.cells zs.toArray T)) (heap_alloc_new W _) (by simp [hl]) h1
 simp only [Nat.add_zero] at hst
 rw [hst]
 congr 1
 have e : ((zs.toArray.toList.take 0 ++ cs ++ zs.toArray.toList.drop (0 + cs.length)).toArray) = cs.toArray := by simp [hl]
 rw [e]
 exact GM W _ _ T
end Go.Proofs.YtelnhablglomjaaGreat

namespace Go.Proofs.YtelnhablglomjaaGreat
open Go.RowKit Go.Lib
def qI (x : Int) : List Value := [.int .i64 x]
theorem lu (w : World) (b : Nat) (l : List Int) (hb : b = w.heap.size) (hl : l.length ≤ 1000) : aB qI 1 (w.alloc (.cells (l.flatMap qI).toArray 3)) (.slice (some ⟨b, 0, none⟩) l.length l.length) l := by
 subst hb
 have hlen : (l.flatMap qI).length = l.length := by
  clear hl
  induction l with
  | nil => rfl
  | cons a l ih => rw [List.flatMap_cons, List.length_append, ih, List.length_cons]; simp [qI]; omega
 have hnew := heap_alloc_new w (.cells (l.flatMap qI).toArray 3)
 refine ⟨_, _, rfl, Nat.le_refl _, by unfold maxLen; omega, fun hp => ⟨w.heap.size, 0, rfl, by simp, fun i s j u hi hj => ?_⟩⟩
 have hj0 : j = 0 := by
  have := (List.getElem?_eq_some_iff.1 hj).1
  simp [qI] at this
  exact this
 subst hj0
 have key : ∀ (l : List Int) (i : Nat), l[i]? = some s → (l.flatMap qI)[i]? = some u := by
  intro l
  induction l with
  | nil => intro i hi; simp at hi
  | cons a l ih =>
    intro i hi
    rcases i with _ | i
    ·simp at hi
     subst hi
     simpa [qI] using hj
    ·have := ih i (by simpa using hi)
     simpa [List.flatMap_cons, qI] using this
 have h2 := key l i hi
 simp only [World.cell?, hnew, Nat.zero_add, Nat.mul_one, Nat.add_zero]
 simpa using h2
def bL (a b c : Bool) : Value := .agg #[.bool a, .bool b, .bool c]
def il (l : List Int) (j : Int) : Bool := decide (j ∈ l)
theorem lU {w : World} {v : Value} {ps : List Int} (hr : aB qI 1 w v ps) (hin : ∀ x ∈ ps, x = 0 ∨ x = 1 ∨ x = 2) (hl : ps.length ≤ 10) : Calls Tryz.prog 43 #[v] w fun e w' => e = .returned (bL (il ps 0) (il ps 1) (il ps 2)) ∧ Below w.heap.size w w' := by
 obtain ⟨ao, cap, rfl, q1, q2, q3⟩ := hr
 obtain ⟨n, hn⟩ : ∃ n, ps.length = n := ⟨_, rfl⟩
 have HQ : Hid (∀ i, i < n → ∃ b off, ao = some ⟨b, off, none⟩ ∧ b < w.heap.size ∧ w.cell? ⟨b, off + i, none⟩ = some (.int .i64 ps[i]!)) := fun i hi => by
  obtain ⟨b, off, e, hb, hc⟩ := q3 (by omega)
  refine ⟨b, off, e, hb, ?_⟩
  have := hc i _ 0 _ (by rw [List.getElem?_eq_getElem (by omega), getElem!_pos ps i (by omega)]) (show (qI ps[i]!)[0]? = some _ from rfl)
  simpa using this
 have EO : cap ≤ 9223372036854775807 := by unfold maxLen at q2; omega
 clear q3
 rw [hn] at q1 hl ⊢
 replace hn := Lib.hid hn
 have hin' := Lib.hid hin
 clear hin
 obtain ⟨w1, hw1⟩ : ∃ w1, w1 = w.alloc (.cells #[.bool false, .bool false, .bool false] 42) := ⟨_, rfl⟩
 have hb1 : Below w.heap.size w w1 := by rw [hw1]; exact (Below.refl _ _).alloc (Nat.le_refl _) _
 have hs1 : w1.heap.size = w.heap.size + 1 := by rw [hw1]; simp
 have hA1 : w1.heap[w.heap.size]? = some (.cells #[.bool false, .bool false, .bool false] 42 (0, 0)) := by rw [hw1]; exact heap_alloc_new w _
 have k0 : w1.cell? ⟨w.heap.size, 0, none⟩ = some (.bool false) := by simp [World.cell?, hA1]
 have k1 : w1.cell? ⟨w.heap.size, 1, none⟩ = some (.bool false) := by simp [World.cell?, hA1]
 have k2 : w1.cell? ⟨w.heap.size, 2, none⟩ = some (.bool false) := by simp [World.cell?, hA1]
 have f0 : w1.frozen? ⟨w.heap.size, 0, none⟩ = false := by simp [World.frozen?, hA1]
 have f1 : w1.frozen? ⟨w.heap.size, 1, none⟩ = false := by simp [World.frozen?, hA1]
 have f2 : w1.frozen? ⟨w.heap.size, 2, none⟩ = false := by simp [World.frozen?, hA1]
 go_enter Tryz.func43, Tryz.ntmps43
 go_wp2_with fail
 rw [← hw1]
 clear hw1
 go_loopw [8] (fun ii wr => ∃ (i : Nat), i ≤ n ∧ ii = .int .i64 i ∧ wr = w1.alloc (.cells #[.bool (il (ps.take i) 0), .bool (il (ps.take i) 1), .bool (il (ps.take i) 2)] 42)) (fun ii _ => n - (intOf ii).toNat)
 case atStart => exact ⟨0, Nat.zero_le _, rfl, by simp [il]⟩
 case round =>
  obtain ⟨i, hin2, rfl, rfl⟩ := hrel
  by_cases hlt : i < n
  ·have b2 : (i : Int) < (n : Int) := by omega
   have wi : IntKind.i64.wrap ((i : Int) + 1) = (i : Int) + 1 := by rw [IntKind.wrap_i64]; omega
   obtain ⟨b, off, rfl, hb, c⟩ := HQ.out i hlt
   have c2 : w1.cell? ⟨b, off + i, none⟩ = some (.int .i64 ps[i]!) := (hb1.cell (p := ⟨b, _, none⟩) hb).trans c
   have c3 : (w1.alloc (.cells #[.bool (il (ps.take i) 0), .bool (il (ps.take i) 1), .bool (il (ps.take i) 2)] 42)).cell? ⟨b, off + i, none⟩ = some (.int .i64 ps[i]!) := by
    exact (((Below.refl w1.heap.size w1).alloc (Nat.le_refl _) _).cell (p := ⟨b, _, none⟩) (show b < w1.heap.size by omega)).trans c2
   have iM : i < ps.length := by have := hn.out; omega
   have hm : ∀ j, il (ps.take (i + 1)) j = (il (ps.take i) j || decide (j = ps[i]!)) := fun j => by
    unfold il
    have e1 : ps.take (i + 1) = ps.take i ++ [ps[i]!] := by rw [List.take_add_one, List.getElem?_eq_getElem iM, getElem!_pos ps i iM, Option.toList_some]
    rw [e1, Bool.eq_iff_iff]
    generalize ps.take i = l0
    generalize ps[i]! = y
    simp [List.mem_append]
   have hy := hin'.out ps[i]! (by rw [getElem!_pos ps i iM]; exact List.getElem_mem _)
   clear c c2
   have hm0 := hm 0
   have hm1 := hm 1
   have hm2 := hm 2
   clear hm
   generalize ps[i]! = y at *
   generalize il (ps.take i) 0 = g0 at *
   generalize il (ps.take i) 1 = g1 at *
   generalize il (ps.take i) 2 = g2 at *
   have ss : w1.heap.size = w.heap.size + 1 := hs1
   rcases hy with rfl | rfl | rfl
   all_goals
    simp only [decide_true, Bool.or_true, show decide ((0 : Int) = 1) = false from rfl, show decide ((0 : Int) = 2) = false from rfl, show decide ((1 : Int) = 0) = false from rfl, show decide ((1 : Int) = 2) = false from rfl, show decide ((2 : Int) = 0) = false from rfl, show decide ((2 : Int) = 1) = false from rfl, Bool.or_false] at hm0 hm1 hm2
    replace hm0 := Lib.hid hm0
    replace hm1 := Lib.hid hm1
    replace hm2 := Lib.hid hm2
    go_wp2_with fail
    go_roundw
    case rel => exact ⟨i + 1, by omega, by go_num, by rw [hm0.out, hm1.out, hm2.out]⟩
    case measure => simp [intOf]; omega
  ·obtain rfl : i = n := by omega
   have b2 : ¬ (i : Int) < (i : Int) := by omega
   have e1 : ps.take i = ps := List.take_of_length_le (by rw [hn.out]; exact Nat.le_refl _)
   rw [e1]
   obtain ⟨g0, hg0⟩ : ∃ g, g = il ps 0 := ⟨_, rfl⟩
   obtain ⟨g1, hg1⟩ : ∃ g, g = il ps 1 := ⟨_, rfl⟩
   obtain ⟨g2, hg2⟩ : ∃ g, g = il ps 2 := ⟨_, rfl⟩
   rw [← hg0, ← hg1, ← hg2]
   replace hg0 := Lib.hid hg0
   replace hg1 := Lib.hid hg1
   replace hg2 := Lib.hid hg2
   clear e1 HQ
   go_wp2_with fail
   refine bG rfl rfl rfl (dW (heap_put (heap_put (heap_put hA1 _) _) _)) Tryz.underlying42 rfl (by kernel_rfl) ⟨by rw [← hg0.out, ← hg1.out, ← hg2.out]; rfl, ?_⟩
   exact (((hb1.setCell (Nat.le_refl _) _).setCell (Nat.le_refl _) _).setCell (Nat.le_refl _) _).alloc (by simp [hs1]) _
structure Three (w : World) (g : Nat) : Prop where
 h : w.heap[g]? = some (.cells #[.bool false, .bool false, .bool false] 42 (0, 0))
theorem Three.below {w w' : World} {g B : Nat} (h : Three w g) (hb : Below B w w') (hg : g < B) : Three w' g := ⟨(hb.block g hg).trans h.h⟩
theorem Three.cell {w : World} {g : Nat} (h : Three w g) : (w.cell? ⟨g, 0, none⟩ = some (.bool false) ∧ w.cell? ⟨g, 1, none⟩ = some (.bool false) ∧ w.cell? ⟨g, 2, none⟩ = some (.bool false)) ∧ w.frozen? ⟨g, 0, none⟩ = false ∧ w.frozen? ⟨g, 1, none⟩ = false ∧ w.frozen? ⟨g, 2, none⟩ = false := by
 have := h.h
 refine ⟨⟨?_, ?_, ?_⟩, ?_, ?_, ?_⟩ <;> simp [World.cell?, World.frozen?, this]
theorem Three.put {w : World} {g : Nat} (h : Three w g) (a b c : Bool) : (((w.setCell ⟨g, 0, none⟩ (.bool a)).setCell ⟨g, 1, none⟩ (.bool b)).setCell ⟨g, 2, none⟩ (.bool c)).heap[g]? = some (.cells #[.bool a, .bool b, .bool c] 42 (0, 0)) :=
 heap_put (heap_put (heap_put h.h _) _) _
theorem fB (w : World) : Three (w.alloc (.cells #[.bool false, .bool false, .bool false] 42)) w.heap.size := ⟨heap_alloc_new w _⟩
theorem qJ (w : World) : Calls Tryz.prog 44 #[] w fun e w' => e = .returned (bL true true true) ∧ Below w.heap.size w w' := by
 obtain ⟨w1, hw1⟩ : ∃ w1, w1 = w.alloc (.cells #[.bool false, .bool false, .bool false] 42) := ⟨_, rfl⟩
 have hT1 : Three w1 w.heap.size := by rw [hw1]; exact fB w
 have hb1 : Below w.heap.size w w1 := by rw [hw1]; exact (Below.refl _ _).alloc (Nat.le_refl _) _
 have hs1 : w1.heap.size = w.heap.size + 1 := by rw [hw1]; simp
 have hr : aB qI 1 (w1.alloc (.cells #[.int .i64 0, .int .i64 1, .int .i64 2] 3)) (.slice (some ⟨w.heap.size + 1, 0, none⟩) 3 3) [0, 1, 2] := lu w1 _ [0, 1, 2] hs1.symm (by decide)
 have hb2 : Below (w.heap.size + 1) w1 (w1.alloc (.cells #[.int .i64 0, .int .i64 1, .int .i64 2] 3)) := (Below.refl _ _).alloc (by omega) _
 have hs2 : (w1.alloc (.cells #[.int .i64 0, .int .i64 1, .int .i64 2] 3)).heap.size = w.heap.size + 2 := by simp [hs1]
 have hc := lU hr (by decide) (by decide)
 unfold bL at hc
 rw [show il [0, 1, 2] 0 = true from rfl, show il [0, 1, 2] 1 = true from rfl, show il [0, 1, 2] 2 = true from rfl] at hc
 clear hr
 rw [hw1] at hc
 go_enter Tryz.func44, Tryz.ntmps44
 go_wp2_with fail
 go_at_call 43
 refine hc.mono ?_
 clear hc
 rintro e w3 ⟨rfl, hb3⟩
 rw [← hw1] at hb3
 rw [hs2] at hb3
 have cO := (hT1.below hb2 (by omega)).below hb3 (by omega)
 have hbb : Below w.heap.size w w3 := (hb1.trans (hb2.mono (by omega))).trans (hb3.mono (by omega))
 clear hb2 hs2
 obtain ⟨⟨k0, k1, k2⟩, f0, f1, f2⟩ := cO.cell
 clear hT1 hb1 hb3
 replace cO := Lib.hid cO
 replace hw1 := Lib.hid hw1
 go_wp2_with fail
 refine bG rfl rfl rfl (cO.out.put _ _ _) Tryz.underlying42 rfl (by kernel_rfl) ⟨rfl, ?_⟩
 exact ((hbb.setCell (Nat.le_refl _) _).setCell (Nat.le_refl _) _).setCell (Nat.le_refl _) _
theorem PI (w : World) : Calls Tryz.prog 13 #[.int .i64 1] w fun e w' => e = .returned (bL true false true) ∧ Below w.heap.size w w' := by
 obtain ⟨w1, hw1⟩ : ∃ w1, w1 = w.alloc (.cells #[.bool false, .bool false, .bool false] 42) := ⟨_, rfl⟩
 have hT1 : Three w1 w.heap.size := by rw [hw1]; exact fB w
 have hb1 : Below w.heap.size w w1 := by rw [hw1]; exact (Below.refl _ _).alloc (Nat.le_refl _) _
 have hs1 : w1.heap.size = w.heap.size + 1 := by rw [hw1]; simp
 have hr : aB qI 1 (w1.alloc (.cells #[.int .i64 0, .int .i64 2] 3)) (.slice (some ⟨w.heap.size + 1, 0, none⟩) 2 2) [0, 2] := lu w1 _ [0, 2] hs1.symm (by decide)
 have hb2 : Below (w.heap.size + 1) w1 (w1.alloc (.cells #[.int .i64 0, .int .i64 2] 3)) := (Below.refl _ _).alloc (by omega) _
 have hs2 : (w1.alloc (.cells #[.int .i64 0, .int .i64 2] 3)).heap.size = w.heap.size + 2 := by simp [hs1]
 have hc := lU hr (by decide) (by decide)
 unfold bL at hc
 rw [show il [0, 2] 0 = true from rfl, show il [0, 2] 1 = false from rfl, show il [0, 2] 2 = true from rfl] at hc
 clear hr
 rw [hw1] at hc
 go_enter Tryz.func13, Tryz.ntmps13
 go_wp2_with fail
 go_at_call 43
 refine hc.mono ?_
 clear hc
 rintro e w3 ⟨rfl, hb3⟩
 rw [← hw1] at hb3
 rw [hs2] at hb3
 have cO := (hT1.below hb2 (by omega)).below hb3 (by omega)
 have hbb : Below w.heap.size w w3 := (hb1.trans (hb2.mono (by omega))).trans (hb3.mono (by omega))
 clear hb2 hs2
 obtain ⟨⟨k0, k1, k2⟩, f0, f1, f2⟩ := cO.cell
 clear hT1 hb1 hb3
 replace cO := Lib.hid cO
 replace hw1 := Lib.hid hw1
 go_wp2_with fail
 refine bG rfl rfl rfl (cO.out.put _ _ _) Tryz.underlying42 rfl (by kernel_rfl) ⟨rfl, ?_⟩
 exact ((hbb.setCell (Nat.le_refl _) _).setCell (Nat.le_refl _) _).setCell (Nat.le_refl _) _
theorem PL (w : World) : Calls Tryz.prog 13 #[.int .i64 3] w fun e w' => e = .returned (bL true false true) ∧ Below w.heap.size w w' := by
 obtain ⟨w1, hw1⟩ : ∃ w1, w1 = w.alloc (.cells #[.bool false, .bool false, .bool false] 42) := ⟨_, rfl⟩
 have hT1 : Three w1 w.heap.size := by rw [hw1]; exact fB w
 have hb1 : Below w.heap.size w w1 := by rw [hw1]; exact (Below.refl _ _).alloc (Nat.le_refl _) _
 have hs1 : w1.heap.size = w.heap.size + 1 := by rw [hw1]; simp
 have hr : aB qI 1 (w1.alloc (.cells #[.int .i64 0, .int .i64 2] 3)) (.slice (some ⟨w.heap.size + 1, 0, none⟩) 2 2) [0, 2] := lu w1 _ [0, 2] hs1.symm (by decide)
 have hb2 : Below (w.heap.size + 1) w1 (w1.alloc (.cells #[.int .i64 0, .int .i64 2] 3)) := (Below.refl _ _).alloc (by omega) _
 have hs2 : (w1.alloc (.cells #[.int .i64 0, .int .i64 2] 3)).heap.size = w.heap.size + 2 := by simp [hs1]
 have hc := lU hr (by decide) (by decide)
 unfold bL at hc
 rw [show il [0, 2] 0 = true from rfl, show il [0, 2] 1 = false from rfl, show il [0, 2] 2 = true from rfl] at hc
 clear hr
 rw [hw1] at hc
 go_enter Tryz.func13, Tryz.ntmps13
 go_wp2_with fail
 go_at_call 43
 refine hc.mono ?_
 clear hc
 rintro e w3 ⟨rfl, hb3⟩
 rw [← hw1] at hb3
 rw [hs2] at hb3
 have cO := (hT1.below hb2 (by omega)).below hb3 (by omega)
 have hbb : Below w.heap.size w w3 := (hb1.trans (hb2.mono (by omega))).trans (hb3.mono (by omega))
 clear hb2 hs2
 obtain ⟨⟨k0, k1, k2⟩, f0, f1, f2⟩ := cO.cell
 clear hT1 hb1 hb3
 replace cO := Lib.hid cO
 replace hw1 := Lib.hid hw1
 go_wp2_with fail
 refine bG rfl rfl rfl (cO.out.put _ _ _) Tryz.underlying42 rfl (by kernel_rfl) ⟨rfl, ?_⟩
 exact ((hbb.setCell (Nat.le_refl _) _).setCell (Nat.le_refl _) _).setCell (Nat.le_refl _) _
theorem PM (w : World) : Calls Tryz.prog 13 #[.int .i64 4] w fun e w' => e = .returned (bL true false true) ∧ Below w.heap.size w w' := by
 obtain ⟨w1, hw1⟩ : ∃ w1, w1 = w.alloc (.cells #[.bool false, .bool false, .bool false] 42) := ⟨_, rfl⟩
 have hT1 : Three w1 w.heap.size := by rw [hw1]; exact fB w
 have hb1 : Below w.heap.size w w1 := by rw [hw1]; exact (Below.refl _ _).alloc (Nat.le_refl _) _
 have hs1 : w1.heap.size = w.heap.size + 1 := by rw [hw1]; simp
 have hr : aB qI 1 (w1.alloc (.cells #[.int .i64 0, .int .i64 2] 3)) (.slice (some ⟨w.heap.size + 1, 0, none⟩) 2 2) [0, 2] := lu w1 _ [0, 2] hs1.symm (by decide)
 have hb2 : Below (w.heap.size + 1) w1 (w1.alloc (.cells #[.int .i64 0, .int .i64 2] 3)) := (Below.refl _ _).alloc (by omega) _
 have hs2 : (w1.alloc (.cells #[.int .i64 0, .int .i64 2] 3)).heap.size = w.heap.size + 2 := by simp [hs1]
 have hc := lU hr (by decide) (by decide)
 unfold bL at hc
 rw [show il [0, 2] 0 = true from rfl, show il [0, 2] 1 = false from rfl, show il [0, 2] 2 = true from rfl] at hc
 clear hr
 rw [hw1] at hc
 go_enter Tryz.func13, Tryz.ntmps13
 go_wp2_with fail
 go_at_call 43
 refine hc.mono ?_
 clear hc
 rintro e w3 ⟨rfl, hb3⟩
 rw [← hw1] at hb3
 rw [hs2] at hb3
 have cO := (hT1.below hb2 (by omega)).below hb3 (by omega)
 have hbb : Below w.heap.size w w3 := (hb1.trans (hb2.mono (by omega))).trans (hb3.mono (by omega))
 clear hb2 hs2
 obtain ⟨⟨k0, k1, k2⟩, f0, f1, f2⟩ := cO.cell
 clear hT1 hb1 hb3
 replace cO := Lib.hid cO
 replace hw1 := Lib.hid hw1
 go_wp2_with fail
 refine bG rfl rfl rfl (cO.out.put _ _ _) Tryz.underlying42 rfl (by kernel_rfl) ⟨rfl, ?_⟩
 exact ((hbb.setCell (Nat.le_refl _) _).setCell (Nat.le_refl _) _).setCell (Nat.le_refl _) _
theorem PN (w : World) : Calls Tryz.prog 13 #[.int .i64 6] w fun e w' => e = .returned (bL true false false) ∧ Below w.heap.size w w' := by
 obtain ⟨w1, hw1⟩ : ∃ w1, w1 = w.alloc (.cells #[.bool false, .bool false, .bool false] 42) := ⟨_, rfl⟩
 have hT1 : Three w1 w.heap.size := by rw [hw1]; exact fB w
 have hb1 : Below w.heap.size w w1 := by rw [hw1]; exact (Below.refl _ _).alloc (Nat.le_refl _) _
 have hs1 : w1.heap.size = w.heap.size + 1 := by rw [hw1]; simp
 have hr : aB qI 1 (w1.alloc (.cells #[.int .i64 0] 3)) (.slice (some ⟨w.heap.size + 1, 0, none⟩) 1 1) [0] := lu w1 _ [0] hs1.symm (by decide)
 have hb2 : Below (w.heap.size + 1) w1 (w1.alloc (.cells #[.int .i64 0] 3)) := (Below.refl _ _).alloc (by omega) _
 have hs2 : (w1.alloc (.cells #[.int .i64 0] 3)).heap.size = w.heap.size + 2 := by simp [hs1]
 have hc := lU hr (by decide) (by decide)
 unfold bL at hc
 rw [show il [0] 0 = true from rfl, show il [0] 1 = false from rfl, show il [0] 2 = false from rfl] at hc
 clear hr
 rw [hw1] at hc
 go_enter Tryz.func13, Tryz.ntmps13
 go_wp2_with fail
 go_at_call 43
 refine hc.mono ?_
 clear hc
 rintro e w3 ⟨rfl, hb3⟩
 rw [← hw1] at hb3
 rw [hs2] at hb3
 have cO := (hT1.below hb2 (by omega)).below hb3 (by omega)
 have hbb : Below w.heap.size w w3 := (hb1.trans (hb2.mono (by omega))).trans (hb3.mono (by omega))
 clear hb2 hs2
 obtain ⟨⟨k0, k1, k2⟩, f0, f1, f2⟩ := cO.cell
 clear hT1 hb1 hb3
 replace cO := Lib.hid cO
 replace hw1 := Lib.hid hw1
 go_wp2_with fail
 refine bG rfl rfl rfl (cO.out.put _ _ _) Tryz.underlying42 rfl (by kernel_rfl) ⟨rfl, ?_⟩
 exact ((hbb.setCell (Nat.le_refl _) _).setCell (Nat.le_refl _) _).setCell (Nat.le_refl _) _
theorem Nc (w : World) : Calls Tryz.prog 13 #[.int .i64 11] w fun e w' => e = .returned (bL true false false) ∧ Below w.heap.size w w' := by
 obtain ⟨w1, hw1⟩ : ∃ w1, w1 = w.alloc (.cells #[.bool false, .bool false, .bool false] 42) := ⟨_, rfl⟩
 have hT1 : Three w1 w.heap.size := by rw [hw1]; exact fB w
 have hb1 : Below w.heap.size w w1 := by rw [hw1]; exact (Below.refl _ _).alloc (Nat.le_refl _) _
 have hs1 : w1.heap.size = w.heap.size + 1 := by rw [hw1]; simp
 have hr : aB qI 1 (w1.alloc (.cells #[.int .i64 0] 3)) (.slice (some ⟨w.heap.size + 1, 0, none⟩) 1 1) [0] := lu w1 _ [0] hs1.symm (by decide)
 have hb2 : Below (w.heap.size + 1) w1 (w1.alloc (.cells #[.int .i64 0] 3)) := (Below.refl _ _).alloc (by omega) _
 have hs2 : (w1.alloc (.cells #[.int .i64 0] 3)).heap.size = w.heap.size + 2 := by simp [hs1]
 have hc := lU hr (by decide) (by decide)
 unfold bL at hc
 rw [show il [0] 0 = true from rfl, show il [0] 1 = false from rfl, show il [0] 2 = false from rfl] at hc
 clear hr
 rw [hw1] at hc
 go_enter Tryz.func13, Tryz.ntmps13
 go_wp2_with fail
 go_at_call 43
 refine hc.mono ?_
 clear hc
 rintro e w3 ⟨rfl, hb3⟩
 rw [← hw1] at hb3
 rw [hs2] at hb3
 have cO := (hT1.below hb2 (by omega)).below hb3 (by omega)
 have hbb : Below w.heap.size w w3 := (hb1.trans (hb2.mono (by omega))).trans (hb3.mono (by omega))
 clear hb2 hs2
 obtain ⟨⟨k0, k1, k2⟩, f0, f1, f2⟩ := cO.cell
 clear hT1 hb1 hb3
 replace cO := Lib.hid cO
 replace hw1 := Lib.hid hw1
 go_wp2_with fail
 refine bG rfl rfl rfl (cO.out.put _ _ _) Tryz.underlying42 rfl (by kernel_rfl) ⟨rfl, ?_⟩
 exact ((hbb.setCell (Nat.le_refl _) _).setCell (Nat.le_refl _) _).setCell (Nat.le_refl _) _
theorem Nf (w : World) : Calls Tryz.prog 13 #[.int .i64 10] w fun e w' => e = .returned (bL false true false) ∧ Below w.heap.size w w' := by
 obtain ⟨w1, hw1⟩ : ∃ w1, w1 = w.alloc (.cells #[.bool false, .bool false, .bool false] 42) := ⟨_, rfl⟩
 have hT1 : Three w1 w.heap.size := by rw [hw1]; exact fB w
 have hb1 : Below w.heap.size w w1 := by rw [hw1]; exact (Below.refl _ _).alloc (Nat.le_refl _) _
 have hs1 : w1.heap.size = w.heap.size + 1 := by rw [hw1]; simp
 have hr : aB qI 1 (w1.alloc (.cells #[.int .i64 1] 3)) (.slice (some ⟨w.heap.size + 1, 0, none⟩) 1 1) [1] := lu w1 _ [1] hs1.symm (by decide)
 have hb2 : Below (w.heap.size + 1) w1 (w1.alloc (.cells #[.int .i64 1] 3)) := (Below.refl _ _).alloc (by omega) _
 have hs2 : (w1.alloc (.cells #[.int .i64 1] 3)).heap.size = w.heap.size + 2 := by simp [hs1]
 have hc := lU hr (by decide) (by decide)
 unfold bL at hc
 rw [show il [1] 0 = false from rfl, show il [1] 1 = true from rfl, show il [1] 2 = false from rfl] at hc
 clear hr
 rw [hw1] at hc
 go_enter Tryz.func13, Tryz.ntmps13
 go_wp2_with fail
 go_at_call 43
 refine hc.mono ?_
 clear hc
 rintro e w3 ⟨rfl, hb3⟩
 rw [← hw1] at hb3
 rw [hs2] at hb3
 have cO := (hT1.below hb2 (by omega)).below hb3 (by omega)
 have hbb : Below w.heap.size w w3 := (hb1.trans (hb2.mono (by omega))).trans (hb3.mono (by omega))
 clear hb2 hs2
 obtain ⟨⟨k0, k1, k2⟩, f0, f1, f2⟩ := cO.cell
 clear hT1 hb1 hb3
 replace cO := Lib.hid cO
 replace hw1 := Lib.hid hw1
 go_wp2_with fail
 refine bG rfl rfl rfl (cO.out.put _ _ _) Tryz.underlying42 rfl (by kernel_rfl) ⟨rfl, ?_⟩
 exact ((hbb.setCell (Nat.le_refl _) _).setCell (Nat.le_refl _) _).setCell (Nat.le_refl _) _
theorem Ng (w : World) : Calls Tryz.prog 13 #[.int .i64 12] w fun e w' => e = .returned (bL false false true) ∧ Below w.heap.size w w' := by
 obtain ⟨w1, hw1⟩ : ∃ w1, w1 = w.alloc (.cells #[.bool false, .bool false, .bool false] 42) := ⟨_, rfl⟩
 have hT1 : Three w1 w.heap.size := by rw [hw1]; exact fB w
 have hb1 : Below w.heap.size w w1 := by rw [hw1]; exact (Below.refl _ _).alloc (Nat.le_refl _) _
 have hs1 : w1.heap.size = w.heap.size + 1 := by rw [hw1]; simp
 have hr : aB qI 1 (w1.alloc (.cells #[.int .i64 2] 3)) (.slice (some ⟨w.heap.size + 1, 0, none⟩) 1 1) [2] := lu w1 _ [2] hs1.symm (by decide)
 have hb2 : Below (w.heap.size + 1) w1 (w1.alloc (.cells #[.int .i64 2] 3)) := (Below.refl _ _).alloc (by omega) _
 have hs2 : (w1.alloc (.cells #[.int .i64 2] 3)).heap.size = w.heap.size + 2 := by simp [hs1]
 have hc := lU hr (by decide) (by decide)
 unfold bL at hc
 rw [show il [2] 0 = false from rfl, show il [2] 1 = false from rfl, show il [2] 2 = true from rfl] at hc
 clear hr
 rw [hw1] at hc
 go_enter Tryz.func13, Tryz.ntmps13
 go_wp2_with fail
 go_at_call 43
 refine hc.mono ?_
 clear hc
 rintro e w3 ⟨rfl, hb3⟩
 rw [← hw1] at hb3
 rw [hs2] at hb3
 have cO := (hT1.below hb2 (by omega)).below hb3 (by omega)
 have hbb : Below w.heap.size w w3 := (hb1.trans (hb2.mono (by omega))).trans (hb3.mono (by omega))
 clear hb2 hs2
 obtain ⟨⟨k0, k1, k2⟩, f0, f1, f2⟩ := cO.cell
 clear hT1 hb1 hb3
 replace cO := Lib.hid cO
 replace hw1 := Lib.hid hw1
 go_wp2_with fail
 refine bG rfl rfl rfl (cO.out.put _ _ _) Tryz.underlying42 rfl (by kernel_rfl) ⟨rfl, ?_⟩
 exact ((hbb.setCell (Nat.le_refl _) _).setCell (Nat.le_refl _) _).setCell (Nat.le_refl _) _
theorem Nh (k : Int) (w : World) (h1 : k ≠ 1) (h3 : k ≠ 3) (h4 : k ≠ 4) (h2 : k ≠ 2) (h5 : k ≠ 5) (h7 : k ≠ 7) (h8 : k ≠ 8) (h9 : k ≠ 9) (h6 : k ≠ 6) (h11 : k ≠ 11) (h10 : k ≠ 10) (h12 : k ≠ 12) : Calls Tryz.prog 13 #[.int .i64 k] w fun e w' => e = .returned (bL false false false) ∧ Below w.heap.size w w' := by
 have t1 : (k == 1) = false := beq_eq_false_iff_ne.2 h1
 have t3 : (k == 3) = false := beq_eq_false_iff_ne.2 h3
 have t4 : (k == 4) = false := beq_eq_false_iff_ne.2 h4
 have t2 : (k == 2) = false := beq_eq_false_iff_ne.2 h2
 have t5 : (k == 5) = false := beq_eq_false_iff_ne.2 h5
 have t7 : (k == 7) = false := beq_eq_false_iff_ne.2 h7
 have t8 : (k == 8) = false := beq_eq_false_iff_ne.2 h8
 have t9 : (k == 9) = false := beq_eq_false_iff_ne.2 h9
 have t6 : (k == 6) = false := beq_eq_false_iff_ne.2 h6
 have t11 : (k == 11) = false := beq_eq_false_iff_ne.2 h11
 have t10 : (k == 10) = false := beq_eq_false_iff_ne.2 h10
 have t12 : (k == 12) = false := beq_eq_false_iff_ne.2 h12
 clear h1 h3 h4 h2 h5 h7 h8 h9 h6 h11 h10 h12
 obtain ⟨w1, hw1⟩ : ∃ w1, w1 = w.alloc (.cells #[.bool false, .bool false, .bool false] 42) := ⟨_, rfl⟩
 have hT1 : Three w1 w.heap.size := by rw [hw1]; exact fB w
 have hb1 : Below w.heap.size w w1 := by rw [hw1]; exact (Below.refl _ _).alloc (Nat.le_refl _) _
 have hs1 : w1.heap.size = w.heap.size + 1 := by rw [hw1]; simp
 have hr : aB qI 1 w1 (.slice none 0 0) ([] : List Int) := aB.nil w1
 have hc := lU hr (by decide) (by decide)
 unfold bL at hc
 rw [show il ([] : List Int) 0 = false from rfl, show il ([] : List Int) 1 = false from rfl, show il ([] : List Int) 2 = false from rfl] at hc
 clear hr
 rw [hw1] at hc
 go_enter Tryz.func13, Tryz.ntmps13
 go_wp2_with fail
 go_at_call 43
 refine hc.mono ?_
 clear hc
 rintro e w3 ⟨rfl, hb3⟩
 rw [← hw1] at hb3
 rw [hs1] at hb3
 have cO := hT1.below hb3 (by omega)
 have hbb : Below w.heap.size w w3 := hb1.trans (hb3.mono (by omega))
 obtain ⟨⟨k0, k1, k2⟩, f0, f1, f2⟩ := cO.cell
 clear hT1 hb1 hb3
 replace cO := Lib.hid cO
 replace hw1 := Lib.hid hw1
 go_wp2_with fail
 refine bG rfl rfl rfl (cO.out.put _ _ _) Tryz.underlying42 rfl (by kernel_rfl) ⟨rfl, ?_⟩
 exact ((hbb.setCell (Nat.le_refl _) _).setCell (Nat.le_refl _) _).setCell (Nat.le_refl _) _
theorem PO (w : World) : Calls Tryz.prog 13 #[.int .i64 2] w fun e w' => e = .returned (bL true true true) ∧ Below w.heap.size w w' := by
 obtain ⟨w1, hw1⟩ : ∃ w1, w1 = w.alloc (.cells #[.bool false, .bool false, .bool false] 42) := ⟨_, rfl⟩
 have hT1 : Three w1 w.heap.size := by rw [hw1]; exact fB w
 have hb1 : Below w.heap.size w w1 := by rw [hw1]; exact (Below.refl _ _).alloc (Nat.le_refl _) _
 have hs1 : w1.heap.size = w.heap.size + 1 := by rw [hw1]; simp
 have hc := qJ w1
 unfold bL at hc
 rw [hw1] at hc
 go_enter Tryz.func13, Tryz.ntmps13
 go_wp2_with fail
 go_at_call 44
 refine hc.mono ?_
 clear hc
 rintro e w3 ⟨rfl, hb3⟩
 rw [← hw1] at hb3
 rw [hs1] at hb3
 have cO := hT1.below hb3 (by omega)
 have hbb : Below w.heap.size w w3 := hb1.trans (hb3.mono (by omega))
 obtain ⟨⟨k0, k1, k2⟩, f0, f1, f2⟩ := cO.cell
 clear hT1 hb1 hb3
 replace cO := Lib.hid cO
 replace hw1 := Lib.hid hw1
 go_wp2_with fail
 refine bG rfl rfl rfl (cO.out.put _ _ _) Tryz.underlying42 rfl (by kernel_rfl) ⟨rfl, ?_⟩
 exact ((hbb.setCell (Nat.le_refl _) _).setCell (Nat.le_refl _) _).setCell (Nat.le_refl _) _
theorem PQ (w : World) : Calls Tryz.prog 13 #[.int .i64 5] w fun e w' => e = .returned (bL true true true) ∧ Below w.heap.size w w' := by
 obtain ⟨w1, hw1⟩ : ∃ w1, w1 = w.alloc (.cells #[.bool false, .bool false, .bool false] 42) := ⟨_, rfl⟩
 have hT1 : Three w1 w.heap.size := by rw [hw1]; exact fB w
 have hb1 : Below w.heap.size w w1 := by rw [hw1]; exact (Below.refl _ _).alloc (Nat.le_refl _) _
 have hs1 : w1.heap.size = w.heap.size + 1 := by rw [hw1]; simp
 have hc := qJ w1
 unfold bL at hc
 rw [hw1] at hc
 go_enter Tryz.func13, Tryz.ntmps13
 go_wp2_with fail
 go_at_call 44
 refine hc.mono ?_
 clear hc
 rintro e w3 ⟨rfl, hb3⟩
 rw [← hw1] at hb3
 rw [hs1] at hb3
 have cO := hT1.below hb3 (by omega)
 have hbb : Below w.heap.size w w3 := hb1.trans (hb3.mono (by omega))
 obtain ⟨⟨k0, k1, k2⟩, f0, f1, f2⟩ := cO.cell
 clear hT1 hb1 hb3
 replace cO := Lib.hid cO
 replace hw1 := Lib.hid hw1
 go_wp2_with fail
 refine bG rfl rfl rfl (cO.out.put _ _ _) Tryz.underlying42 rfl (by kernel_rfl) ⟨rfl, ?_⟩
 exact ((hbb.setCell (Nat.le_refl _) _).setCell (Nat.le_refl _) _).setCell (Nat.le_refl _) _
theorem PS (w : World) : Calls Tryz.prog 13 #[.int .i64 7] w fun e w' => e = .returned (bL true true true) ∧ Below w.heap.size w w' := by
 obtain ⟨w1, hw1⟩ : ∃ w1, w1 = w.alloc (.cells #[.bool false, .bool false, .bool false] 42) := ⟨_, rfl⟩
 have hT1 : Three w1 w.heap.size := by rw [hw1]; exact fB w
 have hb1 : Below w.heap.size w w1 := by rw [hw1]; exact (Below.refl _ _).alloc (Nat.le_refl _) _
 have hs1 : w1.heap.size = w.heap.size + 1 := by rw [hw1]; simp
 have hc := qJ w1
 unfold bL at hc
 rw [hw1] at hc
 go_enter Tryz.func13, Tryz.ntmps13
 go_wp2_with fail
 go_at_call 44
 refine hc.mono ?_
 clear hc
 rintro e w3 ⟨rfl, hb3⟩
 rw [← hw1] at hb3
 rw [hs1] at hb3
 have cO := hT1.below hb3 (by omega)
 have hbb : Below w.heap.size w w3 := hb1.trans (hb3.mono (by omega))
 obtain ⟨⟨k0, k1, k2⟩, f0, f1, f2⟩ := cO.cell
 clear hT1 hb1 hb3
 replace cO := Lib.hid cO
 replace hw1 := Lib.hid hw1
 go_wp2_with fail
 refine bG rfl rfl rfl (cO.out.put _ _ _) Tryz.underlying42 rfl (by kernel_rfl) ⟨rfl, ?_⟩
 exact ((hbb.setCell (Nat.le_refl _) _).setCell (Nat.le_refl _) _).setCell (Nat.le_refl _) _
theorem PT (w : World) : Calls Tryz.prog 13 #[.int .i64 8] w fun e w' => e = .returned (bL true true true) ∧ Below w.heap.size w w' := by
 obtain ⟨w1, hw1⟩ : ∃ w1, w1 = w.alloc (.cells #[.bool false, .bool false, .bool false] 42) := ⟨_, rfl⟩
 have hT1 : Three w1 w.heap.size := by rw [hw1]; exact fB w
 have hb1 : Below w.heap.size w w1 := by rw [hw1]; exact (Below.refl _ _).alloc (Nat.le_refl _) _
 have hs1 : w1.heap.size = w.heap.size + 1 := by rw [hw1]; simp
 have hc := qJ w1
 unfold bL at hc
 rw [hw1] at hc
 go_enter Tryz.func13, Tryz.ntmps13
 go_wp2_with fail
 go_at_call 44
 refine hc.mono ?_
 clear hc
 rintro e w3 ⟨rfl, hb3⟩
 rw [← hw1] at hb3
 rw [hs1] at hb3
 have cO := hT1.below hb3 (by omega)
 have hbb : Below w.heap.size w w3 := hb1.trans (hb3.mono (by omega))
 obtain ⟨⟨k0, k1, k2⟩, f0, f1, f2⟩ := cO.cell
 clear hT1 hb1 hb3
 replace cO := Lib.hid cO
 replace hw1 := Lib.hid hw1
 go_wp2_with fail
 refine bG rfl rfl rfl (cO.out.put _ _ _) Tryz.underlying42 rfl (by kernel_rfl) ⟨rfl, ?_⟩
 exact ((hbb.setCell (Nat.le_refl _) _).setCell (Nat.le_refl _) _).setCell (Nat.le_refl _) _
theorem PU (w : World) : Calls Tryz.prog 13 #[.int .i64 9] w fun e w' => e = .returned (bL true true true) ∧ Below w.heap.size w w' := by
 obtain ⟨w1, hw1⟩ : ∃ w1, w1 = w.alloc (.cells #[.bool false, .bool false, .bool false] 42) := ⟨_, rfl⟩
 have hT1 : Three w1 w.heap.size := by rw [hw1]; exact fB w
 have hb1 : Below w.heap.size w w1 := by rw [hw1]; exact (Below.refl _ _).alloc (Nat.le_refl _) _
 have hs1 : w1.heap.size = w.heap.size + 1 := by rw [hw1]; simp
 have hc := qJ w1
 unfold bL at hc
 rw [hw1] at hc
 go_enter Tryz.func13, Tryz.ntmps13
 go_wp2_with fail
 go_at_call 44
 refine hc.mono ?_
 clear hc
 rintro e w3 ⟨rfl, hb3⟩
 rw [← hw1] at hb3
 rw [hs1] at hb3
 have cO := hT1.below hb3 (by omega)
 have hbb : Below w.heap.size w w3 := hb1.trans (hb3.mono (by omega))
 obtain ⟨⟨k0, k1, k2⟩, f0, f1, f2⟩ := cO.cell
 clear hT1 hb1 hb3
 replace cO := Lib.hid cO
 replace hw1 := Lib.hid hw1
 go_wp2_with fail
 refine bG rfl rfl rfl (cO.out.put _ _ _) Tryz.underlying42 rfl (by kernel_rfl) ⟨rfl, ?_⟩
 exact ((hbb.setCell (Nat.le_refl _) _).setCell (Nat.le_refl _) _).setCell (Nat.le_refl _) _
end Go.Proofs.YtelnhablglomjaaGreat

namespace Go.Proofs.YtelnhablglomjaaGreat
open Go.RowKit Go.Lib
def dH (a b c : Bool) (f : Int) : Int := if f ≤ 0 ∧ a = true then 0 else if f ≤ 1 ∧ b = true then 1 else if f ≤ 2 ∧ c = true then 2 else 3
theorem Ni (a b c : Bool) (f : Int) (h : 3 ≤ f) : dH a b c f = 3 := by
 unfold dH; rw [if_neg (by omega), if_neg (by omega), if_neg (by omega)]
theorem Nj (a b c : Bool) (f : Int) (h : f ≤ 0) : dH a b c f = dH a b c 0 := by
 unfold dH; simp [h, show f ≤ 1 by omega, show f ≤ 2 by omega]
def sN (a b c : Bool) : Int := a.toNat + b.toNat + c.toNat
theorem wW (a b c : Bool) (f : Int) (hf : -9223372036854775808 ≤ f ∧ f ≤ 9223372036854775807) (w : World) : Calls Tryz.prog 55 #[bL a b c, .int .i64 f] w fun e w' => e = .returned (.int .i64 (dH a b c f)) ∧ Below w.heap.size w w' := by
 obtain ⟨hf1, hf2⟩ := hf
 obtain ⟨r, hr⟩ : ∃ r, r = dH a b c f := ⟨_, rfl⟩
 obtain ⟨s, hs⟩ : ∃ s : Int, s = max f 0 := ⟨_, rfl⟩
 have hs0 : 0 ≤ s := by omega
 have Ym : s ≤ 9223372036854775807 := by omega
 have PV : Hid (dH a b c s = r) := by
  show _ = _
  rw [hr]
  by_cases h : f ≤ 0
  ·rw [Nj a b c f h, show s = 0 by omega]
  ·rw [show s = f by omega]
 rw [← hr]
 replace hr := Lib.hid hr
 obtain ⟨w1, hw1⟩ : ∃ w1, w1 = w.alloc (.cells #[.bool a, .bool b, .bool c] 42) := ⟨_, rfl⟩
 have hb1 : Below w.heap.size w w1 := by rw [hw1]; exact (Below.refl _ _).alloc (Nat.le_refl _) _
 have hA1 : w1.heap[w.heap.size]? = some (.cells #[.bool a, .bool b, .bool c] 42 (0, 0)) := by rw [hw1]; exact heap_alloc_new w _
 have k0 : w1.cell? ⟨w.heap.size, 0, none⟩ = some (.bool a) := by simp [World.cell?, hA1]
 have k1 : w1.cell? ⟨w.heap.size, 1, none⟩ = some (.bool b) := by simp [World.cell?, hA1]
 have k2 : w1.cell? ⟨w.heap.size, 2, none⟩ = some (.bool c) := by simp [World.cell?, hA1]
 clear hA1
 unfold bL
 go_enter Tryz.func55, Tryz.ntmps55
 go_wp2_with fail
 rw [← hs, ← hw1]
 replace hs := Lib.hid hs
 replace hw1 := Lib.hid hw1
 go_loopw [5] (fun ii wr => ∃ k : Int, 0 ≤ k ∧ k ≤ 9223372036854775807 ∧ ii = .int .i64 k ∧ Hid (dH a b c k = r) ∧ w1 = wr) (fun ii _ => 3 - (intOf ii).toNat)
 case atStart => exact ⟨s, hs0, Ym, rfl, PV, rfl⟩
 case round =>
  obtain ⟨k, h0, hM, rfl, hk, rfl⟩ := hrel
  by_cases h3 : k < 3
  ·have hc : k = 0 ∨ k = 1 ∨ k = 2 := by omega
   rcases hc with rfl | rfl | rfl
   ·cases a
    ·have hn : Hid (dH false b c 1 = r) := by
      show _ = _
      rw [← hk.out]; simp [dH]
     clear hk PV
     go_wp2_with fail
     go_roundw
     case rel => exact ⟨1, by omega, by omega, rfl, hn, trivial⟩
     case measure => simp [intOf]
    ·go_wp2_with fail
     go_ret
     exact ⟨by rw [← hk.out]; rfl, hb1⟩
   ·cases b
    ·have hn : Hid (dH a false c 2 = r) := by
      show _ = _
      rw [← hk.out]; simp [dH]
     clear hk PV
     go_wp2_with fail
     go_roundw
     case rel => exact ⟨2, by omega, by omega, rfl, hn, trivial⟩
     case measure => simp [intOf]
    ·go_wp2_with fail
     go_ret
     exact ⟨by rw [← hk.out]; simp [dH], hb1⟩
   ·cases c
    ·have hn : Hid (dH a b false 3 = r) := by
      show _ = _
      rw [← hk.out]; simp [dH]
     clear hk PV
     go_wp2_with fail
     go_roundw
     case rel => exact ⟨3, by omega, by omega, rfl, hn, trivial⟩
     case measure => simp [intOf]
    ·go_wp2_with fail
     go_ret
     exact ⟨by rw [← hk.out]; simp [dH], hb1⟩
  ·have e3 : Hid (r = 3) := by show _ = _; rw [← hk.out]; exact Ni a b c k (by omega)
   go_wp2_with fail
   go_ret
   exact ⟨by rw [e3.out]; rfl, hb1⟩
theorem Mj (a b c : Bool) (w : World) : Calls Tryz.prog 18 #[bL a b c] w fun e w' => e = .returned (.int .i64 (sN a b c)) ∧ Below w.heap.size w w' := by
 have hb1 : Below w.heap.size w (w.alloc (.cells #[.bool a, .bool b, .bool c] 42)) := (Below.refl _ _).alloc (Nat.le_refl _) _
 unfold bL
 obtain ⟨na, hna⟩ : ∃ n : Nat, n = a.toNat := ⟨_, rfl⟩
 obtain ⟨nb, hnb⟩ : ∃ n : Nat, n = b.toNat := ⟨_, rfl⟩
 obtain ⟨nc, hnc⟩ : ∃ n : Nat, n = c.toNat := ⟨_, rfl⟩
 have la : na ≤ 1 := by rw [hna]; cases a <;> decide
 have lb : nb ≤ 1 := by rw [hnb]; cases b <;> decide
 have lc : nc ≤ 1 := by rw [hnc]; cases c <;> decide
 unfold sN
 rw [← hna, ← hnb, ← hnc]
 replace hna := Lib.hid hna
 replace hnb := Lib.hid hnb
 replace hnc := Lib.hid hnc
 have i0 : ∀ (a b c : Bool) w, (Instr.index 42 (.agg #[.bool a, .bool b, .bool c]) (.int .i64 0)).run Tryz.prog w = .ok (.bool a) w := fun _ _ _ _ => by kernel_rfl
 have i1 : ∀ (a b c : Bool) w, (Instr.index 42 (.agg #[.bool a, .bool b, .bool c]) (.int .i64 1)).run Tryz.prog w = .ok (.bool b) w := fun _ _ _ _ => by kernel_rfl
 have i2 : ∀ (a b c : Bool) w, (Instr.index 42 (.agg #[.bool a, .bool b, .bool c]) (.int .i64 2)).run Tryz.prog w = .ok (.bool c) w := fun _ _ _ _ => by kernel_rfl
 go_enter Tryz.func18, Tryz.ntmps18
 go_wp2_with fail
 go_loopw [3, 7] (fun mm ii wr => ∃ (i m : Int), ii = .int .i64 i ∧ mm = .int .i64 m ∧ Hid ((i = 0 ∧ m = 0) ∨ (i = 1 ∧ m = (na : Int)) ∨ (i = 2 ∧ m = (na : Int) + nb) ∨ (i = 3 ∧ m = (na : Int) + nb + nc)) ∧ w.alloc (.cells #[.bool a, .bool b, .bool c] 42) = wr) (fun _ ii _ => 3 - (intOf ii).toNat)
 case atStart => exact ⟨0, 0, rfl, rfl, .inl ⟨rfl, rfl⟩, rfl⟩
 case round =>
  obtain ⟨i, m, rfl, rfl, hm, rfl⟩ := hrel
  rcases hm.out with ⟨rfl, rfl⟩ | ⟨rfl, hmm⟩ | ⟨rfl, hmm⟩ | ⟨rfl, hmm⟩
  ·clear hm
   cases a
   ·have e : Hid (na = 0) := hna.out
    go_wp2_with fail
    go_roundw
    case rel => exact ⟨1, 0, by go_num, rfl, .inr (.inl ⟨rfl, by rw [e.out]; rfl⟩), trivial⟩
    case measure => simp [intOf]
   ·have e : Hid (na = 1) := hna.out
    go_wp2_with fail
    go_roundw
    case rel => exact ⟨1, 1, by go_num, by go_num, .inr (.inl ⟨rfl, by rw [e.out]; rfl⟩), trivial⟩
    case measure => simp [intOf]
  ·clear hm
   have wi : IntKind.i64.wrap (m + 1) = m + 1 := by rw [IntKind.wrap_i64]; omega
   replace hmm := Lib.hid hmm
   cases b
   ·have e : Hid (nb = 0) := hnb.out
    go_wp2_with fail
    go_roundw
    case rel => exact ⟨2, m, by go_num, rfl, .inr (.inr (.inl ⟨rfl, by rw [e.out, hmm.out]; simp⟩)), trivial⟩
    case measure => simp [intOf]
   ·have e : Hid (nb = 1) := hnb.out
    go_wp2_with fail
    go_roundw
    case rel => exact ⟨2, m + 1, by go_num, by go_num, .inr (.inr (.inl ⟨rfl, by rw [e.out, hmm.out]; rfl⟩)), trivial⟩
    case measure => simp [intOf]
  ·clear hm
   have wi : IntKind.i64.wrap (m + 1) = m + 1 := by rw [IntKind.wrap_i64]; omega
   replace hmm := Lib.hid hmm
   cases c
   ·have e : Hid (nc = 0) := hnc.out
    go_wp2_with fail
    go_roundw
    case rel => exact ⟨3, m, by go_num, rfl, .inr (.inr (.inr ⟨rfl, by rw [e.out, hmm.out]; simp⟩)), trivial⟩
    case measure => simp [intOf]
   ·have e : Hid (nc = 1) := hnc.out
    go_wp2_with fail
    go_roundw
    case rel => exact ⟨3, m + 1, by go_num, by go_num, .inr (.inr (.inr ⟨rfl, by rw [e.out, hmm.out]; rfl⟩)), trivial⟩
    case measure => simp [intOf]
  ·clear hm
   replace hmm := Lib.hid hmm
   go_wp2_with fail
   go_ret
   exact ⟨by rw [hmm.out]; rfl, hb1⟩
theorem Av (k : Int) (w : World) : Calls Tryz.prog 60 #[.int .i64 k] w fun e w' => e = .returned (.bool (decide (1 ≤ k) && decide (k ≤ 13))) ∧ w = w' := by
 by_cases h1 : 1 ≤ k
 ·have d1 : decide (1 ≤ k) = true := decide_eq_true h1
  go_enter Tryz.func60, Tryz.ntmps60
  go_wp2_with fail
  go_ret
  exact ⟨by simp [h1], rfl⟩
 ·have d1 : decide (1 ≤ k) = false := decide_eq_false h1
  go_enter Tryz.func60, Tryz.ntmps60
  go_wp2_with fail
  go_ret
  exact ⟨by simp, rfl⟩
def jN (k : Int) : Bool := decide (k = 6) || decide (k = 10) || decide (k = 11) || decide (k = 12)
theorem Dw (k : Int) (w : World) : Calls Tryz.prog 69 #[.int .i64 k] w fun e w' => e = .returned (.bool (jN k)) ∧ w = w' := by
 by_cases h6 : k = 6
 ·subst h6
  go_enter Tryz.func69, Tryz.ntmps69
  go_wp2_with fail
  go_ret
  exact ⟨rfl, rfl⟩
 by_cases h10 : k = 10
 ·subst h10
  go_enter Tryz.func69, Tryz.ntmps69
  go_wp2_with fail
  go_ret
  exact ⟨rfl, rfl⟩
 by_cases h11 : k = 11
 ·subst h11
  go_enter Tryz.func69, Tryz.ntmps69
  go_wp2_with fail
  go_ret
  exact ⟨rfl, rfl⟩
 by_cases h12 : k = 12
 ·subst h12
  go_enter Tryz.func69, Tryz.ntmps69
  go_wp2_with fail
  go_ret
  exact ⟨rfl, rfl⟩
 have e : jN k = false := by simp [jN, h6, h10, h11, h12]
 rw [e]
 have t6 : (k == 6) = false := beq_eq_false_iff_ne.2 h6
 have t10 : (k == 10) = false := beq_eq_false_iff_ne.2 h10
 have t11 : (k == 11) = false := beq_eq_false_iff_ne.2 h11
 have t12 : (k == 12) = false := beq_eq_false_iff_ne.2 h12
 clear h6 h10 h11 h12 e
 go_enter Tryz.func69, Tryz.ntmps69
 go_wp2_with fail
 go_ret
 exact ⟨rfl, rfl⟩
end Go.Proofs.YtelnhablglomjaaGreat

namespace Go.Proofs.YtelnhablglomjaaGreat
open Go.RowKit
theorem qw {w : World} {base base' : Nat} {e : TypeId} {size : Nat} {v : Value} {n : Nat} {xs : List Value} (h : w.ownsRow base e size v n xs) (hb : base' ≤ base) : w.ownsRow base' e size v n xs := by
 obtain ⟨h1, h2⟩ := h
 refine ⟨h1, ?_⟩
 rcases h2 with h2 | ⟨g, cap, cur, hv, hg, r⟩
 ·exact Or.inl h2
 ·exact Or.inr ⟨g, cap, cur, hv, Nat.le_trans hb hg, r⟩
theorem bA {w w' : World} {base : Nat} {e : TypeId} {size : Nat} {v : Value} {n : Nat} {xs : List Value} (h : w.ownsRow base e size v n xs) (hk : ∀ k, v.ownBlock = some k → w'.heap[k]? = w.heap[k]?) : w'.ownsRow base e size v n xs := by
 obtain ⟨h1, h2⟩ := h
 refine ⟨h1, ?_⟩
 rcases h2 with h2 | ⟨g, cap, cur, rfl, hg, hh, r⟩
 ·exact Or.inl h2
 ·exact Or.inr ⟨g, cap, cur, rfl, hg, by rw [hk g rfl]; exact hh, r⟩
theorem ownsRow_below {w w' : World} {base B : Nat} {e : TypeId} {size : Nat} {v : Value} {n : Nat} {xs : List Value} (h : w.ownsRow base e size v n xs) (hb : Below B w w') (hv : ∀ k, v.ownBlock = some k → k < B) : w'.ownsRow base e size v n xs :=
 bA h fun k hk => hb.block k (hv k hk)
theorem vE {P : Program} (w : World) (base : Nat) (t tx ty e : TypeId) (i : TypeInfo) (z : Value) (size bytes : Nat) (ht : P.underlying t = some (.slice e)) (hi : P.info? e = some i) (hz : i.zero = some z)
 (hsize : i.size = size) (hby : i.bytes = bytes) (hzs : z.cells.size = size)
 (v : Value) (n : Nat) (xs : List Value) (hown : w.ownsRow base e size v n xs) (x : Value) (m : Nat) (news : List Value) (hs : Src P size tx x m news w)
 (h63 : n + m ≤ maxLen) (hbytes : (n + m) * bytes ≤ 140737488355328) (hbase : base ≤ w.heap.size) :
 ∃ v' w', (Builtin.append_ #[t, tx] ty #[v, x]).run P w = .ok v' w' ∧ w'.ownsRow base e size v' (n + m) (xs ++ news) ∧ w.grownBy w' v.ownBlock := by
 subst hsize
 subst hby
 have hsmall : n + m ≤ 9223372036854775807 := by simp only [maxLen] at h63; omega
 have hlen : (xs ++ news).length = (n + m) * i.size := by rw [List.length_append, hown.1, hs.newsLen, Nat.add_mul]
 have grown : ∀ (old : Nat), old < n + m → ∀ (row : Option Nat),
  (w.drew.alloc (.cells ((xs ++ news).toArray ++ Builtin.zeroCells z.cells (grownCap w (n + m) old e - (n + m))) e)).ownsRow base e i.size
   (.slice (some ⟨w.heap.size, 0, none⟩) (n + m) (grownCap w (n + m) old e)) (n + m) (xs ++ news) ∧
  w.grownBy (w.drew.alloc (.cells ((xs ++ news).toArray ++ Builtin.zeroCells z.cells (grownCap w (n + m) old e - (n + m))) e)) row := by
  intro old ho row
  have hge := grownCap_ge w (n + m) old e
  have hcm : grownCap w (n + m) old e ≤ maxLen := grownCap_le_maxLen w (n + m) old e h63
  refine ⟨⟨hlen, .inr ⟨w.heap.size, _, _, rfl, hbase, heap_alloc_new w.drew _, hge, hcm, ?_, ?_⟩⟩, ⟨rfl, rfl, rfl, by simp, fun k hk _ => Go.heap_alloc_old w.drew _ hk⟩⟩
  ·simp only [Array.size_append, List.size_toArray, size_zeroCells, hzs, hlen, ← Nat.add_mul]
   congr 1
   omega
  ·simp only [Array.toList_append]
   rw [← hlen]
   exact List.take_left
 rcases hown.2 with ⟨rfl, rfl⟩ | ⟨g, cap, cur, rfl, hbg, hg, hnc, hcm, hcs, htake⟩
 ·have hx : xs = [] := List.eq_nil_of_length_eq_zero (by simpa using hown.1)
  subst hx
  by_cases hm : m = 0
  ·subst hm
   have hn : news = [] := List.eq_nil_of_length_eq_zero (by simpa using hs.newsLen)
   subst hn
   refine ⟨.slice none 0 0, w, ?_, World.ownsRow_nil w base e i.size, ⟨rfl, rfl, rfl, Nat.le_refl _, fun _ _ _ => rfl⟩⟩
   rcases hs.kind with ⟨e', hk⟩ | hk <;> simp [Builtin.append_, run_underlying ht, run_underlying hk, sizeOf, typeInfo, hi, hs.len, hs.cells]
  ·have hr := run_append_grow_src (P := P) w t tx ty e i z ht hi hz none 0 0 [] (by simp [Builtin.firstCells]) x m news hs (by omega) (by omega) (growslice_fits (by omega) hbytes)
   have hgr := grown 0 (by omega) (Value.ownBlock (.slice none 0 0))
   exact ⟨_, _, hr, hgr.1, hgr.2⟩
 ·by_cases hroom : n + m ≤ cap
  ·have hfit : n * i.size + news.length ≤ cur.size := by rw [hs.newsLen, hcs, ← Nat.add_mul]; exact Nat.mul_le_mul_right _ hroom
   have hst := run_storeCells_at P g (n * i.size) e news 0 cur w hg (by simpa using hfit) hs.one
   simp only [Nat.add_zero] at hst
   have hr : (Builtin.append_ #[t, tx] ty #[.slice (some ⟨g, 0, none⟩) n cap, x]).run P w =
    .ok (.slice (some ⟨g, 0, none⟩) (n + m) cap) (w.setRow g (cur.toList.take (n * i.size) ++ news ++ cur.toList.drop (n * i.size + news.length)).toArray) := by
    rcases hs.kind with ⟨e', hk⟩ | hk <;> simp [Builtin.append_, run_underlying ht, run_underlying hk, sizeOf, typeInfo, hi, hs.len, hroom, hs.cells, Addr.add_lit, hst]
   refine ⟨_, _, hr, ⟨hlen, .inr ⟨g, cap, _, rfl, hbg, setRow_heap w g cur _ e _ hg, hroom, hcm, ?_, ?_⟩⟩, ⟨rfl, rfl, rfl, by simp, fun k hk hne => setRow_other w g k _ (fun e => hne (by simp [Value.ownBlock, e]))⟩⟩
   ·simp only [List.size_toArray, List.length_append, List.length_take, List.length_drop, Array.length_toList]
    omega
   ·rw [htake, ← hlen]
    exact List.take_left
  ·have holds : ∀ j u, xs[j]? = some u → w.drew.cell? ((⟨g, 0, none⟩ : Addr).add j) = some u := fun j u hu => by simpa using hown.cells (g := g) rfl j u hu
   have hr := run_append_grow_src (P := P) w t tx ty e i z ht hi hz (some ⟨g, 0, none⟩) n cap xs (run_firstCells_some (P := P) w.drew i.size n ⟨g, 0, none⟩ n cap xs hown.1 holds) x m news hs (by omega) (by omega) (growslice_fits (by omega) hbytes)
   have hgr := grown cap (by omega) (Value.ownBlock (.slice (some ⟨g, 0, none⟩) n cap))
   exact ⟨_, _, hr, hgr.1, hgr.2⟩
theorem vQ {P : Program} (w : World) {ops : Array Oper} {rest : List Oper} {o : Oper} {a : Act} {Q : Exit → Act → World → Prop} (hgd : o.guard = none) (s x : Operand) (t tx : TypeId)
 (ho : o.op = .call { callee := .builtin .append, args := #[s, x], argTypes := #[t, tx] })
 (base : Nat) (e : TypeId) (i : TypeInfo) (z : Value) (size bytes : Nat) (ht : P.underlying t = some (.slice e)) (hi : P.info? e = some i) (hz : i.zero = some z)
 (hsize : i.size = size) (hby : i.bytes = bytes) (hzs : z.cells.size = size)
 (v : Value) (n : Nat) (xs : List Value) (hs : a.eval s = v) (hown : w.ownsRow base e size v n xs) (xv : Value) (m : Nat) (news : List Value) (hx : a.eval x = xv) (hsrc : Src P size tx xv m news w)
 (h63 : n + m ≤ maxLen) (hbytes : (n + m) * bytes ≤ 140737488355328) (hbase : base ≤ w.heap.size)
 (h : ∀ v' w', w'.ownsRow base e size v' (n + m) (xs ++ news) → w.grownBy w' v.ownBlock → wpList P ops Q rest (a.put o.dst v') w') : wpList P ops Q (o :: rest) a w :=
 wpList_plain hgd fun K hK => by
  obtain ⟨v', w', hr, h2, h3⟩ := vE (P := P) w base t tx o.type e i z size bytes ht hi hz hsize hby hzs v n xs hown xv m news hsrc h63 hbytes hbase
  unfold Oper.wp execOp
  simp only [ho, resolve, invoke, builtin, Sem.run_bind, Sem.run_pure, Result.andThen_ok, List.map_toArray, List.map_cons, List.map_nil, hs, hx, hr]
  exact hK _ _ (h v' w' h2 h3)
end Go.Proofs.YtelnhablglomjaaGreat

namespace Go.Proofs.YtelnhablglomjaaGreat
open Go.RowKit Go.Sort
theorem J2 {w : World} {base : Nat} {e : TypeId} {sz : Nat} {v : Value} {n : Nat} {xs : List Value} (h : w.ownsRow base e sz v n xs) (hv : v ≠ .slice none 0 0) :
 ∃ g cap, v = .slice (some ⟨g, 0, none⟩) n cap ∧ base ≤ g ∧ g < w.heap.size ∧ n ≤ cap ∧ cap ≤ maxLen ∧ Holds id w g 0 xs.toArray := by
 have hl := h.1
 rcases h.2 with ⟨e0, _⟩ | ⟨g, cap, cur, rfl, hb, hg, hn, hm, hs, ht⟩
 ·exact absurd e0 hv
 ·have hlt : g < w.heap.size := by
   rcases Nat.lt_or_ge g w.heap.size with h' | h'
   ·exact h'
   ·rw [Array.getElem?_eq_none h'] at hg; cases hg
  refine ⟨g, cap, rfl, hb, hlt, hn, hm, fun j hj => ?_⟩
  have hj' : j < n * sz := by simpa [hl] using hj
  have Ws : j < xs.length := by omega
  refine ⟨?_, by simp [World.frozen?, hg]⟩
  have e1 : (cur.toList.take (n * sz))[j]? = xs[j]? := by rw [ht]
  rw [List.getElem?_take, if_pos hj', Array.getElem?_toList, List.getElem?_eq_getElem Ws] at e1
  simp only [World.cell?, hg, Nat.zero_add]
  simp only [Option.isSome_none, Bool.false_eq_true, if_false]
  rw [e1]
  simp [getElem!_pos, Ws]
theorem GN {w : World} {base : Nat} {e : TypeId} {sz g n cap q : Nat} {xs ys : List Value} (h : w.ownsRow base e sz (.slice (some ⟨g, 0, none⟩) n cap) n xs) (hy : ys.length = xs.length) :
 (putRow id (Sort.ahead w q) g 0 ys.toArray).ownsRow base e sz (.slice (some ⟨g, 0, none⟩) n cap) n ys := by
 have hl := h.1
 rcases h.2 with ⟨e0, _⟩ | ⟨g', cap', cur, e0, hb, hg, hn, hm, hs, ht⟩
 ·cases e0
 ·injection e0 with e1 _ e3
  injection e1 with e1
  injection e1 with e1
  subst e1; subst e3
  have hcs : n * sz ≤ cur.size := by rw [hs]; exact Nat.mul_le_mul_right _ hn
  refine ⟨by omega, .inr ⟨g, cap, putCells id 0 ys.toArray cur, rfl, hb, ?_, hn, hm, by simpa [putCells] using hs, ?_⟩⟩
  ·simp [putRow, mapBlock, Sort.ahead, Array.getElem?_modify, hg, onCells]
  ·apply List.ext_getElem?
   intro j
   rw [List.getElem?_take, Array.getElem?_toList]
   by_cases hj : j < n * sz
   ·have hjc : j < cur.size := by omega
    simp only [if_pos hj, putCells, Array.getElem?_mapIdx, Array.getElem?_eq_getElem hjc, Option.map_some]
    rw [if_pos (by simp; omega), List.getElem?_eq_getElem (by omega)]
    simp [getElem!_pos, show j < ys.length by omega]
   ·rw [if_neg hj, List.getElem?_eq_none (by omega)]
theorem below_grow {B : Nat} {w0 w : World} (h : Below B w0 w) (hB : B ≤ w.heap.size) (os : Array Obj) : Below B w0 (grow w os) :=
 ⟨h.os, h.tape, h.output, Nat.le_trans h.size (by simp), fun k hk => by rw [heap_grow_old w os (by omega)]; exact h.block k hk⟩
theorem Nk {w : World} {base : Nat} {e : TypeId} {sz : Nat} {v : Value} {n : Nat} {xs : List Value} (h : w.ownsRow base e sz v n xs) (os : Array Obj) : (grow w os).ownsRow base e sz v n xs :=
 bA h fun k hk => heap_grow_old w os (h.lt k hk).2
theorem GQ {α : Type} [Inhabited α] (enc : α → List Value) (k : Nat) (hk : ∀ x, (enc x).length = k) (d : Array α) : flatK enc k d = (d.toList.flatMap enc).toArray := by
 have hlen : ∀ l : List α, (l.flatMap enc).length = l.length * k := by
  intro l
  induction l with
  | nil => simp
  | cons a l ih => rw [List.flatMap_cons, List.length_append, ih, hk, List.length_cons, Nat.add_mul]; omega
 have key : ∀ (l : List α) (t : Nat), t < l.length * k → (l.flatMap enc)[t]! = (enc l[t / k]!)[t % k]! := by
  intro l
  induction l with
  | nil => intro t ht; simp at ht
  | cons a l ih =>
    intro t ht
    rw [List.length_cons, Nat.add_mul] at ht
    have k0 : 0 < k := by
     rcases Nat.eq_zero_or_pos k with h | h
     ·subst h; omega
     ·exact h
    rw [List.flatMap_cons]
    by_cases hlt : t < k
    ·rw [Nat.div_eq_of_lt hlt, Nat.mod_eq_of_lt hlt]
     simp only [List.getElem!_eq_getElem?_getD]
     rw [List.getElem?_append_left (by rw [hk]; exact hlt)]
     simp
    ·obtain ⟨u, rfl⟩ : ∃ u, t = u + k := ⟨t - k, by omega⟩
     rw [Nat.add_div_right _ k0, Nat.add_mod_right]
     have := ih u (by omega)
     simp only [List.getElem!_eq_getElem?_getD] at this ⊢
     rw [List.getElem?_append_right (by rw [hk]; omega), hk, Nat.add_sub_cancel, this]
     simp
 refine ext_get! (by rw [size_flatK]; simp [hlen]) fun t ht => ?_
 rw [size_flatK] at ht
 rw [get_flatK _ _ _ _ ht]
 have := key d.toList t (by simpa using ht)
 simp only [List.getElem!_eq_getElem?_getD, Array.getElem!_eq_getD, Array.getD_eq_getD_getElem?, List.getElem?_toArray, Array.getElem?_toList] at this ⊢
 exact this.symm
theorem wX {w : World} {base : Nat} {e : TypeId} {sz n g : Nat} {vs : List Value} (hg : g = w.heap.size) (hb : base ≤ w.heap.size) (hl : vs.length = n * sz) (hn : n ≤ maxLen) : (w.alloc (.cells vs.toArray e)).ownsRow base e sz (.slice (some ⟨g, 0, none⟩) n n) n vs := by
 subst hg
 exact ⟨hl, .inr ⟨w.heap.size, n, vs.toArray, rfl, hb, heap_alloc_new w _, Nat.le_refl _, hn, by simpa using hl, by simp [← hl]⟩⟩
theorem Aw {w : World} {base : Nat} {e : TypeId} {sz n g : Nat} {v : Value} {xs : List Value} (h : w.ownsRow base e sz v n xs) (hne : ∀ k, v.ownBlock = some k → k ≠ g) (j : Nat) (u : Value) : (w.setCell ⟨g, j, none⟩ u).ownsRow base e sz v n xs :=
 bA h fun k hk => Below.heap_setCell w ⟨g, j, none⟩ u k (hne k hk)
theorem gH {w : World} {base : Nat} {e : TypeId} {sz n : Nat} {v : Value} {xs : List Value} (h : w.ownsRow base e sz v n xs) : ∃ ao cap, v = .slice ao n cap ∧ (0 < n → ∃ g, ao = some ⟨g, 0, none⟩) := by
 rcases h.2 with ⟨rfl, rfl⟩ | ⟨g, cap, cur, rfl, _⟩
 ·exact ⟨none, 0, rfl, fun h => by omega⟩
 ·exact ⟨_, cap, rfl, fun _ => ⟨g, rfl⟩⟩
theorem tF {w : World} {base : Nat} {e : TypeId} {sz n : Nat} {v : Value} {xs : List Value} (h : w.ownsRow base e sz v n xs) : n ≤ 9223372036854775807 := by
 rcases h.2 with ⟨_, rfl⟩ | ⟨_, _, _, _, _, _, hn, hm, _⟩
 ·omega
 ·unfold maxLen at hm; omega
theorem below_drewN {B : Nat} {a w : World} (h : Below B a w) (n : Nat) : Below B a (w.drewN n) := ⟨h.os, h.tape, h.output, h.size, h.block⟩
theorem PX {w : World} {base : Nat} {e : TypeId} {sz g n cap c : Nat} {xs : List Value} (h : w.ownsRow base e sz (.slice (some ⟨g, 0, none⟩) n cap) n xs) (hc : c ≤ n) :
 w.ownsRow base e sz (.slice (some ⟨g, 0, none⟩) c cap) c (xs.take (c * sz)) := by
 have hcs : c * sz ≤ n * sz := Nat.mul_le_mul_right _ hc
 rcases h.2 with ⟨e0, _⟩ | ⟨g', cap', cur, e0, hb, hg, hn, hm, hs, ht⟩
 ·cases e0
 ·cases e0
  refine ⟨by rw [List.length_take, h.1]; omega, .inr ⟨g, cap, cur, rfl, hb, hg, by omega, hm, hs, ?_⟩⟩
  rw [← ht, List.take_take, Nat.min_eq_left hcs]
end Go.Proofs.YtelnhablglomjaaGreat

namespace Go.Proofs.YtelnhablglomjaaGreat
open Go.RowKit Go.Sort Go.Lib
namespace Put
theorem uR {w w' : World} {base : Nat} {e : TypeId} {size : Nat} {v : Value} {n : Nat} {xs : List Value} (h : w.ownsRow base e size v n xs) (hb : Below w.heap.size w w') : w'.ownsRow base e size v n xs :=
 ownsRow_below h hb fun k hk => (h.lt k hk).2
structure Off (p g : Nat) (w w' : World) : Prop where
 os : w'.os = w.os
 tape : w'.tape = w.tape
 output : w'.output = w.output
 size : w.heap.size ≤ w'.heap.size
 block : ∀ k, k < w.heap.size → k ≠ p → k ≠ g → w'.heap[k]? = w.heap[k]?
section
variable {p g g' : Nat} {w w' w'' : World}
theorem Off.refl (p g : Nat) (w : World) : Off p g w w := ⟨rfl, rfl, rfl, Nat.le_refl _, fun _ _ _ _ => rfl⟩
theorem Off.of_below (h : Below w.heap.size w w') : Off p g w w' := ⟨h.os, h.tape, h.output, h.size, fun k hk _ _ => h.block k hk⟩
theorem Off.trans (h : Off p g w w') (h' : Off p g' w' w'') (hg : g' = g ∨ w.heap.size ≤ g') : Off p g w w'' :=
 ⟨h'.os.trans h.os, h'.tape.trans h.tape, h'.output.trans h.output, Nat.le_trans h.size h'.size, fun k hk h1 h2 => by
  rw [h'.block k (Nat.lt_of_lt_of_le hk h.size) h1 (by omega), h.block k hk h1 h2]⟩
theorem Off.below {base : Nat} (h : Off p g w w') (hp : base ≤ p) (hg : base ≤ g) (hb : base ≤ w.heap.size) : Below base w w' := ⟨h.os, h.tape, h.output, h.size, fun k hk => h.block k (by omega) (by omega) (by omega)⟩
theorem Off.own {base : Nat} {e : TypeId} {sz n : Nat} {v : Value} {xs : List Value} (h : Off p g w w') (ho : w.ownsRow base e sz v n xs) (hne : ∀ k, v.ownBlock = some k → k ≠ p ∧ k ≠ g) : w'.ownsRow base e sz v n xs :=
 bA ho fun k hk => h.block k (ho.lt k hk).2 (hne k hk).1 (hne k hk).2
theorem Off.setCell {b j : Nat} {v : Value} (h : Off p g w w') (hb : b = p ∨ b = g ∨ w.heap.size ≤ b) : Off p g w (w'.setCell ⟨b, j, none⟩ v) :=
 ⟨h.os, h.tape, h.output, by simpa using h.size, fun k hk h1 h2 => by
  rw [Below.heap_setCell w' ⟨b, j, none⟩ v k (by show k ≠ b; omega)]; exact h.block k hk h1 h2⟩
theorem Off.eu (h : Off p g w w') (h' : Below w'.heap.size w' w'') : Off p g w w'' := h.trans (Off.of_below h') (.inl rfl)
end
theorem lt_of_heap {w : World} {p : Nat} {o : Obj} (h : w.heap[p]? = some o) : p < w.heap.size := by
 rcases Nat.lt_or_ge p w.heap.size with h' | h'
 ·exact h'
 ·rw [Array.getElem?_eq_none h'] at h; cases h
theorem aI {w : World} {p q : Nat} {a b : Array Value} {s t : TypeId} {x y : Nat × Nat} (h : w.heap[p]? = some (.cells a s x)) (h' : w.heap[q]? = some (.cells b t y)) (hne : s ≠ t) : p ≠ q := by
 intro e
 subst e
 rw [h] at h'
 injection h' with h'
 injection h' with _ h3
 exact hne h3
section
end
end Put
end Go.Proofs.YtelnhablglomjaaGreat

namespace Go.Proofs.YtelnhablglomjaaGreat
open Go.RowKit Go.Lib
structure Lk where
 a : Int
 b : Int
 c : Int
 n : Int
def Lk.own (l : Lk) (k : Int) : Int := if k = 0 then l.a else if k = 1 then l.b else if k = 2 then l.c else 0
def Lk.has (l : Lk) (k who : Int) : Bool := decide (0 < who) && decide (l.own k = who)
def Lk.free (l : Lk) : Bool := l.a == 0 && l.b == 0 && l.c == 0
def wY (k : Int) : Bool := decide (0 ≤ k) && decide (k < 3)
def iy (k who : Int) : Bool := !wY k || decide (who ≤ 0)
def bT (T : TypeId) (w : World) (s : Nat) (l : Lk) : Prop := w.heap[s]? = some (.cells #[.int .i64 l.a, .int .i64 l.b, .int .i64 l.c, .int .i64 l.n] T (0, 0))
section
variable {T : TypeId} {w w' : World} {s : Nat} {l : Lk}
theorem bT.c0 (h : bT T w s l) : w.cell? ⟨s, 0, none⟩ = some (.int .i64 l.a) := by simp [World.cell?, show w.heap[s]? = _ from h]
theorem bT.c1 (h : bT T w s l) : w.cell? ⟨s, 1, none⟩ = some (.int .i64 l.b) := by simp [World.cell?, show w.heap[s]? = _ from h]
theorem bT.c2 (h : bT T w s l) : w.cell? ⟨s, 2, none⟩ = some (.int .i64 l.c) := by simp [World.cell?, show w.heap[s]? = _ from h]
theorem bT.c3 (h : bT T w s l) : w.cell? ⟨s, 3, none⟩ = some (.int .i64 l.n) := by simp [World.cell?, show w.heap[s]? = _ from h]
theorem bT.lt (h : bT T w s l) : s < w.heap.size := aD h
theorem bT.below {B : Nat} (h : bT T w s l) (hb : Below B w w') (hs : s < B) : bT T w' s l := by
 unfold bT at *; rw [hb.block s hs]; exact h
end
theorem Ay {P : Program} (d : Nat) (t e : TypeId) (ht : P.underlying t = some (.array 3 e)) (xs ys : Array Value) (w : World) (hz : (sizeOf e).run P w = .ok 1 w) (b0 b1 b2 : Bool) (x0 x1 x2 y0 y1 y2 : Value)
 (p0 : (part e xs 0).run P w = .ok x0 w) (p1 : (part e xs 1).run P w = .ok x1 w) (p2 : (part e xs 2).run P w = .ok x2 w)
 (q0 : (part e ys 0).run P w = .ok y0 w) (q1 : (part e ys 1).run P w = .ok y1 w) (q2 : (part e ys 2).run P w = .ok y2 w)
 (h0 : (Op.equalIn d e x0 y0).run P w = .ok b0 w) (h1 : (Op.equalIn d e x1 y1).run P w = .ok b1 w) (h2 : (Op.equalIn d e x2 y2).run P w = .ok b2 w) :
 (Op.equalIn (d + 1) t (.agg xs) (.agg ys)).run P w = .ok (b0 && b1 && b2) w := by
 simp only [Op.equalIn, Sem.run_bind, run_underlying ht, Result.andThen_ok, hz]
 simp only [Std.Legacy.Range.forIn_eq_forIn_range', Std.Legacy.Range.size]
 simp only [Nat.sub_zero, Nat.add_sub_cancel, Nat.div_one, List.range', List.forIn_cons, List.forIn_nil]
 cases b0 <;> cases b1 <;> cases b2 <;> simp [p0, p1, p2, q0, q1, q2, h0, h1, h2]
theorem PY (a b c : Int) (w : World) : (Op.equalIn 10000 30 (.agg #[.int .i64 a, .int .i64 b, .int .i64 c]) (.agg #[.int .i64 0, .int .i64 0, .int .i64 0])).run Tryz.prog w = .ok (a == 0 && b == 0 && c == 0) w :=
 Ay 9999 _ 3 Tryz.underlying30 _ _ w (by kernel_rfl) _ _ _ _ _ _ _ _ _ (by kernel_rfl) (by kernel_rfl) (by kernel_rfl) (by kernel_rfl) (by kernel_rfl) (by kernel_rfl)
  (run_equalIn_int w 9998 _ .i64 .i64 a 0 Tryz.underlying3) (run_equalIn_int w 9998 _ .i64 .i64 b 0 Tryz.underlying3) (run_equalIn_int w 9998 _ .i64 .i64 c 0 Tryz.underlying3)
theorem zero_eq (a b c : Int) (w : World) : (binOp .eql 30 (.agg #[.int .i64 a, .int .i64 b, .int .i64 c]) (.agg #[.int .i64 0, .int .i64 0, .int .i64 0])).run Tryz.prog w = .ok (.bool (a == 0 && b == 0 && c == 0)) w := by
 rw [run_eql_struct, PY]; rfl
theorem Dx (k : Int) (w : World) : Calls Tryz.prog 72 #[.int .i64 k] w fun e w' => e = .returned (.bool (wY k)) ∧ w = w' := by
 unfold wY
 by_cases h1 : 0 ≤ k
 ·have d1 : decide (0 ≤ k) = true := decide_eq_true h1
  go_enter Tryz.func72, Tryz.ntmps72
  go_wp2_with fail
  go_ret
  exact ⟨by simp [h1], rfl⟩
 ·have d1 : decide (0 ≤ k) = false := decide_eq_false h1
  go_enter Tryz.func72, Tryz.ntmps72
  go_wp2_with fail
  go_ret
  exact ⟨by simp, rfl⟩
section
variable {w : World} {s : Nat} {l : Lk}
theorem Dy (k : Int) (h : bT 32 w s l) : Calls Tryz.prog 45 #[.pointer (some ⟨s, 0, none⟩), .int .i64 k] w fun e w' => e = .returned (.int .i64 (l.own k)) ∧ w = w' := by
 have k0 := h.c0
 have k1 := h.c1
 have k2 := h.c2
 have hi := Dx k w
 by_cases hk : k = 0 ∨ k = 1 ∨ k = 2
 ·rcases hk with rfl | rfl | rfl
  ·have e : wY 0 = true := by decide
   rw [e] at hi
   clear e h
   go_enter Tryz.func45, Tryz.ntmps45
   go_wp2_with (go_at_call 72; go_must (refine hi.mono ?_); rintro e w' ⟨rfl, rfl⟩)
   go_ret
   exact ⟨rfl, rfl⟩
  ·have e : wY 1 = true := by decide
   rw [e] at hi
   clear e h
   go_enter Tryz.func45, Tryz.ntmps45
   go_wp2_with (go_at_call 72; go_must (refine hi.mono ?_); rintro e w' ⟨rfl, rfl⟩)
   go_ret
   exact ⟨rfl, rfl⟩
  ·have e : wY 2 = true := by decide
   rw [e] at hi
   clear e h
   go_enter Tryz.func45, Tryz.ntmps45
   go_wp2_with (go_at_call 72; go_must (refine hi.mono ?_); rintro e w' ⟨rfl, rfl⟩)
   go_ret
   exact ⟨rfl, rfl⟩
 ·have e : wY k = false := by unfold wY; simp; omega
  have e2 : l.own k = 0 := by unfold Lk.own; rw [if_neg (by omega), if_neg (by omega), if_neg (by omega)]
  rw [e] at hi
  rw [e2]
  clear e e2 h k0 k1 k2 hk
  go_enter Tryz.func45, Tryz.ntmps45
  go_wp2_with (go_at_call 72; go_must (refine hi.mono ?_); rintro e w' ⟨rfl, rfl⟩)
  go_ret
  exact ⟨rfl, rfl⟩
theorem Tt (k who : Int) (p : Value) (o : Int) (hO : Calls Tryz.prog 45 #[p, .int .i64 k] w fun e w' => e = .returned (.int .i64 o) ∧ w = w') :
 Calls Tryz.prog 53 #[p, .int .i64 k, .int .i64 who] w fun e w' => e = .returned (.bool (decide (0 < who) && decide (o = who))) ∧ w = w' := by
 by_cases h1 : 0 < who
 ·have d1 : decide (0 < who) = true := decide_eq_true h1
  go_enter Tryz.func53, Tryz.ntmps53
  go_wp2_with (go_at_call 45; go_must (refine hO.mono ?_); rintro e w' ⟨rfl, rfl⟩)
  go_ret
  exact ⟨by simp [h1]; first | rfl | (by_cases e : o = who <;> simp [e]), rfl⟩
 ·have d1 : decide (0 < who) = false := decide_eq_false h1
  go_enter Tryz.func53, Tryz.ntmps53
  go_wp2_with fail
  go_ret
  exact ⟨by simp [d1], rfl⟩
theorem mP (k who : Int) (h : bT 32 w s l) : Calls Tryz.prog 53 #[.pointer (some ⟨s, 0, none⟩), .int .i64 k, .int .i64 who] w fun e w' => e = .returned (.bool (l.has k who)) ∧ w = w' := Tt k who _ _ (Dy k h)
theorem iE (k who : Int) (s : Nat) (w : World) : Calls Tryz.prog 54 #[.pointer (some ⟨s, 0, none⟩), .int .i64 k, .int .i64 who] w fun e w' => e = .returned (.bool (iy k who)) ∧ w = w' := by
 have hi := Dx k w
 unfold iy
 obtain ⟨x, hx⟩ : ∃ x, x = wY k := ⟨_, rfl⟩
 rw [← hx] at hi ⊢
 clear hx
 cases x
 ·go_enter Tryz.func54, Tryz.ntmps54
  go_wp2_with (go_at_call 72; go_must (refine hi.mono ?_); rintro e w' ⟨rfl, rfl⟩)
  go_ret
  exact ⟨by simp, rfl⟩
 ·go_enter Tryz.func54, Tryz.ntmps54
  go_wp2_with (go_at_call 72; go_must (refine hi.mono ?_); rintro e w' ⟨rfl, rfl⟩)
  go_ret
  exact ⟨by simp, rfl⟩
theorem tH (h : bT 32 w s l) : Calls Tryz.prog 19 #[.pointer (some ⟨s, 0, none⟩)] w fun e w' => e = .returned (.bool l.free) ∧ w = w' := by
 have k0 := h.c0
 have k1 := h.c1
 have k2 := h.c2
 have hq := fun W => zero_eq l.a l.b l.c W
 clear h
 unfold Lk.free
 go_enter Tryz.func19, Tryz.ntmps19
 go_wp2_with fail
 go_ret
 exact ⟨rfl, rfl⟩
def EP (l : Lk) (who : Int) : Value := bL (l.has 0 who) (l.has 1 who) (l.has 2 who)
theorem PZ (who : Int) (p : Value) (a b c : Bool) (w : World) (h0 : ∀ W, Below w.heap.size w W → Calls Tryz.prog 53 #[p, .int .i64 0, .int .i64 who] W fun e w' => e = .returned (.bool a) ∧ W = w')
 (h1 : ∀ W, Below w.heap.size w W → Calls Tryz.prog 53 #[p, .int .i64 1, .int .i64 who] W fun e w' => e = .returned (.bool b) ∧ W = w')
 (h2 : ∀ W, Below w.heap.size w W → Calls Tryz.prog 53 #[p, .int .i64 2, .int .i64 who] W fun e w' => e = .returned (.bool c) ∧ W = w') :
 Calls Tryz.prog 28 #[p, .int .i64 who] w fun e w' => e = .returned (bL a b c) ∧ Below w.heap.size w w' := by
 unfold bL
 obtain ⟨g, hg⟩ : ∃ g, g = w.heap.size + 1 := ⟨_, rfl⟩
 obtain ⟨w1, hw1⟩ : ∃ w1, w1 = (w.alloc (.cells #[.bool false, .bool false, .bool false] 42)).alloc (.cells #[.bool false, .bool false, .bool false] 42) := ⟨_, rfl⟩
 have hb1 : Below w.heap.size w w1 := by rw [hw1]; exact ((Below.refl _ _).alloc (Nat.le_refl _) _).alloc (by simp) _
 have hA1 : w1.heap[g]? = some (.cells #[.bool false, .bool false, .bool false] 42 (0, 0)) := by
  rw [hw1, hg]
  have := heap_alloc_new (w.alloc (.cells #[.bool false, .bool false, .bool false] 42)) (.cells #[.bool false, .bool false, .bool false] 42)
  simpa using this
 have ER : w1.heap[w.heap.size]? = some (.cells #[.bool false, .bool false, .bool false] 42 (0, 0)) := by
  rw [hw1]; exact dW (heap_alloc_new w _)
 replace hb1 := Lib.hid hb1
 replace hA1 := Lib.hid hA1
 replace ER := Lib.hid ER
 replace h0 := Lib.hid h0
 replace h1 := Lib.hid h1
 replace h2 := Lib.hid h2
 go_enter Tryz.func28, Tryz.ntmps28
 go_wp2_with fail
 rw [← hw1]
 rw [← hg]
 replace hw1 := Lib.hid hw1
 have hg1 : w.heap.size ≠ g := by omega
 have hg2 : w.heap.size ≤ g := by omega
 replace hg := Lib.hid hg
 go_loopw [6, 7] (fun jj ii wr => ∃ (cs : Array Value) (k : Int), ii = .int .i64 k ∧ Hid (wr.heap[g]? = some (.cells cs 42 (0, 0))) ∧ Hid (wr.heap[w.heap.size]? = some (.cells #[.bool false, .bool false, .bool false] 42 (0, 0))) ∧ Hid (Below w.heap.size w wr) ∧ Hid ((k = 0 ∧ cs = #[.bool false, .bool false, .bool false]) ∨ (k = 1 ∧ cs = #[.bool a, .bool false, .bool false]) ∨ (k = 2 ∧ cs = #[.bool a, .bool b, .bool false]) ∨ (k = 3 ∧ cs = #[.bool a, .bool b, .bool c]))) (fun _ ii _ => 3 - (intOf ii).toNat)
 case atStart => exact ⟨_, 0, rfl, hA1.out, ER.out, hb1.out, .inl ⟨rfl, rfl⟩⟩
 case round =>
  obtain ⟨cs, k, rfl, hG, hR, hB, hk⟩ := hrel
  rcases hk.out with ⟨rfl, rfl⟩ | ⟨rfl, rfl⟩ | ⟨rfl, rfl⟩ | ⟨rfl, rfl⟩
  ·have hh := h0.out wr hB.out
   have kc : wr.cell? ⟨g, 0, none⟩ = some (.bool false) := by simp [World.cell?, hG.out]
   have kf : wr.frozen? ⟨g, 0, none⟩ = false := by simp [World.frozen?, hG.out]
   clear hk
   go_wp2_with (go_at_call 53; go_must (refine hh.mono ?_); rintro e w5 ⟨rfl, rfl⟩)
   go_roundw
   case rel => exact ⟨_, 1, by go_num, heap_put hG.out _, by show (wr.setCell _ _).heap[w.heap.size]? = _; rw [Below.heap_setCell wr ⟨g, 0, none⟩ _ _ hg1]; exact hR.out, hB.out.setCell hg2 _, .inr (.inl ⟨rfl, rfl⟩)⟩
   case measure => simp [intOf]
  ·have hh := h1.out wr hB.out
   have kc : wr.cell? ⟨g, 1, none⟩ = some (.bool false) := by simp [World.cell?, hG.out]
   have kf : wr.frozen? ⟨g, 1, none⟩ = false := by simp [World.frozen?, hG.out]
   clear hk
   go_wp2_with (go_at_call 53; go_must (refine hh.mono ?_); rintro e w5 ⟨rfl, rfl⟩)
   go_roundw
   case rel => exact ⟨_, 2, by go_num, heap_put hG.out _, by show (wr.setCell _ _).heap[w.heap.size]? = _; rw [Below.heap_setCell wr ⟨g, 1, none⟩ _ _ hg1]; exact hR.out, hB.out.setCell hg2 _, .inr (.inr (.inl ⟨rfl, rfl⟩))⟩
   case measure => simp [intOf]
  ·have hh := h2.out wr hB.out
   have kc : wr.cell? ⟨g, 2, none⟩ = some (.bool false) := by simp [World.cell?, hG.out]
   have kf : wr.frozen? ⟨g, 2, none⟩ = false := by simp [World.frozen?, hG.out]
   clear hk
   go_wp2_with (go_at_call 53; go_must (refine hh.mono ?_); rintro e w5 ⟨rfl, rfl⟩)
   go_roundw
   case rel => exact ⟨_, 3, by go_num, heap_put hG.out _, by show (wr.setCell _ _).heap[w.heap.size]? = _; rw [Below.heap_setCell wr ⟨g, 2, none⟩ _ _ hg1]; exact hR.out, hB.out.setCell hg2 _, .inr (.inr (.inr ⟨rfl, rfl⟩))⟩
   case measure => simp [intOf]
  ·clear hk
   have k0 : wr.cell? ⟨g, 0, none⟩ = some (.bool a) := by simp [World.cell?, hG.out]
   have k1 : wr.cell? ⟨g, 1, none⟩ = some (.bool b) := by simp [World.cell?, hG.out]
   have k2 : wr.cell? ⟨g, 2, none⟩ = some (.bool c) := by simp [World.cell?, hG.out]
   have r0 : wr.cell? ⟨w.heap.size, 0, none⟩ = some (.bool false) := by simp [World.cell?, hR.out]
   have f0 : wr.frozen? ⟨w.heap.size, 0, none⟩ = false := by simp [World.frozen?, hR.out]
   have r1 : wr.cell? ⟨w.heap.size, 1, none⟩ = some (.bool false) := by simp [World.cell?, hR.out]
   have f1 : wr.frozen? ⟨w.heap.size, 1, none⟩ = false := by simp [World.frozen?, hR.out]
   have r2 : wr.cell? ⟨w.heap.size, 2, none⟩ = some (.bool false) := by simp [World.cell?, hR.out]
   have f2 : wr.frozen? ⟨w.heap.size, 2, none⟩ = false := by simp [World.frozen?, hR.out]
   go_wp2_with fail
   refine bG rfl rfl rfl (heap_put (heap_put (heap_put hR.out _) _) _) Tryz.underlying42 rfl (by kernel_rfl) ⟨rfl, ?_⟩
   exact ((hB.out.setCell (Nat.le_refl _) _).setCell (Nat.le_refl _) _).setCell (Nat.le_refl _) _
theorem Az (who : Int) (h : bT 32 w s l) : Calls Tryz.prog 28 #[.pointer (some ⟨s, 0, none⟩), .int .i64 who] w fun e w' => e = .returned (EP l who) ∧ Below w.heap.size w w' :=
 PZ who _ _ _ _ w (fun _ hb => mP 0 who (h.below hb h.lt)) (fun _ hb => mP 1 who (h.below hb h.lt)) (fun _ hb => mP 2 who (h.below hb h.lt))
end
end Go.Proofs.YtelnhablglomjaaGreat

namespace Go.Proofs.YtelnhablglomjaaGreat
open Go.RowKit Go.Lib
def Lk.later (l : Lk) (k who : Int) : Bool := decide (k ≤ 0 ∧ l.a = who) || decide (k ≤ 1 ∧ l.b = who) || decide (k ≤ 2 ∧ l.c = who)
def Lk.put (l : Lk) (k v : Int) : Lk := ⟨if k = 0 then v else l.a, if k = 1 then v else l.b, if k = 2 then v else l.c, l.n⟩
def Lk.mI (l : Lk) (k who : Int) : Int := if iy k who = true then 1 else if l.later k who = true then 17 else if l.own k = 0 then 0 else 18
def Lk.nJ (l : Lk) (k who : Int) : Lk := if l.mI k who = 0 then { l.put k who with n := l.n + 1 } else l
def Lk.jL (l : Lk) (k who : Int) : Int := if iy k who = true then 1 else if l.own k = who then 0 else 8
def Lk.jl (l : Lk) (k who : Int) : Lk := if l.jL k who = 0 then l.put k 0 else l
theorem oG {k who : Int} (h : iy k who = false) : (k = 0 ∨ k = 1 ∨ k = 2) ∧ 0 < who := by
 unfold iy wY at h
 simp at h
 omega
theorem tJ (l : Lk) {k who : Int} (h : iy k who = false) : decide (dH (l.has 0 who) (l.has 1 who) (l.has 2 who) k < 3) = l.later k who := by
 obtain ⟨hk, hw⟩ := oG h
 have o0 : l.own 0 = l.a := rfl
 have o1 : l.own 1 = l.b := rfl
 have o2 : l.own 2 = l.c := rfl
 unfold dH Lk.later Lk.has
 rw [o0, o1, o2]
 rw [decide_eq_true hw]
 rcases hk with rfl | rfl | rfl <;> by_cases h0 : l.a = who <;> by_cases h1 : l.b = who <;> by_cases h2 : l.c = who <;> simp [h0, h1, h2]
def nA (T : TypeId) (w : World) (s : Nat) (r : Int) (l' : Lk) (e : Ending) (w' : World) : Prop := e = .returned (.int .i64 r) ∧ bT T w' s l' ∧ Put.Off s s w w'
section
variable {T : TypeId} {w w' : World} {s : Nat} {l : Lk}
theorem bT.fz (h : bT T w s l) (j : Nat) : w.frozen? ⟨s, j, none⟩ = false := by simp [World.frozen?, show w.heap[s]? = _ from h]
theorem bT.set0 (h : bT T w s l) (v : Int) : bT T (w.setCell ⟨s, 0, none⟩ (.int .i64 v)) s (l.put 0 v) := heap_put h _
theorem bT.set1 (h : bT T w s l) (v : Int) : bT T (w.setCell ⟨s, 1, none⟩ (.int .i64 v)) s (l.put 1 v) := heap_put h _
theorem bT.set2 (h : bT T w s l) (v : Int) : bT T (w.setCell ⟨s, 2, none⟩ (.int .i64 v)) s (l.put 2 v) := heap_put h _
theorem bT.P5 (h : bT T w s l) (v : Int) : bT T (w.setCell ⟨s, 3, none⟩ (.int .i64 v)) s { l with n := v } := heap_put h _
end
section
variable {w : World} {s : Nat} {l : Lk}
theorem Nl (k who : Int) (h : bT 32 w s l) (hl : iy k who = true) : Calls Tryz.prog 29 #[.pointer (some ⟨s, 0, none⟩), .int .i64 k, .int .i64 who] w (nA 32 w s 1 l) := by
 have hc := iE k who s w
 rw [hl] at hc
 replace h := Lib.hid h
 clear hl
 go_enter Tryz.func29, Tryz.ntmps29
 go_wp2_with (go_at_call 54; go_must (refine hc.mono ?_); rintro e w5 ⟨rfl, rfl⟩)
 go_ret
 exact ⟨rfl, h.out, Put.Off.refl _ _ _⟩
theorem Vf (who : Int) (h : bT 32 w s l) (hl : iy 0 who = false) (hn : 0 ≤ l.n ∧ l.n ≤ 1000000) :
 Calls Tryz.prog 29 #[.pointer (some ⟨s, 0, none⟩), .int .i64 0, .int .i64 who] w (nA 32 w s (l.mI 0 who) (l.nJ 0 who)) := by
 have hc := iE 0 who s w
 rw [hl] at hc
 have hH := Az who h
 unfold EP bL at hH
 have hN := fun W => wW (l.has 0 who) (l.has 1 who) (l.has 2 who) 0 (by omega) W
 unfold bL at hN
 have hlt := tJ l hl
 obtain ⟨nx, hnx⟩ : ∃ n, n = dH (l.has 0 who) (l.has 1 who) (l.has 2 who) 0 := ⟨_, rfl⟩
 rw [← hnx] at hN hlt
 clear hnx
 obtain ⟨x, hx⟩ : ∃ x, x = l.has 0 who := ⟨_, rfl⟩
 obtain ⟨y, hy⟩ : ∃ y, y = l.has 1 who := ⟨_, rfl⟩
 obtain ⟨z, hz⟩ : ∃ z, z = l.has 2 who := ⟨_, rfl⟩
 rw [← hx, ← hy, ← hz] at hH hN
 clear hx hy hz
 unfold Lk.nJ
 unfold Lk.mI
 rw [hl, if_neg (show ¬ (false = true) by decide)]
 have wi : IntKind.i64.wrap (l.n + 1) = l.n + 1 := by rw [IntKind.wrap_i64]; omega
 have hsl := h.lt
 replace h := Lib.hid h
 clear hl hn
 cases hla : l.later 0 who
 ·rw [hla] at hlt
  rw [if_neg (show ¬ (false = true) by decide)]
  by_cases h0 : l.own 0 = 0
  ·rw [if_pos h0, if_pos rfl]
   have h0' : l.a = 0 := h0
   clear hla h0
   go_enter Tryz.func29, Tryz.ntmps29
   go_wp2_with fail
   go_at_call 54
   refine hc.mono ?_
   clear hc
   rintro e w5 ⟨rfl, rfl⟩
   go_wp2_with fail
   go_at_call 28
   refine hH.mono ?_
   clear hH
   rintro e w1 ⟨rfl, hb1⟩
   go_wp2_with fail
   go_at_call 55
   refine (hN w1).mono ?_
   clear hN
   rintro e w2 ⟨rfl, hb2⟩
   have g2 := (h.out.below hb1 hsl).below hb2 (Nat.lt_of_lt_of_le hsl hb1.size)
   have o2 := (Put.Off.of_below (p := s) (g := s) hb1).eu hb2
   have kc : w2.cell? ⟨s, 0, none⟩ = some (.int .i64 0) := by rw [g2.c0, h0']
   have kn := g2.c3
   have kf := g2.fz 0
   have kg := g2.fz 3
   replace g2 := Lib.hid g2
   replace o2 := Lib.hid o2
   clear hb1 hb2 h0' h
   go_wp2_with fail
   go_ret
   exact ⟨rfl, (g2.out.set0 who).P5 _, (o2.out.setCell (.inl rfl)).setCell (.inl rfl)⟩
  ·rw [if_neg h0, if_neg (show ¬ ((18 : Int) = 0) by decide)]
   have h0' : ¬ l.a = 0 := h0
   have h1' : (l.a != 0) = true := by simp [h0']
   clear hla h0 h0'
   obtain ⟨v, hv⟩ : ∃ v, v = l.a := ⟨_, rfl⟩
   rw [← hv] at h1'
   go_enter Tryz.func29, Tryz.ntmps29
   go_wp2_with fail
   go_at_call 54
   refine hc.mono ?_
   clear hc
   rintro e w5 ⟨rfl, rfl⟩
   go_wp2_with fail
   go_at_call 28
   refine hH.mono ?_
   clear hH
   rintro e w1 ⟨rfl, hb1⟩
   go_wp2_with fail
   go_at_call 55
   refine (hN w1).mono ?_
   clear hN
   rintro e w2 ⟨rfl, hb2⟩
   have g2 := (h.out.below hb1 hsl).below hb2 (Nat.lt_of_lt_of_le hsl hb1.size)
   have o2 := (Put.Off.of_below (p := s) (g := s) hb1).eu hb2
   have kc : w2.cell? ⟨s, 0, none⟩ = some (.int .i64 v) := by rw [g2.c0, hv]
   replace g2 := Lib.hid g2
   replace o2 := Lib.hid o2
   clear hb1 hb2 h hv
   go_wp2_with fail
   go_ret
   exact ⟨rfl, g2.out, o2.out⟩
 ·rw [hla] at hlt
  rw [if_pos rfl, if_neg (show ¬ ((17 : Int) = 0) by decide)]
  clear hla
  go_enter Tryz.func29, Tryz.ntmps29
  go_wp2_with fail
  go_at_call 54
  refine hc.mono ?_
  clear hc
  rintro e w5 ⟨rfl, rfl⟩
  go_wp2_with fail
  go_at_call 28
  refine hH.mono ?_
  clear hH
  rintro e w1 ⟨rfl, hb1⟩
  go_wp2_with fail
  go_at_call 55
  refine (hN w1).mono ?_
  clear hN
  rintro e w2 ⟨rfl, hb2⟩
  have g2 := (h.out.below hb1 hsl).below hb2 (Nat.lt_of_lt_of_le hsl hb1.size)
  have o2 := (Put.Off.of_below (p := s) (g := s) hb1).eu hb2
  replace g2 := Lib.hid g2
  replace o2 := Lib.hid o2
  clear hb1 hb2 h
  go_wp2_with fail
  go_ret
  exact ⟨rfl, g2.out, o2.out⟩
theorem Vg (who : Int) (h : bT 32 w s l) (hl : iy 1 who = false) (hn : 0 ≤ l.n ∧ l.n ≤ 1000000) :
 Calls Tryz.prog 29 #[.pointer (some ⟨s, 0, none⟩), .int .i64 1, .int .i64 who] w (nA 32 w s (l.mI 1 who) (l.nJ 1 who)) := by
 have hc := iE 1 who s w
 rw [hl] at hc
 have hH := Az who h
 unfold EP bL at hH
 have hN := fun W => wW (l.has 0 who) (l.has 1 who) (l.has 2 who) 1 (by omega) W
 unfold bL at hN
 have hlt := tJ l hl
 obtain ⟨nx, hnx⟩ : ∃ n, n = dH (l.has 0 who) (l.has 1 who) (l.has 2 who) 1 := ⟨_, rfl⟩
 rw [← hnx] at hN hlt
 clear hnx
 obtain ⟨x, hx⟩ : ∃ x, x = l.has 0 who := ⟨_, rfl⟩
 obtain ⟨y, hy⟩ : ∃ y, y = l.has 1 who := ⟨_, rfl⟩
 obtain ⟨z, hz⟩ : ∃ z, z = l.has 2 who := ⟨_, rfl⟩
 rw [← hx, ← hy, ← hz] at hH hN
 clear hx hy hz
 unfold Lk.nJ
 unfold Lk.mI
 rw [hl, if_neg (show ¬ (false = true) by decide)]
 have wi : IntKind.i64.wrap (l.n + 1) = l.n + 1 := by rw [IntKind.wrap_i64]; omega
 have hsl := h.lt
 replace h := Lib.hid h
 clear hl hn
 cases hla : l.later 1 who
 ·rw [hla] at hlt
  rw [if_neg (show ¬ (false = true) by decide)]
  by_cases h0 : l.own 1 = 0
  ·rw [if_pos h0, if_pos rfl]
   have h0' : l.b = 0 := h0
   clear hla h0
   go_enter Tryz.func29, Tryz.ntmps29
   go_wp2_with fail
   go_at_call 54
   refine hc.mono ?_
   clear hc
   rintro e w5 ⟨rfl, rfl⟩
   go_wp2_with fail
   go_at_call 28
   refine hH.mono ?_
   clear hH
   rintro e w1 ⟨rfl, hb1⟩
   go_wp2_with fail
   go_at_call 55
   refine (hN w1).mono ?_
   clear hN
   rintro e w2 ⟨rfl, hb2⟩
   have g2 := (h.out.below hb1 hsl).below hb2 (Nat.lt_of_lt_of_le hsl hb1.size)
   have o2 := (Put.Off.of_below (p := s) (g := s) hb1).eu hb2
   have kc : w2.cell? ⟨s, 1, none⟩ = some (.int .i64 0) := by rw [g2.c1, h0']
   have kn := g2.c3
   have kf := g2.fz 1
   have kg := g2.fz 3
   replace g2 := Lib.hid g2
   replace o2 := Lib.hid o2
   clear hb1 hb2 h0' h
   go_wp2_with fail
   go_ret
   exact ⟨rfl, (g2.out.set1 who).P5 _, (o2.out.setCell (.inl rfl)).setCell (.inl rfl)⟩
  ·rw [if_neg h0, if_neg (show ¬ ((18 : Int) = 0) by decide)]
   have h0' : ¬ l.b = 0 := h0
   have h1' : (l.b != 0) = true := by simp [h0']
   clear hla h0 h0'
   obtain ⟨v, hv⟩ : ∃ v, v = l.b := ⟨_, rfl⟩
   rw [← hv] at h1'
   go_enter Tryz.func29, Tryz.ntmps29
   go_wp2_with fail
   go_at_call 54
   refine hc.mono ?_
   clear hc
   rintro e w5 ⟨rfl, rfl⟩
   go_wp2_with fail
   go_at_call 28
   refine hH.mono ?_
   clear hH
   rintro e w1 ⟨rfl, hb1⟩
   go_wp2_with fail
   go_at_call 55
   refine (hN w1).mono ?_
   clear hN
   rintro e w2 ⟨rfl, hb2⟩
   have g2 := (h.out.below hb1 hsl).below hb2 (Nat.lt_of_lt_of_le hsl hb1.size)
   have o2 := (Put.Off.of_below (p := s) (g := s) hb1).eu hb2
   have kc : w2.cell? ⟨s, 1, none⟩ = some (.int .i64 v) := by rw [g2.c1, hv]
   replace g2 := Lib.hid g2
   replace o2 := Lib.hid o2
   clear hb1 hb2 h hv
   go_wp2_with fail
   go_ret
   exact ⟨rfl, g2.out, o2.out⟩
 ·rw [hla] at hlt
  rw [if_pos rfl, if_neg (show ¬ ((17 : Int) = 0) by decide)]
  clear hla
  go_enter Tryz.func29, Tryz.ntmps29
  go_wp2_with fail
  go_at_call 54
  refine hc.mono ?_
  clear hc
  rintro e w5 ⟨rfl, rfl⟩
  go_wp2_with fail
  go_at_call 28
  refine hH.mono ?_
  clear hH
  rintro e w1 ⟨rfl, hb1⟩
  go_wp2_with fail
  go_at_call 55
  refine (hN w1).mono ?_
  clear hN
  rintro e w2 ⟨rfl, hb2⟩
  have g2 := (h.out.below hb1 hsl).below hb2 (Nat.lt_of_lt_of_le hsl hb1.size)
  have o2 := (Put.Off.of_below (p := s) (g := s) hb1).eu hb2
  replace g2 := Lib.hid g2
  replace o2 := Lib.hid o2
  clear hb1 hb2 h
  go_wp2_with fail
  go_ret
  exact ⟨rfl, g2.out, o2.out⟩
theorem Vh (who : Int) (h : bT 32 w s l) (hl : iy 2 who = false) (hn : 0 ≤ l.n ∧ l.n ≤ 1000000) :
 Calls Tryz.prog 29 #[.pointer (some ⟨s, 0, none⟩), .int .i64 2, .int .i64 who] w (nA 32 w s (l.mI 2 who) (l.nJ 2 who)) := by
 have hc := iE 2 who s w
 rw [hl] at hc
 have hH := Az who h
 unfold EP bL at hH
 have hN := fun W => wW (l.has 0 who) (l.has 1 who) (l.has 2 who) 2 (by omega) W
 unfold bL at hN
 have hlt := tJ l hl
 obtain ⟨nx, hnx⟩ : ∃ n, n = dH (l.has 0 who) (l.has 1 who) (l.has 2 who) 2 := ⟨_, rfl⟩
 rw [← hnx] at hN hlt
 clear hnx
 obtain ⟨x, hx⟩ : ∃ x, x = l.has 0 who := ⟨_, rfl⟩
 obtain ⟨y, hy⟩ : ∃ y, y = l.has 1 who := ⟨_, rfl⟩
 obtain ⟨z, hz⟩ : ∃ z, z = l.has 2 who := ⟨_, rfl⟩
 rw [← hx, ← hy, ← hz] at hH hN
 clear hx hy hz
 unfold Lk.nJ
 unfold Lk.mI
 rw [hl, if_neg (show ¬ (false = true) by decide)]
 have wi : IntKind.i64.wrap (l.n + 1) = l.n + 1 := by rw [IntKind.wrap_i64]; omega
 have hsl := h.lt
 replace h := Lib.hid h
 clear hl hn
 cases hla : l.later 2 who
 ·rw [hla] at hlt
  rw [if_neg (show ¬ (false = true) by decide)]
  by_cases h0 : l.own 2 = 0
  ·rw [if_pos h0, if_pos rfl]
   have h0' : l.c = 0 := h0
   clear hla h0
   go_enter Tryz.func29, Tryz.ntmps29
   go_wp2_with fail
   go_at_call 54
   refine hc.mono ?_
   clear hc
   rintro e w5 ⟨rfl, rfl⟩
   go_wp2_with fail
   go_at_call 28
   refine hH.mono ?_
   clear hH
   rintro e w1 ⟨rfl, hb1⟩
   go_wp2_with fail
   go_at_call 55
   refine (hN w1).mono ?_
   clear hN
   rintro e w2 ⟨rfl, hb2⟩
   have g2 := (h.out.below hb1 hsl).below hb2 (Nat.lt_of_lt_of_le hsl hb1.size)
   have o2 := (Put.Off.of_below (p := s) (g := s) hb1).eu hb2
   have kc : w2.cell? ⟨s, 2, none⟩ = some (.int .i64 0) := by rw [g2.c2, h0']
   have kn := g2.c3
   have kf := g2.fz 2
   have kg := g2.fz 3
   replace g2 := Lib.hid g2
   replace o2 := Lib.hid o2
   clear hb1 hb2 h0' h
   go_wp2_with fail
   go_ret
   exact ⟨rfl, (g2.out.set2 who).P5 _, (o2.out.setCell (.inl rfl)).setCell (.inl rfl)⟩
  ·rw [if_neg h0, if_neg (show ¬ ((18 : Int) = 0) by decide)]
   have h0' : ¬ l.c = 0 := h0
   have h1' : (l.c != 0) = true := by simp [h0']
   clear hla h0 h0'
   obtain ⟨v, hv⟩ : ∃ v, v = l.c := ⟨_, rfl⟩
   rw [← hv] at h1'
   go_enter Tryz.func29, Tryz.ntmps29
   go_wp2_with fail
   go_at_call 54
   refine hc.mono ?_
   clear hc
   rintro e w5 ⟨rfl, rfl⟩
   go_wp2_with fail
   go_at_call 28
   refine hH.mono ?_
   clear hH
   rintro e w1 ⟨rfl, hb1⟩
   go_wp2_with fail
   go_at_call 55
   refine (hN w1).mono ?_
   clear hN
   rintro e w2 ⟨rfl, hb2⟩
   have g2 := (h.out.below hb1 hsl).below hb2 (Nat.lt_of_lt_of_le hsl hb1.size)
   have o2 := (Put.Off.of_below (p := s) (g := s) hb1).eu hb2
   have kc : w2.cell? ⟨s, 2, none⟩ = some (.int .i64 v) := by rw [g2.c2, hv]
   replace g2 := Lib.hid g2
   replace o2 := Lib.hid o2
   clear hb1 hb2 h hv
   go_wp2_with fail
   go_ret
   exact ⟨rfl, g2.out, o2.out⟩
 ·rw [hla] at hlt
  rw [if_pos rfl, if_neg (show ¬ ((17 : Int) = 0) by decide)]
  clear hla
  go_enter Tryz.func29, Tryz.ntmps29
  go_wp2_with fail
  go_at_call 54
  refine hc.mono ?_
  clear hc
  rintro e w5 ⟨rfl, rfl⟩
  go_wp2_with fail
  go_at_call 28
  refine hH.mono ?_
  clear hH
  rintro e w1 ⟨rfl, hb1⟩
  go_wp2_with fail
  go_at_call 55
  refine (hN w1).mono ?_
  clear hN
  rintro e w2 ⟨rfl, hb2⟩
  have g2 := (h.out.below hb1 hsl).below hb2 (Nat.lt_of_lt_of_le hsl hb1.size)
  have o2 := (Put.Off.of_below (p := s) (g := s) hb1).eu hb2
  replace g2 := Lib.hid g2
  replace o2 := Lib.hid o2
  clear hb1 hb2 h
  go_wp2_with fail
  go_ret
  exact ⟨rfl, g2.out, o2.out⟩
theorem Tu (k who : Int) (h : bT 32 w s l) (hn : 0 ≤ l.n ∧ l.n ≤ 1000000) :
 Calls Tryz.prog 29 #[.pointer (some ⟨s, 0, none⟩), .int .i64 k, .int .i64 who] w (nA 32 w s (l.mI k who) (l.nJ k who)) := by
 cases hl : iy k who
 ·rcases (oG hl).1 with rfl | rfl | rfl
  ·exact Vf who h hl hn
  ·exact Vg who h hl hn
  ·exact Vh who h hl hn
 ·have e : l.mI k who = 1 := by unfold Lk.mI; rw [if_pos hl]
  have e2 : l.nJ k who = l := by unfold Lk.nJ; rw [e, if_neg (by decide)]
  rw [e, e2]
  exact Nl k who h hl
theorem J3 (k who : Int) (h : bT 32 w s l) (hl : iy k who = true) : Calls Tryz.prog 30 #[.pointer (some ⟨s, 0, none⟩), .int .i64 k, .int .i64 who] w (nA 32 w s 1 l) := by
 have hc := iE k who s w
 rw [hl] at hc
 replace h := Lib.hid h
 clear hl
 go_enter Tryz.func30, Tryz.ntmps30
 go_wp2_with (go_at_call 54; go_must (refine hc.mono ?_); rintro e w5 ⟨rfl, rfl⟩)
 go_ret
 exact ⟨rfl, h.out, Put.Off.refl _ _ _⟩
theorem Tv (who : Int) (h : bT 32 w s l) (hl : iy 0 who = false) :
 Calls Tryz.prog 30 #[.pointer (some ⟨s, 0, none⟩), .int .i64 0, .int .i64 who] w (nA 32 w s (l.jL 0 who) (l.jl 0 who)) := by
 have hc := iE 0 who s w
 have hh := mP 0 who h
 rw [hl] at hc
 have hw := (oG hl).2
 unfold Lk.jl
 unfold Lk.jL
 rw [hl, if_neg (show ¬ (false = true) by decide)]
 have hx : l.has 0 who = decide (l.own 0 = who) := by unfold Lk.has; rw [decide_eq_true hw, Bool.true_and]
 rw [hx] at hh
 have kc := h.c0
 have kf := h.fz 0
 replace h := Lib.hid h
 clear hl hx hw
 by_cases h0 : l.own 0 = who
 ·rw [decide_eq_true h0] at hh
  rw [if_pos h0, if_pos rfl]
  clear h0
  go_enter Tryz.func30, Tryz.ntmps30
  go_wp2_with (first | (go_at_call 54; go_must (refine hc.mono ?_); rintro e w5 ⟨rfl, rfl⟩) | (go_at_call 53; go_must (refine hh.mono ?_); rintro e w5 ⟨rfl, rfl⟩))
  go_ret
  exact ⟨rfl, h.out.set0 0, (Put.Off.refl _ _ _).setCell (.inl rfl)⟩
 ·rw [decide_eq_false h0] at hh
  rw [if_neg h0, if_neg (show ¬ ((8 : Int) = 0) by decide)]
  clear h0
  go_enter Tryz.func30, Tryz.ntmps30
  go_wp2_with (first | (go_at_call 54; go_must (refine hc.mono ?_); rintro e w5 ⟨rfl, rfl⟩) | (go_at_call 53; go_must (refine hh.mono ?_); rintro e w5 ⟨rfl, rfl⟩))
  go_ret
  exact ⟨rfl, h.out, Put.Off.refl _ _ _⟩
theorem Tw (who : Int) (h : bT 32 w s l) (hl : iy 1 who = false) :
 Calls Tryz.prog 30 #[.pointer (some ⟨s, 0, none⟩), .int .i64 1, .int .i64 who] w (nA 32 w s (l.jL 1 who) (l.jl 1 who)) := by
 have hc := iE 1 who s w
 have hh := mP 1 who h
 rw [hl] at hc
 have hw := (oG hl).2
 unfold Lk.jl
 unfold Lk.jL
 rw [hl, if_neg (show ¬ (false = true) by decide)]
 have hx : l.has 1 who = decide (l.own 1 = who) := by unfold Lk.has; rw [decide_eq_true hw, Bool.true_and]
 rw [hx] at hh
 have kc := h.c1
 have kf := h.fz 1
 replace h := Lib.hid h
 clear hl hx hw
 by_cases h0 : l.own 1 = who
 ·rw [decide_eq_true h0] at hh
  rw [if_pos h0, if_pos rfl]
  clear h0
  go_enter Tryz.func30, Tryz.ntmps30
  go_wp2_with (first | (go_at_call 54; go_must (refine hc.mono ?_); rintro e w5 ⟨rfl, rfl⟩) | (go_at_call 53; go_must (refine hh.mono ?_); rintro e w5 ⟨rfl, rfl⟩))
  go_ret
  exact ⟨rfl, h.out.set1 0, (Put.Off.refl _ _ _).setCell (.inl rfl)⟩
 ·rw [decide_eq_false h0] at hh
  rw [if_neg h0, if_neg (show ¬ ((8 : Int) = 0) by decide)]
  clear h0
  go_enter Tryz.func30, Tryz.ntmps30
  go_wp2_with (first | (go_at_call 54; go_must (refine hc.mono ?_); rintro e w5 ⟨rfl, rfl⟩) | (go_at_call 53; go_must (refine hh.mono ?_); rintro e w5 ⟨rfl, rfl⟩))
  go_ret
  exact ⟨rfl, h.out, Put.Off.refl _ _ _⟩
theorem Tx (who : Int) (h : bT 32 w s l) (hl : iy 2 who = false) :
 Calls Tryz.prog 30 #[.pointer (some ⟨s, 0, none⟩), .int .i64 2, .int .i64 who] w (nA 32 w s (l.jL 2 who) (l.jl 2 who)) := by
 have hc := iE 2 who s w
 have hh := mP 2 who h
 rw [hl] at hc
 have hw := (oG hl).2
 unfold Lk.jl
 unfold Lk.jL
 rw [hl, if_neg (show ¬ (false = true) by decide)]
 have hx : l.has 2 who = decide (l.own 2 = who) := by unfold Lk.has; rw [decide_eq_true hw, Bool.true_and]
 rw [hx] at hh
 have kc := h.c2
 have kf := h.fz 2
 replace h := Lib.hid h
 clear hl hx hw
 by_cases h0 : l.own 2 = who
 ·rw [decide_eq_true h0] at hh
  rw [if_pos h0, if_pos rfl]
  clear h0
  go_enter Tryz.func30, Tryz.ntmps30
  go_wp2_with (first | (go_at_call 54; go_must (refine hc.mono ?_); rintro e w5 ⟨rfl, rfl⟩) | (go_at_call 53; go_must (refine hh.mono ?_); rintro e w5 ⟨rfl, rfl⟩))
  go_ret
  exact ⟨rfl, h.out.set2 0, (Put.Off.refl _ _ _).setCell (.inl rfl)⟩
 ·rw [decide_eq_false h0] at hh
  rw [if_neg h0, if_neg (show ¬ ((8 : Int) = 0) by decide)]
  clear h0
  go_enter Tryz.func30, Tryz.ntmps30
  go_wp2_with (first | (go_at_call 54; go_must (refine hc.mono ?_); rintro e w5 ⟨rfl, rfl⟩) | (go_at_call 53; go_must (refine hh.mono ?_); rintro e w5 ⟨rfl, rfl⟩))
  go_ret
  exact ⟨rfl, h.out, Put.Off.refl _ _ _⟩
theorem GR (k who : Int) (h : bT 32 w s l) :
 Calls Tryz.prog 30 #[.pointer (some ⟨s, 0, none⟩), .int .i64 k, .int .i64 who] w (nA 32 w s (l.jL k who) (l.jl k who)) := by
 cases hl : iy k who
 ·rcases (oG hl).1 with rfl | rfl | rfl
  ·exact Tv who h hl
  ·exact Tw who h hl
  ·exact Tx who h hl
 ·have e : l.jL k who = 1 := by unfold Lk.jL; rw [if_pos hl]
  have e2 : l.jl k who = l := by unfold Lk.jl; rw [e, if_neg (by decide)]
  rw [e, e2]
  exact J3 k who h hl
end
end Go.Proofs.YtelnhablglomjaaGreat

namespace Go.Proofs.YtelnhablglomjaaGreat
open Go.RowKit Go.Lib
abbrev Jb : Type := Int × Int × Int × Int × Int × Int × Int × Int × Int × Int
instance : DecidableEq Jb := (@instDecidableEqProd _ _ (inferInstanceAs (DecidableEq Int)) (@instDecidableEqProd _ _ (inferInstanceAs (DecidableEq Int)) (@instDecidableEqProd _ _ (inferInstanceAs (DecidableEq Int)) (@instDecidableEqProd _ _ (inferInstanceAs (DecidableEq Int)) (@instDecidableEqProd _ _ (inferInstanceAs (DecidableEq Int)) (@instDecidableEqProd _ _ (inferInstanceAs (DecidableEq Int)) (@instDecidableEqProd _ _ (inferInstanceAs (DecidableEq Int)) (@instDecidableEqProd _ _ (inferInstanceAs (DecidableEq Int)) (@instDecidableEqProd _ _ (inferInstanceAs (DecidableEq Int)) (inferInstanceAs (DecidableEq Int)))))))))))
instance : Inhabited Jb := ⟨(0, 0, 0, 0, 0, 0, 0, 0, 0, 0)⟩
def Jb.id (j : Jb) : Int := j.1
def Jb.prio (j : Jb) : Int := j.2.2.2.2.1
def ai (j : Jb) : List Value := [.int .i64 j.1, .int .i64 j.2.1, .int .i64 j.2.2.1, .int .i64 j.2.2.2.1, .int .i64 j.2.2.2.2.1, .int .i64 j.2.2.2.2.2.1, .int .i64 j.2.2.2.2.2.2.1, .int .i64 j.2.2.2.2.2.2.2.1, .int .i64 j.2.2.2.2.2.2.2.2.1, .int .u64 j.2.2.2.2.2.2.2.2.2]
theorem ax (j : Jb) : (ai j).length = 10 := rfl
theorem dJ (j : Jb) : ∀ v ∈ ai j, v.oneCell' = true := by
 intro v hv
 simp [ai] at hv
 rcases hv with rfl | rfl | rfl | rfl | rfl | rfl | rfl | rfl | rfl | rfl <;> rfl
def aV (a b : Jb) : Bool := decide (b.prio < a.prio) || (decide (a.prio = b.prio) && decide (a.id < b.id))
def zf (a b : Jb) : Int := if aV a b then -1 else if aV b a then 1 else 0
theorem GU {a b : Jb} (h : aV a b = true) : aV b a = false := by
 unfold aV at *
 simp only [Bool.or_eq_true, Bool.and_eq_true, decide_eq_true_eq] at h
 simp only [Bool.or_eq_false_iff, Bool.and_eq_false_iff, decide_eq_false_iff_not]
 omega
theorem GV (a b : Jb) : decide (zf a b < 0) = aV a b := by
 unfold zf
 cases h : aV a b with
 | true => rfl
 | false => cases aV b a <;> rfl
section
set_option maxRecDepth 100000
theorem ES (x y : Jb) (w : World) : (Op.equalIn 10000 92 (.agg (ai x).toArray) (.agg (ai y).toArray)).run Tryz.prog w = .ok (decide (x = y)) w := by
 have u2 := Tryz.underlying2
 have a2 := Tryz.isAgg2
 have z2 := Tryz.sizeOf2
 have u3 := Tryz.underlying3
 have a3 := Tryz.isAgg3
 have z3 := Tryz.sizeOf3
 have u4 := Tryz.underlying90
 have a4 := Tryz.isAgg90
 have z4 := Tryz.sizeOf90
 have hS : Tryz.prog.underlying 92 = some (.struct (Tryz.prog.fieldsOf 92)) := by kernel_rfl
 have hp : Tryz.prog.stoodInHeld 92 = false := by kernel_rfl
 rw [show (10000 : Nat) = 9999 + 1 from rfl, run_equalIn_agg w 9999 92 _ _ hS hp]
 simp only [Program.fieldsOf, Tryz.underlying92]
 obtain ⟨x1, x2, x3, x4, x5, x6, x7, x8, x9, x0⟩ := x
 obtain ⟨y1, y2, y3, y4, y5, y6, y7, y8, y9, y0⟩ := y
 simp only [ai]
 go_simp
 by_cases h1 : x1 = y1
 ·by_cases h2 : x2 = y2
  ·by_cases h3 : x3 = y3
   ·by_cases h4 : x4 = y4
    ·by_cases h5 : x5 = y5
     ·by_cases h6 : x6 = y6
      ·by_cases h7 : x7 = y7
       ·by_cases h8 : x8 = y8
        ·by_cases h9 : x9 = y9
         ·by_cases h0 : x0 = y0 <;> simp [h1, h2, h3, h4, h5, h6, h7, h8, h9, h0]
         ·simp [h1, h2, h3, h4, h5, h6, h7, h8, h9]
        ·simp [h1, h2, h3, h4, h5, h6, h7, h8]
       ·simp [h1, h2, h3, h4, h5, h6, h7]
      ·simp [h1, h2, h3, h4, h5, h6]
     ·simp [h1, h2, h3, h4, h5]
    ·simp [h1, h2, h3, h4]
   ·simp [h1, h2, h3]
  ·simp [h1, h2]
 ·simp [h1]
theorem P6 (x y : Jb) (w : World) : (binOp .neq 92 (.agg (ai x).toArray) (.agg (ai y).toArray)).run Tryz.prog w = .ok (.bool (!decide (x = y))) w := by
 rw [run_neq_struct, ES]; rfl
end
end Go.Proofs.YtelnhablglomjaaGreat

namespace Go.Proofs.YtelnhablglomjaaGreat
def Jb.wid (j : Jb) : Int := j.2.2.1
def Jb.lim (j : Jb) : Int := j.2.2.2.1
def Jb.st (j : Jb) : Int := j.2.2.2.2.2.1
def Jb.jC (j : Jb) : Int := j.2.2.2.2.2.2.1
def Jb.fin (j : Jb) : Int := j.2.2.2.2.2.2.2.1
def Jb.aN (j : Jb) : Int := j.2.2.2.2.2.2.2.2.1
def Jb.bQ (j : Jb) : Int := j.2.2.2.2.2.2.2.2.2
def Jb.setSt (j : Jb) (s : Int) : Jb := (j.1, j.2.1, j.2.2.1, j.2.2.2.1, j.2.2.2.2.1, s, j.2.2.2.2.2.2.1, j.2.2.2.2.2.2.2.1, j.2.2.2.2.2.2.2.2.1, j.2.2.2.2.2.2.2.2.2)
def Jb.aG (j : Jb) (t : Int) : Jb := (j.1, j.2.1, j.2.2.1, j.2.2.2.1, j.2.2.2.2.1, j.2.2.2.2.2.1, j.2.2.2.2.2.2.1, j.2.2.2.2.2.2.2.1, t, j.2.2.2.2.2.2.2.2.2)
def Jb.Ty (j : Jb) (t : Int) : Jb := (j.1, j.2.1, j.2.2.1, j.2.2.2.1, j.2.2.2.2.1, j.2.2.2.2.2.1, j.2.2.2.2.2.2.1, t, j.2.2.2.2.2.2.2.2.1, j.2.2.2.2.2.2.2.2.2)
structure Md where
 now : Int
 dr : List Bool
 L : List Jb
 cl : Bool
def cZ (s n : Nat) : Bool := decide (s / 2 ^ n % 2 = 1)
def aH (k : Nat) (j : Jb) : Bool := decide (j.st = 3) && cZ j.bQ.toNat k
def holderL (L : List Jb) (k : Nat) : Int := match L.findIdx? (aH k) with | some i => (i : Int) | none => -1
def aR (M : Md) (n : Int) : Int :=
 if n < 0 ∨ (M.dr.length : Int) ≤ n then 0
 else if 0 ≤ holderL M.L n.toNat then (if M.dr.getD n.toNat false then 3 else 2) else if M.dr.getD n.toNat false then 4 else 1
def aj (j : Jb) : Bool := decide (j.st = 1) && decide (0 ≤ j.aN)
def bU (M : Md) (t : Int) (k : Nat) : Bool := !(M.dr.getD k false) && (decide (holderL M.L k < 0) || decide ((M.L.getD (holderL M.L k).toNat default).fin ≤ t))
def kW (t but : Int) (j : Jb) : Bool := aj j && decide (j.id ≠ but) && decide (j.aN ≤ t) && decide (t < j.aN + j.lim)
def aL (M : Md) (t : Int) (k : Nat) : Int := (((List.range k).countP (bU M t) : Nat) : Int)
def bV (L : List Jb) (t but : Int) : Int := ((L.filter (kW t but)).map Jb.wid).sum
def ay (M : Md) (t but : Int) : Int := aL M t M.dr.length - bV M.L t but
def oP (P7 t last : Int) : Int := if last < t ∧ (P7 < 0 ∨ t < P7) then t else P7
def ET (last : Int) (b : Int) (j : Jb) : Int :=
 let b1 := if j.st = 3 then oP b j.fin last else b
 if aj j then oP (oP b1 j.aN last) (j.aN + j.lim) last else b1
def kH (L : List Jb) (last : Int) : Int := L.foldl (ET last) (-1)
def timesGo (L : List Jb) : Nat → Int → List Int
 | 0, _ => []
 | n + 1, last => if kH L last < 0 then [] else kH L last :: timesGo L n (kH L last)
def nC (M : Md) : List Int := M.now :: timesGo M.L (2 * M.L.length) M.now
def stepOn (M : Md) (acc : List (Int × Int)) (t : Int) : List (Int × Int) :=
 match acc.getLast? with
 | some s => if s.2 = ay M t 0 then acc else acc ++ [(t, ay M t 0)]
 | none => acc ++ [(t, ay M t 0)]
def lV (M : Md) : List (Int × Int) := (nC M).foldl (stepOn M) []
def yf (M : Md) (at' long width but : Int) : Bool :=
 decide (width ≤ ay M at' but) && (nC M).all fun t => !(decide (at' < t) && decide (t < at' + long) && decide (ay M t but < width))
def getM (M : Md) (id : Int) : Jb × Bool := if id < 1 ∨ (M.L.length : Int) < id then (default, false) else (M.L.getD (id - 1).toNat default, true)
def fO (M : Md) (id at' : Int) : Bool :=
 let j := (getM M id).1
 if M.cl = true ∨ (getM M id).2 = false ∨ j.st ≠ 1 ∨ at' < M.now ∨ 1099511627776 < at' ∨ (0 ≤ j.aN ∧ j.aN ≤ at') then false
 else yf M at' j.lim j.wid j.id
def gQ (j x : Jb) : Jb := if aj x && (decide (j.id = 0) || aV j x) then x.aG (-1) else x
def fC (M : Md) (j : Jb) : Md := { M with L := M.L.map (gQ j) }
def lowGo (M : Md) (wid : Int) : Nat → Nat × Int
 | 0 => (0, 0)
 | k + 1 => if (lowGo M wid k).2 < wid ∧ aR M k = 1 then ((lowGo M wid k).1 + 2 ^ k, (lowGo M wid k).2 + 1) else lowGo M wid k
def iP (M : Md) (wid : Int) : Nat := (lowGo M wid M.dr.length).1
def fT (M : Md) (j : Jb) : Jb := (j.1, j.2.1, j.2.2.1, j.2.2.2.1, j.2.2.2.2.1, 3, M.now, M.now + j.lim, -1, (iP M j.wid : Int))
def aW (M : Md) (i : Nat) : Md := { M with L := M.L.set i (fT M (M.L.getD i default)) }
def df (M : Md) (id at' : Int) : Bool × Md :=
 if fO M id at' then
  if at' = M.now then (true, aW M (id - 1).toNat)
  else (true, { M with L := M.L.set (id - 1).toNat ((M.L.getD (id - 1).toNat default).aG at') })
 else (false, M)
abbrev Rl : Type := Int × Int × Int × Int × Int × Int × Int × Int × Int
def fK (e : Int) : Rl := (e, 0, 0, 0, 0, 0, 0, 0, 0)
def nQ (j : Jb) : Rl := (0, j.id, j.st, j.jC, j.fin, j.aN, j.wid, j.prio, 0)
def EU (M : Md) : Nat := M.L.countP fun j => decide (j.st < 4)
structure Rw where
 kind : Int
 id : Int
 usr : Int
 wid : Int
 lim : Int
 prio : Int
 held : Bool
 node : Int
 by' : Int
def dB (M : Md) (r : Rw) : Jb := ((M.L.length : Int) + 1, r.usr, r.wid, r.lim, r.prio, if r.held then 2 else 1, -1, -1, -1, 0)
def iF (M : Md) (r : Rw) : Int :=
 if r.usr < 0 ∨ 255 < r.usr ∨ r.prio < 0 ∨ 1000 < r.prio then 1
 else if r.wid < 1 ∨ (M.dr.length : Int) < r.wid then 9
 else if r.lim < 1 ∨ 1048576 < r.lim then 10
 else if 63 < EU M ∨ 1023 < M.L.length then 6 else 0
def jS (M : Md) (r : Rw) : Rl × Md :=
 if iF M r ≠ 0 then (fK (iF M r), M)
 else if r.held then (nQ (dB M r), { M with L := M.L ++ [dB M r] })
 else (nQ (dB M r), fC { M with L := M.L ++ [dB M r] } (dB M r))
def iQ (M : Md) (kind : Int) (j : Jb) : Jb := ((if j.st = 3 then j.Ty M.now else j).aG (-1)).setSt (if kind = 5 then 4 else 5)
def mJ (M : Md) (r : Rw) : Rl × Md :=
 let j := (getM M r.id).1
 if (getM M r.id).2 = false then (fK 7, M)
 else if 3 < j.st ∨ (r.kind = 5 ∧ j.st ≠ 3) then (fK 8, M)
 else (nQ (iQ M r.kind j), { M with L := M.L.set (r.id - 1).toNat (iQ M r.kind j) })
def fD (kind : Int) (j : Jb) : Jb := if kind = 3 then (j.setSt 2).aG (-1) else if kind = 4 then j.setSt 1 else j
def fV (M : Md) (r : Rw) : Rl × Md :=
 let j := (getM M r.id).1
 if (getM M r.id).2 = false then (fK 7, M)
 else if (r.kind = 3 ∧ j.st ≠ 1) ∨ (r.kind = 4 ∧ j.st ≠ 2) then (fK 8, M)
 else if r.kind = 4 then (nQ (fD r.kind j), fC { M with L := M.L.set (r.id - 1).toNat (fD r.kind j) } (fD r.kind j))
 else (nQ (fD r.kind j), { M with L := M.L.set (r.id - 1).toNat (fD r.kind j) })
def lW : Jb := default
def fJ (M : Md) (n : Nat) (b : Bool) : Md :=
 if b then { fC M lW with dr := M.dr.set n true } else { M with dr := M.dr.set n false }
def iA (M : Md) (r : Rw) : Rl × Md :=
 if r.node < 0 ∨ (M.dr.length : Int) ≤ r.node then (fK 11, M)
 else if M.dr.getD r.node.toNat false = decide (r.kind = 7) then (fK 8, M)
 else ((0, r.node, aR (fJ M r.node.toNat (decide (r.kind = 7))) r.node, 0, 0, 0, 0, 0, 0), fJ M r.node.toNat (decide (r.kind = 7)))
def EW (now : Int) (b : Int) (j : Jb) : Int :=
 let b1 := if j.st = 3 then oP b j.fin now else b
 if aj j then oP b1 j.aN now else b1
def aS (M : Md) : Int := M.L.foldl (EW M.now) (-1)
def aU (now : Int) (j : Jb) : Jb := if j.st = 3 ∧ j.fin = now then j.setSt 6 else j
def iG (L : List Jb) (now : Int) : Nat → Int
 | 0 => -1
 | i + 1 => if aj (L.getD i default) = true ∧ (L.getD i default).aN = now ∧ (iG L now i < 0 ∨ aV (L.getD i default) (L.getD (iG L now i).toNat default) = true) then (i : Int) else iG L now i
def firstM (M : Md) : Int := iG M.L M.now M.L.length
def startGo : Nat → Md → Md
 | 0, M => M
 | n + 1, M => if 0 ≤ firstM M then startGo n (aW M (firstM M).toNat) else startGo n M
def dN (M : Md) : Md := startGo M.L.length { M with L := M.L.map (aU M.now) }
def dG (to : Int) : Nat → Md → Md
 | 0, M => M
 | n + 1, M => if aS M < 0 ∨ to < aS M then M else dG to n (dN { M with now := aS M })
def qa (M : Md) (to : Int) : Md := { dG to (2 * M.L.length + 1) M with now := to }
def mQ (M : Md) (by' : Int) : Rl × Md :=
 if by' < 1 ∨ 1099511627776 - M.now < by' then (fK 10, M)
 else ((0, 0, 0, M.now + by', 0, 0, ay (qa M (M.now + by')) (M.now + by') 0, 0, 0), qa M (M.now + by'))
def oq (M : Md) (a : Int) : Nat := M.L.countP fun j => decide (j.st = a)
def lX (M : Md) (a b : Int) : Nat := (List.range M.dr.length).countP fun k : Nat => decide (aR M k = a) || decide (aR M k = b)
def fE (M : Md) (r : Rw) : Rl × Md :=
 if M.cl then (fK 12, M)
 else if r.kind = 1 then jS M r
 else if r.kind = 2 ∨ r.kind = 5 then mJ M r
 else if r.kind = 3 ∨ r.kind = 4 ∨ r.kind = 6 then fV M r
 else if r.kind = 7 ∨ r.kind = 8 then iA M r
 else if r.kind = 9 then mQ M r.by'
 else if r.kind = 10 then ((0, 0, 0, 0, 0, 0, lX M 1 1, lX M 2 3, lX M 4 4), M)
 else if r.kind = 11 then ((0, 0, 0, 0, 0, 0, oq M 1, oq M 2, oq M 3), M)
 else if r.kind = 12 then ((0, 0, 0, M.now, 0, 0, ay M M.now 0, 0, 0), M)
 else if r.kind = 13 then (fK 0, { M with cl := true })
 else (fK 4, M)
end Go.Proofs.YtelnhablglomjaaGreat

namespace Go.Proofs.YtelnhablglomjaaGreat
open Go.RowKit Go.Lib Go.Sort
def Gr (w w' : World) : Prop := ∃ q os', w' = grow (w.drewN q) os'
theorem Gr.below {w w' : World} (h : Gr w w') : Below w.heap.size w w' := by
 obtain ⟨q, os, rfl⟩ := h
 exact ⟨rfl, rfl, rfl, by simp, fun k hk => by rw [heap_grow_old _ os (by simpa using hk)]; rfl⟩
theorem Gr.refl (w : World) : Gr w w := ⟨0, #[], by rw [grow_empty]; rfl⟩
end Go.Proofs.YtelnhablglomjaaGreat

namespace Go.Proofs.YtelnhablglomjaaGreat
open Go.RowKit Go.Lib Go.Sort
theorem qK {W : World} {p k : Nat} {cs : List Value} {T : TypeId} (h : W.heap[p]? = some (.cells cs.toArray T (0, 0))) (hk : cs.length = k) :
 Sem.run Tryz.prog (loadCellsFrom ⟨p, 0, none⟩ 0 k #[]) W = .ok cs.toArray W := by
 refine run_loadCellsFrom_list Tryz.prog W _ cs k hk fun j v hj => ?_
 rw [Go.WideShapes.add_plain]
 simp [World.cell?, h, hj]
theorem Tz : ∀ w, Sem.run Tryz.prog (isAgg 92) w = .ok true w := Tryz.isAgg92
theorem bJ : ∀ w, Sem.run Tryz.prog (Go.sizeOf 92) w = .ok 10 w := Tryz.sizeOf92
end Go.Proofs.YtelnhablglomjaaGreat

namespace Go.Proofs.YtelnhablglomjaaGreat
open Go.RowKit Go.Lib
section
variable {w w' : World} {p : Nat} {dv lv : Value} {M : Md}
structure MB (M : Md) : Prop where
 nn : M.dr.length ≤ 64
 ll : M.L.length ≤ 1024
 now : 0 ≤ M.now ∧ M.now ≤ 1099511627776
 wid : ∀ j ∈ M.L, 0 ≤ j.wid ∧ j.wid ≤ 64
 lim : ∀ j ∈ M.L, 0 ≤ j.lim ∧ j.lim ≤ 1048576
 aN : ∀ j ∈ M.L, -1 ≤ j.aN ∧ j.aN ≤ 1099511627776
 fin : ∀ j ∈ M.L, -1 ≤ j.fin ∧ j.fin ≤ 1099512676352
 bQ : ∀ j ∈ M.L, 0 ≤ j.bQ ∧ j.bQ ≤ 18446744073709551615
end
end Go.Proofs.YtelnhablglomjaaGreat

namespace Go.Proofs.YtelnhablglomjaaGreat
open Go.RowKit Go.Lib
section
variable {w w' : World} {p : Nat} {dv lv : Value} {M : Md}
theorem aB.P8 {v : Value} {L : List Jb} (h : aB ai 10 w v L) (i : Nat) (hi : i < L.length) : ∃ b off cap, v = .slice (some ⟨b, off, none⟩) L.length cap ∧ L.length ≤ cap ∧ cap ≤ maxLen ∧ b < w.heap.size ∧ ∀ j u, (ai (L.getD i default))[j]? = some u → w.cell? ⟨b, off + i * 10 + j, none⟩ = some u := by
 obtain ⟨ao, cap, rfl, h1, h2, h3⟩ := h
 obtain ⟨b, off, rfl, hb, hc⟩ := h3 (by omega)
 refine ⟨b, off, cap, rfl, h1, h2, hb, fun j u hj => by rw [Nat.add_assoc]; exact hc i (L.getD i default) j u (by simp [List.getD, hi]) hj⟩
end
end Go.Proofs.YtelnhablglomjaaGreat

namespace Go.Proofs.YtelnhablglomjaaGreat
open Go.RowKit Go.Lib
section
variable {w w' : World} {p : Nat} {dv lv : Value} {M : Md}
theorem aB.shape {α : Type} {enc : α → List Value} {sz : Nat} {v : Value} {L : List α} (h : aB enc sz w v L) : ∃ ao cap, v = .slice ao L.length cap ∧ L.length ≤ cap ∧ cap ≤ 9223372036854775807 := by
 obtain ⟨ao, cap, rfl, h1, h2, _⟩ := h
 exact ⟨ao, cap, rfl, h1, by unfold maxLen at h2; omega⟩
end
end Go.Proofs.YtelnhablglomjaaGreat

namespace Go.Proofs.YtelnhablglomjaaGreat
open Go.RowKit Go.Lib
theorem uS (x1 x2 x3 x4 x5 x6 x7 x8 x9 x0 : Int) : (ai (x1, x2, x3, x4, x5, x6, x7, x8, x9, x0)).toArray = #[.int .i64 x1, .int .i64 x2, .int .i64 x3, .int .i64 x4, .int .i64 x5, .int .i64 x6, .int .i64 x7, .int .i64 x8, .int .i64 x9, .int .u64 x0] := rfl
theorem ko (M : Md) (t : Int) (k : Nat) : 0 ≤ aL M t k ∧ aL M t k ≤ k := by
 unfold aL
 have := List.countP_le_length (p := bU M t) (l := List.range k)
 rw [List.length_range] at this
 omega
theorem nD {L : List Jb} (h : ∀ j ∈ L, 0 ≤ j.wid ∧ j.wid ≤ 64) (t but : Int) : 0 ≤ bV L t but ∧ bV L t but ≤ 64 * L.length := by
 induction L with
 | nil => simp [bV]
 | cons j L ih =>
   have h1 := h j List.mem_cons_self
   have h2 := ih fun x hx => h x (List.mem_cons_of_mem _ hx)
   have e : bV (j :: L) t but = (if kW t but j = true then j.wid else 0) + bV L t but := by
    unfold bV
    by_cases hk : kW t but j = true
    ·simp [hk]
    ·simp [hk]
   rw [e, List.length_cons]
   split <;> omega
section
end
end Go.Proofs.YtelnhablglomjaaGreat

namespace Go.Proofs.YtelnhablglomjaaGreat
def tA (L : List (Int × Int)) (i : Nat) : Int := (L.getD i (0, 0)).1
def tV (L : List (Int × Int)) (i : Nat) : Int := (L.getD i (0, 0)).2
structure Sm (L : List (Int × Int)) (now : Int) (f : Int → Int) : Prop where
 pos : 0 < L.length
 hd : tA L 0 = now
 inc : ∀ i, i + 1 < L.length → tA L i < tA L (i + 1)
 top : ∀ i, i < L.length → tA L i < 1152921504606846976
 rep : ∀ i t, i < L.length → tA L i ≤ t → (i + 1 < L.length → t < tA L (i + 1)) → f t = tV L i
def jT (L : List (Int × Int)) (X : Int → Prop) : Prop := ∀ i, i + 1 < L.length → ¬ X (tA L (i + 1)) → tV L i ≠ tV L (i + 1)
structure Can (L : List (Int × Int)) (now : Int) (f : Int → Int) : Prop where
 sm : Sm L now f
 alt : jT L (fun _ => False)
structure iR (L : List (Int × Int)) (t : Int) (i : Nat) : Prop where
 lt : i < L.length
 le : 0 < i → tA L i ≤ t
 nx : i + 1 < L.length → t < tA L (i + 1)
section
variable {L : List (Int × Int)} {now : Int} {f : Int → Int}
theorem Sm.lt (h : Sm L now f) {i j : Nat} (hij : i < j) (hj : j < L.length) : tA L i < tA L j := by
 induction j with
 | zero => omega
 | succ j ih =>
   rcases Nat.lt_or_ge i j with h1 | h1
   ·have := ih h1 (by omega)
    have := h.inc j hj
    omega
   ·have : i = j := by omega
    subst this
    exact h.inc i hj
theorem Sm.le (h : Sm L now f) {i j : Nat} (hij : i ≤ j) (hj : j < L.length) : tA L i ≤ tA L j := by
 rcases Nat.lt_or_ge i j with h1 | h1
 ·exact Int.le_of_lt (h.lt h1 hj)
 ·have : i = j := by omega
  subst this
  exact Int.le_refl _
theorem Sm.Am (h : Sm L now f) {i : Nat} (hi : i < L.length) : now ≤ tA L i := by
 rw [← h.hd]
 exact h.le (Nat.zero_le _) hi
theorem Sm.P9 (h : Sm L now f) {i j : Nat} (hi : i < L.length) (_hj : j < L.length) (hlt : tA L i < tA L j) : i < j := by
 rcases Nat.lt_or_ge i j with h1 | h1
 ·exact h1
 ·have := h.le h1 hi
  omega
theorem iR.wZ (h : Sm L now f) {t : Int} {i : Nat} (hi : iR L t i) (hn : now ≤ t) : tA L i ≤ t := by
 rcases Nat.eq_zero_or_pos i with h0 | h0
 ·subst h0
  rw [h.hd]; exact hn
 ·exact hi.le h0
theorem iR.val (h : Sm L now f) {t : Int} {i : Nat} (hi : iR L t i) (hn : now ≤ t) : f t = tV L i := h.rep i t hi.lt (hi.wZ h hn) hi.nx
theorem Sm.ix (h : Sm L now f) (t : Int) : ∃ i, iR L t i := by
 have key : ∀ k, k ≤ L.length → (∃ i, iR L t i) ∨ (∀ j, j < L.length → L.length - k ≤ j → t < tA L j) := by
  intro k
  induction k with
  | zero => intro _; exact .inr fun j _ hk => by omega
  | succ k ih =>
    intro hk
    rcases ih (by omega) with h1 | h1
    ·exact .inl h1
    ·by_cases hle : tA L (L.length - (k + 1)) ≤ t
     ·exact .inl ⟨L.length - (k + 1), by omega, fun _ => hle, fun hx => h1 _ hx (by omega)⟩
     ·refine .inr fun j hj hjk => ?_
      rcases Nat.lt_or_ge j (L.length - k) with h2 | h2
      ·have : j = L.length - (k + 1) := by omega
       subst this; omega
      ·exact h1 j hj h2
 rcases key L.length (Nat.le_refl _) with h1 | h1
 ·exact h1
 ·exact ⟨0, h.pos, fun h => by omega, fun hx => h1 1 hx (by omega)⟩
theorem Can.uniq {L' : List (Int × Int)} {g : Int → Int} (h : Can L now f) (h' : Can L' now g) (hfg : ∀ t, now ≤ t → f t = g t) : L = L' := by
 have half : ∀ {L L' : List (Int × Int)} {f g : Int → Int}, Can L now f → Can L' now g → (∀ t, now ≤ t → f t = g t) → ∀ i, (∀ j, j ≤ i → j < L.length ∧ j < L'.length ∧ tA L j = tA L' j ∧ tV L j = tV L' j) → i + 1 < L.length → i + 1 < L'.length ∧ tA L' (i + 1) ≤ tA L (i + 1) := by
  intro L L' f g h h' hfg i hi hlt
  obtain ⟨h1, h2, ea, ev⟩ := hi i (Nat.le_refl _)
  have Zb := h.sm.inc i hlt
  have kG := h.sm.Am h1
  have v1 := h.sm.rep (i + 1) (tA L (i + 1)) hlt (Int.le_refl _) (fun hx => h.sm.inc (i + 1) hx)
  have hne := h.alt i hlt (fun x => x)
  have hf := hfg (tA L (i + 1)) (by omega)
  by_cases hx : i + 1 < L'.length
  ·refine ⟨hx, ?_⟩
   rcases Int.lt_or_le (tA L (i + 1)) (tA L' (i + 1)) with h3 | h3
   ·have v2 := h'.sm.rep i (tA L (i + 1)) h2 (by omega) (fun _ => h3)
    exact absurd (by omega) hne
   ·exact h3
  ·have v2 := h'.sm.rep i (tA L (i + 1)) h2 (by omega) (fun hy => absurd hy hx)
   exact absurd (by omega) hne
 have all : ∀ i, (i < L.length → i < L'.length ∧ tA L i = tA L' i ∧ tV L i = tV L' i) ∧ (i < L'.length → i < L.length) := by
  intro i
  induction i using Nat.strongRecOn with
  | _ i ih =>
    rcases i with _ | i
    ·refine ⟨fun _ => ⟨h'.sm.pos, by rw [h.sm.hd, h'.sm.hd], ?_⟩, fun _ => h.sm.pos⟩
     have v1 := h.sm.rep 0 now h.sm.pos (by rw [h.sm.hd]; exact Int.le_refl _) (fun hx => by have := h.sm.inc 0 hx; rw [h.sm.hd] at this; exact this)
     have v2 := h'.sm.rep 0 now h'.sm.pos (by rw [h'.sm.hd]; exact Int.le_refl _) (fun hx => by have := h'.sm.inc 0 hx; rw [h'.sm.hd] at this; exact this)
     have := hfg now (Int.le_refl _)
     omega
    ·have both : i + 1 < L.length ∨ i + 1 < L'.length → ∀ j, j ≤ i → j < L.length ∧ j < L'.length ∧ tA L j = tA L' j ∧ tV L j = tV L' j := by
      intro hor j hj
      obtain ⟨a, b⟩ := ih j (by omega)
      have hl : j < L.length := by
       rcases hor with h1 | h1
       ·omega
       ·exact b (by omega)
      obtain ⟨c, d, e⟩ := a hl
      exact ⟨hl, c, d, e⟩
     have both' : i + 1 < L.length ∨ i + 1 < L'.length → ∀ j, j ≤ i → j < L'.length ∧ j < L.length ∧ tA L' j = tA L j ∧ tV L' j = tV L j := by
      intro hor j hj
      obtain ⟨a, b, c, d⟩ := both hor j hj
      exact ⟨b, a, c.symm, d.symm⟩
     refine ⟨fun hlt => ?_, fun hlt => (half h' h (fun t ht => (hfg t ht).symm) i (both' (.inr hlt)) hlt).1⟩
     obtain ⟨h1, h2⟩ := half h h' hfg i (both (.inl hlt)) hlt
     obtain ⟨_, h3⟩ := half h' h (fun t ht => (hfg t ht).symm) i (both' (.inl hlt)) h1
     have ea : tA L (i + 1) = tA L' (i + 1) := by omega
     refine ⟨h1, ea, ?_⟩
     have v1 := h.sm.rep (i + 1) (tA L (i + 1)) hlt (Int.le_refl _) (fun hx => h.sm.inc (i + 1) hx)
     have v2 := h'.sm.rep (i + 1) (tA L (i + 1)) h1 (by omega) (fun hx => by rw [ea]; exact h'.sm.inc (i + 1) hx)
     have hge := h.sm.Am hlt
     have := hfg (tA L (i + 1)) hge
     omega
 apply List.ext_getElem?
 intro i
 by_cases hi : i < L.length
 ·obtain ⟨hl, ea, ev⟩ := (all i).1 hi
  simp only [tA, tV, List.getD_eq_getElem?_getD, List.getElem?_eq_getElem hi, List.getElem?_eq_getElem hl, Option.getD_some] at ea ev
  rw [List.getElem?_eq_getElem hi, List.getElem?_eq_getElem hl]
  congr 1
  exact Prod.ext ea ev
 ·have hl : ¬ i < L'.length := fun hl => hi ((all i).2 hl)
  rw [List.getElem?_eq_none (by omega), List.getElem?_eq_none (by omega)]
theorem Can.congr {g : Int → Int} (h : Can L now f) (hfg : ∀ t, now ≤ t → f t = g t) : Can L now g :=
 ⟨⟨h.sm.pos, h.sm.hd, h.sm.inc, h.sm.top, fun i t hi ha hn => by have := h.sm.Am hi; rw [← hfg t (by omega)]; exact h.sm.rep i t hi ha hn⟩, h.alt⟩
def jO (L : List (Int × Int)) (k : Nat) (x : Int × Int) : List (Int × Int) := L.take k ++ x :: L.drop k
def qL (L : List (Int × Int)) (k : Nat) : List (Int × Int) := L.take k ++ L.drop (k + 1)
theorem ou {k : Nat} {x : Int × Int} (hk : k ≤ L.length) : (jO L k x).length = L.length + 1 := by simp [jO]; omega
theorem rF {k : Nat} (hk : k < L.length) : (qL L k).length = L.length - 1 := by simp [qL]; omega
theorem AA {k : Nat} {x : Int × Int} (hk : k ≤ L.length) (m : Nat) (d : Int × Int) : (jO L k x).getD m d = if m < k then L.getD m d else if m = k then x else L.getD (m - 1) d := by
 simp only [jO, List.getD_eq_getElem?_getD]
 have hl : (L.take k).length = k := by rw [List.length_take]; omega
 by_cases h1 : m < k
 ·rw [if_pos h1, List.getElem?_append_left (by omega), List.getElem?_take, if_pos h1]
 ·rw [if_neg h1, List.getElem?_append_right (by omega), hl]
  by_cases h2 : m = k
  ·subst h2; simp
  ·rw [if_neg h2]
   obtain ⟨q, hq⟩ : ∃ q, m - k = q + 1 := ⟨m - k - 1, by omega⟩
   rw [hq, List.getElem?_cons_succ, List.getElem?_drop]
   congr 2
   omega
theorem AB {k : Nat} (hk : k < L.length) (m : Nat) (d : Int × Int) : (qL L k).getD m d = if m < k then L.getD m d else L.getD (m + 1) d := by
 simp only [qL, List.getD_eq_getElem?_getD]
 have hl : (L.take k).length = k := by rw [List.length_take]; omega
 by_cases h1 : m < k
 ·rw [if_pos h1, List.getElem?_append_left (by omega), List.getElem?_take, if_pos h1]
 ·rw [if_neg h1, List.getElem?_append_right (by omega), hl, List.getElem?_drop]
  congr 2
  omega
theorem Ao {k : Nat} {x : Int × Int} (hk : k ≤ L.length) (m : Nat) : tA (jO L k x) m = if m < k then tA L m else if m = k then x.1 else tA L (m - 1) := by
 simp only [tA, AA hk]; split; · rfl
 ·split <;> rfl
theorem Mk {k : Nat} {x : Int × Int} (hk : k ≤ L.length) (m : Nat) : tV (jO L k x) m = if m < k then tV L m else if m = k then x.2 else tV L (m - 1) := by
 simp only [tV, AA hk]; split; · rfl
 ·split <;> rfl
theorem EX {k : Nat} (hk : k < L.length) (m : Nat) : tA (qL L k) m = if m < k then tA L m else tA L (m + 1) := by
 simp only [tA, AB hk]; split <;> rfl
theorem Ml {k : Nat} (hk : k < L.length) (m : Nat) : tV (qL L k) m = if m < k then tV L m else tV L (m + 1) := by
 simp only [tV, AB hk]; split <;> rfl
theorem Sm.ins (h : Sm L now f) {t : Int} {i : Nat} (hi : iR L t i) (hn : now ≤ t) (hne : tA L i ≠ t) (ht : t < 1152921504606846976) : Sm (jO L (i + 1) (t, tV L i)) now f := by
 have hik := hi.lt
 have hk : i + 1 ≤ L.length := by omega
 have hle := hi.wZ h hn
 have hl := ou (x := (t, tV L i)) hk
 have A := Ao (x := (t, tV L i)) hk
 have V := Mk (x := (t, tV L i)) hk
 refine ⟨by omega, ?_, ?_, ?_, ?_⟩
 ·rw [A, if_pos (by omega), h.hd]
 ·intro m hm
  rw [A, A]
  rcases (by omega : m + 1 < i + 1 ∨ m = i ∨ m = i + 1 ∨ i + 1 < m) with h1 | h1 | h1 | h1
  ·rw [if_pos (by omega), if_pos h1]; exact h.inc m (by omega)
  ·subst h1; rw [if_pos (by omega), if_neg (by omega), if_pos rfl]; show tA L m < t; omega
  ·subst h1; rw [if_neg (by omega), if_pos rfl, if_neg (by omega), if_neg (by omega)]
   exact hi.nx (by omega)
  ·rw [if_neg (by omega), if_neg (by omega), if_neg (by omega), if_neg (by omega)]
   have := h.inc (m - 1) (by omega)
   rw [show m - 1 + 1 = m by omega] at this
   rw [show m + 1 - 1 = m by omega]
   exact this
 ·intro m hm
  rw [A]
  split
  ·exact h.top m (by omega)
  ·split
   ·exact ht
   ·exact h.top (m - 1) (by omega)
 ·intro m u hm hle2 hnx
  rw [A] at hle2
  rw [V]
  rcases (by omega : m + 1 < i + 1 ∨ m = i ∨ m = i + 1 ∨ i + 1 < m) with h1 | h1 | h1 | h1
  ·rw [if_pos (by omega)] at hle2 ⊢
   refine h.rep m u (by omega) hle2 fun hx => ?_
   have := hnx (by omega)
   rw [A, if_pos h1] at this
   exact this
  ·subst h1
   rw [if_pos (by omega)] at hle2 ⊢
   have h2 := hnx (by omega)
   rw [A, if_neg (by omega), if_pos rfl] at h2
   have h2 : u < t := h2
   exact h.rep m u (by omega) hle2 fun hx => by have := hi.nx hx; omega
  ·subst h1
   rw [if_neg (by omega), if_pos rfl] at hle2 ⊢
   have hle2 : t ≤ u := hle2
   refine h.rep i u hik (by omega) fun hx => ?_
   have := hnx (by omega)
   rw [A, if_neg (by omega), if_neg (by omega)] at this
   exact this
  ·rw [if_neg (by omega), if_neg (by omega)] at hle2 ⊢
   refine h.rep (m - 1) u (by omega) hle2 fun hx => ?_
   have := hnx (by omega)
   rw [A, if_neg (by omega), if_neg (by omega)] at this
   rw [show m - 1 + 1 = m + 1 - 1 by omega]
   exact this
theorem jT.ins {X Y : Int → Prop} {t : Int} {i : Nat} (h : jT L X) (hik : i < L.length) (hX : ∀ s, X s → Y s) (ht : Y t) : jT (jO L (i + 1) (t, tV L i)) Y := by
 have hk : i + 1 ≤ L.length := by omega
 have hl := ou (x := (t, tV L i)) hk
 have A := Ao (x := (t, tV L i)) hk
 have V := Mk (x := (t, tV L i)) hk
 intro m hm hY
 rw [A] at hY
 rw [V, V]
 rcases (by omega : m + 1 < i + 1 ∨ m = i ∨ m = i + 1 ∨ i + 1 < m) with h1 | h1 | h1 | h1
 ·rw [if_pos h1] at hY
  rw [if_pos (by omega), if_pos h1]
  exact h m (by omega) fun hx => hY (hX _ hx)
 ·subst h1
  rw [if_neg (by omega), if_pos rfl] at hY
  exact absurd ht hY
 ·subst h1
  rw [if_neg (by omega), if_neg (by omega)] at hY
  rw [if_neg (by omega), if_pos rfl, if_neg (by omega), if_neg (by omega)]
  exact h i (by omega) fun hx => hY (hX _ hx)
 ·rw [if_neg (by omega), if_neg (by omega)] at hY
  rw [if_neg (by omega), if_neg (by omega), if_neg (by omega), if_neg (by omega)]
  have := h (m - 1) (by omega)
  rw [show m - 1 + 1 = m by omega] at this
  rw [show m + 1 - 1 = m by omega] at hY ⊢
  exact this fun hx => hY (hX _ hx)
theorem Sm.del (h : Sm L now f) {j : Nat} (hj0 : 0 < j) (hj : j < L.length) (hv : tV L j = tV L (j - 1)) : Sm (qL L j) now f := by
 have hl := rF hj
 have A := EX hj
 have V := Ml hj
 refine ⟨by omega, ?_, ?_, ?_, ?_⟩
 ·rw [A, if_pos hj0, h.hd]
 ·intro m hm
  rw [A, A]
  rcases (by omega : m + 1 < j ∨ m + 1 = j ∨ j ≤ m) with h1 | h1 | h1
  ·rw [if_pos (by omega), if_pos h1]; exact h.inc m (by omega)
  ·rw [if_pos (by omega), if_neg (by omega)]; exact h.lt (by omega) (by omega)
  ·rw [if_neg (by omega), if_neg (by omega)]; exact h.inc (m + 1) (by omega)
 ·intro m hm
  rw [A]
  split
  ·exact h.top m (by omega)
  ·exact h.top (m + 1) (by omega)
 ·intro m u hm hle hnx
  rw [A] at hle
  rw [V]
  rcases (by omega : m + 1 < j ∨ m + 1 = j ∨ j ≤ m) with h1 | h1 | h1
  ·rw [if_pos (by omega)] at hle ⊢
   refine h.rep m u (by omega) hle fun hx => ?_
   have := hnx (by omega)
   rw [A, if_pos h1] at this
   exact this
  ·subst h1
   rw [if_pos (by omega)] at hle ⊢
   by_cases hu : u < tA L (m + 1)
   ·exact h.rep m u (by omega) hle fun _ => hu
   ·rw [show m = m + 1 - 1 by omega, ← hv]
    refine h.rep (m + 1) u (by omega) (by omega) fun hx => ?_
    have := hnx (by omega)
    rw [A, if_neg (by omega)] at this
    exact this
  ·rw [if_neg (by omega)] at hle ⊢
   refine h.rep (m + 1) u (by omega) hle fun hx => ?_
   have := hnx (by omega)
   rw [A, if_neg (by omega)] at this
   exact this
theorem jT.del {X Y : Int → Prop} {j : Nat} (h : jT L X) (hj0 : 0 < j) (hj : j < L.length) (hv : tV L j = tV L (j - 1)) (hX : ∀ s, X s → Y s ∨ s = tA L j) (hs : ∀ m, j < m → m < L.length → tA L j ≠ tA L m) (hs2 : ∀ m, m < j → tA L m ≠ tA L j) : jT (qL L j) Y := by
 have hl := rF hj
 have A := EX hj
 have V := Ml hj
 intro m hm hY
 rw [A] at hY
 rw [V, V]
 rcases (by omega : m + 1 < j ∨ m + 1 = j ∨ j ≤ m) with h1 | h1 | h1
 ·rw [if_pos h1] at hY
  rw [if_pos (by omega), if_pos h1]
  refine h m (by omega) fun hx => ?_
  rcases hX _ hx with h2 | h2
  ·exact hY h2
  ·exact hs2 _ h1 h2
 ·rw [if_neg (by omega)] at hY
  rw [if_pos (by omega), if_neg (by omega)]
  have := h (m + 1) (by omega)
  rw [show m = j - 1 by omega, ← hv, show j = m + 1 by omega]
  rw [show m + 1 - 1 = m by omega]
  refine this fun hx => ?_
  rcases hX _ hx with h2 | h2
  ·exact hY h2
  ·exact hs _ (by omega) (by omega) h2.symm
 ·rw [if_neg (by omega)] at hY
  rw [if_neg (by omega), if_neg (by omega)]
  refine h (m + 1) (by omega) fun hx => ?_
  rcases hX _ hx with h2 | h2
  ·exact hY h2
  ·exact hs _ (by omega) (by omega) h2.symm
structure Ap (L L' : List (Int × Int)) (i j : Nat) (n : Int) : Prop where
 len : L'.length = L.length
 a : ∀ m, tA L' m = tA L m
 v : ∀ m, m < L.length → tV L' m = tV L m + (if i ≤ m ∧ m < j then n else 0)
def had (a b n t : Int) : Int := if a ≤ t ∧ (t < b ∨ b = 1152921504606846976) then n else 0
theorem Sm.raise {L' : List (Int × Int)} {i j : Nat} {n a b : Int} (h : Sm L now f) (hr : Ap L L' i j n) (hi : i < L.length) (ha : tA L i = a)
 (hj : (j < L.length ∧ tA L j = b) ∨ (j = L.length ∧ b = 1152921504606846976)) : Sm L' now (fun t => f t + had a b n t) := by
 refine ⟨by rw [hr.len]; exact h.pos, by rw [hr.a]; exact h.hd, fun m hm => by rw [hr.a, hr.a]; rw [hr.len] at hm; exact h.inc m hm, fun m hm => by rw [hr.a]; rw [hr.len] at hm; exact h.top m hm, fun m t hm hle hnx => ?_⟩
 rw [hr.len] at hm hnx
 rw [hr.a] at hle hnx
 rw [hr.v m hm]
 show f t + had a b n t = _
 rw [h.rep m t hm hle hnx]
 congr 1
 unfold had
 have h1 : a ≤ t ↔ i ≤ m := by
  constructor
  ·intro h1
   rcases Nat.lt_or_ge m i with h2 | h2
   ·have h3 := h.le (i := m + 1) (j := i) (by omega) hi
    have := hnx (by omega)
    omega
   ·exact h2
  ·intro h1
   have := h.le h1 hm
   omega
 have h2 : (t < b ∨ b = 1152921504606846976) ↔ m < j := by
  rcases hj with ⟨hj, hb⟩ | ⟨hj, hb⟩
  ·have htop := h.top j hj
   constructor
   ·intro h1
    rcases Nat.lt_or_ge m j with h2 | h2
    ·exact h2
    ·have := h.le h2 hm
     omega
   ·intro h1
    have h3 := h.le (i := m + 1) (j := j) (by omega) hj
    have := hnx (by omega)
    exact .inl (by omega)
  ·exact ⟨fun _ => by omega, fun _ => .inr hb⟩
 by_cases hc : i ≤ m ∧ m < j
 ·rw [if_pos hc, if_pos ⟨h1.2 hc.1, h2.2 hc.2⟩]
 ·rw [if_neg hc, if_neg fun hx => hc ⟨h1.1 hx.1, h2.1 hx.2⟩]
theorem jT.raise {L' : List (Int × Int)} {i j : Nat} {n a b : Int} {X Y : Int → Prop} (h : jT L X) (hr : Ap L L' i j n) (ha : tA L i = a)
 (hj : (j < L.length ∧ tA L j = b) ∨ (j = L.length ∧ b = 1152921504606846976)) (hX : ∀ s, X s → Y s) (Yn : Y a) (hY2 : Y b) : jT L' Y := by
 intro m hm hY
 rw [hr.len] at hm
 rw [hr.a] at hY
 have h0 := h m hm fun hx => hY (hX _ hx)
 rw [hr.v m (by omega), hr.v (m + 1) hm]
 have e1 : m + 1 ≠ i := fun e => by rw [e, ha] at hY; exact hY Yn
 have e2 : m + 1 ≠ j := fun e => by
  rcases hj with ⟨hj, hb⟩ | ⟨hj, hb⟩
  ·rw [e, hb] at hY; exact hY hY2
  ·omega
 by_cases hc : i ≤ m ∧ m < j
 ·rw [if_pos hc, if_pos (by omega)]; omega
 ·rw [if_neg hc, if_neg (by omega)]; omega
theorem Can.later {L' : List (Int × Int)} {k : Nat} {t : Int} (h : Can L now f) (hk : iR L t k) (hn : now ≤ t) (ht : t < 1152921504606846976) (hl : L'.length = L.length - k) (h0 : tA L' 0 = t) (ha : ∀ m, 0 < m → tA L' m = tA L (m + k)) (hv : ∀ m, tV L' m = tV L (m + k)) : Can L' t f := by
 have hkl := hk.lt
 have hle := hk.wZ h.sm hn
 refine ⟨⟨by omega, h0, fun m hm => ?_, fun m hm => ?_, fun m u hm hle2 hnx => ?_⟩, fun m hm _ => ?_⟩
 ·rw [ha (m + 1) (by omega)]
  rcases Nat.eq_zero_or_pos m with h1 | h1
  ·subst h1
   rw [h0, show 0 + 1 + k = k + 1 by omega]
   exact hk.nx (by omega)
  ·rw [ha m h1, show m + 1 + k = m + k + 1 by omega]
   exact h.sm.inc (m + k) (by omega)
 ·rcases Nat.eq_zero_or_pos m with h1 | h1
  ·subst h1; rw [h0]; exact ht
  ·rw [ha m h1]; exact h.sm.top (m + k) (by omega)
 ·rw [hv]
  refine h.sm.rep (m + k) u (by omega) ?_ fun hx => ?_
  ·rcases Nat.eq_zero_or_pos m with h1 | h1
   ·subst h1; rw [h0] at hle2; rw [show 0 + k = k by omega]; omega
   ·rw [ha m h1] at hle2; exact hle2
  ·have := hnx (by omega)
   rw [ha (m + 1) (by omega)] at this
   rw [show m + k + 1 = m + 1 + k by omega]
   exact this
 ·rw [hv, hv, show m + 1 + k = m + k + 1 by omega]
  exact h.alt (m + k) (by omega) (fun x => x)
end
structure BL (f : Int → Int) (lo hi m : Int) : Prop where
 le : m ≤ 64
 all : ∀ t, lo ≤ t → t < hi → m ≤ f t
 one : m = 64 ∨ ∃ t, lo ≤ t ∧ t < hi ∧ f t = m
section
end
end Go.Proofs.YtelnhablglomjaaGreat

namespace Go.Proofs.YtelnhablglomjaaGreat
def AJ (j : Jb) : List Int := (if j.st = 3 then [j.fin] else []) ++ (if aj j = true then [j.aN, j.aN + j.lim] else [])
def qy (L : List Jb) : List Int := L.flatMap AJ
theorem GX (j : Jb) : (AJ j).length ≤ 2 := by
 unfold AJ
 by_cases h3 : j.st = 3
 ·have : aj j = false := by unfold aj; rw [decide_eq_false (by omega)]; rfl
  simp [h3, this]
 ·rw [if_neg h3]
  by_cases hp : aj j = true
  ·rw [if_pos hp]; simp
  ·rw [if_neg hp]; simp
theorem GY (L : List Jb) : (qy L).length ≤ 2 * L.length := by
 induction L with
 | nil => simp [qy]
 | cons j L ih =>
   have h1 := GX j
   have : qy (j :: L) = AJ j ++ qy L := by simp [qy]
   rw [this, List.length_append, List.length_cons]
   omega
def kr (E : List Int) (last b : Int) : Prop := (b < 0 ∧ ∀ t ∈ E, t ≤ last) ∨ (0 ≤ b ∧ last < b ∧ b ∈ E ∧ ∀ t ∈ E, last < t → b ≤ t)
theorem gT {E : List Int} {last b t : Int} (hl : 0 ≤ last) (h : kr E last b) : kr (E ++ [t]) last (oP b t last) := by
 unfold oP
 by_cases hc : last < t ∧ (b < 0 ∨ t < b)
 ·rw [if_pos hc]
  refine .inr ⟨by omega, hc.1, by simp, fun u hu Vi => ?_⟩
  rw [List.mem_append, List.mem_singleton] at hu
  rcases hu with hu | rfl
  ·rcases h with ⟨_, h2⟩ | ⟨_, _, _, h4⟩
   ·have := h2 u hu; omega
   ·have := h4 u hu Vi; omega
  ·omega
 ·rw [if_neg hc]
  rcases h with ⟨h1, h2⟩ | ⟨h1, h2, h3, h4⟩
  ·refine .inl ⟨h1, fun u hu => ?_⟩
   rw [List.mem_append, List.mem_singleton] at hu
   rcases hu with hu | rfl
   ·exact h2 u hu
   ·omega
  ·refine .inr ⟨h1, h2, by simp [h3], fun u hu Vi => ?_⟩
   rw [List.mem_append, List.mem_singleton] at hu
   rcases hu with hu | rfl
   ·exact h4 u hu Vi
   ·omega
theorem EY {E : List Int} {last b : Int} (hl : 0 ≤ last) (h : kr E last b) (j : Jb) : kr (E ++ AJ j) last (ET last b j) := by
 unfold ET AJ
 by_cases h3 : j.st = 3
 ·have hp : aj j = false := by unfold aj; rw [decide_eq_false (by omega)]; rfl
  simp only [h3, hp, if_true, Bool.false_eq_true, if_false, List.append_nil]
  exact gT hl h
 ·simp only [h3, if_false, xD]
  by_cases hp : aj j = true
  ·simp only [hp, if_true]
   have := gT (t := j.aN + j.lim) hl (gT (t := j.aN) hl h)
   rw [List.append_assoc] at this
   exact this
  ·simp only [hp, Bool.false_eq_true, if_false, List.append_nil]
   exact h
theorem EZ {L : List Jb} {E : List Int} {last b : Int} (hl : 0 ≤ last) (h : kr E last b) : kr (E ++ qy L) last (L.foldl (ET last) b) := by
 induction L generalizing E b with
 | nil => simpa [qy] using h
 | cons j L ih =>
   have := ih (EY hl h j)
   rw [List.append_assoc] at this
   exact this
theorem rG (L : List Jb) {last : Int} (hl : 0 ≤ last) : kr (qy L) last (kH L last) := by
 have := EZ (L := L) (E := []) (b := -1) hl (.inl ⟨by omega, fun t ht => by cases ht⟩)
 simpa [kH] using this
theorem oQ (L : List Jb) {n : Nat} {last : Int} (hl : 0 ≤ last) : ∀ t ∈ timesGo L n last, last < t ∧ t ∈ qy L := by
 induction n generalizing last with
 | zero => intro t ht; cases ht
 | succ n ih =>
   intro t ht
   unfold timesGo at ht
   have hb := rG L hl
   by_cases h : kH L last < 0
   ·rw [if_pos h] at ht; cases ht
   ·rw [if_neg h] at ht
    rcases hb with ⟨h1, _⟩ | ⟨h1, h2, h3, _⟩
    ·exact absurd h1 h
    ·rcases List.mem_cons.1 ht with rfl | ht
     ·exact ⟨h2, h3⟩
     ·have := ih (by omega) t ht
      exact ⟨by omega, this.2⟩
theorem Ab (L : List Jb) {n : Nat} {last : Int} (hl : 0 ≤ last) : (timesGo L n last).Pairwise (· < ·) := by
 induction n generalizing last with
 | zero => exact List.Pairwise.nil
 | succ n ih =>
   unfold timesGo
   have hb := rG L hl
   by_cases h : kH L last < 0
   ·rw [if_pos h]; exact List.Pairwise.nil
   ·rw [if_neg h]
    have h0 : 0 ≤ kH L last := by omega
    exact List.Pairwise.cons (fun t ht => (oQ L h0 t ht).1) (ih h0)
theorem E5 (L : List Jb) {n : Nat} {last : Int} (hl : 0 ≤ last) (hn : ((qy L).filter fun t => decide (last < t)).length ≤ n) : ∀ t ∈ qy L, last < t → t ∈ timesGo L n last := by
 induction n generalizing last with
 | zero =>
   intro t ht hlt
   have : t ∈ (qy L).filter fun t => decide (last < t) := List.mem_filter.2 ⟨ht, by simpa using hlt⟩
   have := List.length_pos_of_mem this
   omega
 | succ n ih =>
   intro t ht hlt
   unfold timesGo
   have hb := rG L hl
   rcases hb with ⟨h1, h2⟩ | ⟨h1, h2, h3, h4⟩
   ·have := h2 t ht; omega
   ·rw [if_neg (by omega)]
    rcases Int.lt_or_le (kH L last) t with h5 | h5
    ·refine List.mem_cons_of_mem _ (ih h1 ?_ t ht h5)
     have hlt2 : ((qy L).filter fun u => decide (kH L last < u)).length < ((qy L).filter fun u => decide (last < u)).length := by
      have hs : ((qy L).filter fun u => decide (kH L last < u)) = ((qy L).filter fun u => decide (last < u)).filter fun u => decide (kH L last < u) := by
       rw [List.filter_filter]
       refine List.filter_congr fun u _ => ?_
       by_cases h6 : kH L last < u
       ·have : last < u := by omega
        simp [h6, this]
       ·simp [h6]
      rw [hs]
      refine Nat.lt_of_le_of_ne (List.length_filter_le _ _) fun he => ?_
      have := List.length_filter_eq_length_iff.1 he (kH L last) (List.mem_filter.2 ⟨h3, by simpa using h2⟩)
      simp at this
     omega
    ·have := h4 t ht hlt
     have : t = kH L last := by omega
     rw [this]
     exact List.mem_cons_self
theorem tK {M : Md} (h0 : 0 ≤ M.now) (t : Int) : t ∈ nC M ↔ t = M.now ∨ (M.now < t ∧ t ∈ qy M.L) := by
 unfold nC
 rw [List.mem_cons]
 constructor
 ·rintro (h | h)
  ·exact .inl h
  ·exact .inr (oQ M.L h0 t h)
 ·rintro (h | ⟨h1, h2⟩)
  ·exact .inl h
  ·exact .inr (E5 M.L h0 (Nat.le_trans (List.length_filter_le _ _) (GY M.L)) t h2 h1)
theorem AL {M : Md} (h0 : 0 ≤ M.now) : (nC M).Pairwise (· < ·) :=
 List.Pairwise.cons (fun t ht => (oQ M.L h0 t ht).1) (Ab M.L h0)
end Go.Proofs.YtelnhablglomjaaGreat

namespace Go.Proofs.YtelnhablglomjaaGreat
open Go.RowKit Go.Lib
def zg (s : Int × Int) : List Value := [.int .i64 s.1, .int .i64 s.2]
section
variable {w w' : World} {p : Nat} {dv lv : Value} {M : Md}
theorem E8 (hb : MB M) (t but : Int) : -65536 ≤ ay M t but ∧ ay M t but ≤ 64 := by
 have h1 := ko M t M.dr.length
 have h2 := nD hb.wid t but
 have := hb.nn
 have := hb.ll
 unfold ay
 omega
end
end Go.Proofs.YtelnhablglomjaaGreat
