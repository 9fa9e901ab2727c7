/-
 Own words and walks, merged: part 1 of 4.
-/
import Derived.WalkKit
import Derived.ProofKit
import Derived.OpenShut
import Derived.Deep.Slices
import Derived.Deep.Fields
import Derived.ChangeSame
import Derived.Laws.AppendOwn
import Derived.Test.YtbdfpbknckghgaaGreatChecked
import Derived.Laws.Rows
import Derived.WalkSpells
import Derived.WalkLawsBesides
import Derived.Lib.Hide
import Derived.Lib.MinMax
import Derived.Deep.AppendSrc
import Derived.Lib.OwnBridge
import Derived.Sort.Grow
import Derived.Shelf.GgSortFunc.RowK
import Derived.Lib.AppendZerosOnto
import Derived.Lib.Overlaps
import Derived.Laws.CopyRow
import Derived.Laws.Externs
import Derived.BigQuiet
import Derived.Laws.StructEq
import Derived.Deep.DeepMust
import Derived.LaidEql
import Derived.Orders
import Derived.Deep.LoopGhost
import Derived.Shelf.SlicesQ.Load
import Derived.Shelf.SlGeneric
import Derived.Shelf.SlSortCmp.InsertionK
import Derived.Ground.SlsfProg
import Derived.Test.YtbdfpbknckghgaaGreatProg
import Derived.Laws.ResultCell
import Derived.RegionTactic
import Derived.ChangeAlike
import Derived.Deep.QuietTactic
import Derived.OwnWalk
set_option maxRecDepth 1000000
set_option maxHeartbeats 8000000
set_option linter.all false
namespace Go.Proofs.YtbdfpbknckghgaaGreat
theorem xA.{u} {a : Type u} (l : List a) (i : Nat) (x : a) : l.toArray.setIfInBounds i x = (l.set i x).toArray := List.setIfInBounds_toArray l i x
theorem xB.{u} {a : Type u} {x : a} {xs : List a} {y : a} : (x :: xs).set 0 y = y :: xs := rfl
theorem xC.{u} {a : Type u} {x : a} {xs : List a} {i : Nat} {y : a} : (x :: xs).set (i + 1) y = x :: xs.set i y := rfl
theorem xD.{u} {a : Type u} (l : List a) : [] ++ l = l := rfl
theorem xE.{u} {a : Type u} {x : a} {l k : List a} : x :: l ++ k = x :: (l ++ k) := rfl
end Go.Proofs.YtbdfpbknckghgaaGreat


namespace Go.Proofs.YtbdfpbknckghgaaGreat
open Go.ChangeShapes Go.WideShapes Go.RowKit
theorem gF {H : Type} {enc : TypeId × Value → H} {P : Program} (hl : laidOutB P = true) {W W' : World} (hb : Below W.heap.size W W') {sp : Nat → Bool} :
 ∀ (ts : List TypeId) (vs : List Value) (ds : List (DataW H)) (ps : List MemPlace), (∀ t ∈ ts, P.readableRec t = true ∧ t < P.types.size) → (∀ x ∈ ps, x.block < W.heap.size ∧ sp x.block = true) →
  DataW.TrodAll enc P W 0 (fun _ => true) true ts vs ds ps → DataW.TrodAll enc P W' 0 sp true ts vs ds ps
 | [], vs, ds, ps, _, _, h => by
   obtain ⟨rfl, rfl, rfl⟩ := trodAll_nil h
   exact trodAll_mk0
 | t :: ts, vs, ds, ps, hr, hp, h => by
   obtain ⟨v, vs1, d, ds1, a, b, rfl, rfl, rfl, h1, h2⟩ := trodAll_cons h
   refine ⟨a, b, ?_, gF hl hb ts vs1 ds1 b (fun t ht => hr t (List.mem_cons_of_mem _ ht)) (fun x hx => hp x (List.mem_append_right _ hx)) h2, rfl⟩
   exact WideElems.Trod_stays hl (hr t (List.mem_cons_self ..)).1 (hr t (List.mem_cons_self ..)).2 h1 (fun x hx => hb.same (hp x (List.mem_append_left _ hx)).1) (fun x hx => (hp x (List.mem_append_left _ hx)).2)
theorem sG {H : Type} {enc : TypeId × Value → H} {P : Program} {f : Func} {s : ChangeSpec} {apart fresh handsOn again : Bool} {W W' : World} {args : Array Value} {ds : List (DataW H)} {before : List MemPlace} {tb : TypeId}
 (hW : DataW.Whole enc P f.params.toList s.vars apart W args.toList ds [] before) (hvars : s.vars = []) (hfn : s.fn H (ds ++ []) = { results := [.lit (.bool true)], args := ds, vars := [] })
 (hrt : f.resultTypes = #[tb]) (htb : P.underlying tb = some .bool) (hl : laidOutB P = true) (hr : ∀ t ∈ f.params.toList, P.readableRec t = true ∧ t < P.types.size) (hb : Below W.heap.size W W') :
 s.post enc P f apart fresh handsOn again W args (.bool true) W' := by
 have hlt := fun p hp => hW.lt p hp
 obtain ⟨p, q, hA, hV, hps, hz, hn⟩ := hW
 have hW0 : DataW.Whole enc P f.params.toList s.vars apart W args.toList ds [] before := ⟨p, q, hA, hV, hps, hz, hn⟩
 rw [hvars] at hV
 obtain ⟨_, rfl⟩ := trodVars_none hV
 rw [List.append_nil] at hps
 subst hps
 have hold : ∀ x ∈ before, x.block < W.heap.size ∧ (fun b => decide (b < W.heap.size)) x.block = true := fun x hx => by have := hlt x hx; exact ⟨this, by simpa using this⟩
 have hres : ∀ (b : Nat) (sp : Nat → Bool) (hd : Bool), DataW.TrodAll enc P W' b sp hd f.resultTypes.toList ((Value.bool true).resultList f.resultTypes.size) (s.fn H (ds ++ [])).results [] := by
  intro b sp hd
  rw [hrt, hfn]
  exact trodAll_mk1 (shut_bool htb true)
 have hargs : ∀ sp : Nat → Bool, (∀ x ∈ before, sp x.block = true) → DataW.TrodAll enc P W' 0 sp true f.params.toList args.toList (s.fn H (ds ++ [])).args before := by
  intro sp hsp
  rw [hfn]
  exact gF hl hb _ _ _ _ hr (fun x hx => ⟨(hold x hx).1, hsp x hx⟩) hA
 have hvs : ∀ sp : Nat → Bool, DataW.TrodVars enc P W' sp s.vars (s.fn H (ds ++ [])).vars [] := by
  intro sp
  rw [hfn, hvars]
  rfl
 refine ⟨ds, [], before, [], before, [], hW0, hres _ _ _, hargs _ fun x hx => (hold x hx).2, hvs _, World.keptBut_mono (fun x hx => ⟨hx, by first | exact Or.inr hx | (right; simpa using hx)⟩) (hb.frame (· ∈ before)), fun _ => ?_⟩
 refine ⟨ok_one hrt rfl (okWide_bool_mk htb true), _, _, ([] ++ before) ++ [], ⟨[] ++ before, [], trodAll_append (hargs _ (fun _ _ => rfl)) (hres _ _ _), hvs _, rfl, ?_, ?_⟩, ?_⟩
 ·intro b off hp
  have hp : MemPlace.cell b off ∈ before := by simpa using hp
  rw [hb.frozen (p := ⟨b, off, none⟩) (hold _ hp).1]
  exact hz b off hp
 ·intro ha
  simpa using hn ha
 ·intro x hx _
  simpa using hx
theorem yj {P : Program} {l : List TypeId} (h : (l.all fun t => P.readableRec t && decide (t < P.types.size)) = true) : ∀ t ∈ l, P.readableRec t = true ∧ t < P.types.size := by
 intro t ht
 have := List.all_eq_true.1 h t ht
 simpa using this
end Go.Proofs.YtbdfpbknckghgaaGreat

namespace Go.Proofs.YtbdfpbknckghgaaGreat
open Go.ChangeShapes Go.WideShapes Go.ChangeAt Go.RowKit Go.Deep
def ai {α : Type} (enc : α → List Value) (sz : Nat) (w : World) (v : Value) (l : List α) : Prop :=
 ∃ ao cap, v = .slice ao l.length cap ∧ l.length ≤ cap ∧ cap ≤ maxLen ∧
  (0 < l.length → ∃ b off, ao = some ⟨b, off, none⟩ ∧ b < w.heap.size ∧ ∀ i s j u, l[i]? = some s → (enc s)[j]? = some u → w.cell? ⟨b, off + (i * sz + j), none⟩ = some u)
section
variable {α : Type} {enc : α → List Value} {sz : Nat} {w w' : World} {v : Value} {l : List α}
theorem ai.below (h : ai enc sz w v l) (hb : Below w.heap.size w w') : ai enc sz w' v l := by
 obtain ⟨ao, cap, h1, h2, h3, h4⟩ := h
 refine ⟨ao, cap, h1, h2, h3, fun hn => ?_⟩
 obtain ⟨b, off, e, hlt, hc⟩ := h4 hn
 refine ⟨b, off, e, Nat.lt_of_lt_of_le hlt hb.size, fun i s j u hi hj => ?_⟩
 rw [hb.cell (p := ⟨b, _, none⟩) hlt]
 exact hc i s j u hi hj
theorem ai.nil (w : World) : ai enc sz w (.slice none 0 0) ([] : List α) := ⟨none, 0, rfl, Nat.le_refl _, Nat.zero_le _, fun h => absurd h (by simp)⟩
theorem ai.cut {ao : Option Addr} {m cap n : Nat} (h : ai enc sz w (.slice ao m cap) l) (hn : n ≤ l.length) : ai enc sz w (.slice ao n cap) (l.take n) := by
 obtain ⟨Af, cap', e, h2, h3, h4⟩ := h
 cases e
 have hl : (l.take n).length = n := by rw [List.length_take]; omega
 refine ⟨ao, cap, by rw [hl], by omega, h3, fun hp => ?_⟩
 obtain ⟨b, off, e, hlt, hc⟩ := h4 (by omega)
 refine ⟨b, off, e, hlt, fun i s j u hi hj => hc i s j u ?_ hj⟩
 rw [List.getElem?_take] at hi
 split at hi
 ·exact hi
 ·cases hi
theorem ai.fT {base : Nat} {e : TypeId} {n : Nat} {xs : List Value} (h : w.ownsRow base e sz v n xs) (hlen : ∀ s, (enc s).length = sz) (hx : xs = l.flatMap enc) (hn : n = l.length) : ai enc sz w v l := by
 subst hx
 subst hn
 rcases h.2 with ⟨rfl, h0⟩ | ⟨g, cap, cur, rfl, _, hg, hc1, hc2, _, _⟩
 ·have : l = [] := by
   rcases l with _ | ⟨s, l⟩
   ·rfl
   ·simp at h0
  subst this
  exact ai.nil w
 ·refine ⟨_, _, rfl, hc1, hc2, fun _ => ⟨g, 0, rfl, ?_, fun i s j u hi hj => ?_⟩⟩
  ·rcases Nat.lt_or_ge g w.heap.size with hlt | hge
   ·exact hlt
   ·rw [Array.getElem?_eq_none hge] at hg; cases hg
  ·have hj' : j < sz := by rw [← hlen s]; exact (List.getElem?_eq_some_iff.1 hj).1
   have key : ∀ (l : List α) (i : Nat), l[i]? = some s → (l.flatMap enc)[i * sz + j]? = some u := by
    intro l
    induction l with
    | nil => intro i hi; simp at hi
    | cons a l ih =>
      intro i hi
      rw [List.flatMap_cons]
      rcases i with _ | i
      ·simp at hi
       subst hi
       rw [List.getElem?_append_left (by rw [hlen]; omega)]
       simpa using hj
      ·rw [List.getElem?_append_right (by rw [hlen, Nat.add_mul]; omega), hlen]
       have := ih i (by simpa using hi)
       rw [← this]
       congr 1
       rw [Nat.add_mul]; omega
   have := h.cells (g := g) rfl (i * sz + j) u (key l i hi)
   rw [Go.WideShapes.add_plain] at this
   simpa using this
end
section
end
end Go.Proofs.YtbdfpbknckghgaaGreat

namespace Go.Proofs.YtbdfpbknckghgaaGreat
theorem l5 {p : Prop} (f : p := by
 rcases Nat.lt_or_ge g w.heap.size with h1 | h1
 ·exact h1
 ·rw [Array.getElem?_eq_none h1] at h; cases h) : p := f
end Go.Proofs.YtbdfpbknckghgaaGreat
namespace Go.Proofs.YtbdfpbknckghgaaGreat
open Go.RowKit
theorem heap_put {w : World} {g i : Nat} {cs : Array Value} {t : TypeId} {fr : Nat × Nat} (h : w.heap[g]? = some (.cells cs t fr)) (v : Value) : (w.setCell ⟨g, i, none⟩ v).heap[g]? = some (.cells (cs.setIfInBounds i v) t fr) := by
 simp [World.setCell, Array.getElem?_modify, h]
theorem dF {w : World} {g : Nat} {o o' : Obj} (h : w.heap[g]? = some o) : (w.alloc o').heap[g]? = some o := by
 have hlt : g < w.heap.size := by
  exact l5
 exact (Go.heap_alloc_old w o' hlt).trans h
def Ag (d : TypeDesc) : Bool := match d with | .struct _ | .array _ _ => true | _ => false
theorem bg {fn : Func} {K : Ending → World → Prop} {a : Act} {w : World} {p : Tmp} {ty : TypeId} {g : Nat} {t : TypeId} {cs : Array Value} {fr : Nat × Nat} {d : TypeDesc} (h : fn.results = #[.cell p ty]) (hd0 : a.defers = [])
 (hp : a.tmps.getD p undef = .pointer (some ⟨g, 0, none⟩)) (hg : w.heap[g]? = some (.cells cs t fr))
 (hu : Tryz.prog.underlying ty = some d) (hd : Ag d = true) (hi : (Tryz.prog.info? ty).map (·.size) = some cs.size)
 (hK : K (.returned (.agg cs)) w) : bodyPost Tryz.prog fn K .ret a w := bodyPost_ret (results_cell_row h a.tmps w g t cs fr d hp hg hu (by cases d <;> first | rfl | cases hd) hi) hd0 hK
theorem ae {w : World} {g : Nat} {o : Obj} (h : w.heap[g]? = some o) : g < w.heap.size := by
 exact l5
theorem oV (W : World) (a b : Array Value) (T : TypeId) : (W.alloc (.cells a T)).setRow W.heap.size b = W.alloc (.cells b T) := by
 have h1 : ∀ o, W.alloc o = { W with heap := W.heap.push o } := fun o => rfl
 rw [h1, h1]
 unfold World.setRow
 have h2 : ∀ f : Obj → Obj, (W.heap.push (.cells a T)).modify W.heap.size f = W.heap.push (f (.cells a T)) := fun f => by
  refine Array.ext (by simp) fun i h1 h2 => ?_
  rw [Array.getElem_modify]
  by_cases e : W.heap.size = i
  ·subst e; simp
  ·have : i < W.heap.size := by simp at h2; omega
   simp [e, Array.getElem_push, this]
 simp only [h2]
theorem iC (W : World) (n : Nat) (cs zs : List Value) (T : TypeId) (hn : n = W.heap.size) (hl : cs.length = zs.length) (h1 : ∀ v ∈ cs, v.oneCell' = true) :
 Sem.run Tryz.prog (storeCells ⟨n, 0, none⟩ cs 0) (W.alloc (.cells zs.toArray T)) = .ok () (W.alloc (.cells cs.toArray T)) := by
 subst hn
 have hst := run_storeCells_at Tryz.prog W.heap.size 0 T cs 0 zs.toArray (W.alloc (.cells zs.toArray T)) (heap_alloc_new W _) (by simp [hl]) h1
 simp only [Nat.add_zero] at hst
 rw [hst]
 congr 1
 have e : ((zs.toArray.toList.take 0 ++ cs ++ zs.toArray.toList.drop (0 + cs.length)).toArray) = cs.toArray := by simp [hl]
 rw [e]
 exact oV W _ _ T
end Go.Proofs.YtbdfpbknckghgaaGreat

namespace Go.Proofs.YtbdfpbknckghgaaGreat
theorem dH {p : Prop} (f : p := by
 go_wp2_with fail
 go_at_call 116
 refine hc.mono ?_
 clear hc
 rintro e w3 ⟨rfl, hb3⟩
 rw [← hw1] at hb3
 rw [hs2] at hb3
 have gG := (hT1.below hb2 (by omega)).below hb3 (by omega)
 have hbb : Below w.heap.size w w3 := (hb1.trans (hb2.mono (by omega))).trans (hb3.mono (by omega))
 clear hb2 hs2
 obtain ⟨⟨k0, k1, k2⟩, f0, f1, f2⟩ := gG.cell
 clear hT1 hb1 hb3
 replace gG := Lib.hid gG
 replace hw1 := Lib.hid hw1
 go_wp2_with fail
 refine bg rfl rfl rfl (gG.out.put _ _ _) Tryz.underlying158 rfl (by kernel_rfl) ⟨rfl, ?_⟩
 exact ((hbb.setCell (Nat.le_refl _) _).setCell (Nat.le_refl _) _).setCell (Nat.le_refl _) _) : p := f
theorem eQ {p : Prop} (f : p := by
 obtain ⟨⟨k0, k1, k2⟩, f0, f1, f2⟩ := gG.cell
 clear hT1 hb1 hb3
 replace gG := Lib.hid gG
 replace hw1 := Lib.hid hw1
 go_wp2_with fail
 refine bg rfl rfl rfl (gG.out.put _ _ _) Tryz.underlying158 rfl (by kernel_rfl) ⟨rfl, ?_⟩
 exact ((hbb.setCell (Nat.le_refl _) _).setCell (Nat.le_refl _) _).setCell (Nat.le_refl _) _) : p := f
end Go.Proofs.YtbdfpbknckghgaaGreat
namespace Go.Proofs.YtbdfpbknckghgaaGreat
open Go.RowKit Go.Lib
def fG (x : Int) : List Value := [.int .i64 x]
theorem dI (w : World) (b : Nat) (l : List Int) (hb : b = w.heap.size) (hl : l.length ≤ 1000) : ai fG 1 (w.alloc (.cells (l.flatMap fG).toArray 3)) (.slice (some ⟨b, 0, none⟩) l.length l.length) l := by
 subst hb
 have hlen : (l.flatMap fG).length = l.length := by
  clear hl
  induction l with
  | nil => rfl
  | cons a l ih => rw [List.flatMap_cons, List.length_append, ih, List.length_cons]; simp [fG]; omega
 have hnew := heap_alloc_new w (.cells (l.flatMap fG).toArray 3)
 refine ⟨_, _, rfl, Nat.le_refl _, by unfold maxLen; omega, fun hp => ⟨w.heap.size, 0, rfl, by simp, fun i s j u hi hj => ?_⟩⟩
 have hj0 : j = 0 := by
  have := (List.getElem?_eq_some_iff.1 hj).1
  simp [fG] at this
  exact this
 subst hj0
 have key : ∀ (l : List Int) (i : Nat), l[i]? = some s → (l.flatMap fG)[i]? = some u := by
  intro l
  induction l with
  | nil => intro i hi; simp at hi
  | cons a l ih =>
    intro i hi
    rcases i with _ | i
    ·simp at hi
     subst hi
     simpa [fG] using hj
    ·have := ih i (by simpa using hi)
     simpa [List.flatMap_cons, fG] using this
 have h2 := key l i hi
 simp only [World.cell?, hnew, Nat.zero_add, Nat.mul_one, Nat.add_zero]
 simpa using h2
def az (a b c : Bool) : Value := .agg #[.bool a, .bool b, .bool c]
def bM (l : List Int) (j : Int) : Bool := decide (j ∈ l)
theorem dN {w : World} {v : Value} {ps : List Int} (hr : ai fG 1 w v ps) (hin : ∀ x ∈ ps, x = 0 ∨ x = 1 ∨ x = 2) (hl : ps.length ≤ 10) : Calls Tryz.prog 116 #[v] w fun e w' => e = .returned (az (bM ps 0) (bM ps 1) (bM ps 2)) ∧ Below w.heap.size w w' := by
 obtain ⟨ao, cap, rfl, q1, q2, q3⟩ := hr
 obtain ⟨n, hn⟩ : ∃ n, ps.length = n := ⟨_, rfl⟩
 have HQ : Hid (∀ i, i < n → ∃ b off, ao = some ⟨b, off, none⟩ ∧ b < w.heap.size ∧ w.cell? ⟨b, off + i, none⟩ = some (.int .i64 ps[i]!)) := fun i hi => by
  obtain ⟨b, off, e, hb, hc⟩ := q3 (by omega)
  refine ⟨b, off, e, hb, ?_⟩
  have := hc i _ 0 _ (by rw [List.getElem?_eq_getElem (by omega), getElem!_pos ps i (by omega)]) (show (fG ps[i]!)[0]? = some _ from rfl)
  simpa using this
 have j6 : cap ≤ 9223372036854775807 := by unfold maxLen at q2; omega
 clear q3
 rw [hn] at q1 hl ⊢
 replace hn := Lib.hid hn
 have hin' := Lib.hid hin
 clear hin
 obtain ⟨w1, hw1⟩ : ∃ w1, w1 = w.alloc (.cells #[.bool false, .bool false, .bool false] 158) := ⟨_, rfl⟩
 have hb1 : Below w.heap.size w w1 := by rw [hw1]; exact (Below.refl _ _).alloc (Nat.le_refl _) _
 have hs1 : w1.heap.size = w.heap.size + 1 := by rw [hw1]; simp
 have hA1 : w1.heap[w.heap.size]? = some (.cells #[.bool false, .bool false, .bool false] 158 (0, 0)) := by rw [hw1]; exact heap_alloc_new w _
 have k0 : w1.cell? ⟨w.heap.size, 0, none⟩ = some (.bool false) := by simp [World.cell?, hA1]
 have k1 : w1.cell? ⟨w.heap.size, 1, none⟩ = some (.bool false) := by simp [World.cell?, hA1]
 have k2 : w1.cell? ⟨w.heap.size, 2, none⟩ = some (.bool false) := by simp [World.cell?, hA1]
 have f0 : w1.frozen? ⟨w.heap.size, 0, none⟩ = false := by simp [World.frozen?, hA1]
 have f1 : w1.frozen? ⟨w.heap.size, 1, none⟩ = false := by simp [World.frozen?, hA1]
 have f2 : w1.frozen? ⟨w.heap.size, 2, none⟩ = false := by simp [World.frozen?, hA1]
 go_enter Tryz.func116, Tryz.ntmps116
 go_wp2_with fail
 rw [← hw1]
 clear hw1
 go_loopw [8] (fun ii wr => ∃ (i : Nat), i ≤ n ∧ ii = .int .i64 i ∧ wr = w1.alloc (.cells #[.bool (bM (ps.take i) 0), .bool (bM (ps.take i) 1), .bool (bM (ps.take i) 2)] 158)) (fun ii _ => n - (intOf ii).toNat)
 case atStart => exact ⟨0, Nat.zero_le _, rfl, by simp [bM]⟩
 case round =>
  obtain ⟨i, hin2, rfl, rfl⟩ := hrel
  by_cases hlt : i < n
  ·have b2 : (i : Int) < (n : Int) := by omega
   have wi : IntKind.i64.wrap ((i : Int) + 1) = (i : Int) + 1 := by rw [IntKind.wrap_i64]; omega
   obtain ⟨b, off, rfl, hb, c⟩ := HQ.out i hlt
   have c2 : w1.cell? ⟨b, off + i, none⟩ = some (.int .i64 ps[i]!) := (hb1.cell (p := ⟨b, _, none⟩) hb).trans c
   have c3 : (w1.alloc (.cells #[.bool (bM (ps.take i) 0), .bool (bM (ps.take i) 1), .bool (bM (ps.take i) 2)] 158)).cell? ⟨b, off + i, none⟩ = some (.int .i64 ps[i]!) := by
    exact (((Below.refl w1.heap.size w1).alloc (Nat.le_refl _) _).cell (p := ⟨b, _, none⟩) (show b < w1.heap.size by omega)).trans c2
   have jW : i < ps.length := by have := hn.out; omega
   have hm : ∀ j, bM (ps.take (i + 1)) j = (bM (ps.take i) j || decide (j = ps[i]!)) := fun j => by
    unfold bM
    have e1 : ps.take (i + 1) = ps.take i ++ [ps[i]!] := by rw [List.take_add_one, List.getElem?_eq_getElem jW, getElem!_pos ps i jW, Option.toList_some]
    rw [e1, Bool.eq_iff_iff]
    generalize ps.take i = l0
    generalize ps[i]! = y
    simp [List.mem_append]
   have hy := hin'.out ps[i]! (by rw [getElem!_pos ps i jW]; exact List.getElem_mem _)
   clear c c2
   have hm0 := hm 0
   have hm1 := hm 1
   have hm2 := hm 2
   clear hm
   generalize ps[i]! = y at *
   generalize bM (ps.take i) 0 = g0 at *
   generalize bM (ps.take i) 1 = g1 at *
   generalize bM (ps.take i) 2 = g2 at *
   have ss : w1.heap.size = w.heap.size + 1 := hs1
   rcases hy with rfl | rfl | rfl
   all_goals
    simp only [decide_true, Bool.or_true, show decide ((0 : Int) = 1) = false from rfl, show decide ((0 : Int) = 2) = false from rfl, show decide ((1 : Int) = 0) = false from rfl, show decide ((1 : Int) = 2) = false from rfl, show decide ((2 : Int) = 0) = false from rfl, show decide ((2 : Int) = 1) = false from rfl, Bool.or_false] at hm0 hm1 hm2
    replace hm0 := Lib.hid hm0
    replace hm1 := Lib.hid hm1
    replace hm2 := Lib.hid hm2
    go_wp2_with fail
    go_roundw
    case rel => exact ⟨i + 1, by omega, by go_num, by rw [hm0.out, hm1.out, hm2.out]⟩
    case measure => simp [intOf]; omega
  ·obtain rfl : i = n := by omega
   have b2 : ¬ (i : Int) < (i : Int) := by omega
   have e1 : ps.take i = ps := List.take_of_length_le (by rw [hn.out]; exact Nat.le_refl _)
   rw [e1]
   obtain ⟨g0, hg0⟩ : ∃ g, g = bM ps 0 := ⟨_, rfl⟩
   obtain ⟨g1, hg1⟩ : ∃ g, g = bM ps 1 := ⟨_, rfl⟩
   obtain ⟨g2, hg2⟩ : ∃ g, g = bM ps 2 := ⟨_, rfl⟩
   rw [← hg0, ← hg1, ← hg2]
   replace hg0 := Lib.hid hg0
   replace hg1 := Lib.hid hg1
   replace hg2 := Lib.hid hg2
   clear e1 HQ
   go_wp2_with fail
   refine bg rfl rfl rfl (dF (heap_put (heap_put (heap_put hA1 _) _) _)) Tryz.underlying158 rfl (by kernel_rfl) ⟨by rw [← hg0.out, ← hg1.out, ← hg2.out]; rfl, ?_⟩
   exact (((hb1.setCell (Nat.le_refl _) _).setCell (Nat.le_refl _) _).setCell (Nat.le_refl _) _).alloc (by simp [hs1]) _
structure Three (w : World) (g : Nat) : Prop where
 h : w.heap[g]? = some (.cells #[.bool false, .bool false, .bool false] 158 (0, 0))
theorem Three.below {w w' : World} {g B : Nat} (h : Three w g) (hb : Below B w w') (hg : g < B) : Three w' g := ⟨(hb.block g hg).trans h.h⟩
theorem Three.cell {w : World} {g : Nat} (h : Three w g) : (w.cell? ⟨g, 0, none⟩ = some (.bool false) ∧ w.cell? ⟨g, 1, none⟩ = some (.bool false) ∧ w.cell? ⟨g, 2, none⟩ = some (.bool false)) ∧ w.frozen? ⟨g, 0, none⟩ = false ∧ w.frozen? ⟨g, 1, none⟩ = false ∧ w.frozen? ⟨g, 2, none⟩ = false := by
 have := h.h
 refine ⟨⟨?_, ?_, ?_⟩, ?_, ?_, ?_⟩ <;> simp [World.cell?, World.frozen?, this]
theorem Three.put {w : World} {g : Nat} (h : Three w g) (a b c : Bool) : (((w.setCell ⟨g, 0, none⟩ (.bool a)).setCell ⟨g, 1, none⟩ (.bool b)).setCell ⟨g, 2, none⟩ (.bool c)).heap[g]? = some (.cells #[.bool a, .bool b, .bool c] 158 (0, 0)) :=
 heap_put (heap_put (heap_put h.h _) _) _
theorem aW (w : World) : Three (w.alloc (.cells #[.bool false, .bool false, .bool false] 158)) w.heap.size := ⟨heap_alloc_new w _⟩
theorem fH (w : World) : Calls Tryz.prog 117 #[] w fun e w' => e = .returned (az true true true) ∧ Below w.heap.size w w' := by
 obtain ⟨w1, hw1⟩ : ∃ w1, w1 = w.alloc (.cells #[.bool false, .bool false, .bool false] 158) := ⟨_, rfl⟩
 have hT1 : Three w1 w.heap.size := by rw [hw1]; exact aW w
 have hb1 : Below w.heap.size w w1 := by rw [hw1]; exact (Below.refl _ _).alloc (Nat.le_refl _) _
 have hs1 : w1.heap.size = w.heap.size + 1 := by rw [hw1]; simp
 have hr : ai fG 1 (w1.alloc (.cells #[.int .i64 0, .int .i64 1, .int .i64 2] 3)) (.slice (some ⟨w.heap.size + 1, 0, none⟩) 3 3) [0, 1, 2] := dI w1 _ [0, 1, 2] hs1.symm (by decide)
 have hb2 : Below (w.heap.size + 1) w1 (w1.alloc (.cells #[.int .i64 0, .int .i64 1, .int .i64 2] 3)) := (Below.refl _ _).alloc (by omega) _
 have hs2 : (w1.alloc (.cells #[.int .i64 0, .int .i64 1, .int .i64 2] 3)).heap.size = w.heap.size + 2 := by simp [hs1]
 have hc := dN hr (by decide) (by decide)
 unfold az at hc
 rw [show bM [0, 1, 2] 0 = true from rfl, show bM [0, 1, 2] 1 = true from rfl, show bM [0, 1, 2] 2 = true from rfl] at hc
 clear hr
 rw [hw1] at hc
 go_enter Tryz.func117, Tryz.ntmps117
 exact dH
theorem uQ (w : World) : Calls Tryz.prog 78 #[.int .i64 1] w fun e w' => e = .returned (az true false true) ∧ Below w.heap.size w w' := by
 obtain ⟨w1, hw1⟩ : ∃ w1, w1 = w.alloc (.cells #[.bool false, .bool false, .bool false] 158) := ⟨_, rfl⟩
 have hT1 : Three w1 w.heap.size := by rw [hw1]; exact aW w
 have hb1 : Below w.heap.size w w1 := by rw [hw1]; exact (Below.refl _ _).alloc (Nat.le_refl _) _
 have hs1 : w1.heap.size = w.heap.size + 1 := by rw [hw1]; simp
 have hr : ai fG 1 (w1.alloc (.cells #[.int .i64 0, .int .i64 2] 3)) (.slice (some ⟨w.heap.size + 1, 0, none⟩) 2 2) [0, 2] := dI w1 _ [0, 2] hs1.symm (by decide)
 have hb2 : Below (w.heap.size + 1) w1 (w1.alloc (.cells #[.int .i64 0, .int .i64 2] 3)) := (Below.refl _ _).alloc (by omega) _
 have hs2 : (w1.alloc (.cells #[.int .i64 0, .int .i64 2] 3)).heap.size = w.heap.size + 2 := by simp [hs1]
 have hc := dN hr (by decide) (by decide)
 unfold az at hc
 rw [show bM [0, 2] 0 = true from rfl, show bM [0, 2] 1 = false from rfl, show bM [0, 2] 2 = true from rfl] at hc
 clear hr
 rw [hw1] at hc
 go_enter Tryz.func78, Tryz.ntmps78
 exact dH
theorem uR (w : World) : Calls Tryz.prog 78 #[.int .i64 3] w fun e w' => e = .returned (az true false true) ∧ Below w.heap.size w w' := by
 obtain ⟨w1, hw1⟩ : ∃ w1, w1 = w.alloc (.cells #[.bool false, .bool false, .bool false] 158) := ⟨_, rfl⟩
 have hT1 : Three w1 w.heap.size := by rw [hw1]; exact aW w
 have hb1 : Below w.heap.size w w1 := by rw [hw1]; exact (Below.refl _ _).alloc (Nat.le_refl _) _
 have hs1 : w1.heap.size = w.heap.size + 1 := by rw [hw1]; simp
 have hr : ai fG 1 (w1.alloc (.cells #[.int .i64 0, .int .i64 2] 3)) (.slice (some ⟨w.heap.size + 1, 0, none⟩) 2 2) [0, 2] := dI w1 _ [0, 2] hs1.symm (by decide)
 have hb2 : Below (w.heap.size + 1) w1 (w1.alloc (.cells #[.int .i64 0, .int .i64 2] 3)) := (Below.refl _ _).alloc (by omega) _
 have hs2 : (w1.alloc (.cells #[.int .i64 0, .int .i64 2] 3)).heap.size = w.heap.size + 2 := by simp [hs1]
 have hc := dN hr (by decide) (by decide)
 unfold az at hc
 rw [show bM [0, 2] 0 = true from rfl, show bM [0, 2] 1 = false from rfl, show bM [0, 2] 2 = true from rfl] at hc
 clear hr
 rw [hw1] at hc
 go_enter Tryz.func78, Tryz.ntmps78
 exact dH
theorem uS (w : World) : Calls Tryz.prog 78 #[.int .i64 4] w fun e w' => e = .returned (az true false true) ∧ Below w.heap.size w w' := by
 obtain ⟨w1, hw1⟩ : ∃ w1, w1 = w.alloc (.cells #[.bool false, .bool false, .bool false] 158) := ⟨_, rfl⟩
 have hT1 : Three w1 w.heap.size := by rw [hw1]; exact aW w
 have hb1 : Below w.heap.size w w1 := by rw [hw1]; exact (Below.refl _ _).alloc (Nat.le_refl _) _
 have hs1 : w1.heap.size = w.heap.size + 1 := by rw [hw1]; simp
 have hr : ai fG 1 (w1.alloc (.cells #[.int .i64 0, .int .i64 2] 3)) (.slice (some ⟨w.heap.size + 1, 0, none⟩) 2 2) [0, 2] := dI w1 _ [0, 2] hs1.symm (by decide)
 have hb2 : Below (w.heap.size + 1) w1 (w1.alloc (.cells #[.int .i64 0, .int .i64 2] 3)) := (Below.refl _ _).alloc (by omega) _
 have hs2 : (w1.alloc (.cells #[.int .i64 0, .int .i64 2] 3)).heap.size = w.heap.size + 2 := by simp [hs1]
 have hc := dN hr (by decide) (by decide)
 unfold az at hc
 rw [show bM [0, 2] 0 = true from rfl, show bM [0, 2] 1 = false from rfl, show bM [0, 2] 2 = true from rfl] at hc
 clear hr
 rw [hw1] at hc
 go_enter Tryz.func78, Tryz.ntmps78
 exact dH
theorem uT (w : World) : Calls Tryz.prog 78 #[.int .i64 6] w fun e w' => e = .returned (az true false false) ∧ Below w.heap.size w w' := by
 obtain ⟨w1, hw1⟩ : ∃ w1, w1 = w.alloc (.cells #[.bool false, .bool false, .bool false] 158) := ⟨_, rfl⟩
 have hT1 : Three w1 w.heap.size := by rw [hw1]; exact aW w
 have hb1 : Below w.heap.size w w1 := by rw [hw1]; exact (Below.refl _ _).alloc (Nat.le_refl _) _
 have hs1 : w1.heap.size = w.heap.size + 1 := by rw [hw1]; simp
 have hr : ai fG 1 (w1.alloc (.cells #[.int .i64 0] 3)) (.slice (some ⟨w.heap.size + 1, 0, none⟩) 1 1) [0] := dI w1 _ [0] hs1.symm (by decide)
 have hb2 : Below (w.heap.size + 1) w1 (w1.alloc (.cells #[.int .i64 0] 3)) := (Below.refl _ _).alloc (by omega) _
 have hs2 : (w1.alloc (.cells #[.int .i64 0] 3)).heap.size = w.heap.size + 2 := by simp [hs1]
 have hc := dN hr (by decide) (by decide)
 unfold az at hc
 rw [show bM [0] 0 = true from rfl, show bM [0] 1 = false from rfl, show bM [0] 2 = false from rfl] at hc
 clear hr
 rw [hw1] at hc
 go_enter Tryz.func78, Tryz.ntmps78
 exact dH
theorem sH (w : World) : Calls Tryz.prog 78 #[.int .i64 11] w fun e w' => e = .returned (az true false false) ∧ Below w.heap.size w w' := by
 obtain ⟨w1, hw1⟩ : ∃ w1, w1 = w.alloc (.cells #[.bool false, .bool false, .bool false] 158) := ⟨_, rfl⟩
 have hT1 : Three w1 w.heap.size := by rw [hw1]; exact aW w
 have hb1 : Below w.heap.size w w1 := by rw [hw1]; exact (Below.refl _ _).alloc (Nat.le_refl _) _
 have hs1 : w1.heap.size = w.heap.size + 1 := by rw [hw1]; simp
 have hr : ai fG 1 (w1.alloc (.cells #[.int .i64 0] 3)) (.slice (some ⟨w.heap.size + 1, 0, none⟩) 1 1) [0] := dI w1 _ [0] hs1.symm (by decide)
 have hb2 : Below (w.heap.size + 1) w1 (w1.alloc (.cells #[.int .i64 0] 3)) := (Below.refl _ _).alloc (by omega) _
 have hs2 : (w1.alloc (.cells #[.int .i64 0] 3)).heap.size = w.heap.size + 2 := by simp [hs1]
 have hc := dN hr (by decide) (by decide)
 unfold az at hc
 rw [show bM [0] 0 = true from rfl, show bM [0] 1 = false from rfl, show bM [0] 2 = false from rfl] at hc
 clear hr
 rw [hw1] at hc
 go_enter Tryz.func78, Tryz.ntmps78
 exact dH
theorem sI (w : World) : Calls Tryz.prog 78 #[.int .i64 10] w fun e w' => e = .returned (az false true false) ∧ Below w.heap.size w w' := by
 obtain ⟨w1, hw1⟩ : ∃ w1, w1 = w.alloc (.cells #[.bool false, .bool false, .bool false] 158) := ⟨_, rfl⟩
 have hT1 : Three w1 w.heap.size := by rw [hw1]; exact aW w
 have hb1 : Below w.heap.size w w1 := by rw [hw1]; exact (Below.refl _ _).alloc (Nat.le_refl _) _
 have hs1 : w1.heap.size = w.heap.size + 1 := by rw [hw1]; simp
 have hr : ai fG 1 (w1.alloc (.cells #[.int .i64 1] 3)) (.slice (some ⟨w.heap.size + 1, 0, none⟩) 1 1) [1] := dI w1 _ [1] hs1.symm (by decide)
 have hb2 : Below (w.heap.size + 1) w1 (w1.alloc (.cells #[.int .i64 1] 3)) := (Below.refl _ _).alloc (by omega) _
 have hs2 : (w1.alloc (.cells #[.int .i64 1] 3)).heap.size = w.heap.size + 2 := by simp [hs1]
 have hc := dN hr (by decide) (by decide)
 unfold az at hc
 rw [show bM [1] 0 = false from rfl, show bM [1] 1 = true from rfl, show bM [1] 2 = false from rfl] at hc
 clear hr
 rw [hw1] at hc
 go_enter Tryz.func78, Tryz.ntmps78
 exact dH
theorem sJ (w : World) : Calls Tryz.prog 78 #[.int .i64 12] w fun e w' => e = .returned (az false false true) ∧ Below w.heap.size w w' := by
 obtain ⟨w1, hw1⟩ : ∃ w1, w1 = w.alloc (.cells #[.bool false, .bool false, .bool false] 158) := ⟨_, rfl⟩
 have hT1 : Three w1 w.heap.size := by rw [hw1]; exact aW w
 have hb1 : Below w.heap.size w w1 := by rw [hw1]; exact (Below.refl _ _).alloc (Nat.le_refl _) _
 have hs1 : w1.heap.size = w.heap.size + 1 := by rw [hw1]; simp
 have hr : ai fG 1 (w1.alloc (.cells #[.int .i64 2] 3)) (.slice (some ⟨w.heap.size + 1, 0, none⟩) 1 1) [2] := dI w1 _ [2] hs1.symm (by decide)
 have hb2 : Below (w.heap.size + 1) w1 (w1.alloc (.cells #[.int .i64 2] 3)) := (Below.refl _ _).alloc (by omega) _
 have hs2 : (w1.alloc (.cells #[.int .i64 2] 3)).heap.size = w.heap.size + 2 := by simp [hs1]
 have hc := dN hr (by decide) (by decide)
 unfold az at hc
 rw [show bM [2] 0 = false from rfl, show bM [2] 1 = false from rfl, show bM [2] 2 = true from rfl] at hc
 clear hr
 rw [hw1] at hc
 go_enter Tryz.func78, Tryz.ntmps78
 exact dH
theorem sK (k : Int) (w : World) (h1 : k ≠ 1) (h3 : k ≠ 3) (h4 : k ≠ 4) (h2 : k ≠ 2) (h5 : k ≠ 5) (h7 : k ≠ 7) (h8 : k ≠ 8) (h9 : k ≠ 9) (h6 : k ≠ 6) (h11 : k ≠ 11) (h10 : k ≠ 10) (h12 : k ≠ 12) : Calls Tryz.prog 78 #[.int .i64 k] w fun e w' => e = .returned (az false false false) ∧ Below w.heap.size w w' := by
 have t1 : (k == 1) = false := beq_eq_false_iff_ne.2 h1
 have t3 : (k == 3) = false := beq_eq_false_iff_ne.2 h3
 have t4 : (k == 4) = false := beq_eq_false_iff_ne.2 h4
 have t2 : (k == 2) = false := beq_eq_false_iff_ne.2 h2
 have t5 : (k == 5) = false := beq_eq_false_iff_ne.2 h5
 have t7 : (k == 7) = false := beq_eq_false_iff_ne.2 h7
 have t8 : (k == 8) = false := beq_eq_false_iff_ne.2 h8
 have t9 : (k == 9) = false := beq_eq_false_iff_ne.2 h9
 have t6 : (k == 6) = false := beq_eq_false_iff_ne.2 h6
 have t11 : (k == 11) = false := beq_eq_false_iff_ne.2 h11
 have t10 : (k == 10) = false := beq_eq_false_iff_ne.2 h10
 have t12 : (k == 12) = false := beq_eq_false_iff_ne.2 h12
 clear h1 h3 h4 h2 h5 h7 h8 h9 h6 h11 h10 h12
 obtain ⟨w1, hw1⟩ : ∃ w1, w1 = w.alloc (.cells #[.bool false, .bool false, .bool false] 158) := ⟨_, rfl⟩
 have hT1 : Three w1 w.heap.size := by rw [hw1]; exact aW w
 have hb1 : Below w.heap.size w w1 := by rw [hw1]; exact (Below.refl _ _).alloc (Nat.le_refl _) _
 have hs1 : w1.heap.size = w.heap.size + 1 := by rw [hw1]; simp
 have hr : ai fG 1 w1 (.slice none 0 0) ([] : List Int) := ai.nil w1
 have hc := dN hr (by decide) (by decide)
 unfold az at hc
 rw [show bM ([] : List Int) 0 = false from rfl, show bM ([] : List Int) 1 = false from rfl, show bM ([] : List Int) 2 = false from rfl] at hc
 clear hr
 rw [hw1] at hc
 go_enter Tryz.func78, Tryz.ntmps78
 go_wp2_with fail
 go_at_call 116
 refine hc.mono ?_
 clear hc
 rintro e w3 ⟨rfl, hb3⟩
 rw [← hw1] at hb3
 rw [hs1] at hb3
 have gG := hT1.below hb3 (by omega)
 have hbb : Below w.heap.size w w3 := hb1.trans (hb3.mono (by omega))
 exact eQ
theorem uU (w : World) : Calls Tryz.prog 78 #[.int .i64 2] w fun e w' => e = .returned (az true true true) ∧ Below w.heap.size w w' := by
 obtain ⟨w1, hw1⟩ : ∃ w1, w1 = w.alloc (.cells #[.bool false, .bool false, .bool false] 158) := ⟨_, rfl⟩
 have hT1 : Three w1 w.heap.size := by rw [hw1]; exact aW w
 have hb1 : Below w.heap.size w w1 := by rw [hw1]; exact (Below.refl _ _).alloc (Nat.le_refl _) _
 have hs1 : w1.heap.size = w.heap.size + 1 := by rw [hw1]; simp
 have hc := fH w1
 unfold az at hc
 rw [hw1] at hc
 go_enter Tryz.func78, Tryz.ntmps78
 go_wp2_with fail
 go_at_call 117
 refine hc.mono ?_
 clear hc
 rintro e w3 ⟨rfl, hb3⟩
 rw [← hw1] at hb3
 rw [hs1] at hb3
 have gG := hT1.below hb3 (by omega)
 have hbb : Below w.heap.size w w3 := hb1.trans (hb3.mono (by omega))
 exact eQ
theorem uV (w : World) : Calls Tryz.prog 78 #[.int .i64 5] w fun e w' => e = .returned (az true true true) ∧ Below w.heap.size w w' := by
 obtain ⟨w1, hw1⟩ : ∃ w1, w1 = w.alloc (.cells #[.bool false, .bool false, .bool false] 158) := ⟨_, rfl⟩
 have hT1 : Three w1 w.heap.size := by rw [hw1]; exact aW w
 have hb1 : Below w.heap.size w w1 := by rw [hw1]; exact (Below.refl _ _).alloc (Nat.le_refl _) _
 have hs1 : w1.heap.size = w.heap.size + 1 := by rw [hw1]; simp
 have hc := fH w1
 unfold az at hc
 rw [hw1] at hc
 go_enter Tryz.func78, Tryz.ntmps78
 go_wp2_with fail
 go_at_call 117
 refine hc.mono ?_
 clear hc
 rintro e w3 ⟨rfl, hb3⟩
 rw [← hw1] at hb3
 rw [hs1] at hb3
 have gG := hT1.below hb3 (by omega)
 have hbb : Below w.heap.size w w3 := hb1.trans (hb3.mono (by omega))
 exact eQ
theorem uW (w : World) : Calls Tryz.prog 78 #[.int .i64 7] w fun e w' => e = .returned (az true true true) ∧ Below w.heap.size w w' := by
 obtain ⟨w1, hw1⟩ : ∃ w1, w1 = w.alloc (.cells #[.bool false, .bool false, .bool false] 158) := ⟨_, rfl⟩
 have hT1 : Three w1 w.heap.size := by rw [hw1]; exact aW w
 have hb1 : Below w.heap.size w w1 := by rw [hw1]; exact (Below.refl _ _).alloc (Nat.le_refl _) _
 have hs1 : w1.heap.size = w.heap.size + 1 := by rw [hw1]; simp
 have hc := fH w1
 unfold az at hc
 rw [hw1] at hc
 go_enter Tryz.func78, Tryz.ntmps78
 go_wp2_with fail
 go_at_call 117
 refine hc.mono ?_
 clear hc
 rintro e w3 ⟨rfl, hb3⟩
 rw [← hw1] at hb3
 rw [hs1] at hb3
 have gG := hT1.below hb3 (by omega)
 have hbb : Below w.heap.size w w3 := hb1.trans (hb3.mono (by omega))
 exact eQ
theorem uX (w : World) : Calls Tryz.prog 78 #[.int .i64 8] w fun e w' => e = .returned (az true true true) ∧ Below w.heap.size w w' := by
 obtain ⟨w1, hw1⟩ : ∃ w1, w1 = w.alloc (.cells #[.bool false, .bool false, .bool false] 158) := ⟨_, rfl⟩
 have hT1 : Three w1 w.heap.size := by rw [hw1]; exact aW w
 have hb1 : Below w.heap.size w w1 := by rw [hw1]; exact (Below.refl _ _).alloc (Nat.le_refl _) _
 have hs1 : w1.heap.size = w.heap.size + 1 := by rw [hw1]; simp
 have hc := fH w1
 unfold az at hc
 rw [hw1] at hc
 go_enter Tryz.func78, Tryz.ntmps78
 go_wp2_with fail
 go_at_call 117
 refine hc.mono ?_
 clear hc
 rintro e w3 ⟨rfl, hb3⟩
 rw [← hw1] at hb3
 rw [hs1] at hb3
 have gG := hT1.below hb3 (by omega)
 have hbb : Below w.heap.size w w3 := hb1.trans (hb3.mono (by omega))
 exact eQ
theorem uY (w : World) : Calls Tryz.prog 78 #[.int .i64 9] w fun e w' => e = .returned (az true true true) ∧ Below w.heap.size w w' := by
 obtain ⟨w1, hw1⟩ : ∃ w1, w1 = w.alloc (.cells #[.bool false, .bool false, .bool false] 158) := ⟨_, rfl⟩
 have hT1 : Three w1 w.heap.size := by rw [hw1]; exact aW w
 have hb1 : Below w.heap.size w w1 := by rw [hw1]; exact (Below.refl _ _).alloc (Nat.le_refl _) _
 have hs1 : w1.heap.size = w.heap.size + 1 := by rw [hw1]; simp
 have hc := fH w1
 unfold az at hc
 rw [hw1] at hc
 go_enter Tryz.func78, Tryz.ntmps78
 go_wp2_with fail
 go_at_call 117
 refine hc.mono ?_
 clear hc
 rintro e w3 ⟨rfl, hb3⟩
 rw [← hw1] at hb3
 rw [hs1] at hb3
 have gG := hT1.below hb3 (by omega)
 have hbb : Below w.heap.size w w3 := hb1.trans (hb3.mono (by omega))
 exact eQ
end Go.Proofs.YtbdfpbknckghgaaGreat

namespace Go.Proofs.YtbdfpbknckghgaaGreat
theorem gU {p : Prop} (f : p := by
 go_wp2_with fail
 go_ret
 exact ⟨by simp [h1], rfl⟩) : p := f
end Go.Proofs.YtbdfpbknckghgaaGreat
namespace Go.Proofs.YtbdfpbknckghgaaGreat
open Go.RowKit Go.Lib
def bC (a b c : Bool) (f : Int) : Int := if f ≤ 0 ∧ a = true then 0 else if f ≤ 1 ∧ b = true then 1 else if f ≤ 2 ∧ c = true then 2 else 3
theorem sM (a b c : Bool) (f : Int) (h : 3 ≤ f) : bC a b c f = 3 := by
 unfold bC; rw [if_neg (by omega), if_neg (by omega), if_neg (by omega)]
theorem sN (a b c : Bool) (f : Int) (h : f ≤ 0) : bC a b c f = bC a b c 0 := by
 unfold bC; simp [h, show f ≤ 1 by omega, show f ≤ 2 by omega]
theorem iL (a b c : Bool) (f : Int) (hf : -9223372036854775808 ≤ f ∧ f ≤ 9223372036854775807) (w : World) : Calls Tryz.prog 136 #[az a b c, .int .i64 f] w fun e w' => e = .returned (.int .i64 (bC a b c f)) ∧ Below w.heap.size w w' := by
 obtain ⟨hf1, hf2⟩ := hf
 obtain ⟨r, hr⟩ : ∃ r, r = bC a b c f := ⟨_, rfl⟩
 obtain ⟨s, hs⟩ : ∃ s : Int, s = max f 0 := ⟨_, rfl⟩
 have hs0 : 0 ≤ s := by omega
 have Bv : s ≤ 9223372036854775807 := by omega
 have sO : Hid (bC a b c s = r) := by
  show _ = _
  rw [hr]
  by_cases h : f ≤ 0
  ·rw [sN a b c f h, show s = 0 by omega]
  ·rw [show s = f by omega]
 rw [← hr]
 replace hr := Lib.hid hr
 obtain ⟨w1, hw1⟩ : ∃ w1, w1 = w.alloc (.cells #[.bool a, .bool b, .bool c] 158) := ⟨_, rfl⟩
 have hb1 : Below w.heap.size w w1 := by rw [hw1]; exact (Below.refl _ _).alloc (Nat.le_refl _) _
 have hA1 : w1.heap[w.heap.size]? = some (.cells #[.bool a, .bool b, .bool c] 158 (0, 0)) := by rw [hw1]; exact heap_alloc_new w _
 have k0 : w1.cell? ⟨w.heap.size, 0, none⟩ = some (.bool a) := by simp [World.cell?, hA1]
 have k1 : w1.cell? ⟨w.heap.size, 1, none⟩ = some (.bool b) := by simp [World.cell?, hA1]
 have k2 : w1.cell? ⟨w.heap.size, 2, none⟩ = some (.bool c) := by simp [World.cell?, hA1]
 clear hA1
 unfold az
 go_enter Tryz.func136, Tryz.ntmps136
 go_wp2_with fail
 rw [← hs, ← hw1]
 replace hs := Lib.hid hs
 replace hw1 := Lib.hid hw1
 go_loopw [5] (fun ii wr => ∃ k : Int, 0 ≤ k ∧ k ≤ 9223372036854775807 ∧ ii = .int .i64 k ∧ Hid (bC a b c k = r) ∧ w1 = wr) (fun ii _ => 3 - (intOf ii).toNat)
 case atStart => exact ⟨s, hs0, Bv, rfl, sO, rfl⟩
 case round =>
  obtain ⟨k, h0, hM, rfl, hk, rfl⟩ := hrel
  by_cases h3 : k < 3
  ·have hc : k = 0 ∨ k = 1 ∨ k = 2 := by omega
   rcases hc with rfl | rfl | rfl
   ·cases a
    ·have hn : Hid (bC false b c 1 = r) := by
      show _ = _
      rw [← hk.out]; simp [bC]
     clear hk sO
     go_wp2_with fail
     go_roundw
     case rel => exact ⟨1, by omega, by omega, rfl, hn, trivial⟩
     case measure => simp [intOf]
    ·go_wp2_with fail
     go_ret
     exact ⟨by rw [← hk.out]; rfl, hb1⟩
   ·cases b
    ·have hn : Hid (bC a false c 2 = r) := by
      show _ = _
      rw [← hk.out]; simp [bC]
     clear hk sO
     go_wp2_with fail
     go_roundw
     case rel => exact ⟨2, by omega, by omega, rfl, hn, trivial⟩
     case measure => simp [intOf]
    ·go_wp2_with fail
     go_ret
     exact ⟨by rw [← hk.out]; simp [bC], hb1⟩
   ·cases c
    ·have hn : Hid (bC a b false 3 = r) := by
      show _ = _
      rw [← hk.out]; simp [bC]
     clear hk sO
     go_wp2_with fail
     go_roundw
     case rel => exact ⟨3, by omega, by omega, rfl, hn, trivial⟩
     case measure => simp [intOf]
    ·go_wp2_with fail
     go_ret
     exact ⟨by rw [← hk.out]; simp [bC], hb1⟩
  ·have e3 : Hid (r = 3) := by show _ = _; rw [← hk.out]; exact sM a b c k (by omega)
   go_wp2_with fail
   go_ret
   exact ⟨by rw [e3.out]; rfl, hb1⟩
theorem zm (k : Int) (w : World) : Calls Tryz.prog 63 #[.int .i64 k] w fun e w' => e = .returned (.bool (decide (1 ≤ k) && decide (k ≤ 13))) ∧ w = w' := by
 by_cases h1 : 1 ≤ k
 ·have d1 : decide (1 ≤ k) = true := decide_eq_true h1
  go_enter Tryz.func63, Tryz.ntmps63
  exact gU
 ·have d1 : decide (1 ≤ k) = false := decide_eq_false h1
  go_enter Tryz.func63, Tryz.ntmps63
  go_wp2_with fail
  go_ret
  exact ⟨by simp, rfl⟩
end Go.Proofs.YtbdfpbknckghgaaGreat

namespace Go.Proofs.YtbdfpbknckghgaaGreat
open Go.RowKit
theorem getD_lt {α : Type} {l : List α} {k : Nat} {d : α} (h : k < l.length) : l.getD k d = l[k] := by simp [List.getD, h]
def iM (w : World) (size : Nat) (v : Value) (n : Nat) (xs : List Value) : Prop :=
 ∃ a, v = .slice (some a) n n ∧ xs.length = n * size ∧ ∀ j u, xs[j]? = some u → w.cell? (a.add j) = some u
def Buf (w : World) (base : Nat) (e : TypeId) (size : Nat) (v : Value) (n : Nat) (xs : List Value) : Prop :=
 w.ownsRow base e size v n xs ∨ iM w size v n xs
theorem iw {w : World} {base base' : Nat} {e : TypeId} {size : Nat} {v : Value} {n : Nat} {xs : List Value} (h : w.ownsRow base e size v n xs) (hb : base' ≤ base) : w.ownsRow base' e size v n xs := by
 obtain ⟨h1, h2⟩ := h
 refine ⟨h1, ?_⟩
 rcases h2 with h2 | ⟨g, cap, cur, hv, hg, r⟩
 ·exact Or.inl h2
 ·exact Or.inr ⟨g, cap, cur, hv, Nat.le_trans hb hg, r⟩
theorem ax {w w' : World} {base : Nat} {e : TypeId} {size : Nat} {v : Value} {n : Nat} {xs : List Value} (h : w.ownsRow base e size v n xs) (hk : ∀ k, v.ownBlock = some k → w'.heap[k]? = w.heap[k]?) : w'.ownsRow base e size v n xs := by
 obtain ⟨h1, h2⟩ := h
 refine ⟨h1, ?_⟩
 rcases h2 with h2 | ⟨g, cap, cur, rfl, hg, hh, r⟩
 ·exact Or.inl h2
 ·exact Or.inr ⟨g, cap, cur, rfl, hg, by rw [hk g rfl]; exact hh, r⟩
theorem bH {P : Program} (w : World) {ops : Array Oper} {rest : List Oper} {o : Oper} {a : Act} {Q : Exit → Act → World → Prop}
 (hgd : o.guard = none) (s x : Operand) (t : TypeId)
 (ho : o.op = .call { callee := .builtin .append, args := #[s, x], argTypes := #[t, t] })
 (base : Nat) (e : TypeId) (i : TypeInfo) (z : Value) (size bytes : Nat) (ht : P.underlying t = some (.slice e)) (hi : P.info? e = some i) (hz : i.zero = some z)
 (hsize : i.size = size) (hby : i.bytes = bytes) (hzs : z.cells.size = size) (hsz : 0 < size)
 (v : Value) (n : Nat) (xs : List Value) (hs : a.eval s = v) (hown : Buf w base e size v n xs)
 (ad : Addr) (m c : Nat) (news : List Value) (hx : a.eval x = .slice (some ad) m c) (hl : news.length = m * size) (hnews : ∀ j u, news[j]? = some u → w.cell? (ad.add j) = some u) (h1 : ∀ u ∈ news, u.oneCell' = true)
 (hm : 0 < m) (h63 : n + m ≤ maxLen) (hbytes : (n + m) * bytes ≤ 140737488355328) (hbase : base ≤ w.heap.size)
 (h : ∀ v' w', w'.ownsRow base e size v' (n + m) (xs ++ news) → Below base w w' → wpList P ops Q rest (a.put o.dst v') w') : wpList P ops Q (o :: rest) a w := by
 rcases hown with hown | ⟨b, rfl, hlo, hold⟩
 ·refine wpList_append_own w hgd s x t ho base e i z size bytes ht hi hz hsize hby hzs hsz v n xs hs hown ad m c news hx hl hnews h1 h63 hbytes hbase fun v' w' h2 h3 _ => h v' w' h2 ?_
  exact (Below.refl base w).grown h3 hbase fun k hk => (hown.lt k hk).1
 ·refine wpList_append_grows w hgd s x t ho e i z size bytes ht hi hz hsize hby hzs hsz (some b) n n xs hs (by simp) hlo (fun b' hb' => by cases hb'; exact hold) ad m c news hx hl hnews h1 (by omega) h63 hbytes fun v' w' h2 h3 => h v' w' (iw h2 hbase) ?_
  exact (Below.refl base w).grown h3 hbase fun k hk => by cases hk
theorem ownsRow_below {w w' : World} {base B : Nat} {e : TypeId} {size : Nat} {v : Value} {n : Nat} {xs : List Value} (h : w.ownsRow base e size v n xs) (hb : Below B w w') (hv : ∀ k, v.ownBlock = some k → k < B) : w'.ownsRow base e size v n xs :=
 ax h fun k hk => hb.block k (hv k hk)
theorem iM.alloc {w : World} {size : Nat} {v : Value} {n : Nat} {xs : List Value} (h : iM w size v n xs) (o : Obj) : iM (w.alloc o) size v n xs := by
 obtain ⟨a, hv, hl, hc⟩ := h
 exact ⟨a, hv, hl, fun j u hu => by have := hc j u hu; rw [World.cell?_alloc_lt _ _ _ (World.block_lt_of_cell? w _ this)]; exact this⟩
theorem Buf.alloc {w : World} {base : Nat} {e : TypeId} {size : Nat} {v : Value} {n : Nat} {xs : List Value} (h : Buf w base e size v n xs) (o : Obj) : Buf (w.alloc o) base e size v n xs :=
 h.imp (fun h => h.alloc o) (fun h => h.alloc o)
end Go.Proofs.YtbdfpbknckghgaaGreat

namespace Go.Proofs.YtbdfpbknckghgaaGreat
open Go.RowKit Go.Sort
theorem uZ {w : World} {base : Nat} {e : TypeId} {sz n g : Nat} {vs : List Value} (hg : g = w.heap.size) (hb : base ≤ w.heap.size) (hl : vs.length = n * sz) (hn : n ≤ maxLen) : (w.alloc (.cells vs.toArray e)).ownsRow base e sz (.slice (some ⟨g, 0, none⟩) n n) n vs := by
 subst hg
 exact ⟨hl, .inr ⟨w.heap.size, n, vs.toArray, rfl, hb, heap_alloc_new w _, Nat.le_refl _, hn, by simpa using hl, by simp [← hl]⟩⟩
theorem cz {w : World} {base : Nat} {e : TypeId} {sz n : Nat} {v : Value} {xs : List Value} (h : w.ownsRow base e sz v n xs) : ∃ ao cap, v = .slice ao n cap ∧ (0 < n → ∃ g, ao = some ⟨g, 0, none⟩) := by
 rcases h.2 with ⟨rfl, rfl⟩ | ⟨g, cap, cur, rfl, _⟩
 ·exact ⟨none, 0, rfl, fun h => by omega⟩
 ·exact ⟨_, cap, rfl, fun _ => ⟨g, rfl⟩⟩
theorem vg {w : World} {base : Nat} {e : TypeId} {sz n : Nat} {v : Value} {xs : List Value} (h : w.ownsRow base e sz v n xs) : n ≤ 9223372036854775807 := by
 rcases h.2 with ⟨_, rfl⟩ | ⟨_, _, _, _, _, _, hn, hm, _⟩
 ·omega
 ·unfold maxLen at hm; omega
end Go.Proofs.YtbdfpbknckghgaaGreat

namespace Go.Proofs.YtbdfpbknckghgaaGreat
theorem jm {p : Prop} (f : p := by
 rcases Nat.lt_or_ge p w.heap.size with h' | h'
 ·exact h'
 ·rw [Array.getElem?_eq_none h'] at h; cases h) : p := f
end Go.Proofs.YtbdfpbknckghgaaGreat
namespace Go.Proofs.YtbdfpbknckghgaaGreat
open Go.RowKit Go.Sort Go.Lib
namespace Put
theorem aF {w w' : World} {base : Nat} {e : TypeId} {size : Nat} {v : Value} {n : Nat} {xs : List Value} (h : w.ownsRow base e size v n xs) (hb : Below w.heap.size w w') : w'.ownsRow base e size v n xs :=
 ownsRow_below h hb fun k hk => (h.lt k hk).2
structure Off (p g : Nat) (w w' : World) : Prop where
 os : w'.os = w.os
 tape : w'.tape = w.tape
 output : w'.output = w.output
 size : w.heap.size ≤ w'.heap.size
 block : ∀ k, k < w.heap.size → k ≠ p → k ≠ g → w'.heap[k]? = w.heap[k]?
section
variable {p g g' : Nat} {w w' w'' : World}
theorem Off.refl (p g : Nat) (w : World) : Off p g w w := ⟨rfl, rfl, rfl, Nat.le_refl _, fun _ _ _ _ => rfl⟩
theorem Off.of_below (h : Below w.heap.size w w') : Off p g w w' := ⟨h.os, h.tape, h.output, h.size, fun k hk _ _ => h.block k hk⟩
theorem Off.trans (h : Off p g w w') (h' : Off p g' w' w'') (hg : g' = g ∨ w.heap.size ≤ g') : Off p g w w'' :=
 ⟨h'.os.trans h.os, h'.tape.trans h.tape, h'.output.trans h.output, Nat.le_trans h.size h'.size, fun k hk h1 h2 => by
  rw [h'.block k (Nat.lt_of_lt_of_le hk h.size) h1 (by omega), h.block k hk h1 h2]⟩
theorem Off.below {base : Nat} (h : Off p g w w') (hp : base ≤ p) (hg : base ≤ g) (hb : base ≤ w.heap.size) : Below base w w' := ⟨h.os, h.tape, h.output, h.size, fun k hk => h.block k (by omega) (by omega) (by omega)⟩
theorem Off.setCell {b j : Nat} {v : Value} (h : Off p g w w') (hb : b = p ∨ b = g ∨ w.heap.size ≤ b) : Off p g w (w'.setCell ⟨b, j, none⟩ v) :=
 ⟨h.os, h.tape, h.output, by simpa using h.size, fun k hk h1 h2 => by
  rw [Below.heap_setCell w' ⟨b, j, none⟩ v k (by show k ≠ b; omega)]; exact h.block k hk h1 h2⟩
theorem Off.cB (h : Off p g w w') (h' : Below w'.heap.size w' w'') : Off p g w w'' := h.trans (Off.of_below h') (.inl rfl)
end
theorem lt_of_heap {w : World} {p : Nat} {o : Obj} (h : w.heap[p]? = some o) : p < w.heap.size := by
 exact jm
theorem aH {w : World} {p q : Nat} {a b : Array Value} {s t : TypeId} {x y : Nat × Nat} (h : w.heap[p]? = some (.cells a s x)) (h' : w.heap[q]? = some (.cells b t y)) (hne : s ≠ t) : p ≠ q := by
 intro e
 subst e
 rw [h] at h'
 injection h' with h'
 injection h' with _ h3
 exact hne h3
theorem jP {α : Type} (l vs : List α) (o : Nat) (h : o + vs.length ≤ l.length) (j : Nat) : (l.take o ++ vs ++ l.drop (o + vs.length))[j]? = if j < o then l[j]? else if j < o + vs.length then vs[j - o]? else l[j]? := by
 have hl1 : (l.take o).length = o := by rw [List.length_take]; omega
 rw [List.append_assoc]
 by_cases h1 : j < o
 ·rw [if_pos h1, List.getElem?_append_left (by omega), List.getElem?_take, if_pos h1]
 ·rw [if_neg h1, List.getElem?_append_right (by omega), hl1]
  by_cases h2 : j < o + vs.length
  ·rw [if_pos h2, List.getElem?_append_left (by omega)]
  ·rw [if_neg h2, List.getElem?_append_right (by omega), List.getElem?_drop]
   congr 1
   omega
section
variable {w : World} {base g n cap sz : Nat} {e : TypeId} {xs : List Value}
theorem vk (h : w.ownsRow base e sz (.slice (some ⟨g, 0, none⟩) n cap) n xs) (o : Nat) (vs : List Value) (hfit : o + vs.length ≤ n * sz) (h1 : ∀ u ∈ vs, u.oneCell' = true) :
 ∃ w', (∀ P : Program, (storeCells ⟨g, o, none⟩ vs).run P w = .ok () w') ∧ w'.ownsRow base e sz (.slice (some ⟨g, 0, none⟩) n cap) n (xs.take o ++ vs ++ xs.drop (o + vs.length)) ∧ Off g g w w' := by
 have hl := h.1
 rcases h.2 with ⟨e0, _⟩ | ⟨g', cap', cur, e0, hb, hg, hn, hm, hs, ht⟩
 ·cases e0
 ·cases e0
  have hcs : n * sz ≤ cur.size := by rw [hs]; exact Nat.mul_le_mul_right _ hn
  refine ⟨w.setRow g (cur.toList.take o ++ vs ++ cur.toList.drop (o + vs.length)).toArray, fun P => ?_, ⟨?_, .inr ⟨g, cap, _, rfl, hb, setRow_heap w g cur _ e _ hg, hn, hm, ?_, ?_⟩⟩, ⟨rfl, rfl, rfl, by simp, fun k hk _ hne => setRow_other w g k _ hne⟩⟩
  ·have := run_storeCells_at P g o e vs 0 cur w hg (by omega) h1
   simpa using this
  ·simp only [List.length_append, List.length_take, List.length_drop]; omega
  ·simp only [List.size_toArray, List.length_append, List.length_take, List.length_drop, Array.length_toList]; omega
  ·rw [← ht]
   apply List.ext_getElem?
   intro j
   show (List.take (n * sz) (cur.toList.take o ++ vs ++ cur.toList.drop (o + vs.length)))[j]? = _
   have hcl : cur.toList.length = cur.size := Array.length_toList
   rw [jP (cur.toList.take (n * sz)) vs o (by rw [List.length_take, hcl]; omega), List.getElem?_take, jP cur.toList vs o (by rw [hcl]; omega), List.getElem?_take]
   by_cases h2 : j < n * sz
   ·rw [if_pos h2, if_pos h2]
   ·rw [if_neg h2, if_neg h2, if_neg (by omega), if_neg (by omega)]
end
end Put
end Go.Proofs.YtbdfpbknckghgaaGreat

namespace Go.Proofs.YtbdfpbknckghgaaGreat
theorem gV {p : Prop} (f : p := by
 go_enter Tryz.func264, Tryz.ntmps264
 go_wp2_with (go_at_call 265; go_must (refine hi.mono ?_); rintro e w' ⟨rfl, rfl⟩)
 go_ret
 exact ⟨rfl, rfl⟩) : p := f
theorem l6 {p : Prop} (f : p := by
 go_enter Tryz.func276, Tryz.ntmps276
 go_wp2_with (go_at_call 265; go_must (refine hi.mono ?_); rintro e w' ⟨rfl, rfl⟩)
 go_ret
 exact ⟨by simp, rfl⟩) : p := f
end Go.Proofs.YtbdfpbknckghgaaGreat
namespace Go.Proofs.YtbdfpbknckghgaaGreat
open Go.RowKit Go.Lib
structure Lk where
 a : Int
 b : Int
 c : Int
 n : Int
def Lk.own (l : Lk) (k : Int) : Int := if k = 0 then l.a else if k = 1 then l.b else if k = 2 then l.c else 0
def Lk.has (l : Lk) (k who : Int) : Bool := decide (0 < who) && decide (l.own k = who)
def lu (k : Int) : Bool := decide (0 ≤ k) && decide (k < 3)
def eU (k who : Int) : Bool := !lu k || decide (who ≤ 0)
def aC (T : TypeId) (w : World) (s : Nat) (l : Lk) : Prop := w.heap[s]? = some (.cells #[.int .i64 l.a, .int .i64 l.b, .int .i64 l.c, .int .i64 l.n] T (0, 0))
section
variable {T : TypeId} {w w' : World} {s : Nat} {l : Lk}
theorem aC.c0 (h : aC T w s l) : w.cell? ⟨s, 0, none⟩ = some (.int .i64 l.a) := by simp [World.cell?, show w.heap[s]? = _ from h]
theorem aC.c1 (h : aC T w s l) : w.cell? ⟨s, 1, none⟩ = some (.int .i64 l.b) := by simp [World.cell?, show w.heap[s]? = _ from h]
theorem aC.c2 (h : aC T w s l) : w.cell? ⟨s, 2, none⟩ = some (.int .i64 l.c) := by simp [World.cell?, show w.heap[s]? = _ from h]
theorem aC.c3 (h : aC T w s l) : w.cell? ⟨s, 3, none⟩ = some (.int .i64 l.n) := by simp [World.cell?, show w.heap[s]? = _ from h]
theorem aC.lt (h : aC T w s l) : s < w.heap.size := ae h
theorem aC.below {B : Nat} (h : aC T w s l) (hb : Below B w w') (hs : s < B) : aC T w' s l := by
 unfold aC at *; rw [hb.block s hs]; exact h
end
theorem l7 (k : Int) (w : World) : Calls Tryz.prog 265 #[.int .i64 k] w fun e w' => e = .returned (.bool (lu k)) ∧ w = w' := by
 unfold lu
 by_cases h1 : 0 ≤ k
 ·have d1 : decide (0 ≤ k) = true := decide_eq_true h1
  go_enter Tryz.func265, Tryz.ntmps265
  exact gU
 ·have d1 : decide (0 ≤ k) = false := decide_eq_false h1
  go_enter Tryz.func265, Tryz.ntmps265
  go_wp2_with fail
  go_ret
  exact ⟨by simp, rfl⟩
section
variable {w : World} {s : Nat} {l : Lk}
theorem l8 (k : Int) (h : aC 94 w s l) : Calls Tryz.prog 264 #[.pointer (some ⟨s, 0, none⟩), .int .i64 k] w fun e w' => e = .returned (.int .i64 (l.own k)) ∧ w = w' := by
 have k0 := h.c0
 have k1 := h.c1
 have k2 := h.c2
 have hi := l7 k w
 by_cases hk : k = 0 ∨ k = 1 ∨ k = 2
 ·rcases hk with rfl | rfl | rfl
  ·have e : lu 0 = true := by decide
   rw [e] at hi
   clear e h
   exact gV
  ·have e : lu 1 = true := by decide
   rw [e] at hi
   clear e h
   exact gV
  ·have e : lu 2 = true := by decide
   rw [e] at hi
   clear e h
   exact gV
 ·have e : lu k = false := by unfold lu; simp; omega
  have e2 : l.own k = 0 := by unfold Lk.own; rw [if_neg (by omega), if_neg (by omega), if_neg (by omega)]
  rw [e] at hi
  rw [e2]
  clear e e2 h k0 k1 k2 hk
  exact gV
theorem yl (k who : Int) (p : Value) (o : Int) (hO : Calls Tryz.prog 264 #[p, .int .i64 k] w fun e w' => e = .returned (.int .i64 o) ∧ w = w') :
 Calls Tryz.prog 278 #[p, .int .i64 k, .int .i64 who] w fun e w' => e = .returned (.bool (decide (0 < who) && decide (o = who))) ∧ w = w' := by
 by_cases h1 : 0 < who
 ·have d1 : decide (0 < who) = true := decide_eq_true h1
  go_enter Tryz.func278, Tryz.ntmps278
  go_wp2_with (go_at_call 264; go_must (refine hO.mono ?_); rintro e w' ⟨rfl, rfl⟩)
  go_ret
  exact ⟨by simp [h1]; first | rfl | (by_cases e : o = who <;> simp [e]), rfl⟩
 ·have d1 : decide (0 < who) = false := decide_eq_false h1
  go_enter Tryz.func278, Tryz.ntmps278
  go_wp2_with fail
  go_ret
  exact ⟨by simp [d1], rfl⟩
theorem iD (k who : Int) (h : aC 94 w s l) : Calls Tryz.prog 278 #[.pointer (some ⟨s, 0, none⟩), .int .i64 k, .int .i64 who] w fun e w' => e = .returned (.bool (l.has k who)) ∧ w = w' := yl k who _ _ (l8 k h)
theorem eG (k who : Int) (s : Nat) (w : World) : Calls Tryz.prog 276 #[.pointer (some ⟨s, 0, none⟩), .int .i64 k, .int .i64 who] w fun e w' => e = .returned (.bool (eU k who)) ∧ w = w' := by
 have hi := l7 k w
 unfold eU
 obtain ⟨x, hx⟩ : ∃ x, x = lu k := ⟨_, rfl⟩
 rw [← hx] at hi ⊢
 clear hx
 cases x
 ·exact l6
 ·exact l6
def nO (l : Lk) (who : Int) : Value := az (l.has 0 who) (l.has 1 who) (l.has 2 who)
theorem vo (who : Int) (p : Value) (a b c : Bool) (w : World) (h0 : ∀ W, Below w.heap.size w W → Calls Tryz.prog 278 #[p, .int .i64 0, .int .i64 who] W fun e w' => e = .returned (.bool a) ∧ W = w')
 (h1 : ∀ W, Below w.heap.size w W → Calls Tryz.prog 278 #[p, .int .i64 1, .int .i64 who] W fun e w' => e = .returned (.bool b) ∧ W = w')
 (h2 : ∀ W, Below w.heap.size w W → Calls Tryz.prog 278 #[p, .int .i64 2, .int .i64 who] W fun e w' => e = .returned (.bool c) ∧ W = w') :
 Calls Tryz.prog 277 #[p, .int .i64 who] w fun e w' => e = .returned (az a b c) ∧ Below w.heap.size w w' := by
 unfold az
 obtain ⟨g, hg⟩ : ∃ g, g = w.heap.size + 1 := ⟨_, rfl⟩
 obtain ⟨w1, hw1⟩ : ∃ w1, w1 = (w.alloc (.cells #[.bool false, .bool false, .bool false] 158)).alloc (.cells #[.bool false, .bool false, .bool false] 158) := ⟨_, rfl⟩
 have hb1 : Below w.heap.size w w1 := by rw [hw1]; exact ((Below.refl _ _).alloc (Nat.le_refl _) _).alloc (by simp) _
 have hA1 : w1.heap[g]? = some (.cells #[.bool false, .bool false, .bool false] 158 (0, 0)) := by
  rw [hw1, hg]
  have := heap_alloc_new (w.alloc (.cells #[.bool false, .bool false, .bool false] 158)) (.cells #[.bool false, .bool false, .bool false] 158)
  simpa using this
 have aT : w1.heap[w.heap.size]? = some (.cells #[.bool false, .bool false, .bool false] 158 (0, 0)) := by
  rw [hw1]; exact dF (heap_alloc_new w _)
 replace hb1 := Lib.hid hb1
 replace hA1 := Lib.hid hA1
 replace aT := Lib.hid aT
 replace h0 := Lib.hid h0
 replace h1 := Lib.hid h1
 replace h2 := Lib.hid h2
 go_enter Tryz.func277, Tryz.ntmps277
 go_wp2_with fail
 rw [← hw1]
 rw [← hg]
 replace hw1 := Lib.hid hw1
 have hg1 : w.heap.size ≠ g := by omega
 have hg2 : w.heap.size ≤ g := by omega
 replace hg := Lib.hid hg
 go_loopw [6, 7] (fun jj ii wr => ∃ (cs : Array Value) (k : Int), ii = .int .i64 k ∧ Hid (wr.heap[g]? = some (.cells cs 158 (0, 0))) ∧ Hid (wr.heap[w.heap.size]? = some (.cells #[.bool false, .bool false, .bool false] 158 (0, 0))) ∧ Hid (Below w.heap.size w wr) ∧ Hid ((k = 0 ∧ cs = #[.bool false, .bool false, .bool false]) ∨ (k = 1 ∧ cs = #[.bool a, .bool false, .bool false]) ∨ (k = 2 ∧ cs = #[.bool a, .bool b, .bool false]) ∨ (k = 3 ∧ cs = #[.bool a, .bool b, .bool c]))) (fun _ ii _ => 3 - (intOf ii).toNat)
 case atStart => exact ⟨_, 0, rfl, hA1.out, aT.out, hb1.out, .inl ⟨rfl, rfl⟩⟩
 case round =>
  obtain ⟨cs, k, rfl, hG, hR, hB, hk⟩ := hrel
  rcases hk.out with ⟨rfl, rfl⟩ | ⟨rfl, rfl⟩ | ⟨rfl, rfl⟩ | ⟨rfl, rfl⟩
  ·have hh := h0.out wr hB.out
   have kc : wr.cell? ⟨g, 0, none⟩ = some (.bool false) := by simp [World.cell?, hG.out]
   have kf : wr.frozen? ⟨g, 0, none⟩ = false := by simp [World.frozen?, hG.out]
   clear hk
   go_wp2_with (go_at_call 278; go_must (refine hh.mono ?_); rintro e w5 ⟨rfl, rfl⟩)
   go_roundw
   case rel => exact ⟨_, 1, by go_num, heap_put hG.out _, by show (wr.setCell _ _).heap[w.heap.size]? = _; rw [Below.heap_setCell wr ⟨g, 0, none⟩ _ _ hg1]; exact hR.out, hB.out.setCell hg2 _, .inr (.inl ⟨rfl, rfl⟩)⟩
   case measure => simp [intOf]
  ·have hh := h1.out wr hB.out
   have kc : wr.cell? ⟨g, 1, none⟩ = some (.bool false) := by simp [World.cell?, hG.out]
   have kf : wr.frozen? ⟨g, 1, none⟩ = false := by simp [World.frozen?, hG.out]
   clear hk
   go_wp2_with (go_at_call 278; go_must (refine hh.mono ?_); rintro e w5 ⟨rfl, rfl⟩)
   go_roundw
   case rel => exact ⟨_, 2, by go_num, heap_put hG.out _, by show (wr.setCell _ _).heap[w.heap.size]? = _; rw [Below.heap_setCell wr ⟨g, 1, none⟩ _ _ hg1]; exact hR.out, hB.out.setCell hg2 _, .inr (.inr (.inl ⟨rfl, rfl⟩))⟩
   case measure => simp [intOf]
  ·have hh := h2.out wr hB.out
   have kc : wr.cell? ⟨g, 2, none⟩ = some (.bool false) := by simp [World.cell?, hG.out]
   have kf : wr.frozen? ⟨g, 2, none⟩ = false := by simp [World.frozen?, hG.out]
   clear hk
   go_wp2_with (go_at_call 278; go_must (refine hh.mono ?_); rintro e w5 ⟨rfl, rfl⟩)
   go_roundw
   case rel => exact ⟨_, 3, by go_num, heap_put hG.out _, by show (wr.setCell _ _).heap[w.heap.size]? = _; rw [Below.heap_setCell wr ⟨g, 2, none⟩ _ _ hg1]; exact hR.out, hB.out.setCell hg2 _, .inr (.inr (.inr ⟨rfl, rfl⟩))⟩
   case measure => simp [intOf]
  ·clear hk
   have k0 : wr.cell? ⟨g, 0, none⟩ = some (.bool a) := by simp [World.cell?, hG.out]
   have k1 : wr.cell? ⟨g, 1, none⟩ = some (.bool b) := by simp [World.cell?, hG.out]
   have k2 : wr.cell? ⟨g, 2, none⟩ = some (.bool c) := by simp [World.cell?, hG.out]
   have r0 : wr.cell? ⟨w.heap.size, 0, none⟩ = some (.bool false) := by simp [World.cell?, hR.out]
   have f0 : wr.frozen? ⟨w.heap.size, 0, none⟩ = false := by simp [World.frozen?, hR.out]
   have r1 : wr.cell? ⟨w.heap.size, 1, none⟩ = some (.bool false) := by simp [World.cell?, hR.out]
   have f1 : wr.frozen? ⟨w.heap.size, 1, none⟩ = false := by simp [World.frozen?, hR.out]
   have r2 : wr.cell? ⟨w.heap.size, 2, none⟩ = some (.bool false) := by simp [World.cell?, hR.out]
   have f2 : wr.frozen? ⟨w.heap.size, 2, none⟩ = false := by simp [World.frozen?, hR.out]
   go_wp2_with fail
   refine bg rfl rfl rfl (heap_put (heap_put (heap_put hR.out _) _) _) Tryz.underlying158 rfl (by kernel_rfl) ⟨rfl, ?_⟩
   exact ((hB.out.setCell (Nat.le_refl _) _).setCell (Nat.le_refl _) _).setCell (Nat.le_refl _) _
theorem ko (who : Int) (h : aC 94 w s l) : Calls Tryz.prog 277 #[.pointer (some ⟨s, 0, none⟩), .int .i64 who] w fun e w' => e = .returned (nO l who) ∧ Below w.heap.size w w' :=
 vo who _ _ _ _ w (fun _ hb => iD 0 who (h.below hb h.lt)) (fun _ hb => iD 1 who (h.below hb h.lt)) (fun _ hb => iD 2 who (h.below hb h.lt))
end
end Go.Proofs.YtbdfpbknckghgaaGreat

namespace Go.Proofs.YtbdfpbknckghgaaGreat
theorem jo {p : Prop} (f : p := by
 rw [hla] at hlt
 rw [if_pos rfl, if_neg (show ¬ ((17 : Int) = 0) by decide)]
 clear hla
 go_enter Tryz.func273, Tryz.ntmps273
 go_wp2_with fail
 go_at_call 276
 refine hc.mono ?_
 clear hc
 rintro e w5 ⟨rfl, rfl⟩
 go_wp2_with fail
 go_at_call 277
 refine hH.mono ?_
 clear hH
 rintro e w1 ⟨rfl, hb1⟩
 go_wp2_with fail
 go_at_call 136
 refine (hN w1).mono ?_
 clear hN
 rintro e w2 ⟨rfl, hb2⟩
 have g2 := (h.out.below hb1 hsl).below hb2 (Nat.lt_of_lt_of_le hsl hb1.size)
 have o2 := (Put.Off.of_below (p := s) (g := s) hb1).cB hb2
 replace g2 := Lib.hid g2
 replace o2 := Lib.hid o2
 clear hb1 hb2 h
 go_wp2_with fail
 go_ret
 exact ⟨rfl, g2.out, o2.out⟩) : p := f
theorem jq {p : Prop} (f : p := by
 go_wp2_with fail
 go_ret
 exact ⟨rfl, g2.out, o2.out⟩) : p := f
end Go.Proofs.YtbdfpbknckghgaaGreat
namespace Go.Proofs.YtbdfpbknckghgaaGreat
open Go.RowKit Go.Lib
def Lk.later (l : Lk) (k who : Int) : Bool := decide (k ≤ 0 ∧ l.a = who) || decide (k ≤ 1 ∧ l.b = who) || decide (k ≤ 2 ∧ l.c = who)
def Lk.put (l : Lk) (k v : Int) : Lk := ⟨if k = 0 then v else l.a, if k = 1 then v else l.b, if k = 2 then v else l.c, l.n⟩
def Lk.fB (l : Lk) (k who : Int) : Int := if eU k who = true then 1 else if l.later k who = true then 17 else if l.own k = 0 then 0 else 18
def Lk.ed (l : Lk) (k who : Int) : Lk := if l.fB k who = 0 then { l.put k who with n := l.n + 1 } else l
theorem l9 {k who : Int} (h : eU k who = false) : (k = 0 ∨ k = 1 ∨ k = 2) ∧ 0 < who := by
 unfold eU lu at h
 simp at h
 omega
theorem gH (l : Lk) {k who : Int} (h : eU k who = false) : decide (bC (l.has 0 who) (l.has 1 who) (l.has 2 who) k < 3) = l.later k who := by
 obtain ⟨hk, hw⟩ := l9 h
 have o0 : l.own 0 = l.a := rfl
 have o1 : l.own 1 = l.b := rfl
 have o2 : l.own 2 = l.c := rfl
 unfold bC Lk.later Lk.has
 rw [o0, o1, o2]
 rw [decide_eq_true hw]
 rcases hk with rfl | rfl | rfl <;> by_cases h0 : l.a = who <;> by_cases h1 : l.b = who <;> by_cases h2 : l.c = who <;> simp [h0, h1, h2]
def iN (T : TypeId) (w : World) (s : Nat) (r : Int) (l' : Lk) (e : Ending) (w' : World) : Prop := e = .returned (.int .i64 r) ∧ aC T w' s l' ∧ Put.Off s s w w'
section
variable {T : TypeId} {w w' : World} {s : Nat} {l : Lk}
theorem aC.fz (h : aC T w s l) (j : Nat) : w.frozen? ⟨s, j, none⟩ = false := by simp [World.frozen?, show w.heap[s]? = _ from h]
theorem aC.set0 (h : aC T w s l) (v : Int) : aC T (w.setCell ⟨s, 0, none⟩ (.int .i64 v)) s (l.put 0 v) := heap_put h _
theorem aC.set1 (h : aC T w s l) (v : Int) : aC T (w.setCell ⟨s, 1, none⟩ (.int .i64 v)) s (l.put 1 v) := heap_put h _
theorem aC.set2 (h : aC T w s l) (v : Int) : aC T (w.setCell ⟨s, 2, none⟩ (.int .i64 v)) s (l.put 2 v) := heap_put h _
theorem aC.vw (h : aC T w s l) (v : Int) : aC T (w.setCell ⟨s, 3, none⟩ (.int .i64 v)) s { l with n := v } := heap_put h _
end
section
variable {w : World} {s : Nat} {l : Lk}
theorem sP (k who : Int) (h : aC 94 w s l) (hl : eU k who = true) : Calls Tryz.prog 273 #[.pointer (some ⟨s, 0, none⟩), .int .i64 k, .int .i64 who] w (iN 94 w s 1 l) := by
 have hc := eG k who s w
 rw [hl] at hc
 replace h := Lib.hid h
 clear hl
 go_enter Tryz.func273, Tryz.ntmps273
 go_wp2_with (go_at_call 276; go_must (refine hc.mono ?_); rintro e w5 ⟨rfl, rfl⟩)
 go_ret
 exact ⟨rfl, h.out, Put.Off.refl _ _ _⟩
theorem zn (who : Int) (h : aC 94 w s l) (hl : eU 0 who = false) (hn : 0 ≤ l.n ∧ l.n ≤ 1000000) :
 Calls Tryz.prog 273 #[.pointer (some ⟨s, 0, none⟩), .int .i64 0, .int .i64 who] w (iN 94 w s (l.fB 0 who) (l.ed 0 who)) := by
 have hc := eG 0 who s w
 rw [hl] at hc
 have hH := ko who h
 unfold nO az at hH
 have hN := fun W => iL (l.has 0 who) (l.has 1 who) (l.has 2 who) 0 (by omega) W
 unfold az at hN
 have hlt := gH l hl
 obtain ⟨nx, hnx⟩ : ∃ n, n = bC (l.has 0 who) (l.has 1 who) (l.has 2 who) 0 := ⟨_, rfl⟩
 rw [← hnx] at hN hlt
 clear hnx
 obtain ⟨x, hx⟩ : ∃ x, x = l.has 0 who := ⟨_, rfl⟩
 obtain ⟨y, hy⟩ : ∃ y, y = l.has 1 who := ⟨_, rfl⟩
 obtain ⟨z, hz⟩ : ∃ z, z = l.has 2 who := ⟨_, rfl⟩
 rw [← hx, ← hy, ← hz] at hH hN
 clear hx hy hz
 unfold Lk.ed
 unfold Lk.fB
 rw [hl, if_neg (show ¬ (false = true) by decide)]
 have wi : IntKind.i64.wrap (l.n + 1) = l.n + 1 := by rw [IntKind.wrap_i64]; omega
 have hsl := h.lt
 replace h := Lib.hid h
 clear hl hn
 cases hla : l.later 0 who
 ·rw [hla] at hlt
  rw [if_neg (show ¬ (false = true) by decide)]
  by_cases h0 : l.own 0 = 0
  ·rw [if_pos h0, if_pos rfl]
   have h0' : l.a = 0 := h0
   clear hla h0
   go_enter Tryz.func273, Tryz.ntmps273
   go_wp2_with fail
   go_at_call 276
   refine hc.mono ?_
   clear hc
   rintro e w5 ⟨rfl, rfl⟩
   go_wp2_with fail
   go_at_call 277
   refine hH.mono ?_
   clear hH
   rintro e w1 ⟨rfl, hb1⟩
   go_wp2_with fail
   go_at_call 136
   refine (hN w1).mono ?_
   clear hN
   rintro e w2 ⟨rfl, hb2⟩
   have g2 := (h.out.below hb1 hsl).below hb2 (Nat.lt_of_lt_of_le hsl hb1.size)
   have o2 := (Put.Off.of_below (p := s) (g := s) hb1).cB hb2
   have kc : w2.cell? ⟨s, 0, none⟩ = some (.int .i64 0) := by rw [g2.c0, h0']
   have kn := g2.c3
   have kf := g2.fz 0
   have kg := g2.fz 3
   replace g2 := Lib.hid g2
   replace o2 := Lib.hid o2
   clear hb1 hb2 h0' h
   go_wp2_with fail
   go_ret
   exact ⟨rfl, (g2.out.set0 who).vw _, (o2.out.setCell (.inl rfl)).setCell (.inl rfl)⟩
  ·rw [if_neg h0, if_neg (show ¬ ((18 : Int) = 0) by decide)]
   have h0' : ¬ l.a = 0 := h0
   have h1' : (l.a != 0) = true := by simp [h0']
   clear hla h0 h0'
   obtain ⟨v, hv⟩ : ∃ v, v = l.a := ⟨_, rfl⟩
   rw [← hv] at h1'
   go_enter Tryz.func273, Tryz.ntmps273
   go_wp2_with fail
   go_at_call 276
   refine hc.mono ?_
   clear hc
   rintro e w5 ⟨rfl, rfl⟩
   go_wp2_with fail
   go_at_call 277
   refine hH.mono ?_
   clear hH
   rintro e w1 ⟨rfl, hb1⟩
   go_wp2_with fail
   go_at_call 136
   refine (hN w1).mono ?_
   clear hN
   rintro e w2 ⟨rfl, hb2⟩
   have g2 := (h.out.below hb1 hsl).below hb2 (Nat.lt_of_lt_of_le hsl hb1.size)
   have o2 := (Put.Off.of_below (p := s) (g := s) hb1).cB hb2
   have kc : w2.cell? ⟨s, 0, none⟩ = some (.int .i64 v) := by rw [g2.c0, hv]
   replace g2 := Lib.hid g2
   replace o2 := Lib.hid o2
   clear hb1 hb2 h hv
   exact jq
 ·exact jo
theorem zo (who : Int) (h : aC 94 w s l) (hl : eU 1 who = false) (hn : 0 ≤ l.n ∧ l.n ≤ 1000000) :
 Calls Tryz.prog 273 #[.pointer (some ⟨s, 0, none⟩), .int .i64 1, .int .i64 who] w (iN 94 w s (l.fB 1 who) (l.ed 1 who)) := by
 have hc := eG 1 who s w
 rw [hl] at hc
 have hH := ko who h
 unfold nO az at hH
 have hN := fun W => iL (l.has 0 who) (l.has 1 who) (l.has 2 who) 1 (by omega) W
 unfold az at hN
 have hlt := gH l hl
 obtain ⟨nx, hnx⟩ : ∃ n, n = bC (l.has 0 who) (l.has 1 who) (l.has 2 who) 1 := ⟨_, rfl⟩
 rw [← hnx] at hN hlt
 clear hnx
 obtain ⟨x, hx⟩ : ∃ x, x = l.has 0 who := ⟨_, rfl⟩
 obtain ⟨y, hy⟩ : ∃ y, y = l.has 1 who := ⟨_, rfl⟩
 obtain ⟨z, hz⟩ : ∃ z, z = l.has 2 who := ⟨_, rfl⟩
 rw [← hx, ← hy, ← hz] at hH hN
 clear hx hy hz
 unfold Lk.ed
 unfold Lk.fB
 rw [hl, if_neg (show ¬ (false = true) by decide)]
 have wi : IntKind.i64.wrap (l.n + 1) = l.n + 1 := by rw [IntKind.wrap_i64]; omega
 have hsl := h.lt
 replace h := Lib.hid h
 clear hl hn
 cases hla : l.later 1 who
 ·rw [hla] at hlt
  rw [if_neg (show ¬ (false = true) by decide)]
  by_cases h0 : l.own 1 = 0
  ·rw [if_pos h0, if_pos rfl]
   have h0' : l.b = 0 := h0
   clear hla h0
   go_enter Tryz.func273, Tryz.ntmps273
   go_wp2_with fail
   go_at_call 276
   refine hc.mono ?_
   clear hc
   rintro e w5 ⟨rfl, rfl⟩
   go_wp2_with fail
   go_at_call 277
   refine hH.mono ?_
   clear hH
   rintro e w1 ⟨rfl, hb1⟩
   go_wp2_with fail
   go_at_call 136
   refine (hN w1).mono ?_
   clear hN
   rintro e w2 ⟨rfl, hb2⟩
   have g2 := (h.out.below hb1 hsl).below hb2 (Nat.lt_of_lt_of_le hsl hb1.size)
   have o2 := (Put.Off.of_below (p := s) (g := s) hb1).cB hb2
   have kc : w2.cell? ⟨s, 1, none⟩ = some (.int .i64 0) := by rw [g2.c1, h0']
   have kn := g2.c3
   have kf := g2.fz 1
   have kg := g2.fz 3
   replace g2 := Lib.hid g2
   replace o2 := Lib.hid o2
   clear hb1 hb2 h0' h
   go_wp2_with fail
   go_ret
   exact ⟨rfl, (g2.out.set1 who).vw _, (o2.out.setCell (.inl rfl)).setCell (.inl rfl)⟩
  ·rw [if_neg h0, if_neg (show ¬ ((18 : Int) = 0) by decide)]
   have h0' : ¬ l.b = 0 := h0
   have h1' : (l.b != 0) = true := by simp [h0']
   clear hla h0 h0'
   obtain ⟨v, hv⟩ : ∃ v, v = l.b := ⟨_, rfl⟩
   rw [← hv] at h1'
   go_enter Tryz.func273, Tryz.ntmps273
   go_wp2_with fail
   go_at_call 276
   refine hc.mono ?_
   clear hc
   rintro e w5 ⟨rfl, rfl⟩
   go_wp2_with fail
   go_at_call 277
   refine hH.mono ?_
   clear hH
   rintro e w1 ⟨rfl, hb1⟩
   go_wp2_with fail
   go_at_call 136
   refine (hN w1).mono ?_
   clear hN
   rintro e w2 ⟨rfl, hb2⟩
   have g2 := (h.out.below hb1 hsl).below hb2 (Nat.lt_of_lt_of_le hsl hb1.size)
   have o2 := (Put.Off.of_below (p := s) (g := s) hb1).cB hb2
   have kc : w2.cell? ⟨s, 1, none⟩ = some (.int .i64 v) := by rw [g2.c1, hv]
   replace g2 := Lib.hid g2
   replace o2 := Lib.hid o2
   clear hb1 hb2 h hv
   exact jq
 ·exact jo
theorem zq (who : Int) (h : aC 94 w s l) (hl : eU 2 who = false) (hn : 0 ≤ l.n ∧ l.n ≤ 1000000) :
 Calls Tryz.prog 273 #[.pointer (some ⟨s, 0, none⟩), .int .i64 2, .int .i64 who] w (iN 94 w s (l.fB 2 who) (l.ed 2 who)) := by
 have hc := eG 2 who s w
 rw [hl] at hc
 have hH := ko who h
 unfold nO az at hH
 have hN := fun W => iL (l.has 0 who) (l.has 1 who) (l.has 2 who) 2 (by omega) W
 unfold az at hN
 have hlt := gH l hl
 obtain ⟨nx, hnx⟩ : ∃ n, n = bC (l.has 0 who) (l.has 1 who) (l.has 2 who) 2 := ⟨_, rfl⟩
 rw [← hnx] at hN hlt
 clear hnx
 obtain ⟨x, hx⟩ : ∃ x, x = l.has 0 who := ⟨_, rfl⟩
 obtain ⟨y, hy⟩ : ∃ y, y = l.has 1 who := ⟨_, rfl⟩
 obtain ⟨z, hz⟩ : ∃ z, z = l.has 2 who := ⟨_, rfl⟩
 rw [← hx, ← hy, ← hz] at hH hN
 clear hx hy hz
 unfold Lk.ed
 unfold Lk.fB
 rw [hl, if_neg (show ¬ (false = true) by decide)]
 have wi : IntKind.i64.wrap (l.n + 1) = l.n + 1 := by rw [IntKind.wrap_i64]; omega
 have hsl := h.lt
 replace h := Lib.hid h
 clear hl hn
 cases hla : l.later 2 who
 ·rw [hla] at hlt
  rw [if_neg (show ¬ (false = true) by decide)]
  by_cases h0 : l.own 2 = 0
  ·rw [if_pos h0, if_pos rfl]
   have h0' : l.c = 0 := h0
   clear hla h0
   go_enter Tryz.func273, Tryz.ntmps273
   go_wp2_with fail
   go_at_call 276
   refine hc.mono ?_
   clear hc
   rintro e w5 ⟨rfl, rfl⟩
   go_wp2_with fail
   go_at_call 277
   refine hH.mono ?_
   clear hH
   rintro e w1 ⟨rfl, hb1⟩
   go_wp2_with fail
   go_at_call 136
   refine (hN w1).mono ?_
   clear hN
   rintro e w2 ⟨rfl, hb2⟩
   have g2 := (h.out.below hb1 hsl).below hb2 (Nat.lt_of_lt_of_le hsl hb1.size)
   have o2 := (Put.Off.of_below (p := s) (g := s) hb1).cB hb2
   have kc : w2.cell? ⟨s, 2, none⟩ = some (.int .i64 0) := by rw [g2.c2, h0']
   have kn := g2.c3
   have kf := g2.fz 2
   have kg := g2.fz 3
   replace g2 := Lib.hid g2
   replace o2 := Lib.hid o2
   clear hb1 hb2 h0' h
   go_wp2_with fail
   go_ret
   exact ⟨rfl, (g2.out.set2 who).vw _, (o2.out.setCell (.inl rfl)).setCell (.inl rfl)⟩
  ·rw [if_neg h0, if_neg (show ¬ ((18 : Int) = 0) by decide)]
   have h0' : ¬ l.c = 0 := h0
   have h1' : (l.c != 0) = true := by simp [h0']
   clear hla h0 h0'
   obtain ⟨v, hv⟩ : ∃ v, v = l.c := ⟨_, rfl⟩
   rw [← hv] at h1'
   go_enter Tryz.func273, Tryz.ntmps273
   go_wp2_with fail
   go_at_call 276
   refine hc.mono ?_
   clear hc
   rintro e w5 ⟨rfl, rfl⟩
   go_wp2_with fail
   go_at_call 277
   refine hH.mono ?_
   clear hH
   rintro e w1 ⟨rfl, hb1⟩
   go_wp2_with fail
   go_at_call 136
   refine (hN w1).mono ?_
   clear hN
   rintro e w2 ⟨rfl, hb2⟩
   have g2 := (h.out.below hb1 hsl).below hb2 (Nat.lt_of_lt_of_le hsl hb1.size)
   have o2 := (Put.Off.of_below (p := s) (g := s) hb1).cB hb2
   have kc : w2.cell? ⟨s, 2, none⟩ = some (.int .i64 v) := by rw [g2.c2, hv]
   replace g2 := Lib.hid g2
   replace o2 := Lib.hid o2
   clear hb1 hb2 h hv
   exact jq
 ·exact jo
theorem ym (k who : Int) (h : aC 94 w s l) (hn : 0 ≤ l.n ∧ l.n ≤ 1000000) :
 Calls Tryz.prog 273 #[.pointer (some ⟨s, 0, none⟩), .int .i64 k, .int .i64 who] w (iN 94 w s (l.fB k who) (l.ed k who)) := by
 cases hl : eU k who
 ·rcases (l9 hl).1 with rfl | rfl | rfl
  ·exact zn who h hl hn
  ·exact zo who h hl hn
  ·exact zq who h hl hn
 ·have e : l.fB k who = 1 := by unfold Lk.fB; rw [if_pos hl]
  have e2 : l.ed k who = l := by unfold Lk.ed; rw [e, if_neg (by decide)]
  rw [e, e2]
  exact sP k who h hl
end
end Go.Proofs.YtbdfpbknckghgaaGreat

namespace Go.Proofs.YtbdfpbknckghgaaGreat
open Go.RowKit Go.Lib
abbrev Jb : Type := Int × Int × Int × Int × Int × Int × Int × Int × Int × Int
instance : DecidableEq Jb := (@instDecidableEqProd _ _ (inferInstanceAs (DecidableEq Int)) (@instDecidableEqProd _ _ (inferInstanceAs (DecidableEq Int)) (@instDecidableEqProd _ _ (inferInstanceAs (DecidableEq Int)) (@instDecidableEqProd _ _ (inferInstanceAs (DecidableEq Int)) (@instDecidableEqProd _ _ (inferInstanceAs (DecidableEq Int)) (@instDecidableEqProd _ _ (inferInstanceAs (DecidableEq Int)) (@instDecidableEqProd _ _ (inferInstanceAs (DecidableEq Int)) (@instDecidableEqProd _ _ (inferInstanceAs (DecidableEq Int)) (@instDecidableEqProd _ _ (inferInstanceAs (DecidableEq Int)) (inferInstanceAs (DecidableEq Int)))))))))))
instance : Inhabited Jb := ⟨(0, 0, 0, 0, 0, 0, 0, 0, 0, 0)⟩
def Jb.id (j : Jb) : Int := j.1
def yR (j : Jb) : List Value := [.int .i64 j.1, .int .i64 j.2.1, .int .i64 j.2.2.1, .int .i64 j.2.2.2.1, .int .i64 j.2.2.2.2.1, .int .i64 j.2.2.2.2.2.1, .int .i64 j.2.2.2.2.2.2.1, .int .i64 j.2.2.2.2.2.2.2.1, .int .i64 j.2.2.2.2.2.2.2.2.1, .int .u64 j.2.2.2.2.2.2.2.2.2]
section
set_option maxRecDepth 100000
end
end Go.Proofs.YtbdfpbknckghgaaGreat

namespace Go.Proofs.YtbdfpbknckghgaaGreat
def Jb.wid (j : Jb) : Int := j.2.2.1
def Jb.lim (j : Jb) : Int := j.2.2.2.1
def Jb.st (j : Jb) : Int := j.2.2.2.2.2.1
def Jb.fin (j : Jb) : Int := j.2.2.2.2.2.2.2.1
def Jb.zt (j : Jb) : Int := j.2.2.2.2.2.2.2.2.1
def Jb.Bw (j : Jb) : Int := j.2.2.2.2.2.2.2.2.2
structure Md where
 now : Int
 dr : List Bool
 L : List Jb
 cl : Bool
def Ah (s n : Nat) : Bool := decide (s / 2 ^ n % 2 = 1)
def yn (k : Nat) (j : Jb) : Bool := decide (j.st = 3) && Ah j.Bw.toNat k
def holderL (L : List Jb) (k : Nat) : Int := match L.findIdx? (yn k) with | some i => (i : Int) | none => -1
def gW (M : Md) (n : Int) : Int :=
 if n < 0 ∨ (M.dr.length : Int) ≤ n then 0
 else if 0 ≤ holderL M.L n.toNat then (if M.dr.getD n.toNat false then 3 else 2) else if M.dr.getD n.toNat false then 4 else 1
def sQ (j : Jb) : Bool := decide (j.st = 1) && decide (0 ≤ j.zt)
def nP (M : Md) (t : Int) (k : Nat) : Bool := !(M.dr.getD k false) && (decide (holderL M.L k < 0) || decide ((M.L.getD (holderL M.L k).toNat default).fin ≤ t))
def yo (t but : Int) (j : Jb) : Bool := sQ j && decide (j.id ≠ but) && decide (j.zt ≤ t) && decide (t < j.zt + j.lim)
def kr (M : Md) (t : Int) (k : Nat) : Int := (((List.range k).countP (nP M t) : Nat) : Int)
def rT (L : List Jb) (t but : Int) : Int := ((L.filter (yo t but)).map Jb.wid).sum
def qx (M : Md) (t but : Int) : Int := kr M t M.dr.length - rT M.L t but
end Go.Proofs.YtbdfpbknckghgaaGreat

namespace Go.Proofs.YtbdfpbknckghgaaGreat
def tA (L : List (Int × Int)) (i : Nat) : Int := (L.getD i (0, 0)).1
def tV (L : List (Int × Int)) (i : Nat) : Int := (L.getD i (0, 0)).2
structure Sm (L : List (Int × Int)) (now : Int) (f : Int → Int) : Prop where
 pos : 0 < L.length
 hd : tA L 0 = now
 inc : ∀ i, i + 1 < L.length → tA L i < tA L (i + 1)
 top : ∀ i, i < L.length → tA L i < 1152921504606846976
 rep : ∀ i t, i < L.length → tA L i ≤ t → (i + 1 < L.length → t < tA L (i + 1)) → f t = tV L i
def Ai (L : List (Int × Int)) (X : Int → Prop) : Prop := ∀ i, i + 1 < L.length → ¬ X (tA L (i + 1)) → tV L i ≠ tV L (i + 1)
structure Can (L : List (Int × Int)) (now : Int) (f : Int → Int) : Prop where
 sm : Sm L now f
 alt : Ai L (fun _ => False)
section
variable {L : List (Int × Int)} {now : Int} {f : Int → Int}
theorem Sm.lt (h : Sm L now f) {i j : Nat} (hij : i < j) (hj : j < L.length) : tA L i < tA L j := by
 induction j with
 | zero => omega
 | succ j ih =>
   rcases Nat.lt_or_ge i j with h1 | h1
   ·have := ih h1 (by omega)
    have := h.inc j hj
    omega
   ·have : i = j := by omega
    subst this
    exact h.inc i hj
theorem Sm.le (h : Sm L now f) {i j : Nat} (hij : i ≤ j) (hj : j < L.length) : tA L i ≤ tA L j := by
 rcases Nat.lt_or_ge i j with h1 | h1
 ·exact Int.le_of_lt (h.lt h1 hj)
 ·have : i = j := by omega
  subst this
  exact Int.le_refl _
theorem Sm.yt (h : Sm L now f) {i : Nat} (hi : i < L.length) : now ≤ tA L i := by
 rw [← h.hd]
 exact h.le (Nat.zero_le _) hi
theorem Can.congr {g : Int → Int} (h : Can L now f) (hfg : ∀ t, now ≤ t → f t = g t) : Can L now g :=
 ⟨⟨h.sm.pos, h.sm.hd, h.sm.inc, h.sm.top, fun i t hi ha hn => by have := h.sm.yt hi; rw [← hfg t (by omega)]; exact h.sm.rep i t hi ha hn⟩, h.alt⟩
end
section
end
end Go.Proofs.YtbdfpbknckghgaaGreat


namespace Go.Proofs.YtbdfpbknckghgaaGreat
open Go.RowKit
namespace Reg2
inductive Kind : Type 1 where
 | pure
 | minor (α : Type) (d : α) (val : α → Value) (Post : α → World → Prop)
 | pinned (α : Type) (d : α) (val : α → Value) (Post : α → World → Prop)
 | major (α : Type) (d : α) (val : α → Value)
variable (P : Program) (ops : Array Oper)
def slot (o : Oper) (a : Act) : Value := match o.dst with | some d => a.tmps.getD d undef | none => undef
def Ext (w w' : World) : Prop := Below w.heap.size w w'
def Done (o : Oper) (R : Value → World → Prop) (a0 : Act) : Exit → Act → World → Prop
 | .normal, a, w => ∃ v, a = a0.put o.dst v ∧ R v w
 | _, _, _ => False
def One (o : Oper) (a : Act) (w : World) (R : Value → World → Prop) : Prop := wpList P ops (Done o R a) [o] a w
def dh : World → Prop := fun _ => True
def facts (w : World) : List Bool → List (World → Prop) → Prop
 | true :: bs, f :: fs => f w ∧ facts w bs fs
 | false :: bs, _ :: fs => facts w bs fs
 | _, _ => True
def gX (w : World) : List (World → Prop) → Prop
 | f :: fs => f w ∧ gX w fs
 | [] => True
variable (I : World → Prop) (S : List Value → World → Prop) (G : World → World → Prop) (fin : Act → List (World → Prop) → List Value → Prop)
def opPass (o : Oper) (m : List Bool) (a : Act) (F : List (World → Prop)) (vs : List Value) (nx : Act → List (World → Prop) → List Value → Prop) : Kind → Prop
 | .pure => ∃ v : Value, Yields P ops o v a ∧ nx (a.put o.dst v) (F ++ [dh]) vs
 | .minor α _ val Post =>
   (Region.wanted o (yielded ops a.tmps) = true → (∀ w, I w → facts w m F → One P ops o a w fun v w' => (∃ x : α, v = val x ∧ Post x w') ∧ Ext w w') ∧ ∀ x : α, nx (a.put o.dst (val x)) (F ++ [Post x]) vs) ∧
   (Region.wanted o (yielded ops a.tmps) = false → nx (a.put o.dst undef) (F ++ [dh]) vs)
 | .pinned α _ val Post =>
   (Region.wanted o (yielded ops a.tmps) = true → (∀ w, I w → S vs w → facts w m F → One P ops o a w fun v w' => (∃ x : α, v = val x ∧ Post x w') ∧ Ext w w') ∧ ∀ x : α, nx (a.put o.dst (val x)) (F ++ [Post x]) vs) ∧
   (Region.wanted o (yielded ops a.tmps) = false → nx (a.put o.dst undef) (F ++ [dh]) vs)
 | .major α _ val =>
   (Region.wanted o (yielded ops a.tmps) = true → (∀ w, I w → S vs w → facts w m F → One P ops o a w fun v w' => ((∃ x : α, v = val x) ∧ S (vs ++ [v]) w') ∧ G w w') ∧ ∀ x : α, nx (a.put o.dst (val x)) (F ++ [dh]) (vs ++ [val x])) ∧
   (Region.wanted o (yielded ops a.tmps) = false → (∀ w, I w → S vs w → S (vs ++ [undef]) w) ∧ nx (a.put o.dst undef) (F ++ [dh]) (vs ++ [undef]))
def pass : List (Oper × Kind × List Bool) → Act → List (World → Prop) → List Value → Prop
 | [], a, F, vs => fin a F vs
 | x :: r, a, F, vs => opPass P ops I S G x.1 x.2.2 a F vs (pass r) x.2.1
def eX : Kind → Prop
 | .minor _ _ _ Post => (∀ x w w', Ext w w' → Post x w → Post x w') ∧ (∀ x w w', G w w' → Post x w → Post x w')
 | .pinned _ _ _ Post => (∀ x w w', Ext w w' → Post x w → Post x w') ∧ (∀ x w w', G w w' → Post x w → Post x w')
 | _ => True
def stays : List (Oper × Kind × List Bool) → Prop
 | x :: r => eX G x.2.1 ∧ stays r
 | [] => True
def ak : Kind → Nat | .pure => 0 | .minor .. => 1 | .pinned .. => 2 | .major .. => 3
def at2 (ms : List (List Bool)) (i j : Nat) : Bool := (ms.getD i []).getD j false
def okRow (n : Nat) (ms : List (List Bool)) (tags : List Nat) (i : Nat) (o : Oper) : Bool :=
 (ms.getD i []).length == i && (o.dst.isSome || tags.getD i 0 == 3) && (match o.op with | .select _ _ => false | _ => true) &&
 o.after.all (fun e => !Region.binds .any e || e.on < i) &&
 (List.range n).all fun j =>
  (!at2 ms i j || o.after.any fun e => Region.binds .any e && (e.on == j || at2 ms e.on j)) &&
  (!at2 ms i j || (List.range n).all fun l => !at2 ms j l || at2 ms i l) &&
  (match ops[j]? with
   | none => false
   | some p => (i == j || !(o.dst == p.dst) || !o.dst.isSome) && (match p.dst with | some d => !(o.looksAt ops).contains d || at2 ms i j | none => true) &&
     (!((tags.getD i 0 == 3 || tags.getD i 0 == 2) && tags.getD j 0 == 3) || i == j || at2 ms i j || at2 ms j i))
def okB (n N : Nat) (ms : List (List Bool)) (tags : List Nat) : Bool :=
 (n ≤ ops.size) && (List.range ops.size).all fun i => match ops[i]? with
  | none => false
  | some o => if i < n then okRow ops n ms tags i o && (match o.dst with | some d => d < N | none => true)
   else o.after.all (fun e => !Region.binds .any e || e.on < i) && (List.range i).all fun j => o.after.any fun e => Region.binds .any e && (e.on == j || (decide (e.on < n) && at2 ms e.on j) || (decide (n ≤ e.on) && decide (j < e.on)))
def silent : Kind → Prop | .major _ _ val => ∀ x, val x = undef | _ => False
structure Ok (n N : Nat) (ms : List (List Bool)) (all : List (Oper × Kind × List Bool)) : Prop where
 le : n ≤ ops.size
 len : all.length = n
 get : ∀ (i : Nat) (o : Oper) (k : Kind) (m : List Bool), all[i]? = some (o, k, m) → ops[i]? = some o ∧ m = ms.getD i []
 ma : ∀ (i : Nat) (o : Oper), i < n → ops[i]? = some o → (ms.getD i []).length = i
 dst : ∀ (i : Nat) (o : Oper), i < n → ops[i]? = some o → ∀ d, o.dst = some d → d < N
 non : ∀ (i : Nat) (o : Oper) (k : Kind) (m : List Bool), all[i]? = some (o, k, m) → o.dst = none → silent k
 yu : ∀ (i : Nat) (o : Oper), i < n → ops[i]? = some o → ∀ cs b, o.op ≠ .select cs b
 back : ∀ (i : Nat) (o : Oper), ops[i]? = some o → ∀ e ∈ o.after, Region.binds .any e = true → e.on < i
 ahead : ∀ (i : Nat) (o : Oper) (j : Nat), i < n → ops[i]? = some o → at2 ms i j = true → ∃ e ∈ o.after, Region.binds .any e = true ∧ (e.on = j ∨ at2 ms e.on j = true)
 trans : ∀ (i j l : Nat), i < n → at2 ms i j = true → at2 ms j l = true → at2 ms i l = true
 apart : ∀ (i j : Nat) (o p : Oper), i < n → j < n → i ≠ j → ops[i]? = some o → ops[j]? = some p → ∀ d, o.dst = some d → p.dst ≠ some d
 looks : ∀ (i j : Nat) (o p : Oper) (d : Tmp), i < n → j < n → ops[i]? = some o → ops[j]? = some p → p.dst = some d → d ∈ o.looksAt ops → at2 ms i j = true
 Aj : ∀ (i j : Nat) (o : Oper) (k : Kind) (m : List Bool) (p : Oper) (k' : Kind) (m' : List Bool), all[i]? = some (o, k, m) → (ak k = 3 ∨ ak k = 2) → all[j]? = some (p, k', m') → ak k' = 3 → i ≠ j → at2 ms i j = true ∨ at2 ms j i = true
 tail : ∀ (i : Nat) (o : Oper) (j : Nat), n ≤ i → ops[i]? = some o → j < i → ∃ e ∈ o.after, Region.binds .any e = true ∧ (e.on = j ∨ (e.on < n ∧ at2 ms e.on j = true) ∨ (n ≤ e.on ∧ j < e.on))
theorem eH {ms : List (List Bool)} {i j : Nat} (h : (ms.getD i []).length = i) (hj : at2 ms i j = true) : j < i := by
 unfold at2 at hj
 rcases Nat.lt_or_ge j i with hlt | hge
 ·exact hlt
 ·rw [List.getD_eq_getElem?_getD, List.getElem?_eq_none (by omega)] at hj
  cases hj
theorem vz {n N : Nat} {ms : List (List Bool)} {all : List (Oper × Kind × List Bool)} (h : okB ops n N ms (all.map fun x => ak x.2.1) = true) (hl : all.map (·.1) = ops.toList.take n) (hms : all.map (·.2.2) = ms) (fC : ∀ x ∈ all, x.1.dst = none → silent x.2.1) : Ok ops n N ms all := by
 unfold okB at h
 rw [Bool.and_eq_true] at h
 obtain ⟨hle, h⟩ := h
 have hle : n ≤ ops.size := by simpa using hle
 rw [List.all_eq_true] at h
 have hlen : all.length = n := by
  have := congrArg List.length hl
  simp only [List.length_map, List.length_take, Array.length_toList] at this
  omega
 have hget : ∀ (i : Nat) (o : Oper) (k : Kind) (m : List Bool), all[i]? = some (o, k, m) → ops[i]? = some o ∧ m = ms.getD i [] := by
  intro i o k m hi
  refine ⟨?_, by rw [← hms]; simp [List.getD, hi]⟩
  have h1 : (all.map (·.1))[i]? = some o := by simp [hi]
  rw [hl, List.getElem?_take] at h1
  split at h1
  ·simpa using h1
  ·cases h1
 have row : ∀ (i : Nat) (o : Oper), i < n → ops[i]? = some o → okRow ops n ms (all.map fun x => ak x.2.1) i o = true ∧ ∀ d, o.dst = some d → d < N := by
  intro i o hi ho
  have := h i (List.mem_range.2 (by omega))
  simp only [ho, hi, if_true, Bool.and_eq_true] at this
  refine ⟨this.1, ?_⟩
  have h2 := this.2
  intro d hd
  simpa [hd] using h2
 have oW : ∀ (i : Nat) (o : Oper) (j : Nat), i < n → ops[i]? = some o → j < n →
  ((!at2 ms i j || o.after.any fun e => Region.binds .any e && (e.on == j || at2 ms e.on j)) &&
  (!at2 ms i j || (List.range n).all fun l => !at2 ms j l || at2 ms i l) &&
  (match ops[j]? with
   | none => false
   | some p => (i == j || !(o.dst == p.dst) || !o.dst.isSome) && (match p.dst with | some d => !(o.looksAt ops).contains d || at2 ms i j | none => true) &&
     (!(((all.map fun x => ak x.2.1).getD i 0 == 3 || (all.map fun x => ak x.2.1).getD i 0 == 2) && (all.map fun x => ak x.2.1).getD j 0 == 3) || i == j || at2 ms i j || at2 ms j i))) = true := by
  intro i o j hi ho hj
  have h1 := (row i o hi ho).1
  unfold okRow at h1
  rw [Bool.and_eq_true, List.all_eq_true] at h1
  exact h1.2 j (List.mem_range.2 hj)
 have nQ : ∀ (i : Nat) (o : Oper), i < n → ops[i]? = some o → (ms.getD i []).length = i := by
  intro i o hi ho
  have h1 := (row i o hi ho).1
  unfold okRow at h1
  simp only [Bool.and_eq_true] at h1
  simpa using h1.1.1.1.1
 have oZ : ∀ (i : Nat), i < ops.size → ∃ o, ops[i]? = some o := fun i hi => ⟨ops[i], by simp [hi]⟩
 refine ⟨hle, hlen, hget, nQ, fun i o hi ho => (row i o hi ho).2, fun i o k m hi => fC _ (List.mem_of_getElem? hi), ?_, ?_, ?_, ?_, ?_, ?_, ?_, ?_⟩
 ·intro i o hi ho cs b hop
  have h1 := (row i o hi ho).1
  unfold okRow at h1
  simp only [Bool.and_eq_true] at h1
  have := h1.1.1.2
  rw [hop] at this
  cases this
 ·intro i o ho e he hb
  have hi : i < ops.size := (Array.getElem?_eq_some_iff.1 ho).1
  have h1 := h i (List.mem_range.2 hi)
  simp only [ho] at h1
  split at h1
  ·rename_i hin
   have h2 := (row i o hin ho).1
   unfold okRow at h2
   simp only [Bool.and_eq_true, Array.all_eq_true_iff_forall_mem] at h2
   simpa [hb] using h2.1.2 e he
  ·rw [Bool.and_eq_true, Array.all_eq_true_iff_forall_mem] at h1
   simpa [hb] using h1.1 e he
 ·intro i o j hi ho hj
  have hlt := eH (nQ i o hi ho) hj
  have h1 := oW i o j hi ho (by omega)
  simp only [Bool.and_eq_true, hj, Bool.not_true, Bool.false_or] at h1
  have h2 := h1.1.1
  rw [Array.any_eq_true] at h2
  obtain ⟨x, hx, h3⟩ := h2
  simp only [Bool.and_eq_true, Bool.or_eq_true, beq_iff_eq] at h3
  exact ⟨_, Array.getElem_mem hx, h3.1, h3.2⟩
 ·intro i j l hi hij hjl
  obtain ⟨o, ho⟩ := oZ i (by omega)
  have hlt := eH (nQ i o hi ho) hij
  obtain ⟨p, hp⟩ := oZ j (by omega)
  have hlt2 := eH (nQ j p (by omega) hp) hjl
  have h1 := oW i o j hi ho (by omega)
  simp only [Bool.and_eq_true, hij, Bool.not_true, Bool.false_or] at h1
  have h2 := h1.1.2
  rw [List.all_eq_true] at h2
  have := h2 l (List.mem_range.2 (by omega))
  simpa [hjl] using this
 ·intro i j o p hi hj hne ho hp d hd he
  have h1 := oW i o j hi ho hj
  simp only [hp, Bool.and_eq_true] at h1
  have h2 := h1.2.1.1
  rw [he, hd] at h2
  simp [hne] at h2
 ·intro i j o p d hi hj ho hp hd hm
  have h1 := oW i o j hi ho hj
  simp only [hp, Bool.and_eq_true, hd] at h1
  have h2 := h1.2.1.2
  simpa [List.contains_iff_mem, hm] using h2
 ·intro i j o k m p k' m' hi hk hj hk' hne
  have ho := (hget i o k m hi).1
  have hp := (hget j p k' m' hj).1
  have hin : i < n := by rw [← hlen]; exact (List.getElem?_eq_some_iff.1 hi).1
  have hjn : j < n := by rw [← hlen]; exact (List.getElem?_eq_some_iff.1 hj).1
  have h1 := oW i o j hin ho hjn
  simp only [hp, Bool.and_eq_true] at h1
  have h2 := h1.2.2
  have e1 : (all.map fun x => ak x.2.1).getD i 0 = ak k := by simp [List.getD, hi]
  have e2 : (all.map fun x => ak x.2.1).getD j 0 = 3 := by simp [List.getD, hj, hk']
  rw [e1, e2] at h2
  have e3 : ((ak k == 3 || ak k == 2) && (3 == 3)) = true := by rcases hk with hk | hk <;> simp [hk]
  rw [e3] at h2
  simpa [hne] using h2
 ·intro i o j hi ho hj
  have Bz : i < ops.size := (Array.getElem?_eq_some_iff.1 ho).1
  have h1 := h i (List.mem_range.2 Bz)
  simp only [ho, show ¬ i < n by omega, if_false, Bool.and_eq_true, List.all_eq_true] at h1
  have h2 := h1.2 j (List.mem_range.2 hj)
  rw [Array.any_eq_true] at h2
  obtain ⟨x, hx, h3⟩ := h2
  simp only [Bool.and_eq_true, Bool.or_eq_true, beq_iff_eq, decide_eq_true_eq] at h3
  refine ⟨_, Array.getElem_mem hx, h3.1, ?_⟩
  rcases h3.2 with (h4 | h4) | h4
  ·exact .inl h4
  ·exact .inr (.inl h4)
  ·exact .inr (.inr h4)
variable {P ops I S G fin}
def valsOf (L : Nat → Bool) (a : Act) : List (Oper × Kind × List Bool) → Nat → List Value
 | [], _ => []
 | x :: r, j => (if ak x.2.1 = 3 ∧ L j = true then [slot x.1 a] else []) ++ valsOf L a r (j + 1)
theorem bU (L : Nat → Bool) (a : Act) (r : List (Oper × Kind × List Bool)) : ∀ (l : List (Oper × Kind × List Bool)) (j : Nat), valsOf L a (l ++ r) j = valsOf L a l j ++ valsOf L a r (j + l.length)
 | [], j => by simp [valsOf]
 | x :: l, j => by
   simp only [xE, valsOf, bU L a r l (j + 1), List.append_assoc, List.length_cons]
   rw [show j + 1 + l.length = j + (l.length + 1) by omega]
theorem iy {L L' : Nat → Bool} {a a' : Act} : ∀ (l : List (Oper × Kind × List Bool)) (j : Nat), (∀ i x, l[i]? = some x → ak x.2.1 = 3 → L (j + i) = L' (j + i) ∧ (L (j + i) = true → slot x.1 a = slot x.1 a')) → valsOf L a l j = valsOf L' a' l j
 | [], _, _ => rfl
 | x :: l, j, h => by
   have h0 := h 0 x rfl
   simp only [valsOf]
   rw [iy l (j + 1) fun i y hy ht => by have := h (i + 1) y (by simpa using hy) ht; rw [show j + (i + 1) = j + 1 + i by omega] at this; exact this]
   by_cases ht : ak x.2.1 = 3
   ·obtain ⟨h1, h2⟩ := h0 ht
    simp only [Nat.add_zero] at h1 h2
    by_cases hL : L j = true
    ·rw [if_pos ⟨ht, hL⟩, if_pos ⟨ht, by rw [← h1]; exact hL⟩, h2 hL]
    ·rw [if_neg (by simp [hL]), if_neg (by rw [← h1]; simp [hL])]
   ·simp [ht]
theorem fD {L : Nat → Bool} {a : Act} : ∀ (l : List (Oper × Kind × List Bool)) (j : Nat), (∀ i x, l[i]? = some x → ak x.2.1 = 3 → L (j + i) = false) → valsOf L a l j = []
 | [], _, _ => rfl
 | x :: l, j, h => by
   have h0 := h 0 x rfl
   simp only [valsOf]
   rw [fD l (j + 1) fun i y hy ht => by have := h (i + 1) y (by simpa using hy) ht; rw [show j + (i + 1) = j + 1 + i by omega] at this; exact this]
   by_cases ht : ak x.2.1 = 3
   ·have h1 := h0 ht
    simp only [Nat.add_zero] at h1
    simp [h1]
   ·simp [ht]
def eY (P : Program) (ops : Array Oper) (o : Oper) (a : Act) (w : World) : Kind → Prop
 | .pure => Yields P ops o (slot o a) a
 | .minor α _ val Post => (Region.wanted o (yielded ops a.tmps) = true → ∃ x : α, slot o a = val x ∧ Post x w) ∧ (Region.wanted o (yielded ops a.tmps) = false → slot o a = undef)
 | .pinned α _ val Post => (Region.wanted o (yielded ops a.tmps) = true → ∃ x : α, slot o a = val x ∧ Post x w) ∧ (Region.wanted o (yielded ops a.tmps) = false → slot o a = undef)
 | .major α _ val => (Region.wanted o (yielded ops a.tmps) = true → ∃ x : α, slot o a = val x) ∧ (Region.wanted o (yielded ops a.tmps) = false → slot o a = undef)
variable (P ops S) in
structure Inv (n : Nat) (ms : List (List Bool)) (all : List (Oper × Kind × List Bool)) (a0 : Act) (L : Nat → Bool) (a : Act) (w : World) : Prop where
 defers : a.defers = a0.defers
 size : a.tmps.size = a0.tmps.size
 frame : ∀ t, (∀ (j : Nat) (o : Oper), j < n → L j = true → ops[j]? = some o → o.dst ≠ some t) → a.tmps[t]? = a0.tmps[t]?
 closed : ∀ i j, i < n → L i = true → at2 ms i j = true → L j = true
 holds : ∀ (j : Nat) (o : Oper) (k : Kind) (m : List Bool), L j = true → all[j]? = some (o, k, m) → eY P ops o a w k
 state : S (valsOf L a all 0) w
theorem o7 {o : Oper} {v v' : Value} {a : Act} (w : World) (h : Yields P ops o v a) (h' : Yields P ops o v' a) : v = v' := by
 rcases h with ⟨h1, h2⟩ | ⟨h1, rfl⟩ <;> rcases h' with ⟨h3, h4⟩ | ⟨h3, rfl⟩
 ·have := (h2 w).symm.trans (h4 w); simpa using this
 ·rw [h1] at h3; cases h3
 ·rw [h1] at h3; cases h3
 ·rfl
theorem iO {o : Oper} (hs : ∀ cs b, o.op ≠ .select cs b) {a b : Act} (h : ∀ t, t ∈ o.looksAt ops → a.tmps[t]? = b.tmps[t]?) :
 execOp a.eval o = execOp b.eval o ∧ Region.wanted o (yielded ops a.tmps) = Region.wanted o (yielded ops b.tmps) := by
 constructor
 ·refine execOp_congr o hs fun x hx => ?_
  cases x with
  | tmp t =>
    have : t ∈ o.looksAt ops := List.mem_append_left _ (List.mem_filterMap.2 ⟨.tmp t, by simpa using hx, rfl⟩)
    simp [Act.eval, h t this]
  | _ => rfl
 ·unfold Region.wanted
  cases hg : o.guard with
  | none => rfl
  | some gw =>
    obtain ⟨g, want⟩ := gw
    have hy : yielded ops a.tmps g = yielded ops b.tmps g := by
     unfold yielded
     cases ht : (ops[g]?).bind (·.dst) with
     | none => rfl
     | some t =>
       have : t ∈ o.looksAt ops := List.mem_append_right _ (by simp [hg, ht])
       simp [h t this]
    simp only [hy]
theorem sS {o : Oper} {a : Act} {d : Tmp} (hd : o.dst = some d) (hlt : d < a.tmps.size) (v : Value) : slot o (a.put o.dst v) = v := by
 simp [slot, hd, Act.put, hlt]
theorem o9 {a : Act} {d t : Tmp} (h : d ≠ t) (v : Value) : (a.put (some d) v).tmps[t]? = a.tmps[t]? := by
 simp [Act.put, Array.getElem?_setIfInBounds_ne h]
theorem nR {o : Oper} {a : Act} {d : Tmp} (h : o.dst ≠ some d) (v : Value) : slot o (a.put (some d) v) = slot o a := by
 unfold slot
 cases ho : o.dst with
 | none => rfl
 | some e =>
   have hne : d ≠ e := fun hx => h (by rw [ho, hx])
   simp only [Array.getD_eq_getD_getElem?, o9 hne]
theorem sU {a b : Act} {d : Tmp} (ha : d < a.tmps.size) (v : Value) (hv : v = b.tmps.getD d undef) (hb : d < b.tmps.size) : (a.put (some d) v).tmps[d]? = b.tmps[d]? := by
 subst hv; simp [Act.put, ha, hb]
theorem cK {o : Oper} {a : Act} {v : Value} (hn : o.dst = none → v = undef) (hlt : ∀ d, o.dst = some d → d < a.tmps.size) : slot o (a.put o.dst v) = v := by
 cases hd : o.dst with
 | none => rw [hn hd]; simp [slot, hd]
 | some d => rw [← hd]; exact sS hd (hlt d hd) v
theorem fI {o : Oper} {a : Act} {t : Tmp} (h : o.dst ≠ some t) (v : Value) : (a.put o.dst v).tmps[t]? = a.tmps[t]? := by
 cases hd : o.dst with
 | none => rfl
 | some d => exact o9 (fun e => h (by rw [hd, e])) v
theorem iA {o p : Oper} {a : Act} (h : ∀ d, o.dst = some d → p.dst ≠ some d) (v : Value) : slot p (a.put o.dst v) = slot p a := by
 cases hd : o.dst with
 | none => rfl
 | some d => exact nR (h d hd) v
theorem mf (a : Act) (d : Option Tmp) (v : Value) : (a.put d v).tmps.size = a.tmps.size := by
 cases d <;> simp [Act.put]
theorem put_defers (a : Act) (d : Option Tmp) (v : Value) : (a.put d v).defers = a.defers := by
 cases d <;> rfl
structure qy (ops : Array Oper) (n : Nat) (L : Nat → Bool) (a0 a : Act) (j : Nat) (ac : Act) : Prop where
 defers : ac.defers = a0.defers
 size : ac.tmps.size = a0.tmps.size
 done : ∀ (i : Nat) (o : Oper) (t : Tmp), i < j → i < n → L i = true → ops[i]? = some o → o.dst = some t → ac.tmps[t]? = a.tmps[t]?
 rest : ∀ t, (∀ (i : Nat) (o : Oper), i < j → i < n → ops[i]? = some o → o.dst ≠ some t) → ac.tmps[t]? = a0.tmps[t]?
theorem qy.step {n N : Nat} {ms : List (List Bool)} {all : List (Oper × Kind × List Bool)} {L : Nat → Bool} {a0 a ac : Act} {j : Nat} {o : Oper} (ok : Ok ops n N ms all) (hN : a0.tmps.size = N) (ha : a.tmps.size = a0.tmps.size)
 (h : qy ops n L a0 a j ac) (hj : j < n) (ho : ops[j]? = some o) {v : Value} (hv : L j = true → v = slot o a) : qy ops n L a0 a (j + 1) (ac.put o.dst v) := by
 refine ⟨(put_defers _ _ _).trans h.defers, (mf _ _ _).trans h.size, ?_, ?_⟩
 ·intro i p t hi hin iP hp ht
  by_cases hij : i = j
  ·subst hij
   rw [ho] at hp
   obtain rfl := Option.some.inj hp
   have hlt := ok.dst i o hj ho t ht
   rw [ht]
   exact sU (by rw [h.size, hN]; exact hlt) _ (by rw [hv iP]; simp [slot, ht]) (by rw [ha, hN]; exact hlt)
  ·rw [fI (ok.apart i j p o hin hj hij hp ho t ht) _]
   exact h.done i p t (by omega) hin iP hp ht
 ·intro t ht
  rw [fI (ht j o (by omega) hj ho)]
  exact h.rest t fun i p hi hin hp => ht i p (by omega) hin hp
theorem qy.looks {n N : Nat} {ms : List (List Bool)} {all : List (Oper × Kind × List Bool)} {a0 a ac : Act} {j : Nat} {o : Oper} {L : Nat → Bool} {w : World} (ok : Ok ops n N ms all) (inv : Inv P ops S n ms all a0 L a w)
 (h : qy ops n L a0 a j ac) (hjn : j < n) (ho : ops[j]? = some o) (hM : ∀ i, at2 ms j i = true → L i = true) :
 ∀ t, t ∈ o.looksAt ops → ac.tmps[t]? = a.tmps[t]? := by
 intro t ht
 by_cases hx : ∃ (i : Nat) (p : Oper), i < n ∧ ops[i]? = some p ∧ p.dst = some t
 ·obtain ⟨i, p, hin, hp, hd⟩ := hx
  have h2 := ok.looks j i o p t hjn hin ho hp hd ht
  have hlt := eH (ok.ma j o hjn ho) h2
  exact h.done i p t hlt hin (hM i h2) hp hd
 ·rw [h.rest t fun i p _ hin hp hd => hx ⟨i, p, hin, hp, hd⟩, inv.frame t fun i p hin _ hp hd => hx ⟨i, p, hin, hp, hd⟩]
theorem jr {w : World} : ∀ (m : List Bool) (F : List (World → Prop)), (∀ (i : Nat) (f : World → Prop), m.getD i false = true → F[i]? = some f → f w) → facts w m F
 | [], F, _ => by unfold facts; trivial
 | true :: m, [], _ => by unfold facts; trivial
 | false :: m, [], _ => by unfold facts; trivial
 | true :: m, f :: F, h => ⟨h 0 f rfl rfl, jr m F fun i g hi hg => h (i + 1) g (by simpa using hi) (by simpa using hg)⟩
 | false :: m, f :: F, h => jr m F fun i g hi hg => h (i + 1) g (by simpa using hi) (by simpa using hg)
theorem iQ {w : World} : ∀ (F : List (World → Prop)), (∀ (i : Nat) (f : World → Prop), F[i]? = some f → f w) → gX w F
 | [], _ => trivial
 | f :: F, h => ⟨h 0 f rfl, iQ F fun i g hg => h (i + 1) g (by simpa using hg)⟩
theorem mg {n N : Nat} {ms : List (List Bool)} {all : List (Oper × Kind × List Bool)} {a0 a : Act} {L : Nat → Bool} {w : World} (ok : Ok ops n N ms all) (hN : a0.tmps.size = N) (inv : Inv P ops S n ms all a0 L a w)
 (hp : pass P ops I S G fin all a0 [] []) : ∀ j, j ≤ n → ∃ ac F vs, pass P ops I S G fin (all.drop j) ac F vs ∧ qy ops n L a0 a j ac ∧ F.length = j ∧ (∀ (i : Nat) (f : World → Prop), L i = true → F[i]? = some f → f w) ∧
  ((∀ i x, i < j → all[i]? = some x → ak x.2.1 = 3 → L i = true) → vs = valsOf L a (all.take j) 0) := by
 intro j
 induction j with
 | zero => exact fun _ => ⟨a0, [], [], by simpa using hp, ⟨rfl, rfl, fun i o t hi => by omega, fun t _ => rfl⟩, rfl, fun i f _ h => by simp at h, fun _ => by simp [valsOf]⟩
 | succ j ih =>
   intro hj
   obtain ⟨ac, F, vs, bD, hag, hF, hf, hvs⟩ := ih (by omega)
   have hjl : j < all.length := by rw [ok.len]; omega
   obtain ⟨⟨o, k, m⟩, hall⟩ : ∃ x, all[j]? = some x := ⟨all[j], by simp [hjl]⟩
   obtain ⟨ho, _⟩ := ok.get j o k m hall
   have hdrop : all.drop j = (o, k, m) :: all.drop (j + 1) := by
    rw [List.drop_eq_getElem_cons hjl]
    rw [List.getElem?_eq_getElem hjl] at hall
    rw [Option.some.inj hall]
   have htake : all.take (j + 1) = all.take j ++ [(o, k, m)] := by
    rw [List.take_succ_eq_append_getElem hjl]
    rw [List.getElem?_eq_getElem hjl] at hall
    rw [Option.some.inj hall]
   rw [hdrop] at bD
   have vB : (all.take j).length = j := by rw [List.length_take]; omega
   have hfn : ∀ (g : World → Prop), (L j = true → g w) → ∀ (i : Nat) (f : World → Prop), L i = true → (F ++ [g])[i]? = some f → f w := by
    intro g hg i f iP hfi
    rcases Nat.lt_or_ge i F.length with h | h
    ·rw [List.getElem?_append_left h] at hfi; exact hf i f iP hfi
    ·rw [List.getElem?_append_right h] at hfi
     have : i = j := by
      have := (List.getElem?_eq_some_iff.1 hfi).1
      simp at this; omega
     subst this
     rw [hF, Nat.sub_self] at hfi
     simp at hfi
     subst hfi
     exact hg iP
   have hv0 : ak k ≠ 3 → (∀ i x, i < j + 1 → all[i]? = some x → ak x.2.1 = 3 → L i = true) → vs = valsOf L a (all.take (j + 1)) 0 := by
    intro ht hx
    rw [htake, bU, vB, hvs fun i x hi => hx i x (by omega)]
    simp [valsOf, ht]
   have hv3 : ak k = 3 → ∀ v, (L j = true → v = slot o a) → (∀ i x, i < j + 1 → all[i]? = some x → ak x.2.1 = 3 → L i = true) → vs ++ [v] = valsOf L a (all.take (j + 1)) 0 := by
    intro ht v hv hx
    have gI := hx j _ (by omega) hall ht
    rw [htake, bU, vB, hvs fun i x hi => hx i x (by omega), hv gI]
    simp [valsOf, ht, gI]
   have hlk : L j = true → execOp ac.eval o = execOp a.eval o ∧ Region.wanted o (yielded ops ac.tmps) = Region.wanted o (yielded ops a.tmps) := fun gI =>
    iO (fun cs b => ok.yu j o (by omega) ho cs b) (hag.looks ok inv (by omega) ho fun i hi => inv.closed j i (by omega) gI hi)
   have hst : ∀ v, (L j = true → v = slot o a) → qy ops n L a0 a (j + 1) (ac.put o.dst v) := fun v hv => hag.step ok hN inv.size (by omega) ho hv
   have dO : ∀ (g : World → Prop), (F ++ [g]).length = j + 1 := fun g => by simp [hF]
   cases gI : L j with
   | false =>
     have hno : ∀ {p : Prop}, L j = true → p := fun h => by rw [gI] at h; cases h
     cases k with
     | pure =>
       obtain ⟨v, hy, hnx⟩ := bD
       exact ⟨_, _, _, hnx, hst v hno, dO _, hfn _ hno, hv0 (by simp [ak])⟩
     | minor α d val Post =>
       cases hw : Region.wanted o (yielded ops ac.tmps) with
       | true => exact ⟨_, _, _, (bD.1 hw).2 d, hst _ hno, dO _, hfn _ hno, hv0 (by simp [ak])⟩
       | false => exact ⟨_, _, _, bD.2 hw, hst _ hno, dO _, hfn _ hno, hv0 (by simp [ak])⟩
     | pinned α d val Post =>
       cases hw : Region.wanted o (yielded ops ac.tmps) with
       | true => exact ⟨_, _, _, (bD.1 hw).2 d, hst _ hno, dO _, hfn _ hno, hv0 (by simp [ak])⟩
       | false => exact ⟨_, _, _, bD.2 hw, hst _ hno, dO _, hfn _ hno, hv0 (by simp [ak])⟩
     | major α d val =>
       cases hw : Region.wanted o (yielded ops ac.tmps) with
       | true => exact ⟨_, _, _, (bD.1 hw).2 d, hst _ hno, dO _, hfn _ hno, hv3 rfl _ hno⟩
       | false => exact ⟨_, _, _, (bD.2 hw).2, hst _ hno, dO _, hfn _ hno, hv3 rfl _ hno⟩
   | true =>
     obtain ⟨hex, hwt⟩ := hlk gI
     have hh := inv.holds j o k m gI hall
     cases k with
     | pure =>
       obtain ⟨v, hy, hnx⟩ := bD
       have hv : v = slot o a := o7 w hy (Yields.of_same (show Yields P ops o (slot o a) a from hh) hex hwt)
       exact ⟨_, _, _, hnx, hst v fun _ => hv, dO _, hfn _ fun _ => trivial, hv0 (by simp [ak])⟩
     | minor α d val Post =>
       cases hw : Region.wanted o (yielded ops ac.tmps) with
       | true =>
         obtain ⟨x, hx, hpx⟩ := hh.1 (by rw [← hwt]; exact hw)
         exact ⟨_, _, _, (bD.1 hw).2 x, hst _ fun _ => hx.symm, dO _, hfn _ fun _ => hpx, hv0 (by simp [ak])⟩
       | false =>
         have hu := hh.2 (by rw [← hwt]; exact hw)
         exact ⟨_, _, _, bD.2 hw, hst _ fun _ => hu.symm, dO _, hfn _ fun _ => trivial, hv0 (by simp [ak])⟩
     | pinned α d val Post =>
       cases hw : Region.wanted o (yielded ops ac.tmps) with
       | true =>
         obtain ⟨x, hx, hpx⟩ := hh.1 (by rw [← hwt]; exact hw)
         exact ⟨_, _, _, (bD.1 hw).2 x, hst _ fun _ => hx.symm, dO _, hfn _ fun _ => hpx, hv0 (by simp [ak])⟩
       | false =>
         have hu := hh.2 (by rw [← hwt]; exact hw)
         exact ⟨_, _, _, bD.2 hw, hst _ fun _ => hu.symm, dO _, hfn _ fun _ => trivial, hv0 (by simp [ak])⟩
     | major α d val =>
       cases hw : Region.wanted o (yielded ops ac.tmps) with
       | true =>
         obtain ⟨x, hx⟩ := hh.1 (by rw [← hwt]; exact hw)
         exact ⟨_, _, _, (bD.1 hw).2 x, hst _ fun _ => hx.symm, dO _, hfn _ fun _ => trivial, hv3 rfl _ fun _ => hx.symm⟩
       | false =>
         have hu := hh.2 (by rw [← hwt]; exact hw)
         exact ⟨_, _, _, (bD.2 hw).2, hst _ fun _ => hu.symm, dO _, hfn _ fun _ => trivial, hv3 rfl _ fun _ => hu.symm⟩
theorem vC {a : Act} {d : Tmp} (hlt : d < a.tmps.size) {u v : Value} (h : a.put (some d) u = a.put (some d) v) : u = v := by
 have := congrArg (fun b : Act => b.tmps[d]?) h
 simpa [Act.put, hlt] using this
theorem nS {o : Oper} {a ac : Act} {w : World} {R : Value → World → Prop} {K : Act → World → Prop} {Q : Exit → Act → World → Prop} (hlt : ∀ d, o.dst = some d → d < ac.tmps.size)
 (h : One P ops o ac w R) (hex : execOp ac.eval o = execOp a.eval o) (hw : Region.wanted o (yielded ops ac.tmps) = true) (hK : ∀ v w', R v w' → K (a.put o.dst v) w') : o.wp P a w K Q := by
 unfold One wpList at h
 rw [if_pos hw] at h
 rcases h with h | ⟨_, a', w', h⟩
 case inr => exact h.elim
 unfold Oper.wp at *
 rw [hex] at h
 generalize (execOp a.eval o).run P w = r at *
 have key : ∀ u w', wpList P ops (Done o R ac) [] (ac.put o.dst u) w' → K (a.put o.dst u) w' := by
  intro u w' hn
  obtain ⟨v, hv, hR⟩ := hn
  cases hd : o.dst with
  | none => rw [← show a.put o.dst v = a.put none u by rw [hd]; rfl]; exact hK _ _ hR
  | some d =>
    rw [hd] at hv
    have := vC (hlt d hd) hv
    subst this
    rw [← hd]
    exact hK _ _ hR
 cases r with
 | ok n w' =>
   cases n <;> simp only [Oper.upon] at h ⊢
   case value u => exact key _ _ h
   case skip => exact key _ _ h
   case defer x =>
    obtain ⟨v, hv, _⟩ := h
    have := congrArg (fun b : Act => b.defers.length) hv
    simp [put_defers] at this
   case enter f args =>
    refine Calls.mono h fun e w'' he => ?_
    cases e with
    | returned u => exact key _ _ he
    | panicked c => exact (he : False).elim
    | outgrown => obtain ⟨a', w', he⟩ := he; exact (he : False).elim
   case row row args => exact Rows.mono h fun u w'' he => key _ _ he
 | halt x w' =>
   cases x <;> simp only [Oper.upon] at h ⊢
   case panic u => exact (h : False).elim
def more (L : Nat → Bool) (i : Nat) : Nat → Bool := fun j => j == i || L j
theorem iE {L : Nat → Bool} {i : Nat} : more L i i = true := by simp [more]
theorem fJ {L : Nat → Bool} {i j : Nat} (h : L j = true) : more L i j = true := by simp [more, h]
theorem jQ {L : Nat → Bool} {i j : Nat} (h : more L i j = true) : j = i ∨ L j = true := by simpa [more] using h
theorem jX {n N : Nat} {ms : List (List Bool)} {all : List (Oper × Kind × List Bool)} {i j : Nat} {o p : Oper} {k : Kind} {a : Act} {w w' : World} (ok : Ok ops n N ms all) (hi : i < n) (hj : j < n) (hne : i ≠ j)
 (ho : ops[i]? = some o) (hp : ops[j]? = some p) (hnot : at2 ms j i ≠ true) (v : Value)
 (hpost : ∀ α d val Post, (k = .minor α d val Post ∨ k = .pinned α d val Post) → ∀ x, Post x w → Post x w') (h : eY P ops p a w k) : eY P ops p (a.put o.dst v) w' k := by
 have iF : slot p (a.put o.dst v) = slot p a := iA (ok.apart i j o p hi hj hne ho hp) v
 have hlk : ∀ t, t ∈ p.looksAt ops → (a.put o.dst v).tmps[t]? = a.tmps[t]? := by
  intro t ht
  exact fI (fun hd => hnot (ok.looks j i p o t hj hi hp ho hd ht)) v
 obtain ⟨hex, hwt⟩ := iO (fun cs b => ok.yu j p hj hp cs b) hlk
 cases k with
 | pure => exact Yields.of_same (by rw [iF]; exact h) hex hwt
 | minor α dd val Post =>
   refine ⟨fun hw => ?_, fun hw => ?_⟩
   ·obtain ⟨x, hx, hpx⟩ := h.1 (by rw [← hwt]; exact hw)
    exact ⟨x, by rw [iF]; exact hx, hpost α dd val Post (Or.inl rfl) x hpx⟩
   ·rw [iF]; exact h.2 (by rw [← hwt]; exact hw)
 | pinned α dd val Post =>
   refine ⟨fun hw => ?_, fun hw => ?_⟩
   ·obtain ⟨x, hx, hpx⟩ := h.1 (by rw [← hwt]; exact hw)
    exact ⟨x, by rw [iF]; exact hx, hpost α dd val Post (Or.inr rfl) x hpx⟩
   ·rw [iF]; exact h.2 (by rw [← hwt]; exact hw)
 | major α dd val =>
   refine ⟨fun hw => ?_, fun hw => ?_⟩
   ·obtain ⟨x, hx⟩ := h.1 (by rw [← hwt]; exact hw)
    exact ⟨x, by rw [iF]; exact hx⟩
   ·rw [iF]; exact h.2 (by rw [← hwt]; exact hw)
theorem qz {l : List (Oper × Kind × List Bool)} (h : stays G l) {j : Nat} {o : Oper} {k : Kind} {m : List Bool} (hj : l[j]? = some (o, k, m)) : eX G k := by
 induction l generalizing j with
 | nil => simp at hj
 | cons x l ih =>
   cases j with
   | zero => simp at hj; subst hj; exact h.1
   | succ j => exact ih h.2 (by simpa using hj)
theorem Inv.next {n N : Nat} {ms : List (List Bool)} {all : List (Oper × Kind × List Bool)} {a0 a : Act} {L : Nat → Bool} {w w' : World} {i : Nat} {o : Oper} {k : Kind} {m : List Bool} {v : Value}
 (ok : Ok ops n N ms all) (hN : a0.tmps.size = N) (inv : Inv P ops S n ms all a0 L a w) (hi : i < n) (iP : L i = false) (hall : all[i]? = some (o, k, m)) (hm : ∀ j, at2 ms i j = true → L j = true)
 (hpost : ∀ (j : Nat) (p : Oper) (k' : Kind) (m' : List Bool), all[j]? = some (p, k', m') → ∀ α d val Post, (k' = .minor α d val Post ∨ k' = .pinned α d val Post) → ∀ x, Post x w → Post x w')
 (zu : o.dst = none → v = undef) (hself : eY P ops o (a.put o.dst v) w' k)
 (hS : S (if ak k = 3 then valsOf L a all 0 ++ [v] else valsOf L a all 0) w') : Inv P ops S n ms all a0 (more L i) (a.put o.dst v) w' := by
 obtain ⟨ho, _⟩ := ok.get i o k m hall
 have hsz : ∀ d, o.dst = some d → d < a.tmps.size := fun d hd => by rw [inv.size, hN]; exact ok.dst i o hi ho d hd
 have hjlt : ∀ (j : Nat) (p : Oper) (k' : Kind) (m' : List Bool), all[j]? = some (p, k', m') → j < n := fun j p k' m' hj => by rw [← ok.len]; exact (List.getElem?_eq_some_iff.1 hj).1
 refine ⟨(put_defers _ _ _).trans inv.defers, (mf _ _ _).trans inv.size, ?_, ?_, ?_, ?_⟩
 ·intro t ht
  rw [fI (ht i o hi iE ho)]
  exact inv.frame t fun j p hj gI hp => ht j p hj (fJ gI) hp
 ·intro x j hx zw hxj
  rcases jQ zw with rfl | zw
  ·exact fJ (hm j hxj)
  ·exact fJ (inv.closed x j hx zw hxj)
 ·intro j p k' m' gI hj
  rcases jQ gI with rfl | gI
  ·rw [hall] at hj
   obtain ⟨rfl, rfl, rfl⟩ : o = p ∧ k = k' ∧ m = m' := by simpa using hj
   exact hself
  ·have hjn := hjlt j p k' m' hj
   have hne : i ≠ j := fun e => by subst e; rw [iP] at gI; cases gI
   refine jX ok hi hjn hne ho (ok.get j p k' m' hj).1 (fun h => ?_) v (hpost j p k' m' hj) (inv.holds j p k' m' gI hj)
   have := inv.closed j i hjn gI h
   rw [iP] at this; cases this
 ·have hil : i < all.length := by rw [ok.len]; exact hi
  have hsplit : all = all.take i ++ (o, k, m) :: all.drop (i + 1) := by
   have h1 := List.drop_eq_getElem_cons hil
   rw [List.getElem?_eq_getElem hil] at hall
   rw [Option.some.inj hall] at h1
   rw [← h1, List.take_append_drop]
  have hlen : (all.take i).length = i := by rw [List.length_take]; omega
  have hval : valsOf (more L i) (a.put o.dst v) all 0 = if ak k = 3 then valsOf L a all 0 ++ [v] else valsOf L a all 0 := by
   have vF : ∀ (l : List (Oper × Kind × List Bool)) (j0 : Nat), (∀ x y, l[x]? = some y → all[j0 + x]? = some y ∧ j0 + x ≠ i) → valsOf (more L i) (a.put o.dst v) l j0 = valsOf L a l j0 := by
    intro l j0 hl
    refine (iy l j0 fun x y hx ht => ?_).symm
    obtain ⟨h1, h2⟩ := hl x y hx
    refine ⟨by simp [more, h2], fun hL => ?_⟩
    obtain ⟨p, k', m'⟩ := y
    exact (iA (ok.apart i (j0 + x) o p hi (hjlt _ p k' m' h1) (Ne.symm h2) ho (ok.get _ p k' m' h1).1) v).symm
   have hA : valsOf (more L i) (a.put o.dst v) (all.take i) 0 = valsOf L a (all.take i) 0 := vF _ 0 fun x y hx => by
    rw [List.getElem?_take] at hx
    split at hx
    ·exact ⟨by simpa using hx, by omega⟩
    ·cases hx
   have hB : valsOf (more L i) (a.put o.dst v) (all.drop (i + 1)) (i + 1) = valsOf L a (all.drop (i + 1)) (i + 1) := vF _ (i + 1) fun x y hx => by
    rw [List.getElem?_drop] at hx
    exact ⟨hx, by omega⟩
   have e1 : valsOf (more L i) (a.put o.dst v) all 0 = valsOf L a (all.take i) 0 ++ ((if ak k = 3 then [v] else []) ++ valsOf L a (all.drop (i + 1)) (i + 1)) := by
    conv => lhs; rw [hsplit]
    rw [bU, hA, hlen]
    simp only [valsOf, Nat.zero_add, hB, iE, and_true]
    rw [cK zu hsz]
   have e2 : valsOf L a all 0 = valsOf L a (all.take i) 0 ++ valsOf L a (all.drop (i + 1)) (i + 1) := by
    conv => lhs; rw [hsplit]
    rw [bU, hlen]
    simp [valsOf, iP]
   by_cases ht : ak k = 3
   ·have hC : valsOf L a (all.drop (i + 1)) (i + 1) = [] := by
     refine fD _ _ fun x y hx hy => ?_
     rw [List.getElem?_drop] at hx
     obtain ⟨p, k', m'⟩ := y
     have hjn := hjlt _ p k' m' hx
     rcases ok.Aj i (i + 1 + x) o k m p k' m' hall (Or.inl ht) hx hy (by omega) with h | h
     ·have := eH (ok.ma i o hi ho) h; omega
     ·cases hL : L (i + 1 + x) with
      | false => rfl
      | true => have := inv.closed _ i hjn hL h; rw [iP] at this; cases this
    rw [e1, e2, hC]
    simp [ht]
   ·rw [e1, e2]
    simp [ht]
  rw [hval]
  exact hS
structure vG (I : World → Prop) (S : List Value → World → Prop) (G : World → World → Prop) (all : List (Oper × Kind × List Bool)) : Prop where
 s : ∀ vs w w', Ext w w' → S vs w → S vs w'
 ie : ∀ w w', Ext w w' → I w → I w'
 ig : ∀ w w', G w w' → I w → I w'
 st : stays G all
theorem Ext.refl (w : World) : Ext w w := Below.refl _ _
theorem sV {n N : Nat} {ms : List (List Bool)} {all : List (Oper × Kind × List Bool)} {a0 a : Act} {L : Nat → Bool} {w : World} {i : Nat} {K : Act → World → Prop} {Q : Exit → Act → World → Prop} (ok : Ok ops n N ms all) (hN : a0.tmps.size = N) (iR : vG I S G all)
 (hp : pass P ops I S G fin all a0 [] []) (inv : Inv P ops S n ms all a0 L a w) (hI : I w) (hi : i < n) (iP : L i = false) (hm : ∀ j, at2 ms i j = true → L j = true)
 (hK : ∀ a' w', Inv P ops S n ms all a0 (more L i) a' w' → I w' → K a' w') : wpOp P ops Q i K a w := by
 obtain ⟨ac, F, vs, bD, hag, hF, hf, hvs⟩ := mg ok hN inv hp i (by omega)
 have hil : i < all.length := by rw [ok.len]; exact hi
 obtain ⟨⟨o, k, m⟩, hall⟩ : ∃ x, all[i]? = some x := ⟨all[i], by simp [hil]⟩
 obtain ⟨ho, hmm⟩ := ok.get i o k m hall
 have hlt := ok.dst i o hi ho
 have fC := ok.non i o k m hall
 have hdrop : all.drop i = (o, k, m) :: all.drop (i + 1) := by
  rw [List.drop_eq_getElem_cons hil]
  rw [List.getElem?_eq_getElem hil] at hall
  rw [Option.some.inj hall]
 rw [hdrop] at bD
 have ku : ∀ d, o.dst = some d → d < a.tmps.size := fun d hd => by rw [inv.size, hN]; exact hlt d hd
 have hcsz : ∀ d, o.dst = some d → d < ac.tmps.size := fun d hd => by rw [hag.size, hN]; exact hlt d hd
 obtain ⟨hex, hwt⟩ := iO (fun cs b => ok.yu i o hi ho cs b) (hag.looks ok inv hi ho hm)
 have hjlt : ∀ (j : Nat) (p : Oper) (k' : Kind) (m' : List Bool), all[j]? = some (p, k', m') → j < n := fun j p k' m' hj => by rw [← ok.len]; exact (List.getElem?_eq_some_iff.1 hj).1
 have hown : ∀ v, execOp (a.put o.dst v).eval o = execOp a.eval o ∧ Region.wanted o (yielded ops (a.put o.dst v).tmps) = Region.wanted o (yielded ops a.tmps) := fun v =>
  iO (fun cs b => ok.yu i o hi ho cs b) fun t ht => by
   refine fI (fun hd => ?_) v
   have h1 := ok.looks i i o o t hi hi ho ho hd ht
   have := eH (ok.ma i o hi ho) h1
   omega
 have nT : facts w m F := jr m F fun j f hj BA => hf j f (hm j (by subst hmm; exact hj)) BA
 have zx : ∀ w', Ext w w' ∨ G w w' → ∀ (j : Nat) (p : Oper) (k' : Kind) (m' : List Bool), all[j]? = some (p, k', m') → ∀ α dd val Post, (k' = .minor α dd val Post ∨ k' = .pinned α dd val Post) → ∀ x, Post x w → Post x w' := by
  intro w' hw' j p k' m' hj α dd val Post hk x hx
  have hs := qz iR.st hj
  rcases hk with rfl | rfl <;> rcases hw' with h | h
  ·exact hs.1 x w w' h hx
  ·exact hs.2 x w w' h hx
  ·exact hs.1 x w w' h hx
  ·exact hs.2 x w w' h hx
 have kv : (ak k = 3 ∨ ak k = 2) → vs = valsOf L a all 0 := by
  intro ht
  have hold : ∀ (j : Nat) (x : Oper × Kind × List Bool), j ≠ i → all[j]? = some x → ak x.2.1 = 3 → (j < i → L j = true) ∧ (i < j → L j = false) := by
   intro j x hne hj hx
   obtain ⟨p, k', m'⟩ := x
   have hjn := hjlt j p k' m' hj
   rcases ok.Aj i j o k m p k' m' hall ht hj hx (Ne.symm hne) with h | h
   ·have hji := eH (ok.ma i o hi ho) h
    exact ⟨fun _ => hm j h, fun _ => by omega⟩
   ·have hji := eH (ok.ma j p hjn (ok.get j p k' m' hj).1) h
    refine ⟨fun _ => by omega, fun _ => ?_⟩
    cases hL : L j with
    | false => rfl
    | true => have := inv.closed j i hjn hL h; rw [iP] at this; cases this
  rw [hvs fun j x hji hj hx => (hold j x (by omega) hj hx).1 hji]
  have hsplit : all = all.take i ++ all.drop i := (List.take_append_drop i all).symm
  have hlen : (all.take i).length = i := by rw [List.length_take]; omega
  conv => rhs; rw [hsplit]
  rw [bU, hlen, Nat.zero_add, fD (all.drop i) i fun x y hx hy => ?_, List.append_nil]
  rw [List.getElem?_drop] at hx
  by_cases h0 : x = 0
  ·subst h0; simpa using iP
  ·exact (hold (i + x) y (by omega) hx hy).2 (by omega)
 have other : ∀ v w', (o.dst = none → v = undef) → (Ext w w' ∨ G w w') → eY P ops o (a.put o.dst v) w' k → S (if ak k = 3 then valsOf L a all 0 ++ [v] else valsOf L a all 0) w' → K (a.put o.dst v) w' := by
  intro v w' zu hw' hself hS
  refine hK _ _ (inv.next ok hN hi iP hall hm (zx w' hw') zu hself hS) ?_
  rcases hw' with h | h
  ·exact iR.ie w w' h hI
  ·exact iR.ig w w' h hI
 unfold wpOp
 simp only [ho]
 cases k with
 | pure =>
   obtain ⟨v, hy, _⟩ := bD
   have hya : Yields P ops o v a := hy.of_same hex.symm hwt.symm
   have hk := other v w (fun hn => absurd (fC hn) id) (Or.inl (Ext.refl w)) (by
    show Yields P ops o (slot o (a.put o.dst v)) (a.put o.dst v)
    rw [cK (fun hn => absurd (fC hn) id) ku]
    exact hya.of_same (hown v).1 (hown v).2) (by simpa [ak] using inv.state)
   rcases hya with ⟨hw, hv⟩ | ⟨hw, rfl⟩
   ·rw [if_pos hw]; left; simp only [Oper.wp, hv w, Oper.upon]; exact hk
   ·rw [if_neg (by simp [hw])]; exact hk
 | minor α dd val Post =>
   cases hw : Region.wanted o (yielded ops ac.tmps) with
   | true =>
     rw [if_pos (by rw [← hwt]; exact hw)]
     left
     refine nS hcsz ((bD.1 hw).1 w hI nT) hex hw fun v w' ⟨⟨x, hx, hpx⟩, he⟩ => ?_
     refine other v w' (fun hn => absurd (fC hn) id) (Or.inl he) ⟨fun _ => ⟨x, by rw [cK (fun hn => absurd (fC hn) id) ku]; exact hx, hpx⟩, fun h => ?_⟩ (by simpa [ak] using iR.s _ w w' he inv.state)
     rw [(hown v).2, ← hwt, hw] at h; cases h
   | false =>
     rw [if_neg (by rw [← hwt]; simp [hw])]
     refine other undef w (fun hn => absurd (fC hn) id) (Or.inl (Ext.refl w)) ⟨fun h => ?_, fun _ => cK (fun hn => absurd (fC hn) id) ku⟩ (by simpa [ak] using inv.state)
     rw [(hown undef).2, ← hwt, hw] at h; cases h
 | pinned α dd val Post =>
   cases hw : Region.wanted o (yielded ops ac.tmps) with
   | true =>
     rw [if_pos (by rw [← hwt]; exact hw)]
     left
     refine nS hcsz ((bD.1 hw).1 w hI (by rw [kv (Or.inr rfl)]; exact inv.state) nT) hex hw fun v w' ⟨⟨x, hx, hpx⟩, he⟩ => ?_
     refine other v w' (fun hn => absurd (fC hn) id) (Or.inl he) ⟨fun _ => ⟨x, by rw [cK (fun hn => absurd (fC hn) id) ku]; exact hx, hpx⟩, fun h => ?_⟩ (by simpa [ak] using iR.s _ w w' he inv.state)
     rw [(hown v).2, ← hwt, hw] at h; cases h
   | false =>
     rw [if_neg (by rw [← hwt]; simp [hw])]
     refine other undef w (fun hn => absurd (fC hn) id) (Or.inl (Ext.refl w)) ⟨fun h => ?_, fun _ => cK (fun hn => absurd (fC hn) id) ku⟩ (by simpa [ak] using inv.state)
     rw [(hown undef).2, ← hwt, hw] at h; cases h
 | major α dd val =>
   cases hw : Region.wanted o (yielded ops ac.tmps) with
   | true =>
     rw [if_pos (by rw [← hwt]; exact hw)]
     left
     refine nS hcsz ((bD.1 hw).1 w hI (by rw [kv (Or.inl rfl)]; exact inv.state) nT) hex hw fun v w' ⟨⟨⟨x, hx⟩, hS⟩, hg⟩ => ?_
     refine other v w' (fun hn => by rw [hx]; exact fC hn x) (Or.inr hg) ⟨fun _ => ⟨x, by rw [cK (fun hn => by rw [hx]; exact fC hn x) ku]; exact hx⟩, fun h => ?_⟩ (by rw [kv (Or.inl rfl)] at hS; simpa [ak] using hS)
     rw [(hown v).2, ← hwt, hw] at h; cases h
   | false =>
     rw [if_neg (by rw [← hwt]; simp [hw])]
     have hS := (bD.2 hw).1 w hI (by rw [kv (Or.inl rfl)]; exact inv.state)
     rw [kv (Or.inl rfl)] at hS
     refine other undef w (fun _ => rfl) (Or.inl (Ext.refl w)) ⟨fun h => ?_, fun _ => cK (fun _ => rfl) ku⟩ (by simpa [ak] using hS)
     rw [(hown undef).2, ← hwt, hw] at h; cases h
def Last (P : Program) (ops : Array Oper) (I : World → Prop) (S : List Value → World → Prop) (Q : Exit → Act → World → Prop) (n : Nat) (a : Act) (F : List (World → Prop)) (vs : List Value) : Prop :=
 ∀ w, I w → S vs w → gX w F → wpList P ops Q (ops.toList.drop n) a w
theorem vH {a b : Act} (h1 : a.defers = b.defers) (hs : a.tmps.size = b.tmps.size) (h : ∀ t : Nat, a.tmps[t]? = b.tmps[t]?) : a = b := by
 obtain ⟨at_, ad⟩ := a
 obtain ⟨bt, bd⟩ := b
 simp only at h1 hs h
 subst h1
 congr 1
 apply Array.ext hs
 intro i hi hi'
 have := h i
 simpa [hi, hi'] using this
theorem sW {n N : Nat} {ms : List (List Bool)} {all : List (Oper × Kind × List Bool)} {a0 a : Act} {L : Nat → Bool} {w : World} {Q : Exit → Act → World → Prop} (ok : Ok ops n N ms all) (hN : a0.tmps.size = N)
 (hp : pass P ops I S G (Last P ops I S Q n) all a0 [] []) (inv : Inv P ops S n ms all a0 L a w) (hI : I w) (hL : ∀ j, j < n → L j = true) : wpList P ops Q (ops.toList.drop n) a w := by
 obtain ⟨ac, F, vs, bD, hag, hF, hf, hvs⟩ := mg ok hN inv hp n (Nat.le_refl _)
 have hd : all.drop n = [] := List.drop_eq_nil_of_le (by rw [ok.len]; exact Nat.le_refl _)
 rw [hd] at bD
 have hv : vs = valsOf L a all 0 := by
  rw [hvs fun i x hi _ _ => hL i hi, List.take_of_length_le (by rw [ok.len]; exact Nat.le_refl _)]
 have hac : ac = a := by
  refine vH (hag.defers.trans inv.defers.symm) (hag.size.trans inv.size.symm) fun t => ?_
  by_cases hx : ∃ (i : Nat) (p : Oper), i < n ∧ ops[i]? = some p ∧ p.dst = some t
  ·obtain ⟨i, p, hin, hp, hdt⟩ := hx
   exact hag.done i p t hin hin (hL i hin) hp hdt
  ·rw [hag.rest t fun i p _ hin hp hdt => hx ⟨i, p, hin, hp, hdt⟩, inv.frame t fun i p hin _ hp hdt => hx ⟨i, p, hin, hp, hdt⟩]
 subst hac
 exact bD w hI (by rw [hv]; exact inv.state) (iQ F fun i f hi => hf i f (hL i (by have := (List.getElem?_eq_some_iff.1 hi).1; omega)) hi)
theorem mh {f : Nat → Bool} : ∀ n, (∃ j, j < n ∧ f j = false) → ∃ j, j < n ∧ f j = false ∧ ∀ i, i < j → f i = true
 | 0, ⟨j, h, _⟩ => by omega
 | n + 1, ⟨j, hj, hf⟩ => by
   by_cases hx : ∃ i, i < n ∧ f i = false
   ·obtain ⟨i, hi, h1, h2⟩ := mh n hx
    exact ⟨i, by omega, h1, h2⟩
   ·have hjn : j = n := by
     rcases Nat.lt_or_ge j n with h | h
     ·exact (hx ⟨j, h, hf⟩).elim
     ·omega
    subst hjn
    refine ⟨j, hj, hf, fun i hi => ?_⟩
    cases h : f i with
    | true => rfl
    | false => exact (hx ⟨i, hi, h⟩).elim
theorem ky {l : Array Bool} {i : Nat} (h : l.getD i true = false) : i < l.size := by
 rcases Nat.lt_or_ge i l.size with h' | h'
 ·exact h'
 ·simp [Array.getElem?_eq_none h'] at h
theorem gY {l : Array Bool} {i : Nat} (h : i < l.size) (d d' : Bool) : l.getD i d = l.getD i d' := by simp [h]
theorem mi {l : Array Bool} {i : Nat} (h : i < l.size) : (fun j => (l.setIfInBounds i true).getD j false) = more (fun j => l.getD j false) i := by
 funext j
 by_cases hij : i = j
 ·subst hij; simp [more, h]
 ·have : (j == i) = false := by simp [Ne.symm hij]
  simp only [more, this, Bool.false_or]
  exact getD_set_ne false hij
theorem count_set {l : Array Bool} {i : Nat} (h : l.getD i true = false) : (l.setIfInBounds i true).toList.count false + 1 = l.toList.count false := by
 have hi := ky h
 have hl : l[i] = false := by simpa [hi] using h
 have hpos : 0 < l.toList.count false := List.count_pos_iff.2 (by rw [← hl]; exact Array.mem_toList_iff.2 (Array.getElem_mem hi))
 rw [Array.toList_setIfInBounds, List.count_set (by simpa using hi)]
 have e : (l.toList[i]'(by simpa using hi) == false) = true := by simp [hl]
 rw [if_pos e, if_neg (by decide)]
 omega
theorem sZ {n N : Nat} {ms : List (List Bool)} {all : List (Oper × Kind × List Bool)} {a0 : Act} {Q : Exit → Act → World → Prop} (ok : Ok ops n N ms all) (hN : a0.tmps.size = N) (iR : vG I S G all)
 (hp : pass P ops I S G (Last P ops I S Q n) all a0 [] []) : ∀ (fuel : Nat) (listed : Array Bool) (a : Act) (w : World), listed.size = ops.size → listed.toList.count false ≤ fuel →
  (((∃ j, j < n ∧ listed.getD j false = false) ∧ Inv P ops S n ms all a0 (fun j => listed.getD j false) a w ∧ I w) ∨
    ∃ k, n ≤ k ∧ k ≤ ops.size ∧ (∀ j, j < k → listed.getD j false = true) ∧ (∀ j, k ≤ j → listed.getD j false = false) ∧ wpList P ops Q (ops.toList.drop k) a w) →
  (∀ j, n ≤ j → (∃ i, i < n ∧ listed.getD i false = false) → listed.getD j false = false) → wpAny P .any ops Q fuel listed a w := by
 intro fuel
 have jv : ∀ {listed : Array Bool} {i : Nat}, listed.size = ops.size → i ∈ Region.ready .any ops listed → ∃ o, ops[i]? = some o ∧ i < listed.size ∧ listed.getD i false = false ∧ ∀ e ∈ o.after, Region.binds .any e = true → listed.getD e.on false = true := by
  intro listed i hs h
  obtain ⟨h0, o, ho, hall⟩ := mem_ready.1 h
  have hlt := ky h0
  exact ⟨o, ho, hlt, by rw [gY hlt false true]; exact h0, hall⟩
 have mo : ∀ {listed : Array Bool} {j : Nat}, listed.size = ops.size → j < ops.size → listed.getD j false = false → (∀ i, i < j → listed.getD i false = true) → j ∈ Region.ready .any ops listed := by
  intro listed j hs hj hf hbe
  refine mem_ready.2 ⟨by rw [gY (by omega) true false]; exact hf, ops[j], by simp [hj], fun e he hb => hbe _ (ok.back j ops[j] (by simp [hj]) e he hb)⟩
 induction fuel with
 | zero =>
   intro listed a w hs hc nU _
   have hnone : ∀ j, j < ops.size → listed.getD j false = true := by
    intro j hj
    have hj' : j < listed.size := by omega
    have h0 : ¬ false ∈ listed.toList := fun h => by have := List.count_pos_iff.2 h; omega
    have : listed[j] ≠ false := fun e => h0 (by rw [← e]; exact Array.mem_toList_iff.2 (Array.getElem_mem hj'))
    simpa [hj'] using this
   have hr : Region.ready .any ops listed = [] := by
    cases hx : Region.ready .any ops listed with
    | nil => rfl
    | cons i l =>
      obtain ⟨o, ho, _, hf, _⟩ := jv hs (by rw [hx]; exact List.mem_cons_self ..)
      have := hnone i (Array.getElem?_eq_some_iff.1 ho).1
      rw [hf] at this; cases this
   refine ⟨hr, ?_⟩
   rcases nU with ⟨⟨j, hj, hf⟩, _⟩ | ⟨k, hnk, hks, _, hafter, hl⟩
   ·have := hnone j (by have := ok.le; omega)
    rw [hf] at this; cases this
   ·have hk : k = ops.size := by
     rcases Nat.lt_or_ge k ops.size with h | h
     ·have h1 := hnone k h; rw [hafter k (Nat.le_refl _)] at h1; cases h1
     ·omega
    rw [List.drop_eq_nil_of_le (by rw [Array.length_toList, hk]; exact Nat.le_refl _)] at hl
    exact hl
 | succ fuel ih =>
   intro listed a w hs hc nU qA
   rcases nU with ⟨hex, inv, hI⟩ | ⟨k, hnk, hks, iT, hafter, hl⟩
   ·obtain ⟨j0, hj0, hf0, hb0⟩ := mh n hex
    have yS := mo (j := j0) hs (by have := ok.le; omega) hf0 hb0
    refine ⟨fun h => (by rw [h] at yS; cases yS), fun i hi => ?_⟩
    obtain ⟨o, ho, hil, hif, nV⟩ := jv hs hi
    have hin : i < n := by
     rcases Nat.lt_or_ge i n with h | h
     ·exact h
     ·obtain ⟨e, he, hb, hon⟩ := ok.tail i o j0 h ho (by omega)
      have := nV e he hb
      rcases hon with hon | ⟨hon, hat⟩ | ⟨hon, _⟩
      ·rw [hon, hf0] at this; cases this
      ·have h2 := inv.closed e.on j0 hon this hat
       have h2 : listed.getD j0 false = true := h2
       rw [hf0] at h2; cases h2
      ·rw [qA e.on hon hex] at this; cases this
    have hm : ∀ j, at2 ms i j = true → (fun j => listed.getD j false) j = true := by
     intro j hj
     obtain ⟨e, he, hb, hon⟩ := ok.ahead i o j hin ho hj
     have h1 := nV e he hb
     rcases hon with rfl | hon
     ·exact h1
     ·exact inv.closed e.on j (by have := ok.back i o ho e he hb; omega) h1 hon
    refine sV ok hN iR hp inv hI hin hif hm fun a' w' yT hI' => ?_
    have hset : (fun j => (listed.setIfInBounds i true).getD j false) = more (fun j => listed.getD j false) i := mi hil
    have hcnt := count_set (l := listed) (i := i) (by rw [gY hil true false]; exact hif)
    refine ih _ a' w' (by simpa using hs) (by omega) ?_ ?_
    ·by_cases hall : ∀ j, j < n → more (fun j => listed.getD j false) i j = true
     ·right
      refine ⟨n, Nat.le_refl _, ok.le, fun j hj => ?_, fun j hj => ?_, sW ok hN hp yT hI' hall⟩
      ·have := congrFun hset j; rw [this]; exact hall j hj
      ·have := congrFun hset j
       rw [this]
       have h1 := qA j hj hex
       have : (j == i) = false := by simp; omega
       simp only [more, this, Bool.false_or]
       exact h1
     ·left
      refine ⟨?_, by rw [hset]; exact yT, hI'⟩
      have ⟨j, hj⟩ := Classical.not_forall.1 hall
      have ⟨hjn, hj2⟩ := Classical.not_imp.1 hj
      exact ⟨j, hjn, by have := congrFun hset j; rw [this]; simpa using hj2⟩
    ·intro j hj _
     have := congrFun hset j
     rw [this]
     have h1 := qA j hj hex
     have : (j == i) = false := by simp; omega
     simp only [more, this, Bool.false_or]
     exact h1
   ·refine ⟨fun h => ?_, fun i hi => ?_⟩
    ·have hk : k = ops.size := by
      rcases Nat.lt_or_ge k ops.size with hlt | hge
      ·have := mo hs hlt (hafter k (Nat.le_refl _)) iT
       rw [h] at this; cases this
      ·omega
     rw [List.drop_eq_nil_of_le (by rw [Array.length_toList, hk]; exact Nat.le_refl _)] at hl
     exact hl
    ·obtain ⟨o, ho, hil, hif, nV⟩ := jv hs hi
     have hki : k ≤ i := by
      rcases Nat.lt_or_ge i k with h | h
      ·have := iT i h; rw [hif] at this; cases this
      ·exact h
     have hik : i = k := by
      rcases Nat.lt_or_ge k i with h | h
      ·obtain ⟨e, he, hb, hon⟩ := ok.tail i o k (by omega) ho h
       have := nV e he hb
       rcases hon with hon | ⟨hon, hat⟩ | ⟨_, hon⟩
       ·rw [hon, hafter k (Nat.le_refl _)] at this; cases this
       ·obtain ⟨oe, hoe⟩ : ∃ oe, ops[e.on]? = some oe := ⟨_, Array.getElem?_eq_getElem (by have := ok.le; omega)⟩
        have := eH (ok.ma e.on oe hon hoe) hat
        omega
       ·rw [hafter e.on (by omega)] at this; cases this
      ·omega
     subst hik
     have hilt : i < ops.toList.length := by rw [Array.length_toList]; exact (Array.getElem?_eq_some_iff.1 ho).1
     have zy : ops.toList.drop i = o :: ops.toList.drop (i + 1) := by
      rw [List.drop_eq_getElem_cons hilt]
      have h1 := ho
      rw [← Array.getElem?_toList, List.getElem?_eq_getElem hilt] at h1
      rw [Option.some.inj h1]
     rw [zy] at hl
     have hset : (fun j => (listed.setIfInBounds i true).getD j false) = more (fun j => listed.getD j false) i := mi hil
     have hcnt := count_set (l := listed) (i := i) (by rw [gY hil true false]; exact hif)
     have hw : wpOp P ops Q i (wpList P ops Q (ops.toList.drop (i + 1))) a w := by
      unfold wpOp
      simp only [ho]
      exact hl
     refine wpOp_mono (fun a' w' h => ih _ a' w' (by simpa using hs) (by omega) (Or.inr ⟨i + 1, by omega, by rw [Array.length_toList] at hilt; omega, fun j hj => ?_, fun j hj => ?_, h⟩) ?_) hw
     ·have := congrFun hset j
      rw [this]
      by_cases hji : j = i
      ·subst hji; exact iE
      ·exact fJ (iT j (by omega))
     ·have := congrFun hset j
      rw [this]
      have : (j == i) = false := by simp; omega
      simp only [more, this, Bool.false_or]
      exact hafter j (by omega)
     ·rintro j hj ⟨x, hx, zA⟩
      have := congrFun hset x
      rw [this] at zA
      have h2 := iT x (by omega)
      rw [fJ h2] at zA; cases zA
theorem region {n N : Nat} {ms : List (List Bool)} (all : List (Oper × Kind × List Bool)) {a : Act} {w : World} {id : Nat} {Q : Exit → Act → World → Prop} (I : World → Prop) (S : List Value → World → Prop) (G : World → World → Prop)
 (hm : P.follows .mixedOrders = true) (ok : Ok ops n N ms all) (hN : a.tmps.size = N) (iR : vG I S G all) (hn : 0 < n) (hI : I w.drew) (hS : S [] w.drew)
 (hp : pass P ops I S G (Last P ops I S Q n) all a [] []) : (Code.region id ops true).wp P Q a w := by
 refine wp_region_any hm ?_
 show wpAny P .any ops Q ops.size (Array.replicate ops.size false) a w.drew
 have nW : ∀ j, (Array.replicate ops.size false).getD j false = false := by
  intro j
  rcases Nat.lt_or_ge j ops.size with h | h
  ·simp [h]
  ·simp [Array.getElem?_eq_none (xs := Array.replicate ops.size false) (i := j) (by simpa using h)]
 refine sZ ok hN iR hp ops.size _ a w.drew (by simp) (by simp) (Or.inl ⟨⟨0, hn, nW 0⟩, ?_, hI⟩) fun j _ _ => nW j
 have hL : (fun j => (Array.replicate ops.size false).getD j false) = fun _ => false := funext nW
 rw [hL]
 refine ⟨rfl, rfl, fun t _ => rfl, fun i j _ h => (nomatch h), fun j o k m h => (nomatch h), ?_⟩
 rw [fD all 0 fun i x _ _ => rfl]
 exact hS
def mk (ops : Array Oper) (n : Nat) (ks : List Kind) (ms : List (List Bool)) : List (Oper × Kind × List Bool) := (ops.toList.take n).zip (ks.zip ms)
def nX : List (Oper × Kind × List Bool) → Prop
 | x :: r => (x.1.dst = none → silent x.2.1) ∧ nX r
 | [] => True
theorem kz : ∀ {l : List (Oper × Kind × List Bool)}, nX l → ∀ x ∈ l, x.1.dst = none → silent x.2.1
 | [], _, _, hx => nomatch hx
 | y :: l, h, x, hx => by
   rcases List.mem_cons.1 hx with rfl | hx
   ·exact h.1
   ·exact kz h.2 x hx
theorem qB (n N : Nat) (ms : List (List Bool)) (tags : List Nat) (ks : List Kind) {a : Act} {w : World} {id : Nat} {Q : Exit → Act → World → Prop} (I : World → Prop) (S : List Value → World → Prop) (G : World → World → Prop)
 (hm : P.follows .mixedOrders = true) (hok : (okB ops n N ms tags && (ms.length == n) && (tags.length == n) && decide (0 < n)) = true) (jw : ks.map ak = tags) (hN : a.tmps.size = N)
 (hs : ∀ vs w w', Ext w w' → S vs w → S vs w') (hie : ∀ w w', Ext w w' → I w → I w') (hig : ∀ w w', G w w' → I w → I w') (hst : stays G (mk ops n ks ms)) (hnn : nX (mk ops n ks ms)) (hI : I w.drew) (hS : S [] w.drew)
 (hp : pass P ops I S G (Last P ops I S Q n) (mk ops n ks ms) a [] []) : (Code.region id ops true).wp P Q a w := by
 simp only [Bool.and_eq_true, beq_iff_eq, decide_eq_true_eq] at hok
 obtain ⟨⟨⟨hok, Ak⟩, htl⟩, hn⟩ := hok
 have hle : n ≤ ops.size := by
  unfold okB at hok
  rw [Bool.and_eq_true] at hok
  simpa using hok.1
 have hkl : ks.length = n := by rw [← htl, ← jw, List.length_map]
 have h1 : (mk ops n ks ms).map (·.1) = ops.toList.take n := by
  unfold mk
  rw [List.map_fst_zip]
  rw [List.length_zip, List.length_take, hkl, Ak]; omega
 have hl0 : (ops.toList.take n).length = n := by rw [List.length_take, Array.length_toList]; omega
 have h2 : (mk ops n ks ms).map (·.2) = ks.zip ms := by
  unfold mk
  rw [List.map_snd_zip]
  rw [List.length_zip, hl0, hkl, Ak]; omega
 have h3 : (mk ops n ks ms).map (·.2.2) = ms := by
  have : (mk ops n ks ms).map (·.2.2) = ((mk ops n ks ms).map (·.2)).map (·.2) := by rw [List.map_map]; rfl
  rw [this, h2, List.map_snd_zip]
  omega
 have h4 : (mk ops n ks ms).map (fun x => ak x.2.1) = tags := by
  have : (mk ops n ks ms).map (fun x => ak x.2.1) = (((mk ops n ks ms).map (·.2)).map (·.1)).map ak := by rw [List.map_map, List.map_map]; rfl
  rw [this, h2, List.map_fst_zip, jw]
  omega
 exact region _ I S G hm (vz _ (by rw [h4]; exact hok) h1 h3 (kz hnn)) hN ⟨hs, hie, hig, hst⟩ hn hI hS hp
theorem pg (k N : Nat) (ms : List (List Bool)) (tags : List Nat) (ks : List Kind) {a : Act} {w : World} {id : Nat} {Q : Exit → Act → World → Prop} (I : World → Prop) (S : List Value → World → Prop) (G : World → World → Prop)
 (hm : P.follows .mixedOrders = true) (hok : ((okB ops k N ms tags && (ms.length == k) && (tags.length == k) && decide (0 < k)) && (ops.toList.take k).all (fun o => o.dst.isSome)) = true) (jw : ks.map ak = tags) (hN : a.tmps.size = N)
 (hs : ∀ vs w w', Ext w w' → S vs w → S vs w') (hie : ∀ w w', Ext w w' → I w → I w') (hig : ∀ w w', G w w' → I w → I w') (hst : stays G (mk ops k ks ms)) (hI : I w.drew) (hS : S [] w.drew)
 (hp : pass P ops I S G (Last P ops I S Q k) (mk ops k ks ms) a [] []) : (Code.region id ops true).wp P Q a w := by
 have h := Bool.and_eq_true_iff.1 hok
 refine qB (P := P) (ops := ops) k N ms tags ks I S G hm h.1 jw hN hs hie hig hst ?_ hI hS hp
 have key : ∀ l : List (Oper × Kind × List Bool), (∀ x ∈ l, x.1.dst.isSome = true) → nX l := by
  intro l
  induction l with
  | nil => intro _; trivial
  | cons x l ih => exact fun hl => ⟨fun e => (by have := hl x List.mem_cons_self; rw [e] at this; cases this), ih fun z hz => hl z (List.mem_cons_of_mem _ hz)⟩
 exact key _ fun x hx => List.all_eq_true.1 h.2 x.1 (List.of_mem_zip (a := x.1) (b := x.2) hx).1
inductive RC where
 | p (n : Nat)
 | m (n : Nat)
def row (i n : Nat) : List Bool := (List.range i).map n.testBit
def tg : RC → Nat | .p _ => 0 | .m _ => 1
def rows : Nat → List RC → List (List Bool)
 | i, .p n :: cs => row i n :: rows (i + 1) cs
 | i, .m n :: cs => row i n :: rows (i + 1) cs
 | _, [] => []
def need : List RC → Nat
 | .p _ :: cs => need cs
 | .m _ :: cs => need cs + 1
 | [] => 0
def gJ : List Oper → Nat → List RC → List Value → List (Oper × Kind × List Bool)
 | o :: os, i, .p n :: cs, vs => (o, .pure, row i n) :: gJ os (i + 1) cs vs
 | o :: os, i, .m n :: cs, v :: vs => (o, .minor Unit () (fun _ => v) (fun _ _ => True), row i n) :: gJ os (i + 1) cs vs
 | _, _, _, _ => []
theorem kC (G : World → World → Prop) : ∀ (cs : List RC) (os : List Oper) (i : Nat) (vs : List Value), cs.length ≤ os.length → need cs = vs.length →
 (gJ os i cs vs).map (·.1) = os.take cs.length ∧ (gJ os i cs vs).map (fun x => ak x.2.1) = cs.map tg ∧ (gJ os i cs vs).map (·.2.2) = rows i cs ∧ stays G (gJ os i cs vs)
 | [], os, i, vs, _, _ => by cases os <;> exact ⟨rfl, rfl, rfl, trivial⟩
 | .p n :: cs, [], i, vs, h, _ => by simp at h
 | .m n :: cs, [], i, vs, h, _ => by simp at h
 | .p n :: cs, o :: os, i, vs, h, hv => by
   obtain ⟨h1, h2, h3, h4⟩ := kC G cs os (i + 1) vs (by simpa using h) hv
   exact ⟨congrArg (List.cons o) h1, congrArg (List.cons 0) h2, congrArg (List.cons (row i n)) h3, trivial, h4⟩
 | .m n :: cs, o :: os, i, [], h, hv => by simp [need] at hv
 | .m n :: cs, o :: os, i, v :: vs, h, hv => by
   obtain ⟨h1, h2, h3, h4⟩ := kC G cs os (i + 1) vs (by simpa using h) (by simpa [need] using hv)
   exact ⟨congrArg (List.cons o) h1, congrArg (List.cons 1) h2, congrArg (List.cons (row i n)) h3, ⟨fun _ _ _ _ _ => trivial, fun _ _ _ _ _ => trivial⟩, h4⟩
def Al (ops : Array Oper) (n N : Nat) (cs : List RC) : Bool :=
 okB ops n N (rows 0 cs) (cs.map tg) && decide (n ≤ ops.size) && decide (0 < n) && (cs.length == n) && (ops.toList.take n).all (fun o => o.dst.isSome)
theorem ro (w0 : World) (n N : Nat) (cs : List RC) (vs : List Value) {a : Act} {w : World} {id : Nat} {Q : Exit → Act → World → Prop}
 (hm : P.follows .mixedOrders = true) (hok : Al ops n N cs = true) (hk : need cs = vs.length) (hN : a.tmps.size = N) (hI : Below w0.heap.size w0 w.drew)
 (hp : pass P ops (fun W => Below w0.heap.size w0 W) (fun _ _ => True) (fun a b => Below a.heap.size a b) (Last P ops (fun W => Below w0.heap.size w0 W) (fun _ _ => True) Q n) (gJ ops.toList 0 cs vs) a [] []) : (Code.region id ops true).wp P Q a w := by
 unfold Al at hok
 simp only [Bool.and_eq_true, beq_iff_eq, decide_eq_true_eq] at hok
 obtain ⟨⟨⟨⟨hok, hle⟩, h0⟩, rfl⟩, hd⟩ := hok
 obtain ⟨h1, h2, h3, h4⟩ := kC (fun a b => Below a.heap.size a b) cs ops.toList 0 vs (by simpa using hle) hk
 exact region (P := P) (ops := ops) (gJ ops.toList 0 cs vs) (fun W => Below w0.heap.size w0 W) (fun _ _ => True) (fun a b => Below a.heap.size a b) hm
  (vz (ops := ops) (by rw [h2]; exact hok) h1 h3 fun x hx e => (by
   have hx1 : x.1 ∈ ops.toList.take cs.length := by rw [← h1]; exact List.mem_map_of_mem hx
   have := List.all_eq_true.1 hd x.1 hx1
   rw [e] at this; cases this)) hN
  ⟨fun _ _ _ _ _ => trivial, fun _ _ he hb => hb.trans (Below.mono he hb.size), fun _ _ he hb => hb.trans (Below.mono he hb.size), h4⟩ h0 hI trivial hp
section
variable {o : Oper} {m : List Bool} {r : List (Oper × Kind × List Bool)} {a : Act} {F : List (World → Prop)} {vs : List Value}
theorem zB (v : Value) (h : Yields P ops o v a) (hn : pass P ops I S G fin r (a.put o.dst v) (F ++ [dh]) vs) : pass P ops I S G fin ((o, .pure, m) :: r) a F vs := ⟨v, h, hn⟩
theorem aO (v : Value) (hw : Region.wanted o (yielded ops a.tmps) = true) (h : ∀ w, (execOp a.eval o).run P w = .ok (.value v) w) (hn : pass P ops I S G fin r (a.put o.dst v) (F ++ [dh]) vs) : pass P ops I S G fin ((o, .pure, m) :: r) a F vs := ⟨v, Or.inl ⟨hw, h⟩, hn⟩
theorem Ad (hw : Region.wanted o (yielded ops a.tmps) = false) (hn : pass P ops I S G fin r (a.put o.dst undef) (F ++ [dh]) vs) : pass P ops I S G fin ((o, .pure, m) :: r) a F vs := ⟨undef, Or.inr ⟨hw, rfl⟩, hn⟩
theorem aD {α : Type} {d : α} {val : α → Value} {Post : α → World → Prop} (hw : Region.wanted o (yielded ops a.tmps) = true) (h : ∀ w, I w → facts w m F → One P ops o a w fun v w' => (∃ x : α, v = val x ∧ Post x w') ∧ Ext w w')
 (hn : ∀ x : α, pass P ops I S G fin r (a.put o.dst (val x)) (F ++ [Post x]) vs) : pass P ops I S G fin ((o, .minor α d val Post, m) :: r) a F vs := ⟨fun _ => ⟨h, hn⟩, fun h' => by rw [hw] at h'; cases h'⟩
theorem kD {α : Type} {d : α} {val : α → Value} {Post : α → World → Prop} (hw : Region.wanted o (yielded ops a.tmps) = false)
 (hn : pass P ops I S G fin r (a.put o.dst undef) (F ++ [dh]) vs) : pass P ops I S G fin ((o, .minor α d val Post, m) :: r) a F vs := ⟨fun h' => (by rw [hw] at h'; cases h'), fun _ => hn⟩
theorem nY {α : Type} {d : α} {val : α → Value} {Post : α → World → Prop} (hw : Region.wanted o (yielded ops a.tmps) = true) (h : ∀ w, I w → S vs w → facts w m F → One P ops o a w fun v w' => (∃ x : α, v = val x ∧ Post x w') ∧ Ext w w')
 (hn : ∀ x : α, pass P ops I S G fin r (a.put o.dst (val x)) (F ++ [Post x]) vs) : pass P ops I S G fin ((o, .pinned α d val Post, m) :: r) a F vs := ⟨fun _ => ⟨h, hn⟩, fun h' => by rw [hw] at h'; cases h'⟩
theorem uP {α : Type} {d : α} {val : α → Value} {Post : α → World → Prop} (hw : Region.wanted o (yielded ops a.tmps) = false)
 (hn : pass P ops I S G fin r (a.put o.dst undef) (F ++ [dh]) vs) : pass P ops I S G fin ((o, .pinned α d val Post, m) :: r) a F vs := ⟨fun h' => (by rw [hw] at h'; cases h'), fun _ => hn⟩
theorem pq {α : Type} {d : α} {val : α → Value} (hw : Region.wanted o (yielded ops a.tmps) = true) (h : ∀ w, I w → S vs w → facts w m F → One P ops o a w fun v w' => ((∃ x : α, v = val x) ∧ S (vs ++ [v]) w') ∧ G w w')
 (hn : ∀ x : α, pass P ops I S G fin r (a.put o.dst (val x)) (F ++ [dh]) (vs ++ [val x])) : pass P ops I S G fin ((o, .major α d val, m) :: r) a F vs := ⟨fun _ => ⟨h, hn⟩, fun h' => by rw [hw] at h'; cases h'⟩
theorem vI {α : Type} {d : α} {val : α → Value} (hw : Region.wanted o (yielded ops a.tmps) = false) (h : ∀ w, I w → S vs w → S (vs ++ [undef]) w)
 (hn : pass P ops I S G fin r (a.put o.dst undef) (F ++ [dh]) (vs ++ [undef])) : pass P ops I S G fin ((o, .major α d val, m) :: r) a F vs := ⟨fun h' => (by rw [hw] at h'; cases h'), fun _ => ⟨h, hn⟩⟩
theorem aY {n : Nat} {Q : Exit → Act → World → Prop} (h : ∀ w, I w → S vs w → gX w F → wpList P ops Q (ops.toList.drop n) a w) : pass P ops I S G (Last P ops I S Q n) [] a F vs := h
end
end Reg2
end Go.Proofs.YtbdfpbknckghgaaGreat

namespace Go.Proofs.YtbdfpbknckghgaaGreat
open Go.RowKit
theorem mS {p q : Prop} (h : q) (f : Go.RowKit.Hid q → p := by
 intro zz
 simp only [Act.put, xA, xB, xC]; (try simp only [xD]); (try simp only [xE]); (try simp only [id])
 exact zz.out) : p := f (show Go.RowKit.Hid q from h)
theorem mP {p q : Prop} (h : q) (f : Go.RowKit.Hid q → p := by
 intro zz
 repeat (refine' Reg2.aO _ (by rfl) (fun wz => ?_) ?_; rotate_left; (go_simp; first | rfl | rw [if_neg (by omega)]); simp only [Act.put, xA, xB, xC]; (try simp only [xD]); (try simp only [xE]); (try simp only [id]))
 exact zz.out) : p := f (show Go.RowKit.Hid q from h)
theorem mQ {p q : Prop} (h : q) (f : Go.RowKit.Hid q → p := by
 intro zz
 simp only [Act.put, xA, xB, xC]; (try simp only [xD]); (try simp only [xE]); (try simp only [id])
 repeat (refine' Reg2.aO _ (by rfl) (fun wz => ?_) ?_; rotate_left; (go_simp; first | rfl | rw [if_neg (by omega)]); simp only [Act.put, xA, xB, xC]; (try simp only [xD]); (try simp only [xE]); (try simp only [id]))
 exact zz.out) : p := f (show Go.RowKit.Hid q from h)
abbrev bV : Bool := true
abbrev bI : Bool := false
namespace Reg2
abbrev Kind.mU (v : Value) : Kind := .minor Unit () (fun _ => v) (fun _ _ => True)
theorem rd {P : Program} {ops : Array Oper} {q : Prop} (w0 : World) (k N : Nat) (ms : List (List Bool)) (tags : List Nat) (ks : List Kind) {a : Act} {w : World} {id : Nat} {Q : Exit → Act → World → Prop} (h : q)
 (hm : P.follows .mixedOrders = true := by kernel_rfl) (hok : ((okB ops k N ms tags && (ms.length == k) && (tags.length == k) && decide (0 < k)) && (ops.toList.take k).all (fun o => o.dst.isSome)) = true := by kernel_rfl)
 (jw : ks.map ak = tags := by rfl) (hN : a.tmps.size = N := by rfl)
 (hst : stays (fun a b => Below a.heap.size a b) (mk ops k ks ms) := by repeat' first | exact trivial | exact ⟨fun _ _ _ _ _ => trivial, fun _ _ _ _ _ => trivial⟩ | refine ⟨?_, ?_⟩)
 (hI : Below w0.heap.size w0 w.drew := by exact ⟨rfl, rfl, rfl, Nat.le_refl _, fun _ _ => rfl⟩)
 (hp : Go.RowKit.Hid q → pass P ops (fun W => Below w0.heap.size w0 W) (fun _ _ => True) (fun a b => Below a.heap.size a b) (Last P ops (fun W => Below w0.heap.size w0 W) (fun _ _ => True) Q k) (mk ops k ks ms) a [] [] := by
  intro zz
  dsimp only [Reg2.mk, List.zip, List.zipWith, List.take]
  exact zz.out) : (Code.region id ops true).wp P Q a w :=
 pg k N ms tags ks (fun W => Below w0.heap.size w0 W) (fun _ _ => True) (fun a b => Below a.heap.size a b) hm hok jw hN (fun _ _ _ _ _ => trivial) (fun _ _ he hb => hb.trans (Below.mono he hb.size)) (fun _ _ he hb => hb.trans (Below.mono he hb.size)) hst hI trivial (hp (show Go.RowKit.Hid q from h))
section
variable {P : Program} {ops : Array Oper} {I : World → Prop} {S : List Value → World → Prop} {G : World → World → Prop} {fin : Act → List (World → Prop) → List Value → Prop} {o : Oper} {m : List Bool} {r : List (Oper × Kind × List Bool)} {a : Act} {F : List (World → Prop)} {vs : List Value}
theorem pm {α : Type} {d : α} {val : α → Value} {Post : α → World → Prop} (h : ∀ w, I w → facts w m F → wpList P ops (Done o (fun v w' => (∃ x : α, v = val x ∧ Post x w') ∧ Ext w w') a) [o] a w) (hn : ∀ x : α, pass P ops I S G fin r (a.put o.dst (val x)) (F ++ [Post x]) vs) (hw : Region.wanted o (yielded ops a.tmps) = true := by rfl) : pass P ops I S G fin ((o, .minor α d val Post, m) :: r) a F vs := aD hw h hn
theorem pp {α : Type} {d : α} {val : α → Value} {Post : α → World → Prop} (h : ∀ w, I w → S vs w → facts w m F → wpList P ops (Done o (fun v w' => (∃ x : α, v = val x ∧ Post x w') ∧ Ext w w') a) [o] a w) (hn : ∀ x : α, pass P ops I S G fin r (a.put o.dst (val x)) (F ++ [Post x]) vs) (hw : Region.wanted o (yielded ops a.tmps) = true := by rfl) : pass P ops I S G fin ((o, .pinned α d val Post, m) :: r) a F vs := nY hw h hn
theorem pj {α : Type} {d : α} {val : α → Value} (h : ∀ w, I w → S vs w → facts w m F → wpList P ops (Done o (fun v w' => ((∃ x : α, v = val x) ∧ S (vs ++ [v]) w') ∧ G w w') a) [o] a w) (hn : ∀ x : α, pass P ops I S G fin r (a.put o.dst (val x)) (F ++ [dh]) (vs ++ [val x])) (hw : Region.wanted o (yielded ops a.tmps) = true := by rfl) : pass P ops I S G fin ((o, .major α d val, m) :: r) a F vs := pq hw h hn

end
end Reg2
end Go.Proofs.YtbdfpbknckghgaaGreat

namespace Go.Proofs.YtbdfpbknckghgaaGreat
open Go.RowKit Go.Lib
structure aP (S : Nat → Prop) (w w' : World) : Prop where
 os : w'.os = w.os
 tape : w'.tape = w.tape
 output : w'.output = w.output
 size : w.heap.size ≤ w'.heap.size
 block : ∀ k, k < w.heap.size → ¬ S k → w'.heap[k]? = w.heap[k]?
def kE (w : World) (S S' : Nat → Prop) : Prop := ∀ k, S' k → S k ∨ w.heap.size ≤ k
section
variable {S S' : Nat → Prop} {w w1 w2 : World}
theorem aP.of_below (h : Below w.heap.size w w1) : aP S w w1 := ⟨h.os, h.tape, h.output, h.size, fun k hk _ => h.block k hk⟩
theorem aP.yw {g : Nat} (h : Put.Off g g w w1) (hg : S g) : aP S w w1 := ⟨h.os, h.tape, h.output, h.size, fun k hk hn => h.block k hk (fun e => hn (e ▸ hg)) (fun e => hn (e ▸ hg))⟩
theorem aP.trans (h : aP S w w1) (h' : aP S' w1 w2) (hg : kE w S S') : aP S w w2 :=
 ⟨h'.os.trans h.os, h'.tape.trans h.tape, h'.output.trans h.output, Nat.le_trans h.size h'.size, fun k hk hn => by
  rw [h'.block k (Nat.lt_of_lt_of_le hk h.size) (fun hs => (hg k hs).elim hn (fun hle => absurd hk (Nat.not_lt.2 hle)))]
  exact h.block k hk hn⟩
theorem aP.below {B : Nat} (h : aP S w w1) (hS : ∀ k, S k → B ≤ k) (hB : B ≤ w.heap.size) : Below B w w1 :=
 ⟨h.os, h.tape, h.output, h.size, fun k hk => h.block k (by omega) (fun hs => absurd (hS k hs) (by omega))⟩
theorem kE.refl (w : World) (S : Nat → Prop) : kE w S S := fun _ h => .inl h
end
section
variable {w w' : World} {p g n cap m : Nat} {dv lv : Value} {M : Md}
theorem iB {e : TypeId} {sz n B k : Nat} {v : Value} {xs : List Value} (h : w.ownsRow B e sz v n xs) (hk : v.ownBlock = some k) : ∃ cur, w.heap[k]? = some (.cells cur e (0, 0)) := by
 obtain ⟨_, ⟨rfl, _⟩ | ⟨g, cap, cur, rfl, _, hh, _⟩⟩ := h
 ·cases hk
 ·have : k = g := by simpa [Value.ownBlock] using hk.symm
  subst this
  exact ⟨cur, hh⟩
end
end Go.Proofs.YtbdfpbknckghgaaGreat

namespace Go.Proofs.YtbdfpbknckghgaaGreat
open Go.RowKit Go.Lib
structure Hd where
 wk : Nat
 who : Int
 x : Bool
 y : Bool
 z : Bool
 st : Int
 lk : Int
def aA (w : World) (h : Nat) (H : Hd) : Prop := w.heap[h]? = some (.cells #[.pointer (some ⟨H.wk, 0, none⟩), .bool true, .int .i64 H.who, .bool H.x, .bool H.y, .bool H.z, .int .i64 H.st, .int .i64 H.lk] 204 (0, 0))
def Hd.want (H : Hd) (k : Int) : Hd := { H with st := if bC H.x H.y H.z k = 3 then 1 else 0, lk := bC H.x H.y H.z k }
section
variable {w w' : World} {h : Nat} {H : Hd}
theorem aA.lt (q : aA w h H) : h < w.heap.size := ae q
theorem aA.below {B : Nat} (q : aA w h H) (hb : Below B w w') (hs : h < B) : aA w' h H := by
 unfold aA at *; rw [hb.block h hs]; exact q
theorem aA.c1 (q : aA w h H) : w.cell? ⟨h, 1, none⟩ = some (.bool true) := by simp [World.cell?, show w.heap[h]? = _ from q]
theorem aA.c2 (q : aA w h H) : w.cell? ⟨h, 2, none⟩ = some (.int .i64 H.who) := by simp [World.cell?, show w.heap[h]? = _ from q]
theorem aA.c3 (q : aA w h H) : w.cell? ⟨h, 3, none⟩ = some (.bool H.x) := by simp [World.cell?, show w.heap[h]? = _ from q]
theorem aA.c4 (q : aA w h H) : w.cell? ⟨h, 4, none⟩ = some (.bool H.y) := by simp [World.cell?, show w.heap[h]? = _ from q]
theorem aA.c5 (q : aA w h H) : w.cell? ⟨h, 5, none⟩ = some (.bool H.z) := by simp [World.cell?, show w.heap[h]? = _ from q]
theorem aA.c6 (q : aA w h H) : w.cell? ⟨h, 6, none⟩ = some (.int .i64 H.st) := by simp [World.cell?, show w.heap[h]? = _ from q]
theorem aA.c7 (q : aA w h H) : w.cell? ⟨h, 7, none⟩ = some (.int .i64 H.lk) := by simp [World.cell?, show w.heap[h]? = _ from q]
theorem aA.free (q : aA w h H) (j : Nat) : w.frozen? ⟨h, j, none⟩ = false := by simp [World.frozen?, show w.heap[h]? = _ from q]
theorem aA.setSt (q : aA w h H) (n : Int) : aA (w.setCell ⟨h, 6, none⟩ (.int .i64 n)) h { H with st := n } := by
 have := heap_put (i := 6) q (.int .i64 n)
 exact this
theorem aA.zC (q : aA w h H) (n : Int) : aA (w.setCell ⟨h, 7, none⟩ (.int .i64 n)) h { H with lk := n } := by
 have := heap_put (i := 7) q (.int .i64 n)
 exact this
theorem jy {S : Nat → Prop} (ho : aP S w w') (hs : S h) (j : Nat) (v : Value) : aP S w (w'.setCell ⟨h, j, none⟩ v) :=
 ⟨ho.os, ho.tape, ho.output, by simpa using ho.size, fun k hk hn => by rw [Below.heap_setCell _ _ _ _ (fun e => hn (by rw [e]; exact hs))]; exact ho.block k hk hn⟩
end
theorem jA {w : World} {h : Nat} {H : Hd} (q : aA w h H) : Calls Tryz.prog 263 #[.pointer (some ⟨h, 0, none⟩)] w fun e w' => e = .returned (.int .i64 H.st) ∧ w = w' := by
 have c1 := q.c1
 have c6 := q.c6
 clear q
 go_enter Tryz.func263, Tryz.ntmps263
 go_wp2_with fail
 go_ret
 exact ⟨rfl, rfl⟩
def qC (H : Hd) (l : Lk) : Bool := decide (H.st = 0) && !decide (l.own H.lk = 0)
theorem jB {w : World} {h s : Nat} {H : Hd} {l : Lk} (q : aA w h H) (hl : aC 94 w s l) : Calls Tryz.prog 262 #[.pointer (some ⟨h, 0, none⟩), .pointer (some ⟨s, 0, none⟩)] w fun e w' => e = .returned (.bool (qC H l)) ∧ w = w' := by
 have hs := jA q
 have ho := l8 H.lk hl
 have c7 := q.c7
 unfold qC
 generalize l.own H.lk = o at *
 generalize H.st = n at *
 clear q hl
 by_cases h0 : n = 0
 ·have d0 : (n == 0) = true := by simp [h0]
  go_enter Tryz.func262, Tryz.ntmps262
  go_wp2_with (first | (go_at_call 263; go_must (refine hs.mono ?_); rintro e w' ⟨rfl, rfl⟩) | (go_at_call 264; go_must (refine ho.mono ?_); rintro e w' ⟨rfl, rfl⟩))
  go_ret
  exact ⟨by by_cases ho : o = 0 <;> simp [h0, ho], rfl⟩
 ·have d0 : (n == 0) = false := by simp [h0]
  go_enter Tryz.func262, Tryz.ntmps262
  go_wp2_with (go_at_call 263; go_must (refine hs.mono ?_); rintro e w' ⟨rfl, rfl⟩)
  go_ret
  exact ⟨by simp [h0], rfl⟩
def rU (w : World) (h : Nat) (H' : Hd) (e : Ending) (w' : World) : Prop := e = .returned (.tuple #[]) ∧ aA w' h H' ∧ aP (fun k => k = h) w w'
theorem pz {w : World} {h : Nat} {H : Hd} (q : aA w h H) (k : Int) (hk : 0 ≤ k ∧ k ≤ 100) : Calls Tryz.prog 114 #[.pointer (some ⟨h, 0, none⟩), .int .i64 k] w (rU w h (H.want k)) := by
 have hn := iL H.x H.y H.z k (by omega) w
 have c3 := q.c3
 have c4 := q.c4
 have c5 := q.c5
 obtain ⟨r, hr⟩ : ∃ r, r = bC H.x H.y H.z k := ⟨_, rfl⟩
 have hfin : Hid (∀ W, aA W h { H with st := if r = 3 then 1 else 0, lk := r } → aP (fun k => k = h) w W → rU w h (H.want k) (.returned (.tuple #[])) W) := fun W h1 h2 => ⟨rfl, by rw [hr] at h1; exact h1, h2⟩
 rw [← hr] at hn
 unfold az at hn
 replace hr := Lib.hid hr
 replace q := Lib.hid q
 go_enter Tryz.func114, Tryz.ntmps114
 go_wp2_with fail
 go_at_call 136
 refine hn.mono ?_
 clear hn c3 c4 c5
 rintro e w1 ⟨rfl, hb1⟩
 have q1 := q.out.below hb1 q.out.lt
 have o1 : aP (fun k => k = h) w w1 := aP.of_below hb1
 have c6 := q1.c6
 have f6 := q1.free 6
 have q2 := q1.setSt 0
 have o2 := jy (h := h) o1 rfl 6 (.int .i64 0)
 have c7 := q2.c7
 have f7 := q2.free 7
 have q3 := q2.zC r
 have o3 := jy (h := h) o2 rfl 7 (.int .i64 r)
 have k7 := q3.c7
 have k6 := q3.c6
 have g6 := q3.free 6
 have q4 := q3.setSt 1
 have o4 := jy (h := h) o3 rfl 6 (.int .i64 1)
 by_cases h3 : r = 3
 ·subst h3
  rw [if_pos rfl] at hfin
  have hf := Lib.hid (hfin.out _ q4 o4)
  clear q1 o1 q2 o2 q3 o3 q4 o4 hfin
  go_wp2_with fail
  go_end0
  exact hf.out
 ·have d3 : (r == 3) = false := by simp [h3]
  rw [if_neg h3] at hfin
  have hf := Lib.hid (hfin.out _ q3 o3)
  clear q1 o1 q2 o2 q3 o3 q4 o4 hfin
  go_wp2_with fail
  go_end0
  exact hf.out
end Go.Proofs.YtbdfpbknckghgaaGreat

namespace Go.Proofs.YtbdfpbknckghgaaGreat
open Go.RowKit Go.Lib
def Hd.take (H : Hd) (l : Lk) : Hd := if l.fB H.lk H.who = 0 then H.want (H.lk + 1) else H
theorem vJ {w : World} {h s : Nat} {H : Hd} {l : Lk} (q : aA w h H) (hl : aC 94 w s l) (hn : 0 ≤ l.n ∧ l.n ≤ 1000000) (hk : 0 ≤ H.lk ∧ H.lk ≤ 3) (hne : h ≠ s) :
 Calls Tryz.prog 270 #[.pointer (some ⟨h, 0, none⟩), .pointer (some ⟨s, 0, none⟩)] w fun e w' => e = .returned (.tuple #[]) ∧ aA w' h (H.take l) ∧ aC 94 w' s (l.ed H.lk H.who) ∧ aP (fun k => k = h ∨ k = s) w w' := by
 have q0 := Lib.hid q
 have l0 := Lib.hid hl
 have wi : IntKind.i64.wrap (H.lk + 1) = H.lk + 1 := IntWalk.i64_in _ (by omega)
 have hy : Hid (l.fB H.lk H.who = 0 → H.take l = H.want (H.lk + 1)) := fun h => by unfold Hd.take; rw [if_pos h]
 have hno : Hid (l.fB H.lk H.who ≠ 0 → H.take l = H) := fun h => by unfold Hd.take; rw [if_neg h]
 clear q hl
 go_enter Tryz.func270, Tryz.ntmps270
 go_wp2_with fail
 refine Reg2.ro w 9 22 [.p 0, .p 0, .p 2, .p 6, .m 14, .p 0, .p 32, .p 96, .m 224] [.int .i64 H.lk, .int .i64 H.who] (by kernel_rfl) (by kernel_rfl) rfl rfl ⟨rfl, rfl, rfl, Nat.le_refl _, fun _ _ => rfl⟩ ?_
 dsimp only [Reg2.gJ]
 repeat ((first
  | (refine' Reg2.aO _ (by rfl) (fun wz => ?_) ?_; rotate_left; (go_simp; first | rfl | rw [if_neg (by omega)]))
  | (refine Reg2.aD (by rfl) (fun wz hI hF => ?_) (fun _ => ?_)
     ·unfold Reg2.One
      have d0 := (q0.out.below hI q0.out.lt).c7
      have d1 := (q0.out.below hI q0.out.lt).c2
      go_wp2_with fail
      first | exact ⟨_, rfl, rfl, Reg2.Ext.refl _⟩ | exact ⟨_, rfl, ⟨(), rfl, trivial⟩, Reg2.Ext.refl _⟩)); simp only [Act.put, xA, xB, xC, xD, xE, id])
 refine Reg2.aY ?_
 intro w1 HI1 _ qD
 clear qD
 dsimp only [List.drop]
 have q1 := Lib.hid (q0.out.below HI1 q0.out.lt)
 have ht := ym H.lk H.who (l0.out.below HI1 l0.out.lt) hn
 go_wp2_with fail
 go_at_call 273
 refine ht.mono ?_
 clear ht
 rintro e w2 ⟨rfl, hl2, ho2⟩
 have q2 : aA w2 h H := (ho2.block h q1.out.lt hne hne).trans q1.out
 have nZ : aP (fun k => k = h ∨ k = s) w w2 := (aP.of_below HI1).trans (aP.yw (S := fun k => k = h ∨ k = s) ho2 (.inr rfl)) (kE.refl _ _)
 have c7 := q2.c7
 obtain ⟨r, hr⟩ : ∃ r, r = l.fB H.lk H.who := ⟨_, rfl⟩
 rw [← hr]
 replace hr := Lib.hid hr
 by_cases h0 : r = 0
 ·subst h0
  have hw := pz q2 (H.lk + 1) (by omega)
  replace hy := Lib.hid (hy.out hr.out.symm)
  replace hl2 := Lib.hid hl2
  replace nZ := Lib.hid nZ
  replace q2 := Lib.hid q2
  go_wp2_with fail
  go_at_call 114
  refine hw.mono ?_
  clear hw c7
  rintro e w3 ⟨rfl, q3, zD⟩
  have hl3 : Hid (aC 94 w3 s (l.ed H.lk H.who)) := (zD.block s hl2.out.lt (Ne.symm hne)).trans hl2.out
  have BB : Hid (aP (fun k => k = h ∨ k = s) w w3) := nZ.out.trans zD fun k hk => .inl (.inl hk)
  replace q3 := Lib.hid q3
  clear zD
  go_wp2_with fail
  go_end0
  exact ⟨rfl, by rw [hy.out]; exact q3.out, hl3.out, BB.out⟩
 ·have d3 : (r == 0) = false := by simp [h0]
  replace hno := Lib.hid (hno.out (by rw [← hr.out]; exact h0))
  replace q2 := Lib.hid q2
  replace hl2 := Lib.hid hl2
  replace nZ := Lib.hid nZ
  clear c7
  go_wp2_with fail
  go_end0
  exact ⟨rfl, by rw [hno.out]; exact q2.out, hl2.out, nZ.out⟩
end Go.Proofs.YtbdfpbknckghgaaGreat

namespace Go.Proofs.YtbdfpbknckghgaaGreat
open Go.RowKit Go.Lib
section
variable {w : World} {h s : Nat} {H : Hd} {l : Lk} {cv : Value}
theorem pE (q : aA w h H) (h0 : H.st = 0) (hl : aC 94 w s l) (hn : 0 ≤ l.n ∧ l.n ≤ 1000000) (hk : 0 ≤ H.lk ∧ H.lk ≤ 3) (hne : h ≠ s) :
 Calls Tryz.prog 267 #[.pointer (some ⟨h, 0, none⟩), cv, .pointer (some ⟨s, 0, none⟩)] w fun e w' => e = .returned (.bool false) ∧ aA w' h (H.take l) ∧ aC 94 w' s (l.ed H.lk H.who) ∧ aP (fun k => k = h ∨ k = s) w w' := by
 have hs := jA q
 rw [h0] at hs
 have ht := vJ q hl hn hk hne
 clear q hl h0
 go_enter Tryz.func267, Tryz.ntmps267
 go_wp2_with (first | (go_at_call 263; go_must (refine hs.mono ?_); rintro e w' ⟨rfl, rfl⟩) | (go_at_call 270; go_must (refine ht.mono ?_); rintro e w' ⟨rfl, hz⟩; replace hz := Lib.hid hz))
 go_ret
 exact ⟨rfl, hz.out⟩
def yU (wk : Nat) (who : Int) (x y z : Bool) : Hd := (⟨wk, who, x, y, z, 0, 0⟩ : Hd).want 0
theorem pF (wk : Nat) (who : Int) (x y z : Bool) (w : World) : Calls Tryz.prog 76 #[.pointer (some ⟨wk, 0, none⟩), .int .i64 who, az x y z] w fun e w' => ∃ b, e = .returned (.pointer (some ⟨b, 0, none⟩)) ∧ aA w' b (yU wk who x y z) ∧ w.heap.size ≤ b ∧ Below w.heap.size w w' := by
 unfold az
 obtain ⟨w1, hw1⟩ : ∃ w1, w1 = (w.alloc (.cells #[.bool x, .bool y, .bool z] 158)).alloc (.cells #[.pointer (some ⟨wk, 0, none⟩), .bool true, .int .i64 who, .bool x, .bool y, .bool z, .int .i64 0, .int .i64 0] 204) := ⟨_, rfl⟩
 have hb1 : Below w.heap.size w w1 := by rw [hw1]; exact ((Below.refl _ _).alloc (Nat.le_refl _) _).alloc (by simp) _
 have q1 : aA w1 (w.heap.size + 1) ⟨wk, who, x, y, z, 0, 0⟩ := by rw [hw1]; exact heap_alloc2_new w _ _
 have hw := pz q1 0 (by decide)
 replace hb1 := Lib.hid hb1
 clear q1
 go_enter Tryz.func76, Tryz.ntmps76
 go_wp2_with fail
 rw [← hw1]
 replace hw1 := Lib.hid hw1
 go_at_call 114
 refine hw.mono ?_
 clear hw
 rintro e w2 ⟨rfl, q2, nZ⟩
 have hb2 : Hid (Below w.heap.size w w2) := hb1.out.trans (nZ.below (fun k hk => by subst hk; omega) hb1.out.size)
 replace q2 := Lib.hid q2
 clear nZ
 go_wp2_with fail
 go_ret
 exact ⟨_, rfl, q2.out, Nat.le_succ _, hb2.out⟩
end
end Go.Proofs.YtbdfpbknckghgaaGreat

namespace Go.Proofs.YtbdfpbknckghgaaGreat
open Go.RowKit Go.Lib
def dJ (n : Nat) : Md := ⟨0, List.replicate n false, [], false⟩
end Go.Proofs.YtbdfpbknckghgaaGreat

namespace Go.Proofs.YtbdfpbknckghgaaGreat
section
variable {M : Md}
theorem qE {n : Nat} (hn : n < M.dr.length) : gW M n = if 0 ≤ holderL M.L n then (if M.dr.getD n false = true then 3 else 2) else if M.dr.getD n false = true then 4 else 1 := by
 unfold gW
 rw [if_neg (by omega)]
 simp only [Int.toNat_natCast]
theorem pG {n : Nat} (hn : ¬ n < M.dr.length) : gW M n = 0 := by
 unfold gW
 rw [if_pos (by omega)]
end
end Go.Proofs.YtbdfpbknckghgaaGreat

namespace Go.Proofs.YtbdfpbknckghgaaGreat
theorem mq {p : Prop} (f : p := by
 by_cases h1 : x1 = y1
 ·by_cases h2 : x2 = y2
  ·by_cases h3 : x3 = y3
   ·by_cases h4 : x4 = y4
    ·by_cases h5 : x5 = y5
     ·by_cases h6 : x6 = y6
      ·by_cases h7 : x7 = y7
       ·by_cases h8 : x8 = y8
        ·by_cases h9 : x9 = y9 <;> simp [h1, h2, h3, h4, h5, h6, h7, h8, h9]
        ·simp [h1, h2, h3, h4, h5, h6, h7, h8]
       ·simp [h1, h2, h3, h4, h5, h6, h7]
      ·simp [h1, h2, h3, h4, h5, h6]
     ·simp [h1, h2, h3, h4, h5]
    ·simp [h1, h2, h3, h4]
   ·simp [h1, h2, h3]
  ·simp [h1, h2]
 ·simp [h1]) : p := f
end Go.Proofs.YtbdfpbknckghgaaGreat
namespace Go.Proofs.YtbdfpbknckghgaaGreat
open Go.RowKit Go.Lib
open Go.ChangeShapes Go.WideShapes Go.ChangeAt Go.Deep
structure Rq where
 kind : Int
 id : Int
 user : Int
 width : Int
 limit : Int
 prio : Int
 held : Bool
 node : Int
 till : Int
deriving DecidableEq
def encR (r : Rq) : List Value := [.int .i64 r.kind, .int .i64 r.id, .int .i64 r.user, .int .i64 r.width, .int .i64 r.limit, .int .i64 r.prio, .bool r.held, .int .i64 r.node, .int .i64 r.till]
theorem yx : ∀ w, Sem.run Tryz.prog (isAgg 28) w = .ok true w := Tryz.isAgg28
theorem bL : ∀ w, Sem.run Tryz.prog (Go.sizeOf 28) w = .ok 9 w := Tryz.sizeOf28
theorem aG (r : Rq) : (encR r).length = 9 := rfl
theorem mr (r : Rq) : ∀ v ∈ encR r, v.oneCell' = true := by
 intro v hv
 simp [encR] at hv
 rcases hv with rfl | rfl | rfl | rfl | rfl | rfl | rfl | rfl | rfl <;> rfl
theorem ay {W : World} {p : Nat} {x : Rq} (h : W.heap[p]? = some (.cells (encR x).toArray 28 (0, 0))) : ∀ j u, (encR x)[j]? = some u → W.cell? ⟨p, j, none⟩ = some u := by
 intro j u hj
 simp [World.cell?, h, hj]
theorem aS {W : World} {p k : Nat} {x : Rq} (h : W.heap[p]? = some (.cells (encR x).toArray 28 (0, 0))) (hk : (encR x).length = k) : Sem.run Tryz.prog (loadCellsFrom ⟨p, 0, none⟩ 0 k #[]) W = .ok (encR x).toArray W := by
 refine run_loadCellsFrom_list Tryz.prog W _ _ k hk fun j u hj => ?_
 rw [Go.WideShapes.add_plain]
 simpa using ay h j u hj
section
variable {H : Type} {enc : TypeId × Value → H} {w : World} {base : Nat} {v : Value} {d : DataW H} {ps : List MemPlace}
structure bF (r : Rq) : Prop where
 kind : -9223372036854775808 ≤ r.kind ∧ r.kind ≤ 9223372036854775807
 id : -9223372036854775808 ≤ r.id ∧ r.id ≤ 9223372036854775807
 user : -9223372036854775808 ≤ r.user ∧ r.user ≤ 9223372036854775807
 width : -9223372036854775808 ≤ r.width ∧ r.width ≤ 9223372036854775807
 limit : -9223372036854775808 ≤ r.limit ∧ r.limit ≤ 9223372036854775807
 prio : -9223372036854775808 ≤ r.prio ∧ r.prio ≤ 9223372036854775807
 node : -9223372036854775808 ≤ r.node ∧ r.node ≤ 9223372036854775807
 till : -9223372036854775808 ≤ r.till ∧ r.till ≤ 9223372036854775807
end
theorem og (x y : Rq) (w : World) : (Op.equalIn 10000 28 (.agg (encR x).toArray) (.agg (encR y).toArray)).run Tryz.prog w = .ok (decide (x = y)) w := by
 have u2 := Tryz.underlying2
 have a2 := Tryz.isAgg2
 have z2 := Tryz.sizeOf2
 have u3 := Tryz.underlying3
 have a3 := Tryz.isAgg3
 have z3 := Tryz.sizeOf3
 have u4 := Tryz.underlying4
 have a4 := Tryz.isAgg4
 have z4 := Tryz.sizeOf4
 have hS : Tryz.prog.underlying 28 = some (.struct (Tryz.prog.fieldsOf 28)) := by kernel_rfl
 have hp : Tryz.prog.stoodInHeld 28 = false := by kernel_rfl
 rw [show (10000 : Nat) = 9999 + 1 from rfl, run_equalIn_agg w 9999 28 _ _ hS hp]
 simp only [Program.fieldsOf, Tryz.underlying28]
 obtain ⟨x1, x2, x3, x4, x5, x6, x7, x8, x9⟩ := x
 obtain ⟨y1, y2, y3, y4, y5, y6, y7, y8, y9⟩ := y
 simp only [encR]
 go_simp
 exact mq
theorem vK (x y : Rq) (w : World) : (binOp .eql 28 (.agg (encR x).toArray) (.agg (encR y).toArray)).run Tryz.prog w = .ok (.bool (decide (x = y))) w := by
 rw [run_eql_struct, og]; rfl
theorem qF : Tryz.prog.eqGuardType Tryz.prog.depth 28 = false := by kernel_rfl
end Go.Proofs.YtbdfpbknckghgaaGreat

namespace Go.Proofs.YtbdfpbknckghgaaGreat
open Go.RowKit
theorem il {P : Program} (w : World) (base : Nat) (t tx ty e : TypeId) (i : TypeInfo) (z : Value) (size bytes : Nat) (ht : P.underlying t = some (.slice e)) (hi : P.info? e = some i) (hz : i.zero = some z)
 (hsize : i.size = size) (hby : i.bytes = bytes) (hzs : z.cells.size = size)
 (v : Value) (n : Nat) (xs : List Value) (hown : w.ownsRow base e size v n xs) (x : Value) (m : Nat) (news : List Value) (hs : Src P size tx x m news w)
 (h63 : n + m ≤ maxLen) (hbytes : (n + m) * bytes ≤ 140737488355328) (hbase : base ≤ w.heap.size) :
 ∃ v' w', (Builtin.append_ #[t, tx] ty #[v, x]).run P w = .ok v' w' ∧ w'.ownsRow base e size v' (n + m) (xs ++ news) ∧ w.grownBy w' v.ownBlock ∧ (v'.ownBlock = v.ownBlock ∨ v'.ownBlock = some w.heap.size) := by
 subst hsize
 subst hby
 have hsmall : n + m ≤ 9223372036854775807 := by simp only [maxLen] at h63; omega
 have hlen : (xs ++ news).length = (n + m) * i.size := by rw [List.length_append, hown.1, hs.newsLen, Nat.add_mul]
 have grown : ∀ (old : Nat), old < n + m → ∀ (row : Option Nat),
  (w.drew.alloc (.cells ((xs ++ news).toArray ++ Builtin.zeroCells z.cells (grownCap w (n + m) old e - (n + m))) e)).ownsRow base e i.size
   (.slice (some ⟨w.heap.size, 0, none⟩) (n + m) (grownCap w (n + m) old e)) (n + m) (xs ++ news) ∧
  w.grownBy (w.drew.alloc (.cells ((xs ++ news).toArray ++ Builtin.zeroCells z.cells (grownCap w (n + m) old e - (n + m))) e)) row := by
  intro old ho row
  have hge := grownCap_ge w (n + m) old e
  have hcm : grownCap w (n + m) old e ≤ maxLen := grownCap_le_maxLen w (n + m) old e h63
  refine ⟨⟨hlen, .inr ⟨w.heap.size, _, _, rfl, hbase, heap_alloc_new w.drew _, hge, hcm, ?_, ?_⟩⟩, ⟨rfl, rfl, rfl, by simp, fun k hk _ => Go.heap_alloc_old w.drew _ hk⟩⟩
  ·simp only [Array.size_append, List.size_toArray, size_zeroCells, hzs, hlen, ← Nat.add_mul]
   congr 1
   omega
  ·simp only [Array.toList_append]
   rw [← hlen]
   exact List.take_left
 rcases hown.2 with ⟨rfl, rfl⟩ | ⟨g, cap, cur, rfl, hbg, hg, hnc, hcm, hcs, htake⟩
 ·have hx : xs = [] := List.eq_nil_of_length_eq_zero (by simpa using hown.1)
  subst hx
  by_cases hm : m = 0
  ·subst hm
   have hn : news = [] := List.eq_nil_of_length_eq_zero (by simpa using hs.newsLen)
   subst hn
   refine ⟨.slice none 0 0, w, ?_, World.ownsRow_nil w base e i.size, ⟨rfl, rfl, rfl, Nat.le_refl _, fun _ _ _ => rfl⟩, .inl rfl⟩
   rcases hs.kind with ⟨e', hk⟩ | hk <;> simp [Builtin.append_, run_underlying ht, run_underlying hk, sizeOf, typeInfo, hi, hs.len, hs.cells]
  ·have hr := run_append_grow_src (P := P) w t tx ty e i z ht hi hz none 0 0 [] (by simp [Builtin.firstCells]) x m news hs (by omega) (by omega) (growslice_fits (by omega) hbytes)
   have hgr := grown 0 (by omega) (Value.ownBlock (.slice none 0 0))
   exact ⟨_, _, hr, hgr.1, hgr.2, .inr rfl⟩
 ·by_cases hroom : n + m ≤ cap
  ·have hfit : n * i.size + news.length ≤ cur.size := by rw [hs.newsLen, hcs, ← Nat.add_mul]; exact Nat.mul_le_mul_right _ hroom
   have hst := run_storeCells_at P g (n * i.size) e news 0 cur w hg (by simpa using hfit) hs.one
   simp only [Nat.add_zero] at hst
   have hr : (Builtin.append_ #[t, tx] ty #[.slice (some ⟨g, 0, none⟩) n cap, x]).run P w =
    .ok (.slice (some ⟨g, 0, none⟩) (n + m) cap) (w.setRow g (cur.toList.take (n * i.size) ++ news ++ cur.toList.drop (n * i.size + news.length)).toArray) := by
    rcases hs.kind with ⟨e', hk⟩ | hk <;> simp [Builtin.append_, run_underlying ht, run_underlying hk, sizeOf, typeInfo, hi, hs.len, hroom, hs.cells, Addr.add_lit, hst]
   refine ⟨_, _, hr, ⟨hlen, .inr ⟨g, cap, _, rfl, hbg, setRow_heap w g cur _ e _ hg, hroom, hcm, ?_, ?_⟩⟩, ⟨rfl, rfl, rfl, by simp, fun k hk hne => setRow_other w g k _ (fun e => hne (by simp [Value.ownBlock, e]))⟩, .inl rfl⟩
   ·simp only [List.size_toArray, List.length_append, List.length_take, List.length_drop, Array.length_toList]
    omega
   ·rw [htake, ← hlen]
    exact List.take_left
  ·have holds : ∀ j u, xs[j]? = some u → w.drew.cell? ((⟨g, 0, none⟩ : Addr).add j) = some u := fun j u hu => by simpa using hown.cells (g := g) rfl j u hu
   have hr := run_append_grow_src (P := P) w t tx ty e i z ht hi hz (some ⟨g, 0, none⟩) n cap xs (run_firstCells_some (P := P) w.drew i.size n ⟨g, 0, none⟩ n cap xs hown.1 holds) x m news hs (by omega) (by omega) (growslice_fits (by omega) hbytes)
   have hgr := grown cap (by omega) (Value.ownBlock (.slice (some ⟨g, 0, none⟩) n cap))
   exact ⟨_, _, hr, hgr.1, hgr.2, .inr rfl⟩
theorem dG {P : Program} (w : World) {ops : Array Oper} {rest : List Oper} {o : Oper} {a : Act} {Q : Exit → Act → World → Prop} (hgd : o.guard = none) (s x : Operand) (t tx : TypeId)
 (ho : o.op = .call { callee := .builtin .append, args := #[s, x], argTypes := #[t, tx] })
 (base : Nat) (e : TypeId) (i : TypeInfo) (z : Value) (size bytes : Nat) (ht : P.underlying t = some (.slice e)) (hi : P.info? e = some i) (hz : i.zero = some z)
 (hsize : i.size = size) (hby : i.bytes = bytes) (hzs : z.cells.size = size)
 (v : Value) (n : Nat) (xs : List Value) (hs : a.eval s = v) (hown : w.ownsRow base e size v n xs) (xv : Value) (m : Nat) (news : List Value) (hx : a.eval x = xv) (hsrc : Src P size tx xv m news w)
 (h63 : n + m ≤ maxLen) (hbytes : (n + m) * bytes ≤ 140737488355328) (hbase : base ≤ w.heap.size)
 (h : ∀ v' w', w'.ownsRow base e size v' (n + m) (xs ++ news) → w.grownBy w' v.ownBlock → (v'.ownBlock = v.ownBlock ∨ v'.ownBlock = some w.heap.size) → wpList P ops Q rest (a.put o.dst v') w') : wpList P ops Q (o :: rest) a w :=
 wpList_plain hgd fun K hK => by
  obtain ⟨v', w', hr, h2, h3, h4⟩ := il (P := P) w base t tx o.type e i z size bytes ht hi hz hsize hby hzs v n xs hown xv m news hsrc h63 hbytes hbase
  unfold Oper.wp execOp
  simp only [ho, resolve, invoke, builtin, Sem.run_bind, Sem.run_pure, Result.andThen_ok, List.map_toArray, List.map_cons, List.map_nil, hs, hx, hr]
  exact hK _ _ (h v' w' h2 h3 h4)
end Go.Proofs.YtbdfpbknckghgaaGreat


namespace Go.Proofs
open Go.Shelf
def Tryz.insJ_ren : Go.Shelf.Ren := ⟨fun | 20 => 240 | n => n, fun | 24 => 177 | 22 => 125 | 3 => 3 | 25 => 287 | 4 => 4 | 0 => 0 | n => n, fun | n => n⟩
theorem Tryz.insJ : Go.Proofs.SlLaysF0.n20 Tryz.prog Tryz.insJ_ren := {
 mixed := by kernel_rfl
 f20 := ⟨Tryz.f240.name, by decide, Tryz.func240.trans (congrArg some (by kernel_rfl))⟩
 t0 := Tryz.underlying0
 a0 := Tryz.isAgg0
 z0 := Tryz.sizeOf0
 v0 := Tryz.zeroValue0
 t3 := Tryz.underlying3
 a3 := Tryz.isAgg3
 z3 := Tryz.sizeOf3
 v3 := Tryz.zeroValue3
 t4 := Tryz.underlying4
 a4 := Tryz.isAgg4
 z4 := Tryz.sizeOf4
 v4 := Tryz.zeroValue4
 t22 := Tryz.underlying125
 a22 := Tryz.isAgg125
 z22 := Tryz.sizeOf125
 v22 := Tryz.zeroValue125
 t25 := Tryz.underlying287
 a25 := Tryz.isAgg287
 z25 := Tryz.sizeOf287
 v25 := Tryz.zeroValue287 }
end Go.Proofs

namespace Go.Proofs.YtbdfpbknckghgaaGreat
open Go.RowKit Go.Sort Go.Lib Go.Shelf Put
structure BV (T : TypeId) (pre : List Value) (w : World) (p : Nat) (v : Value) (L : List Jb) : Prop where
 cell : w.heap[p]? = some (.cells (pre ++ [v]).toArray T (0, 0))
 own : w.ownsRow 0 177 10 v L.length (L.flatMap yR)
abbrev TV := BV 191 [.bool true]
section
end
section
variable {T : TypeId} {pre : List Value} {w w' : World} {p g n cap : Nat} {v : Value} {L : List Jb}
theorem BV.lt (h : BV T pre w p v L) : p < w.heap.size := Put.lt_of_heap h.cell
theorem BV.kept (h : BV T pre w p v L) (hb : Below w.heap.size w w') : BV T pre w' p v L := ⟨by rw [hb.block p h.lt]; exact h.cell, Put.aF h.own hb⟩
end
end Go.Proofs.YtbdfpbknckghgaaGreat

namespace Go.Proofs.YtbdfpbknckghgaaGreat
open Go.RowKit Go.Sort Go.Lib Go.Shelf Put
def enc1 (x : Int) : List Value := [.int .i64 x]
section
end
end Go.Proofs.YtbdfpbknckghgaaGreat

namespace Go.Proofs.YtbdfpbknckghgaaGreat
open Go.RowKit Go.Sort Go.Lib Go.Shelf Put
section
variable {w w' : World} {p : Nat} {v : Value} {L : List Jb}
theorem BV.Am (w : World) : TV (w.alloc (.cells #[.bool true, .slice none 0 0] 191)) w.heap.size (.slice none 0 0) [] :=
 ⟨heap_alloc_new w _, by simpa using World.ownsRow_nil _ 0 177 10⟩
theorem qG (w : World) : Calls Tryz.prog 67 #[] w fun e w' => e = .returned (.pointer (some ⟨w.heap.size, 0, none⟩)) ∧ w.alloc (.cells #[.bool true, .slice none 0 0] 191) = w' := by
 go_enter Tryz.func67, Tryz.ntmps67
 go_wp2_with fail
 go_ret
 exact ⟨rfl, rfl⟩
end
end Go.Proofs.YtbdfpbknckghgaaGreat

namespace Go.Proofs.YtbdfpbknckghgaaGreat
def ofK (f : Nat → Bool) : Nat → Nat
 | 0 => 0
 | k + 1 => ofK f k + (if f k then 2 ^ k else 0)
theorem rV (f : Nat → Bool) (k : Nat) : ofK f k < 2 ^ k := by
 induction k with
 | zero => simp [ofK]
 | succ k ih =>
   simp only [ofK, Nat.pow_succ]
   split <;> omega
theorem oh (f : Nat → Bool) (k i : Nat) : (ofK f k).testBit i = (decide (i < k) && f i) := by
 induction k with
 | zero => simp [ofK]
 | succ k ih =>
   have hlt := rV f k
   have e : ofK f (k + 1) = 2 ^ k * (if f k then 1 else 0) + ofK f k := by
    simp only [ofK]
    split <;> omega
   rw [e, Nat.testBit_two_pow_mul_add _ hlt, ih]
   by_cases h : i < k
   ·simp [h, show i < k + 1 by omega]
   ·by_cases h2 : i = k
    ·subst h2
     simp
     cases f i <;> rfl
    ·have : (if f k = true then 1 else 0).testBit (i - k) = false := by
      have h3 : 0 < i - k := by omega
      split
      ·exact Nat.testBit_lt_two_pow (Nat.one_lt_two_pow (by omega))
      ·simp
     simp [this, h, show ¬ i < k + 1 by omega]
def iq (f : Nat → Bool) : Nat := ofK f 64
theorem yz (f : Nat → Bool) : iq f < 18446744073709551616 := rV f 64
theorem fU (f : Nat → Bool) (i : Nat) : (iq f).testBit i = (decide (i < 64) && f i) := oh f 64 i
theorem tu {u i : Nat} (hu : u < 18446744073709551616) (hi : 64 ≤ i) : u.testBit i = false :=
 Nat.testBit_lt_two_pow (Nat.lt_of_lt_of_le hu (show 2 ^ 64 ≤ 2 ^ i from Nat.pow_le_pow_right (by decide) hi))
theorem om {f : Nat → Bool} {u : Nat} (hu : u < 18446744073709551616) (h : ∀ i, i < 64 → f i = u.testBit i) : iq f = u := by
 apply Nat.eq_of_testBit_eq
 intro i
 rw [fU]
 by_cases hi : i < 64
 ·simp [hi, h i hi]
 ·rw [tu hu (Nat.le_of_not_lt hi)]; simp [hi]
theorem qH {f g : Nat → Bool} (h : ∀ i, i < 64 → f i = g i) : iq f = iq g :=
 om (yz g) fun i hi => by rw [fU, h i hi]; simp [hi]
end Go.Proofs.YtbdfpbknckghgaaGreat

namespace Go.Proofs.YtbdfpbknckghgaaGreat
open Go.RowKit
theorem vL : ∀ m : Fin 65, IntKind.u64.wrap (IntKind.u64.wrap (2 ^ m.val) - 1) = ((2 ^ m.val - 1 : Nat) : Int) := by decide +kernel
theorem yA (n : Int) (w : World) (hn : -9223372036854775808 ≤ n ∧ n ≤ 9223372036854775807) :
 Calls Tryz.prog 107 #[.int .i64 n] w fun e w' => e = .returned (.int .u64 (iq fun i => decide ((i : Int) < n))) ∧ w = w' := by
 go_enter Tryz.func107, Tryz.ntmps107
 go_wp2
 go_ret
 refine ⟨congrArg (fun n => Ending.returned (.int .u64 n)) ?_, rfl⟩
 have hm : (max 0 (min n 64)).toNat < 65 := by omega
 refine (vL ⟨(max 0 (min n 64)).toNat, hm⟩).trans ?_
 have hl : 2 ^ (max 0 (min n 64)).toNat - 1 < 18446744073709551616 := by
  have : 2 ^ (max 0 (min n 64)).toNat ≤ 2 ^ 64 := Nat.pow_le_pow_right (by decide) (by omega)
  have h2 : 0 < 2 ^ (max 0 (min n 64)).toNat := Nat.pow_pos (by decide)
  simp only [Nat.reducePow] at this
  omega
 have e := om (f := fun i => decide ((i : Int) < n)) hl fun i hi => by
  rw [Nat.testBit_two_pow_sub_one, Bool.eq_iff_iff]
  simp
  omega
 rw [e]
end Go.Proofs.YtbdfpbknckghgaaGreat

namespace Go.Proofs.YtbdfpbknckghgaaGreat
open Go.RowKit
def pI (l : List Int) : Nat → Bool := fun i => decide (i < l.length)
def vM (l : List Int) : Nat → Bool := fun i => decide (l.getD i 0 = 2) || decide (l.getD i 0 = 3)
def vN (l : List Int) : Nat → Bool := fun i => decide (l.getD i 0 = 3) || decide (l.getD i 0 = 4)
theorem mD {f : Nat → Bool} : iq f = 0 ↔ ∀ i, i < 64 → f i = false := by
 constructor
 ·intro h i hi
  have := congrArg (fun x => x.testBit i) h
  simp only [Nat.zero_testBit] at this
  rw [fU] at this
  simpa [hi] using this
 ·intro h
  exact om (by decide) fun i hi => by rw [h i hi, Nat.zero_testBit]
section
end
end Go.Proofs.YtbdfpbknckghgaaGreat

namespace Go.Proofs.YtbdfpbknckghgaaGreat
open Go.RowKit Go.Lib Go.Sort
theorem kF {w : World} {p : Nat} {o : Obj} (h : w.heap[p]? = some o) : p < w.heap.size := by
 exact jm
def T3 (w : World) (p : Nat) (a u b : Nat) : Prop := w.heap[p]? = some (.cells #[.int .u64 a, .int .u64 u, .int .u64 b] 188 (0, 0))
def TW (w : World) (p : Nat) (l : List Int) : Prop := T3 w p (iq (pI l)) (iq (vM l)) (iq (vN l))
section
variable {w w' : World} {p a u b : Nat} {l : List Int}
theorem T3.kept (h : T3 w p a u b) (hb : Below w.heap.size w w') : T3 w' p a u b := by
 unfold T3 at *
 rw [hb.block p (kF h)]
 exact h
end
end Go.Proofs.YtbdfpbknckghgaaGreat

namespace Go.Proofs.YtbdfpbknckghgaaGreat
open Go.RowKit Go.Lib Go.Sort
section
variable {w w' : World} {p : Nat} {l : List Int}
theorem pJ (n i : Nat) : (List.replicate n (1 : Int)).getD i 0 = if i < n then 1 else 0 := by
 by_cases hi : i < n
 ·simp [List.getD_eq_getElem?_getD, hi]
 ·simp [List.getD_eq_getElem?_getD, hi]
theorem vO (n : Nat) : (iq fun i => decide ((i : Int) < (n : Int))) = iq (pI (List.replicate n 1)) := by
 refine qH fun i _ => ?_
 unfold pI
 rw [List.length_replicate, Bool.eq_iff_iff]
 simp
theorem vP (n : Nat) : iq (vM (List.replicate n 1)) = 0 := mD.2 fun i _ => by
 unfold vM
 rw [pJ]
 split <;> simp
theorem vQ (n : Nat) : iq (vN (List.replicate n 1)) = 0 := mD.2 fun i _ => by
 unfold vN
 rw [pJ]
 split <;> simp
def yX (n : Nat) (w : World) (e : Ending) (w' : World) : Prop := e = .returned (.tuple #[.pointer (some ⟨w.heap.size, 0, none⟩), .int .i64 0]) ∧ TW w' w.heap.size (List.replicate n 1) ∧ Below w.heap.size w w'
theorem pK (n : Nat) (w : World) (h1 : 1 ≤ n) (h2 : n ≤ 64) : Calls Tryz.prog 65 #[.int .i64 n] w (yX n w) := by
 have ha := yA (n : Int) w (by omega)
 rw [vO] at ha
 have hg : Hid (yX n w (.returned (.tuple #[.pointer (some ⟨w.heap.size, 0, none⟩), .int .i64 0])) (w.alloc (.cells #[.int .u64 (iq (pI (List.replicate n 1))), .int .u64 0, .int .u64 0] 188))) := by
  refine ⟨rfl, ?_, (Below.refl _ _).alloc (Nat.le_refl _) _⟩
  unfold TW
  rw [vP, vQ]
  exact heap_alloc_new w _
 generalize iq (pI (List.replicate n 1)) = A at *
 have b1 : ¬ ((n : Int) < 1) := by omega
 have b2 : ¬ (64 < (n : Int)) := by omega
 go_enter Tryz.func65, Tryz.ntmps65
 go_wp2_with (go_at_call 107; go_must (refine ha.mono ?_); rintro e w' ⟨rfl, rfl⟩)
 go_ret2
 exact hg.out
end
end Go.Proofs.YtbdfpbknckghgaaGreat

namespace Go.Proofs.YtbdfpbknckghgaaGreat
open Go.RowKit Go.Sort Go.Lib
theorem iU {w w' : World} {base : Nat} {e : TypeId} {size : Nat} {v : Value} {n : Nat} {xs : List Value} (h : w.ownsRow base e size v n xs) (hb : Below w.heap.size w w') : w'.ownsRow base e size v n xs :=
 ownsRow_below h hb fun k hk => (h.lt k hk).2
def enc2 (x : Int × Int) : List Value := [.int .i64 x.1, .int .i64 x.2]
def Ao (l : List (Int × Int)) : List Value := l.flatMap enc2
section
end
def PW (w : World) (p g : Nat) (L : List (Int × Int)) (gy : Int) : Prop :=
 ∃ cap, w.heap[p]? = some (.cells #[.slice (some ⟨g, 0, none⟩) L.length cap, .int .i64 gy] 184 (0, 0)) ∧ w.ownsRow 0 182 2 (.slice (some ⟨g, 0, none⟩) L.length cap) L.length (Ao L)
theorem kG {w : World} {p : Nat} {o : Obj} (h : w.heap[p]? = some o) : p < w.heap.size := by
 exact jm
section
variable {w w' : World} {p g : Nat} {L : List (Int × Int)} {gy : Int}
theorem PW.kept (h : PW w p g L gy) (hb : Below w.heap.size w w') : PW w' p g L gy := by
 obtain ⟨cap, h1, h2⟩ := h
 exact ⟨cap, by rw [hb.block p (kG h1)]; exact h1, iU h2 hb⟩
end
end Go.Proofs.YtbdfpbknckghgaaGreat

namespace Go.Proofs.YtbdfpbknckghgaaGreat
open Go.RowKit Go.Sort Go.Lib
section
variable {w : World} {p g : Nat} {L : List (Int × Int)} {gy now : Int} {f : Int → Int}
theorem pM (n : Int) (w : World) (h : 0 ≤ n ∧ n ≤ 64) : Calls Tryz.prog 66 #[.int .i64 n] w fun e w' => ∃ p g : Nat, e = .returned (.tuple #[.pointer (some ⟨p, 0, none⟩), .int .i64 0]) ∧ PW w' p g [(0, n)] 0 ∧ w.heap.size ≤ p ∧ w.heap.size ≤ g ∧ Below w.heap.size w w' := by
 have h1 : ¬ (n < 0) := by omega
 have h2 : ¬ (64 < n) := by omega
 have hp : Hid (∀ w2, w2 = ((w.alloc (.cells #[.int .i64 0, .int .i64 n] 182)).alloc (.cells #[.slice (some ⟨w.heap.size, 0, none⟩) 1 1, .int .i64 0] 184)) → PW w2 (w.heap.size + 1) w.heap.size [(0, n)] 0) := by
  rintro w2 rfl
  have ho : (w.alloc (.cells #[.int .i64 0, .int .i64 n] 182)).ownsRow 0 182 2 (.slice (some ⟨w.heap.size, 0, none⟩) 1 1) 1 (Ao [(0, n)]) := uZ (vs := [.int .i64 0, .int .i64 n]) rfl (Nat.zero_le _) rfl (by decide)
  refine ⟨1, ?_, iU ho ((Below.refl _ _).alloc (Nat.le_refl _) _)⟩
  have := heap_alloc_new (w.alloc (.cells #[.int .i64 0, .int .i64 n] 182)) (.cells #[.slice (some ⟨w.heap.size, 0, none⟩) 1 1, .int .i64 0] 184)
  simpa using this
 have hb : Below w.heap.size w ((w.alloc (.cells #[.int .i64 0, .int .i64 n] 182)).alloc (.cells #[.slice (some ⟨w.heap.size, 0, none⟩) 1 1, .int .i64 0] 184)) := ((Below.refl _ _).alloc (Nat.le_refl _) _).alloc (by simp) _
 clear h
 go_enter Tryz.func66, Tryz.ntmps66
 go_wp2_with fail
 go_ret2
 exact ⟨w.heap.size + 1, rfl, w.heap.size, hp.out _ rfl, by omega, Nat.le_refl _, hb⟩
theorem vR (n : Int) : Can [(0, n)] 0 (fun _ => n) :=
 ⟨⟨by simp, rfl, fun i hi => by simp at hi, fun i hi => by simp at hi; subst hi; simp [tA], fun i t hi _ _ => by simp at hi; subst hi; simp [tV]⟩, fun i hi => by simp at hi⟩
end
end Go.Proofs.YtbdfpbknckghgaaGreat

namespace Go.Proofs.YtbdfpbknckghgaaGreat
open Go.RowKit Go.Lib Go.Sort
structure Pg where
 now : Int
 J : List Jb
 T : List Int
 f : Int → Int
 cl : Bool
def jC (c t d p : Nat) (v : Value) (g : Nat) (k : Nat) : Prop := k = c ∨ k = t ∨ k = d ∨ k = p ∨ v.ownBlock = some k ∨ k = g
def PR (w : World) (p g : Nat) (a : Nat) (m : Int) (now : Int) (f : Int → Int) : Prop :=
 ∃ S gy, PW w p g S gy ∧ Can S now f ∧ S.length ≤ a ∧ 0 ≤ gy ∧ gy ≤ m
structure CW (w : World) (c t d p : Nat) (v : Value) (g : Nat) (a : Nat) (m : Int) (P : Pg) : Prop where
 cell : w.heap[c]? = some (.cells #[.pointer (some ⟨t, 0, none⟩), .pointer (some ⟨d, 0, none⟩), .pointer (some ⟨p, 0, none⟩), .bool true, .bool P.cl] 134 (0, 0))
 vS : TV w t v P.J
 nodes : TW w d P.T
 yY : PR w p g a m P.now P.f
section
variable {w w' w1 w2 : World} {c t d p g g' g1 g2 a a' : Nat} {v v' v1 v2 : Value} {m m' : Int} {P : Pg}
theorem PW.at {S : List (Int × Int)} {gy : Int} (h : PW w p g S gy) : ∃ cs, w.heap[p]? = some (.cells cs 184 (0, 0)) := by obtain ⟨cap, h1, _⟩ := h; exact ⟨_, h1⟩
theorem PW.BC {S : List (Int × Int)} {gy : Int} (h : PW w p g S gy) : ∃ cs, w.heap[g]? = some (.cells cs 182 (0, 0)) := by
 obtain ⟨cap, _, h2⟩ := h
 exact iB h2 rfl
theorem CW.types (h : CW w c t d p v g a m P) {k : Nat} (hk : jC c t d p v g k) : ∃ cs T, w.heap[k]? = some (.cells cs T (0, 0)) ∧
 ((k = c ∧ T = 134) ∨ (k = t ∧ T = 191) ∨ (k = d ∧ T = 188) ∨ (k = p ∧ T = 184) ∨ (v.ownBlock = some k ∧ T = 177) ∨ (k = g ∧ T = 182)) := by
 obtain ⟨S, gy, hp, _⟩ := h.yY
 rcases hk with rfl | rfl | rfl | rfl | hv | rfl
 ·exact ⟨_, _, h.cell, .inl ⟨rfl, rfl⟩⟩
 ·exact ⟨_, _, h.vS.cell, .inr (.inl ⟨rfl, rfl⟩)⟩
 ·exact ⟨_, _, h.nodes, .inr (.inr (.inl ⟨rfl, rfl⟩))⟩
 ·obtain ⟨cs, h1⟩ := hp.at; exact ⟨_, _, h1, .inr (.inr (.inr (.inl ⟨rfl, rfl⟩)))⟩
 ·obtain ⟨cs, h1⟩ := iB h.vS.own hv; exact ⟨_, _, h1, .inr (.inr (.inr (.inr (.inl ⟨hv, rfl⟩))))⟩
 ·obtain ⟨cs, h1⟩ := hp.BC; exact ⟨_, _, h1, .inr (.inr (.inr (.inr (.inr ⟨rfl, rfl⟩))))⟩
theorem CW.lt (h : CW w c t d p v g a m P) {k : Nat} (hk : jC c t d p v g k) : k < w.heap.size := by
 obtain ⟨cs, T, h1, _⟩ := h.types hk
 exact ae h1
theorem CW.kept (h : CW w c t d p v g a m P) (hb : Below w.heap.size w w') : CW w' c t d p v g a m P := by
 obtain ⟨S, gy, hp, hrest⟩ := h.yY
 exact ⟨(hb.block c (h.lt (.inl rfl))).trans h.cell, h.vS.kept hb, h.nodes.kept hb, S, gy, hp.kept hb, hrest⟩
end
end Go.Proofs.YtbdfpbknckghgaaGreat

namespace Go.Proofs.YtbdfpbknckghgaaGreat
open Go.RowKit Go.Lib
def pO (M : Md) : List Int := (List.range M.dr.length).map fun k : Nat => gW M (k : Int)
def oo (M : Md) : Pg := ⟨M.now, M.L, pO M, fun t => qx M t 0, M.cl⟩
section
variable {M : Md}
theorem pQ : (pO M).length = M.dr.length := by simp [pO]
theorem vT (i : Nat) : (pO M).getD i 0 = gW M (i : Int) := by
 by_cases h : i < M.dr.length
 ·simp [pO, List.getD_eq_getElem?_getD, h]
 ·rw [pG h]
  simp [pO, List.getD_eq_getElem?_getD, h]
theorem vU {l l' : List Int} (h1 : l.length = l'.length) (h2 : ∀ i, i < l.length → l.getD i 0 = l'.getD i 0) : l = l' := by
 refine List.ext_getElem h1 fun i a b => ?_
 have := h2 i a
 simpa [List.getD_eq_getElem?_getD, a, b] using this
end
end Go.Proofs.YtbdfpbknckghgaaGreat
