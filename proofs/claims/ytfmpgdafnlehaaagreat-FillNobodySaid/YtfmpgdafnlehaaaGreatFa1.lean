/-
 Own words and walks, merged: part 1 of 3.
-/
import Derived.WalkKit
import Derived.ProofKit
import Derived.OpenShut
import Derived.Deep.Slices
import Derived.Deep.Fields
import Derived.ChangeSame
import Derived.Laws.AppendOwn
import Derived.Test.YtfmpgdafnlehaaaGreatChecked
import Derived.Laws.Rows
import Derived.WalkSpells
import Derived.WalkLawsBesides
import Derived.Lib.Hide
import Derived.Lib.MinMax
import Derived.Deep.AppendSrc
import Derived.Lib.OwnBridge
import Derived.Sort.Grow
import Derived.Shelf.GgSortFunc.RowK
import Derived.Lib.AppendZerosOnto
import Derived.Lib.Overlaps
import Derived.Laws.CopyRow
import Derived.Laws.Externs
import Derived.BigQuiet
import Derived.Laws.StructEq
import Derived.Deep.DeepMust
import Derived.LaidEql
import Derived.Shelf.SlicesQ.Load
import Derived.Orders
import Derived.Laws.ResultCell
import Derived.Deep.RegionWith
import Derived.StillTailTactics
import Derived.Sort.LotA
import Derived.Sort.WalkA
set_option maxRecDepth 1000000
set_option maxHeartbeats 8000000
set_option linter.all false
namespace Go.Proofs.YtfmpgdafnlehaaaGreat
theorem xA.{u} {a : Type u} (l : List a) (i : Nat) (x : a) : l.toArray.setIfInBounds i x = (l.set i x).toArray := List.setIfInBounds_toArray l i x
theorem xB.{u} {a : Type u} {x : a} {xs : List a} {y : a} : (x :: xs).set 0 y = y :: xs := rfl
theorem xC.{u} {a : Type u} {x : a} {xs : List a} {i : Nat} {y : a} : (x :: xs).set (i + 1) y = x :: xs.set i y := rfl
theorem xD.{u} {a : Type u} (l : List a) : [] ++ l = l := rfl
theorem xE.{u} {a : Type u} {x : a} {l k : List a} : x :: l ++ k = x :: (l ++ k) := rfl
end Go.Proofs.YtfmpgdafnlehaaaGreat


namespace Go.Proofs.YtfmpgdafnlehaaaGreat
open Go.ChangeShapes Go.WideShapes Go.RowKit
theorem dF {H : Type} {enc : TypeId × Value → H} {P : Program} (hl : laidOutB P = true) {W W' : World} (hb : Below W.heap.size W W') {sp : Nat → Bool} :
 ∀ (ts : List TypeId) (vs : List Value) (ds : List (DataW H)) (ps : List MemPlace), (∀ t ∈ ts, P.readableRec t = true ∧ t < P.types.size) → (∀ x ∈ ps, x.block < W.heap.size ∧ sp x.block = true) →
  DataW.TrodAll enc P W 0 (fun _ => true) true ts vs ds ps → DataW.TrodAll enc P W' 0 sp true ts vs ds ps
 | [], vs, ds, ps, _, _, h => by
   obtain ⟨rfl, rfl, rfl⟩ := trodAll_nil h
   exact trodAll_mk0
 | t :: ts, vs, ds, ps, hr, hp, h => by
   obtain ⟨v, vs1, d, ds1, a, b, rfl, rfl, rfl, h1, h2⟩ := trodAll_cons h
   refine ⟨a, b, ?_, dF hl hb ts vs1 ds1 b (fun t ht => hr t (List.mem_cons_of_mem _ ht)) (fun x hx => hp x (List.mem_append_right _ hx)) h2, rfl⟩
   exact WideElems.Trod_stays hl (hr t (List.mem_cons_self ..)).1 (hr t (List.mem_cons_self ..)).2 h1 (fun x hx => hb.same (hp x (List.mem_append_left _ hx)).1) (fun x hx => (hp x (List.mem_append_left _ hx)).2)
theorem nQ {H : Type} {enc : TypeId × Value → H} {P : Program} {f : Func} {s : ChangeSpec} {apart fresh handsOn again : Bool} {W W' : World} {args : Array Value} {ds : List (DataW H)} {before : List MemPlace} {tb : TypeId}
 (hW : DataW.Whole enc P f.params.toList s.vars apart W args.toList ds [] before) (hvars : s.vars = []) (hfn : s.fn H (ds ++ []) = { results := [.lit (.bool true)], args := ds, vars := [] })
 (hrt : f.resultTypes = #[tb]) (htb : P.underlying tb = some .bool) (hl : laidOutB P = true) (hr : ∀ t ∈ f.params.toList, P.readableRec t = true ∧ t < P.types.size) (hb : Below W.heap.size W W') :
 s.post enc P f apart fresh handsOn again W args (.bool true) W' := by
 have hlt := fun p hp => hW.lt p hp
 obtain ⟨p, q, hA, hV, hps, hz, hn⟩ := hW
 have hW0 : DataW.Whole enc P f.params.toList s.vars apart W args.toList ds [] before := ⟨p, q, hA, hV, hps, hz, hn⟩
 rw [hvars] at hV
 obtain ⟨_, rfl⟩ := trodVars_none hV
 rw [List.append_nil] at hps
 subst hps
 have hold : ∀ x ∈ before, x.block < W.heap.size ∧ (fun b => decide (b < W.heap.size)) x.block = true := fun x hx => by have := hlt x hx; exact ⟨this, by simpa using this⟩
 have hres : ∀ (b : Nat) (sp : Nat → Bool) (hd : Bool), DataW.TrodAll enc P W' b sp hd f.resultTypes.toList ((Value.bool true).resultList f.resultTypes.size) (s.fn H (ds ++ [])).results [] := by
  intro b sp hd
  rw [hrt, hfn]
  exact trodAll_mk1 (shut_bool htb true)
 have hargs : ∀ sp : Nat → Bool, (∀ x ∈ before, sp x.block = true) → DataW.TrodAll enc P W' 0 sp true f.params.toList args.toList (s.fn H (ds ++ [])).args before := by
  intro sp hsp
  rw [hfn]
  exact dF hl hb _ _ _ _ hr (fun x hx => ⟨(hold x hx).1, hsp x hx⟩) hA
 have hvs : ∀ sp : Nat → Bool, DataW.TrodVars enc P W' sp s.vars (s.fn H (ds ++ [])).vars [] := by
  intro sp
  rw [hfn, hvars]
  rfl
 refine ⟨ds, [], before, [], before, [], hW0, hres _ _ _, hargs _ fun x hx => (hold x hx).2, hvs _, World.keptBut_mono (fun x hx => ⟨hx, by first | exact Or.inr hx | (right; simpa using hx)⟩) (hb.frame (· ∈ before)), fun _ => ?_⟩
 refine ⟨ok_one hrt rfl (okWide_bool_mk htb true), _, _, ([] ++ before) ++ [], ⟨[] ++ before, [], trodAll_append (hargs _ (fun _ _ => rfl)) (hres _ _ _), hvs _, rfl, ?_, ?_⟩, ?_⟩
 ·intro b off hp
  have hp : MemPlace.cell b off ∈ before := by simpa using hp
  rw [hb.frozen (p := ⟨b, off, none⟩) (hold _ hp).1]
  exact hz b off hp
 ·intro ha
  simpa using hn ha
 ·intro x hx _
  simpa using hx
theorem rE {P : Program} {l : List TypeId} (h : (l.all fun t => P.readableRec t && decide (t < P.types.size)) = true) : ∀ t ∈ l, P.readableRec t = true ∧ t < P.types.size := by
 intro t ht
 have := List.all_eq_true.1 h t ht
 simpa using this
end Go.Proofs.YtfmpgdafnlehaaaGreat

namespace Go.Proofs.YtfmpgdafnlehaaaGreat
open Go.ChangeShapes Go.WideShapes Go.ChangeAt Go.RowKit Go.Deep
def af {α : Type} (enc : α → List Value) (sz : Nat) (w : World) (v : Value) (l : List α) : Prop :=
 ∃ ao cap, v = .slice ao l.length cap ∧ l.length ≤ cap ∧ cap ≤ maxLen ∧
  (0 < l.length → ∃ b off, ao = some ⟨b, off, none⟩ ∧ b < w.heap.size ∧ ∀ i s j u, l[i]? = some s → (enc s)[j]? = some u → w.cell? ⟨b, off + (i * sz + j), none⟩ = some u)
section
variable {α : Type} {enc : α → List Value} {sz : Nat} {w w' : World} {v : Value} {l : List α}
theorem af.below (h : af enc sz w v l) (hb : Below w.heap.size w w') : af enc sz w' v l := by
 obtain ⟨ao, cap, h1, h2, h3, h4⟩ := h
 refine ⟨ao, cap, h1, h2, h3, fun hn => ?_⟩
 obtain ⟨b, off, e, hlt, hc⟩ := h4 hn
 refine ⟨b, off, e, Nat.lt_of_lt_of_le hlt hb.size, fun i s j u hi hj => ?_⟩
 rw [hb.cell (p := ⟨b, _, none⟩) hlt]
 exact hc i s j u hi hj
theorem af.nil (w : World) : af enc sz w (.slice none 0 0) ([] : List α) := ⟨none, 0, rfl, Nat.le_refl _, Nat.zero_le _, fun h => absurd h (by simp)⟩
theorem af.cut {ao : Option Addr} {m cap n : Nat} (h : af enc sz w (.slice ao m cap) l) (hn : n ≤ l.length) : af enc sz w (.slice ao n cap) (l.take n) := by
 obtain ⟨vS, cap', e, h2, h3, h4⟩ := h
 cases e
 have hl : (l.take n).length = n := by rw [List.length_take]; omega
 refine ⟨ao, cap, by rw [hl], by omega, h3, fun hp => ?_⟩
 obtain ⟨b, off, e, hlt, hc⟩ := h4 (by omega)
 refine ⟨b, off, e, hlt, fun i s j u hi hj => hc i s j u ?_ hj⟩
 rw [List.getElem?_take] at hi
 split at hi
 ·exact hi
 ·cases hi
theorem af.bG {base : Nat} {e : TypeId} {n : Nat} {xs : List Value} (h : w.ownsRow base e sz v n xs) (hlen : ∀ s, (enc s).length = sz) (hx : xs = l.flatMap enc) (hn : n = l.length) : af enc sz w v l := by
 subst hx
 subst hn
 rcases h.2 with ⟨rfl, h0⟩ | ⟨g, cap, cur, rfl, _, hg, hc1, hc2, _, _⟩
 ·have : l = [] := by
   rcases l with _ | ⟨s, l⟩
   ·rfl
   ·simp at h0
  subst this
  exact af.nil w
 ·refine ⟨_, _, rfl, hc1, hc2, fun _ => ⟨g, 0, rfl, ?_, fun i s j u hi hj => ?_⟩⟩
  ·rcases Nat.lt_or_ge g w.heap.size with hlt | hge
   ·exact hlt
   ·rw [Array.getElem?_eq_none hge] at hg; cases hg
  ·have hj' : j < sz := by rw [← hlen s]; exact (List.getElem?_eq_some_iff.1 hj).1
   have key : ∀ (l : List α) (i : Nat), l[i]? = some s → (l.flatMap enc)[i * sz + j]? = some u := by
    intro l
    induction l with
    | nil => intro i hi; simp at hi
    | cons a l ih =>
      intro i hi
      rw [List.flatMap_cons]
      rcases i with _ | i
      ·simp at hi
       subst hi
       rw [List.getElem?_append_left (by rw [hlen]; omega)]
       simpa using hj
      ·rw [List.getElem?_append_right (by rw [hlen, Nat.add_mul]; omega), hlen]
       have := ih i (by simpa using hi)
       rw [← this]
       congr 1
       rw [Nat.add_mul]; omega
   have := h.cells (g := g) rfl (i * sz + j) u (key l i hi)
   rw [Go.WideShapes.add_plain] at this
   simpa using this
end
section
end
theorem lM {w : World} {n : Nat} {e : TypeId} {vs : List Value} (hn : n = w.heap.size) : ∀ j u, vs[j]? = some u → (w.alloc (.cells vs.toArray e)).cell? ((⟨n, 0, none⟩ : Addr).add j) = some u := by
 subst hn
 intro j u hj
 rw [Go.WideShapes.add_plain, cell_of_row _ _ _ vs.toArray e (0, 0) (heap_alloc_new w _)]
 simpa using hj
end Go.Proofs.YtfmpgdafnlehaaaGreat

namespace Go.Proofs.YtfmpgdafnlehaaaGreat
open Go.RowKit
theorem heap_put {w : World} {g i : Nat} {cs : Array Value} {t : TypeId} {fr : Nat × Nat} (h : w.heap[g]? = some (.cells cs t fr)) (v : Value) : (w.setCell ⟨g, i, none⟩ v).heap[g]? = some (.cells (cs.setIfInBounds i v) t fr) := by
 simp [World.setCell, Array.getElem?_modify, h]
theorem lN {w : World} {g : Nat} {o o' : Obj} (h : w.heap[g]? = some o) : (w.alloc o').heap[g]? = some o := by
 have hlt : g < w.heap.size := by
  rcases Nat.lt_or_ge g w.heap.size with h1 | h1
  ·exact h1
  ·rw [Array.getElem?_eq_none h1] at h; cases h
 exact (Go.heap_alloc_old w o' hlt).trans h
def uk (d : TypeDesc) : Bool := match d with | .struct _ | .array _ _ => true | _ => false
theorem jX {fn : Func} {K : Ending → World → Prop} {a : Act} {w : World} {p : Tmp} {ty : TypeId} {g : Nat} {t : TypeId} {cs : Array Value} {fr : Nat × Nat} {d : TypeDesc} (h : fn.results = #[.cell p ty]) (hd0 : a.defers = [])
 (hp : a.tmps.getD p undef = .pointer (some ⟨g, 0, none⟩)) (hg : w.heap[g]? = some (.cells cs t fr))
 (hu : Tryz.prog.underlying ty = some d) (hd : uk d = true) (hi : (Tryz.prog.info? ty).map (·.size) = some cs.size)
 (hK : K (.returned (.agg cs)) w) : bodyPost Tryz.prog fn K .ret a w := bodyPost_ret (results_cell_row h a.tmps w g t cs fr d hp hg hu (by cases d <;> first | rfl | cases hd) hi) hd0 hK
theorem aJ {w : World} {g : Nat} {o : Obj} (h : w.heap[g]? = some o) : g < w.heap.size := by
 rcases Nat.lt_or_ge g w.heap.size with h1 | h1
 ·exact h1
 ·rw [Array.getElem?_eq_none h1] at h; cases h
theorem jY (W : World) (a b : Array Value) (T : TypeId) : (W.alloc (.cells a T)).setRow W.heap.size b = W.alloc (.cells b T) := by
 have h1 : ∀ o, W.alloc o = { W with heap := W.heap.push o } := fun o => rfl
 rw [h1, h1]
 unfold World.setRow
 have h2 : ∀ f : Obj → Obj, (W.heap.push (.cells a T)).modify W.heap.size f = W.heap.push (f (.cells a T)) := fun f => by
  refine Array.ext (by simp) fun i h1 h2 => ?_
  rw [Array.getElem_modify]
  by_cases e : W.heap.size = i
  ·subst e; simp
  ·have : i < W.heap.size := by simp at h2; omega
   simp [e, Array.getElem_push, this]
 simp only [h2]
theorem lQ (W : World) (n : Nat) (cs zs : List Value) (T : TypeId) (hn : n = W.heap.size) (hl : cs.length = zs.length) (h1 : ∀ v ∈ cs, v.oneCell' = true) :
 Sem.run Tryz.prog (storeCells ⟨n, 0, none⟩ cs 0) (W.alloc (.cells zs.toArray T)) = .ok () (W.alloc (.cells cs.toArray T)) := by
 subst hn
 have hst := run_storeCells_at Tryz.prog W.heap.size 0 T cs 0 zs.toArray (W.alloc (.cells zs.toArray T)) (heap_alloc_new W _) (by simp [hl]) h1
 simp only [Nat.add_zero] at hst
 rw [hst]
 congr 1
 have e : ((zs.toArray.toList.take 0 ++ cs ++ zs.toArray.toList.drop (0 + cs.length)).toArray) = cs.toArray := by simp [hl]
 rw [e]
 exact jY W _ _ T
end Go.Proofs.YtfmpgdafnlehaaaGreat

namespace Go.Proofs.YtfmpgdafnlehaaaGreat
open Go.RowKit Go.Lib
def bL (a b c : Bool) : Value := .agg #[.bool a, .bool b, .bool c]
end Go.Proofs.YtfmpgdafnlehaaaGreat

namespace Go.Proofs.YtfmpgdafnlehaaaGreat
open Go.RowKit Go.Lib
def aI (a b c : Bool) (f : Int) : Int := if f ≤ 0 ∧ a = true then 0 else if f ≤ 1 ∧ b = true then 1 else if f ≤ 2 ∧ c = true then 2 else 3
theorem nR (a b c : Bool) (f : Int) (h : 3 ≤ f) : aI a b c f = 3 := by
 unfold aI; rw [if_neg (by omega), if_neg (by omega), if_neg (by omega)]
theorem nS (a b c : Bool) (f : Int) (h : f ≤ 0) : aI a b c f = aI a b c 0 := by
 unfold aI; simp [h, show f ≤ 1 by omega, show f ≤ 2 by omega]
theorem gJ (a b c : Bool) (f : Int) (hf : -9223372036854775808 ≤ f ∧ f ≤ 9223372036854775807) (w : World) : Calls Tryz.prog 72 #[bL a b c, .int .i64 f] w fun e w' => e = .returned (.int .i64 (aI a b c f)) ∧ Below w.heap.size w w' := by
 obtain ⟨hf1, hf2⟩ := hf
 obtain ⟨r, hr⟩ : ∃ r, r = aI a b c f := ⟨_, rfl⟩
 obtain ⟨s, hs⟩ : ∃ s : Int, s = max f 0 := ⟨_, rfl⟩
 have hs0 : 0 ≤ s := by omega
 have uY : s ≤ 9223372036854775807 := by omega
 have rF : Hid (aI a b c s = r) := by
  show _ = _
  rw [hr]
  by_cases h : f ≤ 0
  ·rw [nS a b c f h, show s = 0 by omega]
  ·rw [show s = f by omega]
 rw [← hr]
 replace hr := Lib.hid hr
 obtain ⟨w1, hw1⟩ : ∃ w1, w1 = w.alloc (.cells #[.bool a, .bool b, .bool c] 31) := ⟨_, rfl⟩
 have hb1 : Below w.heap.size w w1 := by rw [hw1]; exact (Below.refl _ _).alloc (Nat.le_refl _) _
 have hA1 : w1.heap[w.heap.size]? = some (.cells #[.bool a, .bool b, .bool c] 31 (0, 0)) := by rw [hw1]; exact heap_alloc_new w _
 have k0 : w1.cell? ⟨w.heap.size, 0, none⟩ = some (.bool a) := by simp [World.cell?, hA1]
 have k1 : w1.cell? ⟨w.heap.size, 1, none⟩ = some (.bool b) := by simp [World.cell?, hA1]
 have k2 : w1.cell? ⟨w.heap.size, 2, none⟩ = some (.bool c) := by simp [World.cell?, hA1]
 clear hA1
 unfold bL
 go_enter Tryz.func72, Tryz.ntmps72
 go_wp2_with fail
 rw [← hs, ← hw1]
 replace hs := Lib.hid hs
 replace hw1 := Lib.hid hw1
 go_loopw [5] (fun ii wr => ∃ k : Int, 0 ≤ k ∧ k ≤ 9223372036854775807 ∧ ii = .int .i64 k ∧ Hid (aI a b c k = r) ∧ w1 = wr) (fun ii _ => 3 - (intOf ii).toNat)
 case atStart => exact ⟨s, hs0, uY, rfl, rF, rfl⟩
 case round =>
  obtain ⟨k, h0, hM, rfl, hk, rfl⟩ := hrel
  by_cases h3 : k < 3
  ·have hc : k = 0 ∨ k = 1 ∨ k = 2 := by omega
   rcases hc with rfl | rfl | rfl
   ·cases a
    ·have hn : Hid (aI false b c 1 = r) := by
      show _ = _
      rw [← hk.out]; simp [aI]
     clear hk rF
     go_wp2_with fail
     go_roundw
     case rel => exact ⟨1, by omega, by omega, rfl, hn, trivial⟩
     case measure => simp [intOf]
    ·go_wp2_with fail
     go_ret
     exact ⟨by rw [← hk.out]; rfl, hb1⟩
   ·cases b
    ·have hn : Hid (aI a false c 2 = r) := by
      show _ = _
      rw [← hk.out]; simp [aI]
     clear hk rF
     go_wp2_with fail
     go_roundw
     case rel => exact ⟨2, by omega, by omega, rfl, hn, trivial⟩
     case measure => simp [intOf]
    ·go_wp2_with fail
     go_ret
     exact ⟨by rw [← hk.out]; simp [aI], hb1⟩
   ·cases c
    ·have hn : Hid (aI a b false 3 = r) := by
      show _ = _
      rw [← hk.out]; simp [aI]
     clear hk rF
     go_wp2_with fail
     go_roundw
     case rel => exact ⟨3, by omega, by omega, rfl, hn, trivial⟩
     case measure => simp [intOf]
    ·go_wp2_with fail
     go_ret
     exact ⟨by rw [← hk.out]; simp [aI], hb1⟩
  ·have e3 : Hid (r = 3) := by show _ = _; rw [← hk.out]; exact nR a b c k (by omega)
   go_wp2_with fail
   go_ret
   exact ⟨by rw [e3.out]; rfl, hb1⟩
end Go.Proofs.YtfmpgdafnlehaaaGreat

namespace Go.Proofs.YtfmpgdafnlehaaaGreat
open Go.RowKit
theorem iJ {w : World} {base base' : Nat} {e : TypeId} {size : Nat} {v : Value} {n : Nat} {xs : List Value} (h : w.ownsRow base e size v n xs) (hb : base' ≤ base) : w.ownsRow base' e size v n xs := by
 obtain ⟨h1, h2⟩ := h
 refine ⟨h1, ?_⟩
 rcases h2 with h2 | ⟨g, cap, cur, hv, hg, r⟩
 ·exact Or.inl h2
 ·exact Or.inr ⟨g, cap, cur, hv, Nat.le_trans hb hg, r⟩
theorem aM {w w' : World} {base : Nat} {e : TypeId} {size : Nat} {v : Value} {n : Nat} {xs : List Value} (h : w.ownsRow base e size v n xs) (hk : ∀ k, v.ownBlock = some k → w'.heap[k]? = w.heap[k]?) : w'.ownsRow base e size v n xs := by
 obtain ⟨h1, h2⟩ := h
 refine ⟨h1, ?_⟩
 rcases h2 with h2 | ⟨g, cap, cur, rfl, hg, hh, r⟩
 ·exact Or.inl h2
 ·exact Or.inr ⟨g, cap, cur, rfl, hg, by rw [hk g rfl]; exact hh, r⟩
theorem ownsRow_below {w w' : World} {base B : Nat} {e : TypeId} {size : Nat} {v : Value} {n : Nat} {xs : List Value} (h : w.ownsRow base e size v n xs) (hb : Below B w w') (hv : ∀ k, v.ownBlock = some k → k < B) : w'.ownsRow base e size v n xs :=
 aM h fun k hk => hb.block k (hv k hk)
theorem dZ {P : Program} (w : World) (base : Nat) (t tx ty e : TypeId) (i : TypeInfo) (z : Value) (size bytes : Nat) (ht : P.underlying t = some (.slice e)) (hi : P.info? e = some i) (hz : i.zero = some z)
 (hsize : i.size = size) (hby : i.bytes = bytes) (hzs : z.cells.size = size)
 (v : Value) (n : Nat) (xs : List Value) (hown : w.ownsRow base e size v n xs) (x : Value) (m : Nat) (news : List Value) (hs : Src P size tx x m news w)
 (h63 : n + m ≤ maxLen) (hbytes : (n + m) * bytes ≤ 140737488355328) (hbase : base ≤ w.heap.size) :
 ∃ v' w', (Builtin.append_ #[t, tx] ty #[v, x]).run P w = .ok v' w' ∧ w'.ownsRow base e size v' (n + m) (xs ++ news) ∧ w.grownBy w' v.ownBlock := by
 subst hsize
 subst hby
 have hsmall : n + m ≤ 9223372036854775807 := by simp only [maxLen] at h63; omega
 have hlen : (xs ++ news).length = (n + m) * i.size := by rw [List.length_append, hown.1, hs.newsLen, Nat.add_mul]
 have grown : ∀ (old : Nat), old < n + m → ∀ (row : Option Nat),
  (w.drew.alloc (.cells ((xs ++ news).toArray ++ Builtin.zeroCells z.cells (grownCap w (n + m) old e - (n + m))) e)).ownsRow base e i.size
   (.slice (some ⟨w.heap.size, 0, none⟩) (n + m) (grownCap w (n + m) old e)) (n + m) (xs ++ news) ∧
  w.grownBy (w.drew.alloc (.cells ((xs ++ news).toArray ++ Builtin.zeroCells z.cells (grownCap w (n + m) old e - (n + m))) e)) row := by
  intro old ho row
  have hge := grownCap_ge w (n + m) old e
  have hcm : grownCap w (n + m) old e ≤ maxLen := grownCap_le_maxLen w (n + m) old e h63
  refine ⟨⟨hlen, .inr ⟨w.heap.size, _, _, rfl, hbase, heap_alloc_new w.drew _, hge, hcm, ?_, ?_⟩⟩, ⟨rfl, rfl, rfl, by simp, fun k hk _ => Go.heap_alloc_old w.drew _ hk⟩⟩
  ·simp only [Array.size_append, List.size_toArray, size_zeroCells, hzs, hlen, ← Nat.add_mul]
   congr 1
   omega
  ·simp only [Array.toList_append]
   rw [← hlen]
   exact List.take_left
 rcases hown.2 with ⟨rfl, rfl⟩ | ⟨g, cap, cur, rfl, hbg, hg, hnc, hcm, hcs, htake⟩
 ·have hx : xs = [] := List.eq_nil_of_length_eq_zero (by simpa using hown.1)
  subst hx
  by_cases hm : m = 0
  ·subst hm
   have hn : news = [] := List.eq_nil_of_length_eq_zero (by simpa using hs.newsLen)
   subst hn
   refine ⟨.slice none 0 0, w, ?_, World.ownsRow_nil w base e i.size, ⟨rfl, rfl, rfl, Nat.le_refl _, fun _ _ _ => rfl⟩⟩
   rcases hs.kind with ⟨e', hk⟩ | hk <;> simp [Builtin.append_, run_underlying ht, run_underlying hk, sizeOf, typeInfo, hi, hs.len, hs.cells]
  ·have hr := run_append_grow_src (P := P) w t tx ty e i z ht hi hz none 0 0 [] (by simp [Builtin.firstCells]) x m news hs (by omega) (by omega) (growslice_fits (by omega) hbytes)
   have hgr := grown 0 (by omega) (Value.ownBlock (.slice none 0 0))
   exact ⟨_, _, hr, hgr.1, hgr.2⟩
 ·by_cases hroom : n + m ≤ cap
  ·have hfit : n * i.size + news.length ≤ cur.size := by rw [hs.newsLen, hcs, ← Nat.add_mul]; exact Nat.mul_le_mul_right _ hroom
   have hst := run_storeCells_at P g (n * i.size) e news 0 cur w hg (by simpa using hfit) hs.one
   simp only [Nat.add_zero] at hst
   have hr : (Builtin.append_ #[t, tx] ty #[.slice (some ⟨g, 0, none⟩) n cap, x]).run P w =
    .ok (.slice (some ⟨g, 0, none⟩) (n + m) cap) (w.setRow g (cur.toList.take (n * i.size) ++ news ++ cur.toList.drop (n * i.size + news.length)).toArray) := by
    rcases hs.kind with ⟨e', hk⟩ | hk <;> simp [Builtin.append_, run_underlying ht, run_underlying hk, sizeOf, typeInfo, hi, hs.len, hroom, hs.cells, Addr.add_lit, hst]
   refine ⟨_, _, hr, ⟨hlen, .inr ⟨g, cap, _, rfl, hbg, setRow_heap w g cur _ e _ hg, hroom, hcm, ?_, ?_⟩⟩, ⟨rfl, rfl, rfl, by simp, fun k hk hne => setRow_other w g k _ (fun e => hne (by simp [Value.ownBlock, e]))⟩⟩
   ·simp only [List.size_toArray, List.length_append, List.length_take, List.length_drop, Array.length_toList]
    omega
   ·rw [htake, ← hlen]
    exact List.take_left
  ·have holds : ∀ j u, xs[j]? = some u → w.drew.cell? ((⟨g, 0, none⟩ : Addr).add j) = some u := fun j u hu => by simpa using hown.cells (g := g) rfl j u hu
   have hr := run_append_grow_src (P := P) w t tx ty e i z ht hi hz (some ⟨g, 0, none⟩) n cap xs (run_firstCells_some (P := P) w.drew i.size n ⟨g, 0, none⟩ n cap xs hown.1 holds) x m news hs (by omega) (by omega) (growslice_fits (by omega) hbytes)
   have hgr := grown cap (by omega) (Value.ownBlock (.slice (some ⟨g, 0, none⟩) n cap))
   exact ⟨_, _, hr, hgr.1, hgr.2⟩
theorem bn {P : Program} (w : World) {ops : Array Oper} {rest : List Oper} {o : Oper} {a : Act} {Q : Exit → Act → World → Prop} (hgd : o.guard = none) (s x : Operand) (t tx : TypeId)
 (ho : o.op = .call { callee := .builtin .append, args := #[s, x], argTypes := #[t, tx] })
 (base : Nat) (e : TypeId) (i : TypeInfo) (z : Value) (size bytes : Nat) (ht : P.underlying t = some (.slice e)) (hi : P.info? e = some i) (hz : i.zero = some z)
 (hsize : i.size = size) (hby : i.bytes = bytes) (hzs : z.cells.size = size)
 (v : Value) (n : Nat) (xs : List Value) (hs : a.eval s = v) (hown : w.ownsRow base e size v n xs) (xv : Value) (m : Nat) (news : List Value) (hx : a.eval x = xv) (hsrc : Src P size tx xv m news w)
 (h63 : n + m ≤ maxLen) (hbytes : (n + m) * bytes ≤ 140737488355328) (hbase : base ≤ w.heap.size)
 (h : ∀ v' w', w'.ownsRow base e size v' (n + m) (xs ++ news) → w.grownBy w' v.ownBlock → wpList P ops Q rest (a.put o.dst v') w') : wpList P ops Q (o :: rest) a w :=
 wpList_plain hgd fun K hK => by
  obtain ⟨v', w', hr, h2, h3⟩ := dZ (P := P) w base t tx o.type e i z size bytes ht hi hz hsize hby hzs v n xs hown xv m news hsrc h63 hbytes hbase
  unfold Oper.wp execOp
  simp only [ho, resolve, invoke, builtin, Sem.run_bind, Sem.run_pure, Result.andThen_ok, List.map_toArray, List.map_cons, List.map_nil, hs, hx, hr]
  exact hK _ _ (h v' w' h2 h3)
end Go.Proofs.YtfmpgdafnlehaaaGreat

namespace Go.Proofs.YtfmpgdafnlehaaaGreat
open Go.RowKit Go.Sort
theorem lS {w : World} {base : Nat} {e : TypeId} {sz : Nat} {v : Value} {n : Nat} {xs : List Value} (h : w.ownsRow base e sz v n xs) (hv : v ≠ .slice none 0 0) :
 ∃ g cap, v = .slice (some ⟨g, 0, none⟩) n cap ∧ base ≤ g ∧ g < w.heap.size ∧ n ≤ cap ∧ cap ≤ maxLen ∧ Holds id w g 0 xs.toArray := by
 have hl := h.1
 rcases h.2 with ⟨e0, _⟩ | ⟨g, cap, cur, rfl, hb, hg, hn, hm, hs, ht⟩
 ·exact absurd e0 hv
 ·have hlt : g < w.heap.size := by
   rcases Nat.lt_or_ge g w.heap.size with h' | h'
   ·exact h'
   ·rw [Array.getElem?_eq_none h'] at hg; cases hg
  refine ⟨g, cap, rfl, hb, hlt, hn, hm, fun j hj => ?_⟩
  have hj' : j < n * sz := by simpa [hl] using hj
  have um : j < xs.length := by omega
  refine ⟨?_, by simp [World.frozen?, hg]⟩
  have e1 : (cur.toList.take (n * sz))[j]? = xs[j]? := by rw [ht]
  rw [List.getElem?_take, if_pos hj', Array.getElem?_toList, List.getElem?_eq_getElem um] at e1
  simp only [World.cell?, hg, Nat.zero_add]
  simp only [Option.isSome_none, Bool.false_eq_true, if_false]
  rw [e1]
  simp [getElem!_pos, um]
theorem jZ {w : World} {base : Nat} {e : TypeId} {sz g n cap q : Nat} {xs ys : List Value} (h : w.ownsRow base e sz (.slice (some ⟨g, 0, none⟩) n cap) n xs) (hy : ys.length = xs.length) :
 (putRow id (Sort.ahead w q) g 0 ys.toArray).ownsRow base e sz (.slice (some ⟨g, 0, none⟩) n cap) n ys := by
 have hl := h.1
 rcases h.2 with ⟨e0, _⟩ | ⟨g', cap', cur, e0, hb, hg, hn, hm, hs, ht⟩
 ·cases e0
 ·injection e0 with e1 _ e3
  injection e1 with e1
  injection e1 with e1
  subst e1; subst e3
  have hcs : n * sz ≤ cur.size := by rw [hs]; exact Nat.mul_le_mul_right _ hn
  refine ⟨by omega, .inr ⟨g, cap, putCells id 0 ys.toArray cur, rfl, hb, ?_, hn, hm, by simpa [putCells] using hs, ?_⟩⟩
  ·simp [putRow, mapBlock, Sort.ahead, Array.getElem?_modify, hg, onCells]
  ·apply List.ext_getElem?
   intro j
   rw [List.getElem?_take, Array.getElem?_toList]
   by_cases hj : j < n * sz
   ·have hjc : j < cur.size := by omega
    simp only [if_pos hj, putCells, Array.getElem?_mapIdx, Array.getElem?_eq_getElem hjc, Option.map_some]
    rw [if_pos (by simp; omega), List.getElem?_eq_getElem (by omega)]
    simp [getElem!_pos, show j < ys.length by omega]
   ·rw [if_neg hj, List.getElem?_eq_none (by omega)]
theorem below_grow {B : Nat} {w0 w : World} (h : Below B w0 w) (hB : B ≤ w.heap.size) (os : Array Obj) : Below B w0 (grow w os) :=
 ⟨h.os, h.tape, h.output, Nat.le_trans h.size (by simp), fun k hk => by rw [heap_grow_old w os (by omega)]; exact h.block k hk⟩
theorem nT {w : World} {base : Nat} {e : TypeId} {sz : Nat} {v : Value} {n : Nat} {xs : List Value} (h : w.ownsRow base e sz v n xs) (os : Array Obj) : (grow w os).ownsRow base e sz v n xs :=
 aM h fun k hk => heap_grow_old w os (h.lt k hk).2
theorem j4 {α : Type} [Inhabited α] (enc : α → List Value) (k : Nat) (hk : ∀ x, (enc x).length = k) (d : Array α) : flatK enc k d = (d.toList.flatMap enc).toArray := by
 have hlen : ∀ l : List α, (l.flatMap enc).length = l.length * k := by
  intro l
  induction l with
  | nil => simp
  | cons a l ih => rw [List.flatMap_cons, List.length_append, ih, hk, List.length_cons, Nat.add_mul]; omega
 have key : ∀ (l : List α) (t : Nat), t < l.length * k → (l.flatMap enc)[t]! = (enc l[t / k]!)[t % k]! := by
  intro l
  induction l with
  | nil => intro t ht; simp at ht
  | cons a l ih =>
    intro t ht
    rw [List.length_cons, Nat.add_mul] at ht
    have k0 : 0 < k := by
     rcases Nat.eq_zero_or_pos k with h | h
     ·subst h; omega
     ·exact h
    rw [List.flatMap_cons]
    by_cases hlt : t < k
    ·rw [Nat.div_eq_of_lt hlt, Nat.mod_eq_of_lt hlt]
     simp only [List.getElem!_eq_getElem?_getD]
     rw [List.getElem?_append_left (by rw [hk]; exact hlt)]
     simp
    ·obtain ⟨u, rfl⟩ : ∃ u, t = u + k := ⟨t - k, by omega⟩
     rw [Nat.add_div_right _ k0, Nat.add_mod_right]
     have := ih u (by omega)
     simp only [List.getElem!_eq_getElem?_getD] at this ⊢
     rw [List.getElem?_append_right (by rw [hk]; omega), hk, Nat.add_sub_cancel, this]
     simp
 refine ext_get! (by rw [size_flatK]; simp [hlen]) fun t ht => ?_
 rw [size_flatK] at ht
 rw [get_flatK _ _ _ _ ht]
 have := key d.toList t (by simpa using ht)
 simp only [List.getElem!_eq_getElem?_getD, Array.getElem!_eq_getD, Array.getD_eq_getD_getElem?, List.getElem?_toArray, Array.getElem?_toList] at this ⊢
 exact this.symm
theorem cK {w : World} {base : Nat} {e : TypeId} {sz n g : Nat} {vs : List Value} (hg : g = w.heap.size) (hb : base ≤ w.heap.size) (hl : vs.length = n * sz) (hn : n ≤ maxLen) : (w.alloc (.cells vs.toArray e)).ownsRow base e sz (.slice (some ⟨g, 0, none⟩) n n) n vs := by
 subst hg
 exact ⟨hl, .inr ⟨w.heap.size, n, vs.toArray, rfl, hb, heap_alloc_new w _, Nat.le_refl _, hn, by simpa using hl, by simp [← hl]⟩⟩
theorem bM {w : World} {base : Nat} {e : TypeId} {sz n : Nat} {v : Value} {xs : List Value} (h : w.ownsRow base e sz v n xs) : ∃ ao cap, v = .slice ao n cap ∧ (0 < n → ∃ g, ao = some ⟨g, 0, none⟩) := by
 rcases h.2 with ⟨rfl, rfl⟩ | ⟨g, cap, cur, rfl, _⟩
 ·exact ⟨none, 0, rfl, fun h => by omega⟩
 ·exact ⟨_, cap, rfl, fun _ => ⟨g, rfl⟩⟩
theorem pG {w : World} {base : Nat} {e : TypeId} {sz n : Nat} {v : Value} {xs : List Value} (h : w.ownsRow base e sz v n xs) : n ≤ 9223372036854775807 := by
 rcases h.2 with ⟨_, rfl⟩ | ⟨_, _, _, _, _, _, hn, hm, _⟩
 ·omega
 ·unfold maxLen at hm; omega
end Go.Proofs.YtfmpgdafnlehaaaGreat

namespace Go.Proofs.YtfmpgdafnlehaaaGreat
open Go.RowKit Go.Sort Go.Lib
namespace Put
theorem nU {w w' : World} {base : Nat} {e : TypeId} {size : Nat} {v : Value} {n : Nat} {xs : List Value} (h : w.ownsRow base e size v n xs) (hb : Below w.heap.size w w') : w'.ownsRow base e size v n xs :=
 ownsRow_below h hb fun k hk => (h.lt k hk).2
structure Off (p g : Nat) (w w' : World) : Prop where
 os : w'.os = w.os
 tape : w'.tape = w.tape
 output : w'.output = w.output
 size : w.heap.size ≤ w'.heap.size
 block : ∀ k, k < w.heap.size → k ≠ p → k ≠ g → w'.heap[k]? = w.heap[k]?
section
variable {p g g' : Nat} {w w' w'' : World}
theorem Off.refl (p g : Nat) (w : World) : Off p g w w := ⟨rfl, rfl, rfl, Nat.le_refl _, fun _ _ _ _ => rfl⟩
theorem Off.of_below (h : Below w.heap.size w w') : Off p g w w' := ⟨h.os, h.tape, h.output, h.size, fun k hk _ _ => h.block k hk⟩
theorem Off.trans (h : Off p g w w') (h' : Off p g' w' w'') (hg : g' = g ∨ w.heap.size ≤ g') : Off p g w w'' :=
 ⟨h'.os.trans h.os, h'.tape.trans h.tape, h'.output.trans h.output, Nat.le_trans h.size h'.size, fun k hk h1 h2 => by
  rw [h'.block k (Nat.lt_of_lt_of_le hk h.size) h1 (by omega), h.block k hk h1 h2]⟩
theorem Off.setCell {b j : Nat} {v : Value} (h : Off p g w w') (hb : b = p ∨ b = g ∨ w.heap.size ≤ b) : Off p g w (w'.setCell ⟨b, j, none⟩ v) :=
 ⟨h.os, h.tape, h.output, by simpa using h.size, fun k hk h1 h2 => by
  rw [Below.heap_setCell w' ⟨b, j, none⟩ v k (by show k ≠ b; omega)]; exact h.block k hk h1 h2⟩
theorem Off.aK (h : Off p g w w') (h' : Below w'.heap.size w' w'') : Off p g w w'' := h.trans (Off.of_below h') (.inl rfl)
end
theorem lt_of_heap {w : World} {p : Nat} {o : Obj} (h : w.heap[p]? = some o) : p < w.heap.size := by
 rcases Nat.lt_or_ge p w.heap.size with h' | h'
 ·exact h'
 ·rw [Array.getElem?_eq_none h'] at h; cases h
theorem eU {w : World} {p q : Nat} {a b : Array Value} {s t : TypeId} {x y : Nat × Nat} (h : w.heap[p]? = some (.cells a s x)) (h' : w.heap[q]? = some (.cells b t y)) (hne : s ≠ t) : p ≠ q := by
 intro e
 subst e
 rw [h] at h'
 injection h' with h'
 injection h' with _ h3
 exact hne h3
section
end
end Put
end Go.Proofs.YtfmpgdafnlehaaaGreat

namespace Go.Proofs.YtfmpgdafnlehaaaGreat
open Go.RowKit Go.Lib
structure Lk where
 a : Int
 b : Int
 c : Int
 n : Int
def Lk.own (l : Lk) (k : Int) : Int := if k = 0 then l.a else if k = 1 then l.b else if k = 2 then l.c else 0
def Lk.has (l : Lk) (k who : Int) : Bool := decide (0 < who) && decide (l.own k = who)
def Lk.free (l : Lk) : Bool := l.a == 0 && l.b == 0 && l.c == 0
def iK (k : Int) : Bool := decide (0 ≤ k) && decide (k < 3)
def aS (k who : Int) : Bool := !iK k || decide (who ≤ 0)
def au (T : TypeId) (w : World) (s : Nat) (l : Lk) : Prop := w.heap[s]? = some (.cells #[.int .i64 l.a, .int .i64 l.b, .int .i64 l.c, .int .i64 l.n] T (0, 0))
section
variable {T : TypeId} {w w' : World} {s : Nat} {l : Lk}
theorem au.c0 (h : au T w s l) : w.cell? ⟨s, 0, none⟩ = some (.int .i64 l.a) := by simp [World.cell?, show w.heap[s]? = _ from h]
theorem au.c1 (h : au T w s l) : w.cell? ⟨s, 1, none⟩ = some (.int .i64 l.b) := by simp [World.cell?, show w.heap[s]? = _ from h]
theorem au.c2 (h : au T w s l) : w.cell? ⟨s, 2, none⟩ = some (.int .i64 l.c) := by simp [World.cell?, show w.heap[s]? = _ from h]
theorem au.c3 (h : au T w s l) : w.cell? ⟨s, 3, none⟩ = some (.int .i64 l.n) := by simp [World.cell?, show w.heap[s]? = _ from h]
theorem au.lt (h : au T w s l) : s < w.heap.size := aJ h
theorem au.below {B : Nat} (h : au T w s l) (hb : Below B w w') (hs : s < B) : au T w' s l := by
 unfold au at *; rw [hb.block s hs]; exact h
end
theorem gK {P : Program} (d : Nat) (t e : TypeId) (ht : P.underlying t = some (.array 3 e)) (xs ys : Array Value) (w : World) (hz : (sizeOf e).run P w = .ok 1 w) (b0 b1 b2 : Bool) (x0 x1 x2 y0 y1 y2 : Value)
 (p0 : (part e xs 0).run P w = .ok x0 w) (p1 : (part e xs 1).run P w = .ok x1 w) (p2 : (part e xs 2).run P w = .ok x2 w)
 (q0 : (part e ys 0).run P w = .ok y0 w) (q1 : (part e ys 1).run P w = .ok y1 w) (q2 : (part e ys 2).run P w = .ok y2 w)
 (h0 : (Op.equalIn d e x0 y0).run P w = .ok b0 w) (h1 : (Op.equalIn d e x1 y1).run P w = .ok b1 w) (h2 : (Op.equalIn d e x2 y2).run P w = .ok b2 w) :
 (Op.equalIn (d + 1) t (.agg xs) (.agg ys)).run P w = .ok (b0 && b1 && b2) w := by
 simp only [Op.equalIn, Sem.run_bind, run_underlying ht, Result.andThen_ok, hz]
 simp only [Std.Legacy.Range.forIn_eq_forIn_range', Std.Legacy.Range.size]
 simp only [Nat.sub_zero, Nat.add_sub_cancel, Nat.div_one, List.range', List.forIn_cons, List.forIn_nil]
 cases b0 <;> cases b1 <;> cases b2 <;> simp [p0, p1, p2, q0, q1, q2, h0, h1, h2]
theorem pI (a b c : Int) (w : World) : (Op.equalIn 10000 27 (.agg #[.int .i64 a, .int .i64 b, .int .i64 c]) (.agg #[.int .i64 0, .int .i64 0, .int .i64 0])).run Tryz.prog w = .ok (a == 0 && b == 0 && c == 0) w :=
 gK 9999 _ 3 Tryz.underlying27 _ _ w (by kernel_rfl) _ _ _ _ _ _ _ _ _ (by kernel_rfl) (by kernel_rfl) (by kernel_rfl) (by kernel_rfl) (by kernel_rfl) (by kernel_rfl)
  (run_equalIn_int w 9998 _ .i64 .i64 a 0 Tryz.underlying3) (run_equalIn_int w 9998 _ .i64 .i64 b 0 Tryz.underlying3) (run_equalIn_int w 9998 _ .i64 .i64 c 0 Tryz.underlying3)
theorem zero_eq (a b c : Int) (w : World) : (binOp .eql 27 (.agg #[.int .i64 a, .int .i64 b, .int .i64 c]) (.agg #[.int .i64 0, .int .i64 0, .int .i64 0])).run Tryz.prog w = .ok (.bool (a == 0 && b == 0 && c == 0)) w := by
 rw [run_eql_struct, pI]; rfl
theorem iP (k : Int) (w : World) : Calls Tryz.prog 79 #[.int .i64 k] w fun e w' => e = .returned (.bool (iK k)) ∧ w = w' := by
 unfold iK
 by_cases h1 : 0 ≤ k
 ·have d1 : decide (0 ≤ k) = true := decide_eq_true h1
  go_enter Tryz.func79, Tryz.ntmps79
  go_wp2_with fail
  go_ret
  exact ⟨by simp [h1], rfl⟩
 ·have d1 : decide (0 ≤ k) = false := decide_eq_false h1
  go_enter Tryz.func79, Tryz.ntmps79
  go_wp2_with fail
  go_ret
  exact ⟨by simp, rfl⟩
section
variable {w : World} {s : Nat} {l : Lk}
theorem nV (k : Int) (h : au 29 w s l) : Calls Tryz.prog 44 #[.pointer (some ⟨s, 0, none⟩), .int .i64 k] w fun e w' => e = .returned (.int .i64 (l.own k)) ∧ w = w' := by
 have k0 := h.c0
 have k1 := h.c1
 have k2 := h.c2
 have hi := iP k w
 by_cases hk : k = 0 ∨ k = 1 ∨ k = 2
 ·rcases hk with rfl | rfl | rfl
  ·have e : iK 0 = true := by decide
   rw [e] at hi
   clear e h
   go_enter Tryz.func44, Tryz.ntmps44
   go_wp2_with (go_at_call 79; go_must (refine hi.mono ?_); rintro e w' ⟨rfl, rfl⟩)
   go_ret
   exact ⟨rfl, rfl⟩
  ·have e : iK 1 = true := by decide
   rw [e] at hi
   clear e h
   go_enter Tryz.func44, Tryz.ntmps44
   go_wp2_with (go_at_call 79; go_must (refine hi.mono ?_); rintro e w' ⟨rfl, rfl⟩)
   go_ret
   exact ⟨rfl, rfl⟩
  ·have e : iK 2 = true := by decide
   rw [e] at hi
   clear e h
   go_enter Tryz.func44, Tryz.ntmps44
   go_wp2_with (go_at_call 79; go_must (refine hi.mono ?_); rintro e w' ⟨rfl, rfl⟩)
   go_ret
   exact ⟨rfl, rfl⟩
 ·have e : iK k = false := by unfold iK; simp; omega
  have e2 : l.own k = 0 := by unfold Lk.own; rw [if_neg (by omega), if_neg (by omega), if_neg (by omega)]
  rw [e] at hi
  rw [e2]
  clear e e2 h k0 k1 k2 hk
  go_enter Tryz.func44, Tryz.ntmps44
  go_wp2_with (go_at_call 79; go_must (refine hi.mono ?_); rintro e w' ⟨rfl, rfl⟩)
  go_ret
  exact ⟨rfl, rfl⟩
theorem rG (k who : Int) (p : Value) (o : Int) (hO : Calls Tryz.prog 44 #[p, .int .i64 k] w fun e w' => e = .returned (.int .i64 o) ∧ w = w') :
 Calls Tryz.prog 126 #[p, .int .i64 k, .int .i64 who] w fun e w' => e = .returned (.bool (decide (0 < who) && decide (o = who))) ∧ w = w' := by
 by_cases h1 : 0 < who
 ·have d1 : decide (0 < who) = true := decide_eq_true h1
  go_enter Tryz.func126, Tryz.ntmps126
  go_wp2_with (go_at_call 44; go_must (refine hO.mono ?_); rintro e w' ⟨rfl, rfl⟩)
  go_ret
  exact ⟨by simp [h1]; first | rfl | (by_cases e : o = who <;> simp [e]), rfl⟩
 ·have d1 : decide (0 < who) = false := decide_eq_false h1
  go_enter Tryz.func126, Tryz.ntmps126
  go_wp2_with fail
  go_ret
  exact ⟨by simp [d1], rfl⟩
theorem bC (k who : Int) (h : au 29 w s l) : Calls Tryz.prog 126 #[.pointer (some ⟨s, 0, none⟩), .int .i64 k, .int .i64 who] w fun e w' => e = .returned (.bool (l.has k who)) ∧ w = w' := rG k who _ _ (nV k h)
theorem aL (k who : Int) (s : Nat) (w : World) : Calls Tryz.prog 123 #[.pointer (some ⟨s, 0, none⟩), .int .i64 k, .int .i64 who] w fun e w' => e = .returned (.bool (aS k who)) ∧ w = w' := by
 have hi := iP k w
 unfold aS
 obtain ⟨x, hx⟩ : ∃ x, x = iK k := ⟨_, rfl⟩
 rw [← hx] at hi ⊢
 clear hx
 cases x
 ·go_enter Tryz.func123, Tryz.ntmps123
  go_wp2_with (go_at_call 79; go_must (refine hi.mono ?_); rintro e w' ⟨rfl, rfl⟩)
  go_ret
  exact ⟨by simp, rfl⟩
 ·go_enter Tryz.func123, Tryz.ntmps123
  go_wp2_with (go_at_call 79; go_must (refine hi.mono ?_); rintro e w' ⟨rfl, rfl⟩)
  go_ret
  exact ⟨by simp, rfl⟩
theorem pJ (h : au 29 w s l) : Calls Tryz.prog 51 #[.pointer (some ⟨s, 0, none⟩)] w fun e w' => e = .returned (.bool l.free) ∧ w = w' := by
 have k0 := h.c0
 have k1 := h.c1
 have k2 := h.c2
 have hq := fun W => zero_eq l.a l.b l.c W
 clear h
 unfold Lk.free
 go_enter Tryz.func51, Tryz.ntmps51
 go_wp2_with fail
 go_ret
 exact ⟨rfl, rfl⟩
def jo (l : Lk) (who : Int) : Value := bL (l.has 0 who) (l.has 1 who) (l.has 2 who)
theorem pK (who : Int) (p : Value) (a b c : Bool) (w : World) (h0 : ∀ W, Below w.heap.size w W → Calls Tryz.prog 126 #[p, .int .i64 0, .int .i64 who] W fun e w' => e = .returned (.bool a) ∧ W = w')
 (h1 : ∀ W, Below w.heap.size w W → Calls Tryz.prog 126 #[p, .int .i64 1, .int .i64 who] W fun e w' => e = .returned (.bool b) ∧ W = w')
 (h2 : ∀ W, Below w.heap.size w W → Calls Tryz.prog 126 #[p, .int .i64 2, .int .i64 who] W fun e w' => e = .returned (.bool c) ∧ W = w') :
 Calls Tryz.prog 124 #[p, .int .i64 who] w fun e w' => e = .returned (bL a b c) ∧ Below w.heap.size w w' := by
 unfold bL
 obtain ⟨g, hg⟩ : ∃ g, g = w.heap.size + 1 := ⟨_, rfl⟩
 obtain ⟨w1, hw1⟩ : ∃ w1, w1 = (w.alloc (.cells #[.bool false, .bool false, .bool false] 31)).alloc (.cells #[.bool false, .bool false, .bool false] 31) := ⟨_, rfl⟩
 have hb1 : Below w.heap.size w w1 := by rw [hw1]; exact ((Below.refl _ _).alloc (Nat.le_refl _) _).alloc (by simp) _
 have hA1 : w1.heap[g]? = some (.cells #[.bool false, .bool false, .bool false] 31 (0, 0)) := by
  rw [hw1, hg]
  have := heap_alloc_new (w.alloc (.cells #[.bool false, .bool false, .bool false] 31)) (.cells #[.bool false, .bool false, .bool false] 31)
  simpa using this
 have sV : w1.heap[w.heap.size]? = some (.cells #[.bool false, .bool false, .bool false] 31 (0, 0)) := by
  rw [hw1]; exact lN (heap_alloc_new w _)
 replace hb1 := Lib.hid hb1
 replace hA1 := Lib.hid hA1
 replace sV := Lib.hid sV
 replace h0 := Lib.hid h0
 replace h1 := Lib.hid h1
 replace h2 := Lib.hid h2
 go_enter Tryz.func124, Tryz.ntmps124
 go_wp2_with fail
 rw [← hw1]
 rw [← hg]
 replace hw1 := Lib.hid hw1
 have hg1 : w.heap.size ≠ g := by omega
 have hg2 : w.heap.size ≤ g := by omega
 replace hg := Lib.hid hg
 go_loopw [6, 7] (fun jj ii wr => ∃ (cs : Array Value) (k : Int), ii = .int .i64 k ∧ Hid (wr.heap[g]? = some (.cells cs 31 (0, 0))) ∧ Hid (wr.heap[w.heap.size]? = some (.cells #[.bool false, .bool false, .bool false] 31 (0, 0))) ∧ Hid (Below w.heap.size w wr) ∧ Hid ((k = 0 ∧ cs = #[.bool false, .bool false, .bool false]) ∨ (k = 1 ∧ cs = #[.bool a, .bool false, .bool false]) ∨ (k = 2 ∧ cs = #[.bool a, .bool b, .bool false]) ∨ (k = 3 ∧ cs = #[.bool a, .bool b, .bool c]))) (fun _ ii _ => 3 - (intOf ii).toNat)
 case atStart => exact ⟨_, 0, rfl, hA1.out, sV.out, hb1.out, .inl ⟨rfl, rfl⟩⟩
 case round =>
  obtain ⟨cs, k, rfl, hG, hR, hB, hk⟩ := hrel
  rcases hk.out with ⟨rfl, rfl⟩ | ⟨rfl, rfl⟩ | ⟨rfl, rfl⟩ | ⟨rfl, rfl⟩
  ·have hh := h0.out wr hB.out
   have kc : wr.cell? ⟨g, 0, none⟩ = some (.bool false) := by simp [World.cell?, hG.out]
   have kf : wr.frozen? ⟨g, 0, none⟩ = false := by simp [World.frozen?, hG.out]
   clear hk
   go_wp2_with (go_at_call 126; go_must (refine hh.mono ?_); rintro e w5 ⟨rfl, rfl⟩)
   go_roundw
   case rel => exact ⟨_, 1, by go_num, heap_put hG.out _, by show (wr.setCell _ _).heap[w.heap.size]? = _; rw [Below.heap_setCell wr ⟨g, 0, none⟩ _ _ hg1]; exact hR.out, hB.out.setCell hg2 _, .inr (.inl ⟨rfl, rfl⟩)⟩
   case measure => simp [intOf]
  ·have hh := h1.out wr hB.out
   have kc : wr.cell? ⟨g, 1, none⟩ = some (.bool false) := by simp [World.cell?, hG.out]
   have kf : wr.frozen? ⟨g, 1, none⟩ = false := by simp [World.frozen?, hG.out]
   clear hk
   go_wp2_with (go_at_call 126; go_must (refine hh.mono ?_); rintro e w5 ⟨rfl, rfl⟩)
   go_roundw
   case rel => exact ⟨_, 2, by go_num, heap_put hG.out _, by show (wr.setCell _ _).heap[w.heap.size]? = _; rw [Below.heap_setCell wr ⟨g, 1, none⟩ _ _ hg1]; exact hR.out, hB.out.setCell hg2 _, .inr (.inr (.inl ⟨rfl, rfl⟩))⟩
   case measure => simp [intOf]
  ·have hh := h2.out wr hB.out
   have kc : wr.cell? ⟨g, 2, none⟩ = some (.bool false) := by simp [World.cell?, hG.out]
   have kf : wr.frozen? ⟨g, 2, none⟩ = false := by simp [World.frozen?, hG.out]
   clear hk
   go_wp2_with (go_at_call 126; go_must (refine hh.mono ?_); rintro e w5 ⟨rfl, rfl⟩)
   go_roundw
   case rel => exact ⟨_, 3, by go_num, heap_put hG.out _, by show (wr.setCell _ _).heap[w.heap.size]? = _; rw [Below.heap_setCell wr ⟨g, 2, none⟩ _ _ hg1]; exact hR.out, hB.out.setCell hg2 _, .inr (.inr (.inr ⟨rfl, rfl⟩))⟩
   case measure => simp [intOf]
  ·clear hk
   have k0 : wr.cell? ⟨g, 0, none⟩ = some (.bool a) := by simp [World.cell?, hG.out]
   have k1 : wr.cell? ⟨g, 1, none⟩ = some (.bool b) := by simp [World.cell?, hG.out]
   have k2 : wr.cell? ⟨g, 2, none⟩ = some (.bool c) := by simp [World.cell?, hG.out]
   have r0 : wr.cell? ⟨w.heap.size, 0, none⟩ = some (.bool false) := by simp [World.cell?, hR.out]
   have f0 : wr.frozen? ⟨w.heap.size, 0, none⟩ = false := by simp [World.frozen?, hR.out]
   have r1 : wr.cell? ⟨w.heap.size, 1, none⟩ = some (.bool false) := by simp [World.cell?, hR.out]
   have f1 : wr.frozen? ⟨w.heap.size, 1, none⟩ = false := by simp [World.frozen?, hR.out]
   have r2 : wr.cell? ⟨w.heap.size, 2, none⟩ = some (.bool false) := by simp [World.cell?, hR.out]
   have f2 : wr.frozen? ⟨w.heap.size, 2, none⟩ = false := by simp [World.frozen?, hR.out]
   go_wp2_with fail
   refine jX rfl rfl rfl (heap_put (heap_put (heap_put hR.out _) _) _) Tryz.underlying31 rfl (by kernel_rfl) ⟨rfl, ?_⟩
   exact ((hB.out.setCell (Nat.le_refl _) _).setCell (Nat.le_refl _) _).setCell (Nat.le_refl _) _
theorem gL (who : Int) (h : au 29 w s l) : Calls Tryz.prog 124 #[.pointer (some ⟨s, 0, none⟩), .int .i64 who] w fun e w' => e = .returned (jo l who) ∧ Below w.heap.size w w' :=
 pK who _ _ _ _ w (fun _ hb => bC 0 who (h.below hb h.lt)) (fun _ hb => bC 1 who (h.below hb h.lt)) (fun _ hb => bC 2 who (h.below hb h.lt))
end
end Go.Proofs.YtfmpgdafnlehaaaGreat

namespace Go.Proofs.YtfmpgdafnlehaaaGreat
open Go.RowKit Go.Lib
def Lk.later (l : Lk) (k who : Int) : Bool := decide (k ≤ 0 ∧ l.a = who) || decide (k ≤ 1 ∧ l.b = who) || decide (k ≤ 2 ∧ l.c = who)
def Lk.put (l : Lk) (k v : Int) : Lk := ⟨if k = 0 then v else l.a, if k = 1 then v else l.b, if k = 2 then v else l.c, l.n⟩
def Lk.dG (l : Lk) (k who : Int) : Int := if aS k who = true then 1 else if l.later k who = true then 17 else if l.own k = 0 then 0 else 18
def Lk.dH (l : Lk) (k who : Int) : Lk := if l.dG k who = 0 then { l.put k who with n := l.n + 1 } else l
def Lk.bN (l : Lk) (k who : Int) : Int := if aS k who = true then 1 else if l.own k = who then 0 else 8
def Lk.bO (l : Lk) (k who : Int) : Lk := if l.bN k who = 0 then l.put k 0 else l
theorem bJ {k who : Int} (h : aS k who = false) : (k = 0 ∨ k = 1 ∨ k = 2) ∧ 0 < who := by
 unfold aS iK at h
 simp at h
 omega
theorem dI (l : Lk) {k who : Int} (h : aS k who = false) : decide (aI (l.has 0 who) (l.has 1 who) (l.has 2 who) k < 3) = l.later k who := by
 obtain ⟨hk, hw⟩ := bJ h
 have o0 : l.own 0 = l.a := rfl
 have o1 : l.own 1 = l.b := rfl
 have o2 : l.own 2 = l.c := rfl
 unfold aI Lk.later Lk.has
 rw [o0, o1, o2]
 rw [decide_eq_true hw]
 rcases hk with rfl | rfl | rfl <;> by_cases h0 : l.a = who <;> by_cases h1 : l.b = who <;> by_cases h2 : l.c = who <;> simp [h0, h1, h2]
def bE (T : TypeId) (w : World) (s : Nat) (r : Int) (l' : Lk) (e : Ending) (w' : World) : Prop := e = .returned (.int .i64 r) ∧ au T w' s l' ∧ Put.Off s s w w'
section
variable {T : TypeId} {w w' : World} {s : Nat} {l : Lk}
theorem au.fz (h : au T w s l) (j : Nat) : w.frozen? ⟨s, j, none⟩ = false := by simp [World.frozen?, show w.heap[s]? = _ from h]
theorem au.set0 (h : au T w s l) (v : Int) : au T (w.setCell ⟨s, 0, none⟩ (.int .i64 v)) s (l.put 0 v) := heap_put h _
theorem au.set1 (h : au T w s l) (v : Int) : au T (w.setCell ⟨s, 1, none⟩ (.int .i64 v)) s (l.put 1 v) := heap_put h _
theorem au.set2 (h : au T w s l) (v : Int) : au T (w.setCell ⟨s, 2, none⟩ (.int .i64 v)) s (l.put 2 v) := heap_put h _
theorem au.pM (h : au T w s l) (v : Int) : au T (w.setCell ⟨s, 3, none⟩ (.int .i64 v)) s { l with n := v } := heap_put h _
end
section
variable {w : World} {s : Nat} {l : Lk}
theorem nW (k who : Int) (h : au 29 w s l) (hl : aS k who = true) : Calls Tryz.prog 80 #[.pointer (some ⟨s, 0, none⟩), .int .i64 k, .int .i64 who] w (bE 29 w s 1 l) := by
 have hc := aL k who s w
 rw [hl] at hc
 replace h := Lib.hid h
 clear hl
 go_enter Tryz.func80, Tryz.ntmps80
 go_wp2_with (go_at_call 123; go_must (refine hc.mono ?_); rintro e w5 ⟨rfl, rfl⟩)
 go_ret
 exact ⟨rfl, h.out, Put.Off.refl _ _ _⟩
theorem sW (who : Int) (h : au 29 w s l) (hl : aS 0 who = false) (hn : 0 ≤ l.n ∧ l.n ≤ 1000000) :
 Calls Tryz.prog 80 #[.pointer (some ⟨s, 0, none⟩), .int .i64 0, .int .i64 who] w (bE 29 w s (l.dG 0 who) (l.dH 0 who)) := by
 have hc := aL 0 who s w
 rw [hl] at hc
 have hH := gL who h
 unfold jo bL at hH
 have hN := fun W => gJ (l.has 0 who) (l.has 1 who) (l.has 2 who) 0 (by omega) W
 unfold bL at hN
 have hlt := dI l hl
 obtain ⟨nx, hnx⟩ : ∃ n, n = aI (l.has 0 who) (l.has 1 who) (l.has 2 who) 0 := ⟨_, rfl⟩
 rw [← hnx] at hN hlt
 clear hnx
 obtain ⟨x, hx⟩ : ∃ x, x = l.has 0 who := ⟨_, rfl⟩
 obtain ⟨y, hy⟩ : ∃ y, y = l.has 1 who := ⟨_, rfl⟩
 obtain ⟨z, hz⟩ : ∃ z, z = l.has 2 who := ⟨_, rfl⟩
 rw [← hx, ← hy, ← hz] at hH hN
 clear hx hy hz
 unfold Lk.dH
 unfold Lk.dG
 rw [hl, if_neg (show ¬ (false = true) by decide)]
 have wi : IntKind.i64.wrap (l.n + 1) = l.n + 1 := by rw [IntKind.wrap_i64]; omega
 have hsl := h.lt
 replace h := Lib.hid h
 clear hl hn
 cases hla : l.later 0 who
 ·rw [hla] at hlt
  rw [if_neg (show ¬ (false = true) by decide)]
  by_cases h0 : l.own 0 = 0
  ·rw [if_pos h0, if_pos rfl]
   have h0' : l.a = 0 := h0
   clear hla h0
   go_enter Tryz.func80, Tryz.ntmps80
   go_wp2_with fail
   go_at_call 123
   refine hc.mono ?_
   clear hc
   rintro e w5 ⟨rfl, rfl⟩
   go_wp2_with fail
   go_at_call 124
   refine hH.mono ?_
   clear hH
   rintro e w1 ⟨rfl, hb1⟩
   go_wp2_with fail
   go_at_call 72
   refine (hN w1).mono ?_
   clear hN
   rintro e w2 ⟨rfl, hb2⟩
   have g2 := (h.out.below hb1 hsl).below hb2 (Nat.lt_of_lt_of_le hsl hb1.size)
   have o2 := (Put.Off.of_below (p := s) (g := s) hb1).aK hb2
   have kc : w2.cell? ⟨s, 0, none⟩ = some (.int .i64 0) := by rw [g2.c0, h0']
   have kn := g2.c3
   have kf := g2.fz 0
   have kg := g2.fz 3
   replace g2 := Lib.hid g2
   replace o2 := Lib.hid o2
   clear hb1 hb2 h0' h
   go_wp2_with fail
   go_ret
   exact ⟨rfl, (g2.out.set0 who).pM _, (o2.out.setCell (.inl rfl)).setCell (.inl rfl)⟩
  ·rw [if_neg h0, if_neg (show ¬ ((18 : Int) = 0) by decide)]
   have h0' : ¬ l.a = 0 := h0
   have h1' : (l.a != 0) = true := by simp [h0']
   clear hla h0 h0'
   obtain ⟨v, hv⟩ : ∃ v, v = l.a := ⟨_, rfl⟩
   rw [← hv] at h1'
   go_enter Tryz.func80, Tryz.ntmps80
   go_wp2_with fail
   go_at_call 123
   refine hc.mono ?_
   clear hc
   rintro e w5 ⟨rfl, rfl⟩
   go_wp2_with fail
   go_at_call 124
   refine hH.mono ?_
   clear hH
   rintro e w1 ⟨rfl, hb1⟩
   go_wp2_with fail
   go_at_call 72
   refine (hN w1).mono ?_
   clear hN
   rintro e w2 ⟨rfl, hb2⟩
   have g2 := (h.out.below hb1 hsl).below hb2 (Nat.lt_of_lt_of_le hsl hb1.size)
   have o2 := (Put.Off.of_below (p := s) (g := s) hb1).aK hb2
   have kc : w2.cell? ⟨s, 0, none⟩ = some (.int .i64 v) := by rw [g2.c0, hv]
   replace g2 := Lib.hid g2
   replace o2 := Lib.hid o2
   clear hb1 hb2 h hv
   go_wp2_with fail
   go_ret
   exact ⟨rfl, g2.out, o2.out⟩
 ·rw [hla] at hlt
  rw [if_pos rfl, if_neg (show ¬ ((17 : Int) = 0) by decide)]
  clear hla
  go_enter Tryz.func80, Tryz.ntmps80
  go_wp2_with fail
  go_at_call 123
  refine hc.mono ?_
  clear hc
  rintro e w5 ⟨rfl, rfl⟩
  go_wp2_with fail
  go_at_call 124
  refine hH.mono ?_
  clear hH
  rintro e w1 ⟨rfl, hb1⟩
  go_wp2_with fail
  go_at_call 72
  refine (hN w1).mono ?_
  clear hN
  rintro e w2 ⟨rfl, hb2⟩
  have g2 := (h.out.below hb1 hsl).below hb2 (Nat.lt_of_lt_of_le hsl hb1.size)
  have o2 := (Put.Off.of_below (p := s) (g := s) hb1).aK hb2
  replace g2 := Lib.hid g2
  replace o2 := Lib.hid o2
  clear hb1 hb2 h
  go_wp2_with fail
  go_ret
  exact ⟨rfl, g2.out, o2.out⟩
theorem sZ (who : Int) (h : au 29 w s l) (hl : aS 1 who = false) (hn : 0 ≤ l.n ∧ l.n ≤ 1000000) :
 Calls Tryz.prog 80 #[.pointer (some ⟨s, 0, none⟩), .int .i64 1, .int .i64 who] w (bE 29 w s (l.dG 1 who) (l.dH 1 who)) := by
 have hc := aL 1 who s w
 rw [hl] at hc
 have hH := gL who h
 unfold jo bL at hH
 have hN := fun W => gJ (l.has 0 who) (l.has 1 who) (l.has 2 who) 1 (by omega) W
 unfold bL at hN
 have hlt := dI l hl
 obtain ⟨nx, hnx⟩ : ∃ n, n = aI (l.has 0 who) (l.has 1 who) (l.has 2 who) 1 := ⟨_, rfl⟩
 rw [← hnx] at hN hlt
 clear hnx
 obtain ⟨x, hx⟩ : ∃ x, x = l.has 0 who := ⟨_, rfl⟩
 obtain ⟨y, hy⟩ : ∃ y, y = l.has 1 who := ⟨_, rfl⟩
 obtain ⟨z, hz⟩ : ∃ z, z = l.has 2 who := ⟨_, rfl⟩
 rw [← hx, ← hy, ← hz] at hH hN
 clear hx hy hz
 unfold Lk.dH
 unfold Lk.dG
 rw [hl, if_neg (show ¬ (false = true) by decide)]
 have wi : IntKind.i64.wrap (l.n + 1) = l.n + 1 := by rw [IntKind.wrap_i64]; omega
 have hsl := h.lt
 replace h := Lib.hid h
 clear hl hn
 cases hla : l.later 1 who
 ·rw [hla] at hlt
  rw [if_neg (show ¬ (false = true) by decide)]
  by_cases h0 : l.own 1 = 0
  ·rw [if_pos h0, if_pos rfl]
   have h0' : l.b = 0 := h0
   clear hla h0
   go_enter Tryz.func80, Tryz.ntmps80
   go_wp2_with fail
   go_at_call 123
   refine hc.mono ?_
   clear hc
   rintro e w5 ⟨rfl, rfl⟩
   go_wp2_with fail
   go_at_call 124
   refine hH.mono ?_
   clear hH
   rintro e w1 ⟨rfl, hb1⟩
   go_wp2_with fail
   go_at_call 72
   refine (hN w1).mono ?_
   clear hN
   rintro e w2 ⟨rfl, hb2⟩
   have g2 := (h.out.below hb1 hsl).below hb2 (Nat.lt_of_lt_of_le hsl hb1.size)
   have o2 := (Put.Off.of_below (p := s) (g := s) hb1).aK hb2
   have kc : w2.cell? ⟨s, 1, none⟩ = some (.int .i64 0) := by rw [g2.c1, h0']
   have kn := g2.c3
   have kf := g2.fz 1
   have kg := g2.fz 3
   replace g2 := Lib.hid g2
   replace o2 := Lib.hid o2
   clear hb1 hb2 h0' h
   go_wp2_with fail
   go_ret
   exact ⟨rfl, (g2.out.set1 who).pM _, (o2.out.setCell (.inl rfl)).setCell (.inl rfl)⟩
  ·rw [if_neg h0, if_neg (show ¬ ((18 : Int) = 0) by decide)]
   have h0' : ¬ l.b = 0 := h0
   have h1' : (l.b != 0) = true := by simp [h0']
   clear hla h0 h0'
   obtain ⟨v, hv⟩ : ∃ v, v = l.b := ⟨_, rfl⟩
   rw [← hv] at h1'
   go_enter Tryz.func80, Tryz.ntmps80
   go_wp2_with fail
   go_at_call 123
   refine hc.mono ?_
   clear hc
   rintro e w5 ⟨rfl, rfl⟩
   go_wp2_with fail
   go_at_call 124
   refine hH.mono ?_
   clear hH
   rintro e w1 ⟨rfl, hb1⟩
   go_wp2_with fail
   go_at_call 72
   refine (hN w1).mono ?_
   clear hN
   rintro e w2 ⟨rfl, hb2⟩
   have g2 := (h.out.below hb1 hsl).below hb2 (Nat.lt_of_lt_of_le hsl hb1.size)
   have o2 := (Put.Off.of_below (p := s) (g := s) hb1).aK hb2
   have kc : w2.cell? ⟨s, 1, none⟩ = some (.int .i64 v) := by rw [g2.c1, hv]
   replace g2 := Lib.hid g2
   replace o2 := Lib.hid o2
   clear hb1 hb2 h hv
   go_wp2_with fail
   go_ret
   exact ⟨rfl, g2.out, o2.out⟩
 ·rw [hla] at hlt
  rw [if_pos rfl, if_neg (show ¬ ((17 : Int) = 0) by decide)]
  clear hla
  go_enter Tryz.func80, Tryz.ntmps80
  go_wp2_with fail
  go_at_call 123
  refine hc.mono ?_
  clear hc
  rintro e w5 ⟨rfl, rfl⟩
  go_wp2_with fail
  go_at_call 124
  refine hH.mono ?_
  clear hH
  rintro e w1 ⟨rfl, hb1⟩
  go_wp2_with fail
  go_at_call 72
  refine (hN w1).mono ?_
  clear hN
  rintro e w2 ⟨rfl, hb2⟩
  have g2 := (h.out.below hb1 hsl).below hb2 (Nat.lt_of_lt_of_le hsl hb1.size)
  have o2 := (Put.Off.of_below (p := s) (g := s) hb1).aK hb2
  replace g2 := Lib.hid g2
  replace o2 := Lib.hid o2
  clear hb1 hb2 h
  go_wp2_with fail
  go_ret
  exact ⟨rfl, g2.out, o2.out⟩
theorem tq (who : Int) (h : au 29 w s l) (hl : aS 2 who = false) (hn : 0 ≤ l.n ∧ l.n ≤ 1000000) :
 Calls Tryz.prog 80 #[.pointer (some ⟨s, 0, none⟩), .int .i64 2, .int .i64 who] w (bE 29 w s (l.dG 2 who) (l.dH 2 who)) := by
 have hc := aL 2 who s w
 rw [hl] at hc
 have hH := gL who h
 unfold jo bL at hH
 have hN := fun W => gJ (l.has 0 who) (l.has 1 who) (l.has 2 who) 2 (by omega) W
 unfold bL at hN
 have hlt := dI l hl
 obtain ⟨nx, hnx⟩ : ∃ n, n = aI (l.has 0 who) (l.has 1 who) (l.has 2 who) 2 := ⟨_, rfl⟩
 rw [← hnx] at hN hlt
 clear hnx
 obtain ⟨x, hx⟩ : ∃ x, x = l.has 0 who := ⟨_, rfl⟩
 obtain ⟨y, hy⟩ : ∃ y, y = l.has 1 who := ⟨_, rfl⟩
 obtain ⟨z, hz⟩ : ∃ z, z = l.has 2 who := ⟨_, rfl⟩
 rw [← hx, ← hy, ← hz] at hH hN
 clear hx hy hz
 unfold Lk.dH
 unfold Lk.dG
 rw [hl, if_neg (show ¬ (false = true) by decide)]
 have wi : IntKind.i64.wrap (l.n + 1) = l.n + 1 := by rw [IntKind.wrap_i64]; omega
 have hsl := h.lt
 replace h := Lib.hid h
 clear hl hn
 cases hla : l.later 2 who
 ·rw [hla] at hlt
  rw [if_neg (show ¬ (false = true) by decide)]
  by_cases h0 : l.own 2 = 0
  ·rw [if_pos h0, if_pos rfl]
   have h0' : l.c = 0 := h0
   clear hla h0
   go_enter Tryz.func80, Tryz.ntmps80
   go_wp2_with fail
   go_at_call 123
   refine hc.mono ?_
   clear hc
   rintro e w5 ⟨rfl, rfl⟩
   go_wp2_with fail
   go_at_call 124
   refine hH.mono ?_
   clear hH
   rintro e w1 ⟨rfl, hb1⟩
   go_wp2_with fail
   go_at_call 72
   refine (hN w1).mono ?_
   clear hN
   rintro e w2 ⟨rfl, hb2⟩
   have g2 := (h.out.below hb1 hsl).below hb2 (Nat.lt_of_lt_of_le hsl hb1.size)
   have o2 := (Put.Off.of_below (p := s) (g := s) hb1).aK hb2
   have kc : w2.cell? ⟨s, 2, none⟩ = some (.int .i64 0) := by rw [g2.c2, h0']
   have kn := g2.c3
   have kf := g2.fz 2
   have kg := g2.fz 3
   replace g2 := Lib.hid g2
   replace o2 := Lib.hid o2
   clear hb1 hb2 h0' h
   go_wp2_with fail
   go_ret
   exact ⟨rfl, (g2.out.set2 who).pM _, (o2.out.setCell (.inl rfl)).setCell (.inl rfl)⟩
  ·rw [if_neg h0, if_neg (show ¬ ((18 : Int) = 0) by decide)]
   have h0' : ¬ l.c = 0 := h0
   have h1' : (l.c != 0) = true := by simp [h0']
   clear hla h0 h0'
   obtain ⟨v, hv⟩ : ∃ v, v = l.c := ⟨_, rfl⟩
   rw [← hv] at h1'
   go_enter Tryz.func80, Tryz.ntmps80
   go_wp2_with fail
   go_at_call 123
   refine hc.mono ?_
   clear hc
   rintro e w5 ⟨rfl, rfl⟩
   go_wp2_with fail
   go_at_call 124
   refine hH.mono ?_
   clear hH
   rintro e w1 ⟨rfl, hb1⟩
   go_wp2_with fail
   go_at_call 72
   refine (hN w1).mono ?_
   clear hN
   rintro e w2 ⟨rfl, hb2⟩
   have g2 := (h.out.below hb1 hsl).below hb2 (Nat.lt_of_lt_of_le hsl hb1.size)
   have o2 := (Put.Off.of_below (p := s) (g := s) hb1).aK hb2
   have kc : w2.cell? ⟨s, 2, none⟩ = some (.int .i64 v) := by rw [g2.c2, hv]
   replace g2 := Lib.hid g2
   replace o2 := Lib.hid o2
   clear hb1 hb2 h hv
   go_wp2_with fail
   go_ret
   exact ⟨rfl, g2.out, o2.out⟩
 ·rw [hla] at hlt
  rw [if_pos rfl, if_neg (show ¬ ((17 : Int) = 0) by decide)]
  clear hla
  go_enter Tryz.func80, Tryz.ntmps80
  go_wp2_with fail
  go_at_call 123
  refine hc.mono ?_
  clear hc
  rintro e w5 ⟨rfl, rfl⟩
  go_wp2_with fail
  go_at_call 124
  refine hH.mono ?_
  clear hH
  rintro e w1 ⟨rfl, hb1⟩
  go_wp2_with fail
  go_at_call 72
  refine (hN w1).mono ?_
  clear hN
  rintro e w2 ⟨rfl, hb2⟩
  have g2 := (h.out.below hb1 hsl).below hb2 (Nat.lt_of_lt_of_le hsl hb1.size)
  have o2 := (Put.Off.of_below (p := s) (g := s) hb1).aK hb2
  replace g2 := Lib.hid g2
  replace o2 := Lib.hid o2
  clear hb1 hb2 h
  go_wp2_with fail
  go_ret
  exact ⟨rfl, g2.out, o2.out⟩
theorem rH (k who : Int) (h : au 29 w s l) (hn : 0 ≤ l.n ∧ l.n ≤ 1000000) :
 Calls Tryz.prog 80 #[.pointer (some ⟨s, 0, none⟩), .int .i64 k, .int .i64 who] w (bE 29 w s (l.dG k who) (l.dH k who)) := by
 cases hl : aS k who
 ·rcases (bJ hl).1 with rfl | rfl | rfl
  ·exact sW who h hl hn
  ·exact sZ who h hl hn
  ·exact tq who h hl hn
 ·have e : l.dG k who = 1 := by unfold Lk.dG; rw [if_pos hl]
  have e2 : l.dH k who = l := by unfold Lk.dH; rw [e, if_neg (by decide)]
  rw [e, e2]
  exact nW k who h hl
theorem lT (k who : Int) (h : au 29 w s l) (hl : aS k who = true) : Calls Tryz.prog 83 #[.pointer (some ⟨s, 0, none⟩), .int .i64 k, .int .i64 who] w (bE 29 w s 1 l) := by
 have hc := aL k who s w
 rw [hl] at hc
 replace h := Lib.hid h
 clear hl
 go_enter Tryz.func83, Tryz.ntmps83
 go_wp2_with (go_at_call 123; go_must (refine hc.mono ?_); rintro e w5 ⟨rfl, rfl⟩)
 go_ret
 exact ⟨rfl, h.out, Put.Off.refl _ _ _⟩
theorem rJ (who : Int) (h : au 29 w s l) (hl : aS 0 who = false) :
 Calls Tryz.prog 83 #[.pointer (some ⟨s, 0, none⟩), .int .i64 0, .int .i64 who] w (bE 29 w s (l.bN 0 who) (l.bO 0 who)) := by
 have hc := aL 0 who s w
 have hh := bC 0 who h
 rw [hl] at hc
 have hw := (bJ hl).2
 unfold Lk.bO
 unfold Lk.bN
 rw [hl, if_neg (show ¬ (false = true) by decide)]
 have hx : l.has 0 who = decide (l.own 0 = who) := by unfold Lk.has; rw [decide_eq_true hw, Bool.true_and]
 rw [hx] at hh
 have kc := h.c0
 have kf := h.fz 0
 replace h := Lib.hid h
 clear hl hx hw
 by_cases h0 : l.own 0 = who
 ·rw [decide_eq_true h0] at hh
  rw [if_pos h0, if_pos rfl]
  clear h0
  go_enter Tryz.func83, Tryz.ntmps83
  go_wp2_with (first | (go_at_call 123; go_must (refine hc.mono ?_); rintro e w5 ⟨rfl, rfl⟩) | (go_at_call 126; go_must (refine hh.mono ?_); rintro e w5 ⟨rfl, rfl⟩))
  go_ret
  exact ⟨rfl, h.out.set0 0, (Put.Off.refl _ _ _).setCell (.inl rfl)⟩
 ·rw [decide_eq_false h0] at hh
  rw [if_neg h0, if_neg (show ¬ ((8 : Int) = 0) by decide)]
  clear h0
  go_enter Tryz.func83, Tryz.ntmps83
  go_wp2_with (first | (go_at_call 123; go_must (refine hc.mono ?_); rintro e w5 ⟨rfl, rfl⟩) | (go_at_call 126; go_must (refine hh.mono ?_); rintro e w5 ⟨rfl, rfl⟩))
  go_ret
  exact ⟨rfl, h.out, Put.Off.refl _ _ _⟩
theorem rM (who : Int) (h : au 29 w s l) (hl : aS 1 who = false) :
 Calls Tryz.prog 83 #[.pointer (some ⟨s, 0, none⟩), .int .i64 1, .int .i64 who] w (bE 29 w s (l.bN 1 who) (l.bO 1 who)) := by
 have hc := aL 1 who s w
 have hh := bC 1 who h
 rw [hl] at hc
 have hw := (bJ hl).2
 unfold Lk.bO
 unfold Lk.bN
 rw [hl, if_neg (show ¬ (false = true) by decide)]
 have hx : l.has 1 who = decide (l.own 1 = who) := by unfold Lk.has; rw [decide_eq_true hw, Bool.true_and]
 rw [hx] at hh
 have kc := h.c1
 have kf := h.fz 1
 replace h := Lib.hid h
 clear hl hx hw
 by_cases h0 : l.own 1 = who
 ·rw [decide_eq_true h0] at hh
  rw [if_pos h0, if_pos rfl]
  clear h0
  go_enter Tryz.func83, Tryz.ntmps83
  go_wp2_with (first | (go_at_call 123; go_must (refine hc.mono ?_); rintro e w5 ⟨rfl, rfl⟩) | (go_at_call 126; go_must (refine hh.mono ?_); rintro e w5 ⟨rfl, rfl⟩))
  go_ret
  exact ⟨rfl, h.out.set1 0, (Put.Off.refl _ _ _).setCell (.inl rfl)⟩
 ·rw [decide_eq_false h0] at hh
  rw [if_neg h0, if_neg (show ¬ ((8 : Int) = 0) by decide)]
  clear h0
  go_enter Tryz.func83, Tryz.ntmps83
  go_wp2_with (first | (go_at_call 123; go_must (refine hc.mono ?_); rintro e w5 ⟨rfl, rfl⟩) | (go_at_call 126; go_must (refine hh.mono ?_); rintro e w5 ⟨rfl, rfl⟩))
  go_ret
  exact ⟨rfl, h.out, Put.Off.refl _ _ _⟩
theorem rO (who : Int) (h : au 29 w s l) (hl : aS 2 who = false) :
 Calls Tryz.prog 83 #[.pointer (some ⟨s, 0, none⟩), .int .i64 2, .int .i64 who] w (bE 29 w s (l.bN 2 who) (l.bO 2 who)) := by
 have hc := aL 2 who s w
 have hh := bC 2 who h
 rw [hl] at hc
 have hw := (bJ hl).2
 unfold Lk.bO
 unfold Lk.bN
 rw [hl, if_neg (show ¬ (false = true) by decide)]
 have hx : l.has 2 who = decide (l.own 2 = who) := by unfold Lk.has; rw [decide_eq_true hw, Bool.true_and]
 rw [hx] at hh
 have kc := h.c2
 have kf := h.fz 2
 replace h := Lib.hid h
 clear hl hx hw
 by_cases h0 : l.own 2 = who
 ·rw [decide_eq_true h0] at hh
  rw [if_pos h0, if_pos rfl]
  clear h0
  go_enter Tryz.func83, Tryz.ntmps83
  go_wp2_with (first | (go_at_call 123; go_must (refine hc.mono ?_); rintro e w5 ⟨rfl, rfl⟩) | (go_at_call 126; go_must (refine hh.mono ?_); rintro e w5 ⟨rfl, rfl⟩))
  go_ret
  exact ⟨rfl, h.out.set2 0, (Put.Off.refl _ _ _).setCell (.inl rfl)⟩
 ·rw [decide_eq_false h0] at hh
  rw [if_neg h0, if_neg (show ¬ ((8 : Int) = 0) by decide)]
  clear h0
  go_enter Tryz.func83, Tryz.ntmps83
  go_wp2_with (first | (go_at_call 123; go_must (refine hc.mono ?_); rintro e w5 ⟨rfl, rfl⟩) | (go_at_call 126; go_must (refine hh.mono ?_); rintro e w5 ⟨rfl, rfl⟩))
  go_ret
  exact ⟨rfl, h.out, Put.Off.refl _ _ _⟩
theorem j5 (k who : Int) (h : au 29 w s l) :
 Calls Tryz.prog 83 #[.pointer (some ⟨s, 0, none⟩), .int .i64 k, .int .i64 who] w (bE 29 w s (l.bN k who) (l.bO k who)) := by
 cases hl : aS k who
 ·rcases (bJ hl).1 with rfl | rfl | rfl
  ·exact rJ who h hl
  ·exact rM who h hl
  ·exact rO who h hl
 ·have e : l.bN k who = 1 := by unfold Lk.bN; rw [if_pos hl]
  have e2 : l.bO k who = l := by unfold Lk.bO; rw [e, if_neg (by decide)]
  rw [e, e2]
  exact lT k who h hl
end
end Go.Proofs.YtfmpgdafnlehaaaGreat

namespace Go.Proofs.YtfmpgdafnlehaaaGreat
open Go.RowKit Go.Lib
abbrev Jb : Type := Int × Int × Int × Int × Int × Int × Int × Int × Int × Int
instance : DecidableEq Jb := (@instDecidableEqProd _ _ (inferInstanceAs (DecidableEq Int)) (@instDecidableEqProd _ _ (inferInstanceAs (DecidableEq Int)) (@instDecidableEqProd _ _ (inferInstanceAs (DecidableEq Int)) (@instDecidableEqProd _ _ (inferInstanceAs (DecidableEq Int)) (@instDecidableEqProd _ _ (inferInstanceAs (DecidableEq Int)) (@instDecidableEqProd _ _ (inferInstanceAs (DecidableEq Int)) (@instDecidableEqProd _ _ (inferInstanceAs (DecidableEq Int)) (@instDecidableEqProd _ _ (inferInstanceAs (DecidableEq Int)) (@instDecidableEqProd _ _ (inferInstanceAs (DecidableEq Int)) (inferInstanceAs (DecidableEq Int)))))))))))
instance : Inhabited Jb := ⟨(0, 0, 0, 0, 0, 0, 0, 0, 0, 0)⟩
def Jb.id (j : Jb) : Int := j.1
def Jb.prio (j : Jb) : Int := j.2.2.2.2.1
def ai (j : Jb) : List Value := [.int .i64 j.1, .int .i64 j.2.1, .int .i64 j.2.2.1, .int .i64 j.2.2.2.1, .int .i64 j.2.2.2.2.1, .int .i64 j.2.2.2.2.2.1, .int .i64 j.2.2.2.2.2.2.1, .int .i64 j.2.2.2.2.2.2.2.1, .int .i64 j.2.2.2.2.2.2.2.2.1, .int .u64 j.2.2.2.2.2.2.2.2.2]
theorem aH (j : Jb) : (ai j).length = 10 := rfl
theorem dU (j : Jb) : ∀ v ∈ ai j, v.oneCell' = true := by
 intro v hv
 simp [ai] at hv
 rcases hv with rfl | rfl | rfl | rfl | rfl | rfl | rfl | rfl | rfl | rfl <;> rfl
def aA (a b : Jb) : Bool := decide (b.prio < a.prio) || (decide (a.prio = b.prio) && decide (a.id < b.id))
def gM (a b : Jb) : Int := if aA a b then -1 else if aA b a then 1 else 0
theorem pO (a b : Jb) : decide (gM a b < 0) = aA a b := by
 unfold gM
 cases h : aA a b with
 | true => rfl
 | false => cases aA b a <;> rfl
section
set_option maxRecDepth 100000
end
end Go.Proofs.YtfmpgdafnlehaaaGreat

namespace Go.Proofs.YtfmpgdafnlehaaaGreat
def Jb.wid (j : Jb) : Int := j.2.2.1
def Jb.lim (j : Jb) : Int := j.2.2.2.1
def Jb.st (j : Jb) : Int := j.2.2.2.2.2.1
def Jb.fin (j : Jb) : Int := j.2.2.2.2.2.2.2.1
def Jb.lU (j : Jb) : Int := j.2.2.2.2.2.2.2.2.1
def Jb.uZ (j : Jb) : Int := j.2.2.2.2.2.2.2.2.2
structure Md where
 now : Int
 dr : List Bool
 L : List Jb
 cl : Bool
def uo (s n : Nat) : Bool := decide (s / 2 ^ n % 2 = 1)
def rP (k : Nat) (j : Jb) : Bool := decide (j.st = 3) && uo j.uZ.toNat k
def holderL (L : List Jb) (k : Nat) : Int := match L.findIdx? (rP k) with | some i => (i : Int) | none => -1
def dV (M : Md) (n : Int) : Int :=
 if n < 0 ∨ (M.dr.length : Int) ≤ n then 0
 else if 0 ≤ holderL M.L n.toNat then (if M.dr.getD n.toNat false then 3 else 2) else if M.dr.getD n.toNat false then 4 else 1
def nX (j : Jb) : Bool := decide (j.st = 1) && decide (0 ≤ j.lU)
def jq (M : Md) (t : Int) (k : Nat) : Bool := !(M.dr.getD k false) && (decide (holderL M.L k < 0) || decide ((M.L.getD (holderL M.L k).toNat default).fin ≤ t))
def rQ (t but : Int) (j : Jb) : Bool := nX j && decide (j.id ≠ but) && decide (j.lU ≤ t) && decide (t < j.lU + j.lim)
def gN (M : Md) (t : Int) (k : Nat) : Int := (((List.range k).countP (jq M t) : Nat) : Int)
def nA (L : List Jb) (t but : Int) : Int := ((L.filter (rQ t but)).map Jb.wid).sum
def bP (M : Md) (t but : Int) : Int := gN M t M.dr.length - nA M.L t but
end Go.Proofs.YtfmpgdafnlehaaaGreat

namespace Go.Proofs.YtfmpgdafnlehaaaGreat
open Go.RowKit Go.Lib Go.Sort
def Gr (w w' : World) : Prop := ∃ q os', w' = grow (w.drewN q) os'
end Go.Proofs.YtfmpgdafnlehaaaGreat

namespace Go.Proofs.YtfmpgdafnlehaaaGreat
open Go.RowKit Go.Lib Go.Sort
theorem rR : ∀ w, Sem.run Tryz.prog (Go.sizeOf 94) w = .ok 10 w := Tryz.sizeOf94
end Go.Proofs.YtfmpgdafnlehaaaGreat

namespace Go.Proofs.YtfmpgdafnlehaaaGreat
open Go.RowKit Go.Lib
section
variable {w w' : World} {p : Nat} {dv lv : Value} {M : Md}
theorem af.tu {v : Value} {L : List Jb} (h : af ai 10 w v L) (i : Nat) (hi : i < L.length) : ∃ b off cap, v = .slice (some ⟨b, off, none⟩) L.length cap ∧ L.length ≤ cap ∧ cap ≤ maxLen ∧ b < w.heap.size ∧ ∀ j u, (ai (L.getD i default))[j]? = some u → w.cell? ⟨b, off + i * 10 + j, none⟩ = some u := by
 obtain ⟨ao, cap, rfl, h1, h2, h3⟩ := h
 obtain ⟨b, off, rfl, hb, hc⟩ := h3 (by omega)
 refine ⟨b, off, cap, rfl, h1, h2, hb, fun j u hj => by rw [Nat.add_assoc]; exact hc i (L.getD i default) j u (by simp [List.getD, hi]) hj⟩
end
end Go.Proofs.YtfmpgdafnlehaaaGreat

namespace Go.Proofs.YtfmpgdafnlehaaaGreat
def tA (L : List (Int × Int)) (i : Nat) : Int := (L.getD i (0, 0)).1
def tV (L : List (Int × Int)) (i : Nat) : Int := (L.getD i (0, 0)).2
structure Sm (L : List (Int × Int)) (now : Int) (f : Int → Int) : Prop where
 pos : 0 < L.length
 hd : tA L 0 = now
 inc : ∀ i, i + 1 < L.length → tA L i < tA L (i + 1)
 top : ∀ i, i < L.length → tA L i < 1152921504606846976
 rep : ∀ i t, i < L.length → tA L i ≤ t → (i + 1 < L.length → t < tA L (i + 1)) → f t = tV L i
def uq (L : List (Int × Int)) (X : Int → Prop) : Prop := ∀ i, i + 1 < L.length → ¬ X (tA L (i + 1)) → tV L i ≠ tV L (i + 1)
structure Can (L : List (Int × Int)) (now : Int) (f : Int → Int) : Prop where
 sm : Sm L now f
 alt : uq L (fun _ => False)
section
variable {L : List (Int × Int)} {now : Int} {f : Int → Int}
theorem Sm.lt (h : Sm L now f) {i j : Nat} (hij : i < j) (hj : j < L.length) : tA L i < tA L j := by
 induction j with
 | zero => omega
 | succ j ih =>
   rcases Nat.lt_or_ge i j with h1 | h1
   ·have := ih h1 (by omega)
    have := h.inc j hj
    omega
   ·have : i = j := by omega
    subst this
    exact h.inc i hj
theorem Sm.le (h : Sm L now f) {i j : Nat} (hij : i ≤ j) (hj : j < L.length) : tA L i ≤ tA L j := by
 rcases Nat.lt_or_ge i j with h1 | h1
 ·exact Int.le_of_lt (h.lt h1 hj)
 ·have : i = j := by omega
  subst this
  exact Int.le_refl _
theorem Sm.rT (h : Sm L now f) {i : Nat} (hi : i < L.length) : now ≤ tA L i := by
 rw [← h.hd]
 exact h.le (Nat.zero_le _) hi
theorem Can.congr {g : Int → Int} (h : Can L now f) (hfg : ∀ t, now ≤ t → f t = g t) : Can L now g :=
 ⟨⟨h.sm.pos, h.sm.hd, h.sm.inc, h.sm.top, fun i t hi ha hn => by have := h.sm.rT hi; rw [← hfg t (by omega)]; exact h.sm.rep i t hi ha hn⟩, h.alt⟩
end
section
end
end Go.Proofs.YtfmpgdafnlehaaaGreat


namespace Go.Proofs.YtfmpgdafnlehaaaGreat
open Go.RowKit
namespace Reg2
inductive Kind : Type 1 where
 | pure
 | minor (α : Type) (d : α) (val : α → Value) (Post : α → World → Prop)
 | pinned (α : Type) (d : α) (val : α → Value) (Post : α → World → Prop)
 | major (α : Type) (d : α) (val : α → Value)
variable (P : Program) (ops : Array Oper)
def slot (o : Oper) (a : Act) : Value := match o.dst with | some d => a.tmps.getD d undef | none => undef
def Ext (w w' : World) : Prop := Below w.heap.size w w'
def Done (o : Oper) (R : Value → World → Prop) (a0 : Act) : Exit → Act → World → Prop
 | .normal, a, w => ∃ v, a = a0.put o.dst v ∧ R v w
 | _, _, _ => False
def One (o : Oper) (a : Act) (w : World) (R : Value → World → Prop) : Prop := wpList P ops (Done o R a) [o] a w
def aX : World → Prop := fun _ => True
def facts (w : World) : List Bool → List (World → Prop) → Prop
 | true :: bs, f :: fs => f w ∧ facts w bs fs
 | false :: bs, _ :: fs => facts w bs fs
 | _, _ => True
def dW (w : World) : List (World → Prop) → Prop
 | f :: fs => f w ∧ dW w fs
 | [] => True
variable (I : World → Prop) (S : List Value → World → Prop) (G : World → World → Prop) (fin : Act → List (World → Prop) → List Value → Prop)
def opPass (o : Oper) (m : List Bool) (a : Act) (F : List (World → Prop)) (vs : List Value) (nx : Act → List (World → Prop) → List Value → Prop) : Kind → Prop
 | .pure => ∃ v : Value, Yields P ops o v a ∧ nx (a.put o.dst v) (F ++ [aX]) vs
 | .minor α _ val Post =>
   (Region.wanted o (yielded ops a.tmps) = true → (∀ w, I w → facts w m F → One P ops o a w fun v w' => (∃ x : α, v = val x ∧ Post x w') ∧ Ext w w') ∧ ∀ x : α, nx (a.put o.dst (val x)) (F ++ [Post x]) vs) ∧
   (Region.wanted o (yielded ops a.tmps) = false → nx (a.put o.dst undef) (F ++ [aX]) vs)
 | .pinned α _ val Post =>
   (Region.wanted o (yielded ops a.tmps) = true → (∀ w, I w → S vs w → facts w m F → One P ops o a w fun v w' => (∃ x : α, v = val x ∧ Post x w') ∧ Ext w w') ∧ ∀ x : α, nx (a.put o.dst (val x)) (F ++ [Post x]) vs) ∧
   (Region.wanted o (yielded ops a.tmps) = false → nx (a.put o.dst undef) (F ++ [aX]) vs)
 | .major α _ val =>
   (Region.wanted o (yielded ops a.tmps) = true → (∀ w, I w → S vs w → facts w m F → One P ops o a w fun v w' => ((∃ x : α, v = val x) ∧ S (vs ++ [v]) w') ∧ G w w') ∧ ∀ x : α, nx (a.put o.dst (val x)) (F ++ [aX]) (vs ++ [val x])) ∧
   (Region.wanted o (yielded ops a.tmps) = false → (∀ w, I w → S vs w → S (vs ++ [undef]) w) ∧ nx (a.put o.dst undef) (F ++ [aX]) (vs ++ [undef]))
def pass : List (Oper × Kind × List Bool) → Act → List (World → Prop) → List Value → Prop
 | [], a, F, vs => fin a F vs
 | x :: r, a, F, vs => opPass P ops I S G x.1 x.2.2 a F vs (pass r) x.2.1
def dw : Kind → Prop
 | .minor _ _ _ Post => (∀ x w w', Ext w w' → Post x w → Post x w') ∧ (∀ x w w', G w w' → Post x w → Post x w')
 | .pinned _ _ _ Post => (∀ x w w', Ext w w' → Post x w → Post x w') ∧ (∀ x w w', G w w' → Post x w → Post x w')
 | _ => True
def stays : List (Oper × Kind × List Bool) → Prop
 | x :: r => dw G x.2.1 ∧ stays r
 | [] => True
def ae : Kind → Nat | .pure => 0 | .minor .. => 1 | .pinned .. => 2 | .major .. => 3
def at2 (ms : List (List Bool)) (i j : Nat) : Bool := (ms.getD i []).getD j false
def okRow (n : Nat) (ms : List (List Bool)) (tags : List Nat) (i : Nat) (o : Oper) : Bool :=
 (ms.getD i []).length == i && (o.dst.isSome || tags.getD i 0 == 3) && (match o.op with | .select _ _ => false | _ => true) &&
 o.after.all (fun e => !Region.binds .any e || e.on < i) &&
 (List.range n).all fun j =>
  (!at2 ms i j || o.after.any fun e => Region.binds .any e && (e.on == j || at2 ms e.on j)) &&
  (!at2 ms i j || (List.range n).all fun l => !at2 ms j l || at2 ms i l) &&
  (match ops[j]? with
   | none => false
   | some p => (i == j || !(o.dst == p.dst) || !o.dst.isSome) && (match p.dst with | some d => !(o.looksAt ops).contains d || at2 ms i j | none => true) &&
     (!((tags.getD i 0 == 3 || tags.getD i 0 == 2) && tags.getD j 0 == 3) || i == j || at2 ms i j || at2 ms j i))
def okB (n N : Nat) (ms : List (List Bool)) (tags : List Nat) : Bool :=
 (n ≤ ops.size) && (List.range ops.size).all fun i => match ops[i]? with
  | none => false
  | some o => if i < n then okRow ops n ms tags i o && (match o.dst with | some d => d < N | none => true)
   else o.after.all (fun e => !Region.binds .any e || e.on < i) && (List.range i).all fun j => o.after.any fun e => Region.binds .any e && (e.on == j || (decide (e.on < n) && at2 ms e.on j) || (decide (n ≤ e.on) && decide (j < e.on)))
def silent : Kind → Prop | .major _ _ val => ∀ x, val x = undef | _ => False
structure Ok (n N : Nat) (ms : List (List Bool)) (all : List (Oper × Kind × List Bool)) : Prop where
 le : n ≤ ops.size
 len : all.length = n
 get : ∀ (i : Nat) (o : Oper) (k : Kind) (m : List Bool), all[i]? = some (o, k, m) → ops[i]? = some o ∧ m = ms.getD i []
 iQ : ∀ (i : Nat) (o : Oper), i < n → ops[i]? = some o → (ms.getD i []).length = i
 dst : ∀ (i : Nat) (o : Oper), i < n → ops[i]? = some o → ∀ d, o.dst = some d → d < N
 non : ∀ (i : Nat) (o : Oper) (k : Kind) (m : List Bool), all[i]? = some (o, k, m) → o.dst = none → silent k
 rU : ∀ (i : Nat) (o : Oper), i < n → ops[i]? = some o → ∀ cs b, o.op ≠ .select cs b
 back : ∀ (i : Nat) (o : Oper), ops[i]? = some o → ∀ e ∈ o.after, Region.binds .any e = true → e.on < i
 ahead : ∀ (i : Nat) (o : Oper) (j : Nat), i < n → ops[i]? = some o → at2 ms i j = true → ∃ e ∈ o.after, Region.binds .any e = true ∧ (e.on = j ∨ at2 ms e.on j = true)
 trans : ∀ (i j l : Nat), i < n → at2 ms i j = true → at2 ms j l = true → at2 ms i l = true
 apart : ∀ (i j : Nat) (o p : Oper), i < n → j < n → i ≠ j → ops[i]? = some o → ops[j]? = some p → ∀ d, o.dst = some d → p.dst ≠ some d
 looks : ∀ (i j : Nat) (o p : Oper) (d : Tmp), i < n → j < n → ops[i]? = some o → ops[j]? = some p → p.dst = some d → d ∈ o.looksAt ops → at2 ms i j = true
 uu : ∀ (i j : Nat) (o : Oper) (k : Kind) (m : List Bool) (p : Oper) (k' : Kind) (m' : List Bool), all[i]? = some (o, k, m) → (ae k = 3 ∨ ae k = 2) → all[j]? = some (p, k', m') → ae k' = 3 → i ≠ j → at2 ms i j = true ∨ at2 ms j i = true
 tail : ∀ (i : Nat) (o : Oper) (j : Nat), n ≤ i → ops[i]? = some o → j < i → ∃ e ∈ o.after, Region.binds .any e = true ∧ (e.on = j ∨ (e.on < n ∧ at2 ms e.on j = true) ∨ (n ≤ e.on ∧ j < e.on))
theorem bH {ms : List (List Bool)} {i j : Nat} (h : (ms.getD i []).length = i) (hj : at2 ms i j = true) : j < i := by
 unfold at2 at hj
 rcases Nat.lt_or_ge j i with hlt | hge
 ·exact hlt
 ·rw [List.getD_eq_getElem?_getD, List.getElem?_eq_none (by omega)] at hj
  cases hj
theorem pQ {n N : Nat} {ms : List (List Bool)} {all : List (Oper × Kind × List Bool)} (h : okB ops n N ms (all.map fun x => ae x.2.1) = true) (hl : all.map (·.1) = ops.toList.take n) (hms : all.map (·.2.2) = ms) (bW : ∀ x ∈ all, x.1.dst = none → silent x.2.1) : Ok ops n N ms all := by
 unfold okB at h
 rw [Bool.and_eq_true] at h
 obtain ⟨hle, h⟩ := h
 have hle : n ≤ ops.size := by simpa using hle
 rw [List.all_eq_true] at h
 have hlen : all.length = n := by
  have := congrArg List.length hl
  simp only [List.length_map, List.length_take, Array.length_toList] at this
  omega
 have hget : ∀ (i : Nat) (o : Oper) (k : Kind) (m : List Bool), all[i]? = some (o, k, m) → ops[i]? = some o ∧ m = ms.getD i [] := by
  intro i o k m hi
  refine ⟨?_, by rw [← hms]; simp [List.getD, hi]⟩
  have h1 : (all.map (·.1))[i]? = some o := by simp [hi]
  rw [hl, List.getElem?_take] at h1
  split at h1
  ·simpa using h1
  ·cases h1
 have row : ∀ (i : Nat) (o : Oper), i < n → ops[i]? = some o → okRow ops n ms (all.map fun x => ae x.2.1) i o = true ∧ ∀ d, o.dst = some d → d < N := by
  intro i o hi ho
  have := h i (List.mem_range.2 (by omega))
  simp only [ho, hi, if_true, Bool.and_eq_true] at this
  refine ⟨this.1, ?_⟩
  have h2 := this.2
  intro d hd
  simpa [hd] using h2
 have j6 : ∀ (i : Nat) (o : Oper) (j : Nat), i < n → ops[i]? = some o → j < n →
  ((!at2 ms i j || o.after.any fun e => Region.binds .any e && (e.on == j || at2 ms e.on j)) &&
  (!at2 ms i j || (List.range n).all fun l => !at2 ms j l || at2 ms i l) &&
  (match ops[j]? with
   | none => false
   | some p => (i == j || !(o.dst == p.dst) || !o.dst.isSome) && (match p.dst with | some d => !(o.looksAt ops).contains d || at2 ms i j | none => true) &&
     (!(((all.map fun x => ae x.2.1).getD i 0 == 3 || (all.map fun x => ae x.2.1).getD i 0 == 2) && (all.map fun x => ae x.2.1).getD j 0 == 3) || i == j || at2 ms i j || at2 ms j i))) = true := by
  intro i o j hi ho hj
  have h1 := (row i o hi ho).1
  unfold okRow at h1
  rw [Bool.and_eq_true, List.all_eq_true] at h1
  exact h1.2 j (List.mem_range.2 hj)
 have jr : ∀ (i : Nat) (o : Oper), i < n → ops[i]? = some o → (ms.getD i []).length = i := by
  intro i o hi ho
  have h1 := (row i o hi ho).1
  unfold okRow at h1
  simp only [Bool.and_eq_true] at h1
  simpa using h1.1.1.1.1
 have ko : ∀ (i : Nat), i < ops.size → ∃ o, ops[i]? = some o := fun i hi => ⟨ops[i], by simp [hi]⟩
 refine ⟨hle, hlen, hget, jr, fun i o hi ho => (row i o hi ho).2, fun i o k m hi => bW _ (List.mem_of_getElem? hi), ?_, ?_, ?_, ?_, ?_, ?_, ?_, ?_⟩
 ·intro i o hi ho cs b hop
  have h1 := (row i o hi ho).1
  unfold okRow at h1
  simp only [Bool.and_eq_true] at h1
  have := h1.1.1.2
  rw [hop] at this
  cases this
 ·intro i o ho e he hb
  have hi : i < ops.size := (Array.getElem?_eq_some_iff.1 ho).1
  have h1 := h i (List.mem_range.2 hi)
  simp only [ho] at h1
  split at h1
  ·rename_i hin
   have h2 := (row i o hin ho).1
   unfold okRow at h2
   simp only [Bool.and_eq_true, Array.all_eq_true_iff_forall_mem] at h2
   simpa [hb] using h2.1.2 e he
  ·rw [Bool.and_eq_true, Array.all_eq_true_iff_forall_mem] at h1
   simpa [hb] using h1.1 e he
 ·intro i o j hi ho hj
  have hlt := bH (jr i o hi ho) hj
  have h1 := j6 i o j hi ho (by omega)
  simp only [Bool.and_eq_true, hj, Bool.not_true, Bool.false_or] at h1
  have h2 := h1.1.1
  rw [Array.any_eq_true] at h2
  obtain ⟨x, hx, h3⟩ := h2
  simp only [Bool.and_eq_true, Bool.or_eq_true, beq_iff_eq] at h3
  exact ⟨_, Array.getElem_mem hx, h3.1, h3.2⟩
 ·intro i j l hi hij hjl
  obtain ⟨o, ho⟩ := ko i (by omega)
  have hlt := bH (jr i o hi ho) hij
  obtain ⟨p, hp⟩ := ko j (by omega)
  have hlt2 := bH (jr j p (by omega) hp) hjl
  have h1 := j6 i o j hi ho (by omega)
  simp only [Bool.and_eq_true, hij, Bool.not_true, Bool.false_or] at h1
  have h2 := h1.1.2
  rw [List.all_eq_true] at h2
  have := h2 l (List.mem_range.2 (by omega))
  simpa [hjl] using this
 ·intro i j o p hi hj hne ho hp d hd he
  have h1 := j6 i o j hi ho hj
  simp only [hp, Bool.and_eq_true] at h1
  have h2 := h1.2.1.1
  rw [he, hd] at h2
  simp [hne] at h2
 ·intro i j o p d hi hj ho hp hd hm
  have h1 := j6 i o j hi ho hj
  simp only [hp, Bool.and_eq_true, hd] at h1
  have h2 := h1.2.1.2
  simpa [List.contains_iff_mem, hm] using h2
 ·intro i j o k m p k' m' hi hk hj hk' hne
  have ho := (hget i o k m hi).1
  have hp := (hget j p k' m' hj).1
  have hin : i < n := by rw [← hlen]; exact (List.getElem?_eq_some_iff.1 hi).1
  have hjn : j < n := by rw [← hlen]; exact (List.getElem?_eq_some_iff.1 hj).1
  have h1 := j6 i o j hin ho hjn
  simp only [hp, Bool.and_eq_true] at h1
  have h2 := h1.2.2
  have e1 : (all.map fun x => ae x.2.1).getD i 0 = ae k := by simp [List.getD, hi]
  have e2 : (all.map fun x => ae x.2.1).getD j 0 = 3 := by simp [List.getD, hj, hk']
  rw [e1, e2] at h2
  have e3 : ((ae k == 3 || ae k == 2) && (3 == 3)) = true := by rcases hk with hk | hk <;> simp [hk]
  rw [e3] at h2
  simpa [hne] using h2
 ·intro i o j hi ho hj
  have u6 : i < ops.size := (Array.getElem?_eq_some_iff.1 ho).1
  have h1 := h i (List.mem_range.2 u6)
  simp only [ho, show ¬ i < n by omega, if_false, Bool.and_eq_true, List.all_eq_true] at h1
  have h2 := h1.2 j (List.mem_range.2 hj)
  rw [Array.any_eq_true] at h2
  obtain ⟨x, hx, h3⟩ := h2
  simp only [Bool.and_eq_true, Bool.or_eq_true, beq_iff_eq, decide_eq_true_eq] at h3
  refine ⟨_, Array.getElem_mem hx, h3.1, ?_⟩
  rcases h3.2 with (h4 | h4) | h4
  ·exact .inl h4
  ·exact .inr (.inl h4)
  ·exact .inr (.inr h4)
variable {P ops I S G fin}
def valsOf (L : Nat → Bool) (a : Act) : List (Oper × Kind × List Bool) → Nat → List Value
 | [], _ => []
 | x :: r, j => (if ae x.2.1 = 3 ∧ L j = true then [slot x.1 a] else []) ++ valsOf L a r (j + 1)
theorem aN (L : Nat → Bool) (a : Act) (r : List (Oper × Kind × List Bool)) : ∀ (l : List (Oper × Kind × List Bool)) (j : Nat), valsOf L a (l ++ r) j = valsOf L a l j ++ valsOf L a r (j + l.length)
 | [], j => by simp [valsOf]
 | x :: l, j => by
   simp only [xE, valsOf, aN L a r l (j + 1), List.append_assoc, List.length_cons]
   rw [show j + 1 + l.length = j + (l.length + 1) by omega]
theorem eu {L L' : Nat → Bool} {a a' : Act} : ∀ (l : List (Oper × Kind × List Bool)) (j : Nat), (∀ i x, l[i]? = some x → ae x.2.1 = 3 → L (j + i) = L' (j + i) ∧ (L (j + i) = true → slot x.1 a = slot x.1 a')) → valsOf L a l j = valsOf L' a' l j
 | [], _, _ => rfl
 | x :: l, j, h => by
   have h0 := h 0 x rfl
   simp only [valsOf]
   rw [eu l (j + 1) fun i y hy ht => by have := h (i + 1) y (by simpa using hy) ht; rw [show j + (i + 1) = j + 1 + i by omega] at this; exact this]
   by_cases ht : ae x.2.1 = 3
   ·obtain ⟨h1, h2⟩ := h0 ht
    simp only [Nat.add_zero] at h1 h2
    by_cases hL : L j = true
    ·rw [if_pos ⟨ht, hL⟩, if_pos ⟨ht, by rw [← h1]; exact hL⟩, h2 hL]
    ·rw [if_neg (by simp [hL]), if_neg (by rw [← h1]; simp [hL])]
   ·simp [ht]
theorem bX {L : Nat → Bool} {a : Act} : ∀ (l : List (Oper × Kind × List Bool)) (j : Nat), (∀ i x, l[i]? = some x → ae x.2.1 = 3 → L (j + i) = false) → valsOf L a l j = []
 | [], _, _ => rfl
 | x :: l, j, h => by
   have h0 := h 0 x rfl
   simp only [valsOf]
   rw [bX l (j + 1) fun i y hy ht => by have := h (i + 1) y (by simpa using hy) ht; rw [show j + (i + 1) = j + 1 + i by omega] at this; exact this]
   by_cases ht : ae x.2.1 = 3
   ·have h1 := h0 ht
    simp only [Nat.add_zero] at h1
    simp [h1]
   ·simp [ht]
def bQ (P : Program) (ops : Array Oper) (o : Oper) (a : Act) (w : World) : Kind → Prop
 | .pure => Yields P ops o (slot o a) a
 | .minor α _ val Post => (Region.wanted o (yielded ops a.tmps) = true → ∃ x : α, slot o a = val x ∧ Post x w) ∧ (Region.wanted o (yielded ops a.tmps) = false → slot o a = undef)
 | .pinned α _ val Post => (Region.wanted o (yielded ops a.tmps) = true → ∃ x : α, slot o a = val x ∧ Post x w) ∧ (Region.wanted o (yielded ops a.tmps) = false → slot o a = undef)
 | .major α _ val => (Region.wanted o (yielded ops a.tmps) = true → ∃ x : α, slot o a = val x) ∧ (Region.wanted o (yielded ops a.tmps) = false → slot o a = undef)
variable (P ops S) in
structure Inv (n : Nat) (ms : List (List Bool)) (all : List (Oper × Kind × List Bool)) (a0 : Act) (L : Nat → Bool) (a : Act) (w : World) : Prop where
 defers : a.defers = a0.defers
 size : a.tmps.size = a0.tmps.size
 frame : ∀ t, (∀ (j : Nat) (o : Oper), j < n → L j = true → ops[j]? = some o → o.dst ≠ some t) → a.tmps[t]? = a0.tmps[t]?
 closed : ∀ i j, i < n → L i = true → at2 ms i j = true → L j = true
 holds : ∀ (j : Nat) (o : Oper) (k : Kind) (m : List Bool), L j = true → all[j]? = some (o, k, m) → bQ P ops o a w k
 state : S (valsOf L a all 0) w
theorem kr {o : Oper} {v v' : Value} {a : Act} (w : World) (h : Yields P ops o v a) (h' : Yields P ops o v' a) : v = v' := by
 rcases h with ⟨h1, h2⟩ | ⟨h1, rfl⟩ <;> rcases h' with ⟨h3, h4⟩ | ⟨h3, rfl⟩
 ·have := (h2 w).symm.trans (h4 w); simpa using this
 ·rw [h1] at h3; cases h3
 ·rw [h1] at h3; cases h3
 ·rfl
theorem eX {o : Oper} (hs : ∀ cs b, o.op ≠ .select cs b) {a b : Act} (h : ∀ t, t ∈ o.looksAt ops → a.tmps[t]? = b.tmps[t]?) :
 execOp a.eval o = execOp b.eval o ∧ Region.wanted o (yielded ops a.tmps) = Region.wanted o (yielded ops b.tmps) := by
 constructor
 ·refine execOp_congr o hs fun x hx => ?_
  cases x with
  | tmp t =>
    have : t ∈ o.looksAt ops := List.mem_append_left _ (List.mem_filterMap.2 ⟨.tmp t, by simpa using hx, rfl⟩)
    simp [Act.eval, h t this]
  | _ => rfl
 ·unfold Region.wanted
  cases hg : o.guard with
  | none => rfl
  | some gw =>
    obtain ⟨g, want⟩ := gw
    have hy : yielded ops a.tmps g = yielded ops b.tmps g := by
     unfold yielded
     cases ht : (ops[g]?).bind (·.dst) with
     | none => rfl
     | some t =>
       have : t ∈ o.looksAt ops := List.mem_append_right _ (by simp [hg, ht])
       simp [h t this]
    simp only [hy]
theorem nY {o : Oper} {a : Act} {d : Tmp} (hd : o.dst = some d) (hlt : d < a.tmps.size) (v : Value) : slot o (a.put o.dst v) = v := by
 simp [slot, hd, Act.put, hlt]
theorem ku {a : Act} {d t : Tmp} (h : d ≠ t) (v : Value) : (a.put (some d) v).tmps[t]? = a.tmps[t]? := by
 simp [Act.put, Array.getElem?_setIfInBounds_ne h]
theorem jv {o : Oper} {a : Act} {d : Tmp} (h : o.dst ≠ some d) (v : Value) : slot o (a.put (some d) v) = slot o a := by
 unfold slot
 cases ho : o.dst with
 | none => rfl
 | some e =>
   have hne : d ≠ e := fun hx => h (by rw [ho, hx])
   simp only [Array.getD_eq_getD_getElem?, ku hne]
theorem nZ {a b : Act} {d : Tmp} (ha : d < a.tmps.size) (v : Value) (hv : v = b.tmps.getD d undef) (hb : d < b.tmps.size) : (a.put (some d) v).tmps[d]? = b.tmps[d]? := by
 subst hv; simp [Act.put, ha, hb]
theorem aT {o : Oper} {a : Act} {v : Value} (hn : o.dst = none → v = undef) (hlt : ∀ d, o.dst = some d → d < a.tmps.size) : slot o (a.put o.dst v) = v := by
 cases hd : o.dst with
 | none => rw [hn hd]; simp [slot, hd]
 | some d => rw [← hd]; exact nY hd (hlt d hd) v
theorem cO {o : Oper} {a : Act} {t : Tmp} (h : o.dst ≠ some t) (v : Value) : (a.put o.dst v).tmps[t]? = a.tmps[t]? := by
 cases hd : o.dst with
 | none => rfl
 | some d => exact ku (fun e => h (by rw [hd, e])) v
theorem eB {o p : Oper} {a : Act} (h : ∀ d, o.dst = some d → p.dst ≠ some d) (v : Value) : slot p (a.put o.dst v) = slot p a := by
 cases hd : o.dst with
 | none => rfl
 | some d => exact jv (h d hd) v
theorem iR (a : Act) (d : Option Tmp) (v : Value) : (a.put d v).tmps.size = a.tmps.size := by
 cases d <;> simp [Act.put]
theorem put_defers (a : Act) (d : Option Tmp) (v : Value) : (a.put d v).defers = a.defers := by
 cases d <;> rfl
structure lV (ops : Array Oper) (n : Nat) (L : Nat → Bool) (a0 a : Act) (j : Nat) (ac : Act) : Prop where
 defers : ac.defers = a0.defers
 size : ac.tmps.size = a0.tmps.size
 done : ∀ (i : Nat) (o : Oper) (t : Tmp), i < j → i < n → L i = true → ops[i]? = some o → o.dst = some t → ac.tmps[t]? = a.tmps[t]?
 rest : ∀ t, (∀ (i : Nat) (o : Oper), i < j → i < n → ops[i]? = some o → o.dst ≠ some t) → ac.tmps[t]? = a0.tmps[t]?
theorem lV.step {n N : Nat} {ms : List (List Bool)} {all : List (Oper × Kind × List Bool)} {L : Nat → Bool} {a0 a ac : Act} {j : Nat} {o : Oper} (ok : Ok ops n N ms all) (hN : a0.tmps.size = N) (ha : a.tmps.size = a0.tmps.size)
 (h : lV ops n L a0 a j ac) (hj : j < n) (ho : ops[j]? = some o) {v : Value} (hv : L j = true → v = slot o a) : lV ops n L a0 a (j + 1) (ac.put o.dst v) := by
 refine ⟨(put_defers _ _ _).trans h.defers, (iR _ _ _).trans h.size, ?_, ?_⟩
 ·intro i p t hi hin eY hp ht
  by_cases hij : i = j
  ·subst hij
   rw [ho] at hp
   obtain rfl := Option.some.inj hp
   have hlt := ok.dst i o hj ho t ht
   rw [ht]
   exact nZ (by rw [h.size, hN]; exact hlt) _ (by rw [hv eY]; simp [slot, ht]) (by rw [ha, hN]; exact hlt)
  ·rw [cO (ok.apart i j p o hin hj hij hp ho t ht) _]
   exact h.done i p t (by omega) hin eY hp ht
 ·intro t ht
  rw [cO (ht j o (by omega) hj ho)]
  exact h.rest t fun i p hi hin hp => ht i p (by omega) hin hp
theorem lV.looks {n N : Nat} {ms : List (List Bool)} {all : List (Oper × Kind × List Bool)} {a0 a ac : Act} {j : Nat} {o : Oper} {L : Nat → Bool} {w : World} (ok : Ok ops n N ms all) (inv : Inv P ops S n ms all a0 L a w)
 (h : lV ops n L a0 a j ac) (hjn : j < n) (ho : ops[j]? = some o) (hM : ∀ i, at2 ms j i = true → L i = true) :
 ∀ t, t ∈ o.looksAt ops → ac.tmps[t]? = a.tmps[t]? := by
 intro t ht
 by_cases hx : ∃ (i : Nat) (p : Oper), i < n ∧ ops[i]? = some p ∧ p.dst = some t
 ·obtain ⟨i, p, hin, hp, hd⟩ := hx
  have h2 := ok.looks j i o p t hjn hin ho hp hd ht
  have hlt := bH (ok.iQ j o hjn ho) h2
  exact h.done i p t hlt hin (hM i h2) hp hd
 ·rw [h.rest t fun i p _ hin hp hd => hx ⟨i, p, hin, hp, hd⟩, inv.frame t fun i p hin _ hp hd => hx ⟨i, p, hin, hp, hd⟩]
theorem fA {w : World} : ∀ (m : List Bool) (F : List (World → Prop)), (∀ (i : Nat) (f : World → Prop), m.getD i false = true → F[i]? = some f → f w) → facts w m F
 | [], F, _ => by unfold facts; trivial
 | true :: m, [], _ => by unfold facts; trivial
 | false :: m, [], _ => by unfold facts; trivial
 | true :: m, f :: F, h => ⟨h 0 f rfl rfl, fA m F fun i g hi hg => h (i + 1) g (by simpa using hi) (by simpa using hg)⟩
 | false :: m, f :: F, h => fA m F fun i g hi hg => h (i + 1) g (by simpa using hi) (by simpa using hg)
theorem eZ {w : World} : ∀ (F : List (World → Prop)), (∀ (i : Nat) (f : World → Prop), F[i]? = some f → f w) → dW w F
 | [], _ => trivial
 | f :: F, h => ⟨h 0 f rfl, eZ F fun i g hg => h (i + 1) g (by simpa using hg)⟩
theorem iT {n N : Nat} {ms : List (List Bool)} {all : List (Oper × Kind × List Bool)} {a0 a : Act} {L : Nat → Bool} {w : World} (ok : Ok ops n N ms all) (hN : a0.tmps.size = N) (inv : Inv P ops S n ms all a0 L a w)
 (hp : pass P ops I S G fin all a0 [] []) : ∀ j, j ≤ n → ∃ ac F vs, pass P ops I S G fin (all.drop j) ac F vs ∧ lV ops n L a0 a j ac ∧ F.length = j ∧ (∀ (i : Nat) (f : World → Prop), L i = true → F[i]? = some f → f w) ∧
  ((∀ i x, i < j → all[i]? = some x → ae x.2.1 = 3 → L i = true) → vs = valsOf L a (all.take j) 0) := by
 intro j
 induction j with
 | zero => exact fun _ => ⟨a0, [], [], by simpa using hp, ⟨rfl, rfl, fun i o t hi => by omega, fun t _ => rfl⟩, rfl, fun i f _ h => by simp at h, fun _ => by simp [valsOf]⟩
 | succ j ih =>
   intro hj
   obtain ⟨ac, F, vs, aG, hag, hF, hf, hvs⟩ := ih (by omega)
   have hjl : j < all.length := by rw [ok.len]; omega
   obtain ⟨⟨o, k, m⟩, hall⟩ : ∃ x, all[j]? = some x := ⟨all[j], by simp [hjl]⟩
   obtain ⟨ho, _⟩ := ok.get j o k m hall
   have hdrop : all.drop j = (o, k, m) :: all.drop (j + 1) := by
    rw [List.drop_eq_getElem_cons hjl]
    rw [List.getElem?_eq_getElem hjl] at hall
    rw [Option.some.inj hall]
   have htake : all.take (j + 1) = all.take j ++ [(o, k, m)] := by
    rw [List.take_succ_eq_append_getElem hjl]
    rw [List.getElem?_eq_getElem hjl] at hall
    rw [Option.some.inj hall]
   rw [hdrop] at aG
   have pR : (all.take j).length = j := by rw [List.length_take]; omega
   have hfn : ∀ (g : World → Prop), (L j = true → g w) → ∀ (i : Nat) (f : World → Prop), L i = true → (F ++ [g])[i]? = some f → f w := by
    intro g hg i f eY hfi
    rcases Nat.lt_or_ge i F.length with h | h
    ·rw [List.getElem?_append_left h] at hfi; exact hf i f eY hfi
    ·rw [List.getElem?_append_right h] at hfi
     have : i = j := by
      have := (List.getElem?_eq_some_iff.1 hfi).1
      simp at this; omega
     subst this
     rw [hF, Nat.sub_self] at hfi
     simp at hfi
     subst hfi
     exact hg eY
   have hv0 : ae k ≠ 3 → (∀ i x, i < j + 1 → all[i]? = some x → ae x.2.1 = 3 → L i = true) → vs = valsOf L a (all.take (j + 1)) 0 := by
    intro ht hx
    rw [htake, aN, pR, hvs fun i x hi => hx i x (by omega)]
    simp [valsOf, ht]
   have hv3 : ae k = 3 → ∀ v, (L j = true → v = slot o a) → (∀ i x, i < j + 1 → all[i]? = some x → ae x.2.1 = 3 → L i = true) → vs ++ [v] = valsOf L a (all.take (j + 1)) 0 := by
    intro ht v hv hx
    have dJ := hx j _ (by omega) hall ht
    rw [htake, aN, pR, hvs fun i x hi => hx i x (by omega), hv dJ]
    simp [valsOf, ht, dJ]
   have hlk : L j = true → execOp ac.eval o = execOp a.eval o ∧ Region.wanted o (yielded ops ac.tmps) = Region.wanted o (yielded ops a.tmps) := fun dJ =>
    eX (fun cs b => ok.rU j o (by omega) ho cs b) (hag.looks ok inv (by omega) ho fun i hi => inv.closed j i (by omega) dJ hi)
   have hst : ∀ v, (L j = true → v = slot o a) → lV ops n L a0 a (j + 1) (ac.put o.dst v) := fun v hv => hag.step ok hN inv.size (by omega) ho hv
   have bu : ∀ (g : World → Prop), (F ++ [g]).length = j + 1 := fun g => by simp [hF]
   cases dJ : L j with
   | false =>
     have hno : ∀ {p : Prop}, L j = true → p := fun h => by rw [dJ] at h; cases h
     cases k with
     | pure =>
       obtain ⟨v, hy, hnx⟩ := aG
       exact ⟨_, _, _, hnx, hst v hno, bu _, hfn _ hno, hv0 (by simp [ae])⟩
     | minor α d val Post =>
       cases hw : Region.wanted o (yielded ops ac.tmps) with
       | true => exact ⟨_, _, _, (aG.1 hw).2 d, hst _ hno, bu _, hfn _ hno, hv0 (by simp [ae])⟩
       | false => exact ⟨_, _, _, aG.2 hw, hst _ hno, bu _, hfn _ hno, hv0 (by simp [ae])⟩
     | pinned α d val Post =>
       cases hw : Region.wanted o (yielded ops ac.tmps) with
       | true => exact ⟨_, _, _, (aG.1 hw).2 d, hst _ hno, bu _, hfn _ hno, hv0 (by simp [ae])⟩
       | false => exact ⟨_, _, _, aG.2 hw, hst _ hno, bu _, hfn _ hno, hv0 (by simp [ae])⟩
     | major α d val =>
       cases hw : Region.wanted o (yielded ops ac.tmps) with
       | true => exact ⟨_, _, _, (aG.1 hw).2 d, hst _ hno, bu _, hfn _ hno, hv3 rfl _ hno⟩
       | false => exact ⟨_, _, _, (aG.2 hw).2, hst _ hno, bu _, hfn _ hno, hv3 rfl _ hno⟩
   | true =>
     obtain ⟨hex, hwt⟩ := hlk dJ
     have hh := inv.holds j o k m dJ hall
     cases k with
     | pure =>
       obtain ⟨v, hy, hnx⟩ := aG
       have hv : v = slot o a := kr w hy (Yields.of_same (show Yields P ops o (slot o a) a from hh) hex hwt)
       exact ⟨_, _, _, hnx, hst v fun _ => hv, bu _, hfn _ fun _ => trivial, hv0 (by simp [ae])⟩
     | minor α d val Post =>
       cases hw : Region.wanted o (yielded ops ac.tmps) with
       | true =>
         obtain ⟨x, hx, hpx⟩ := hh.1 (by rw [← hwt]; exact hw)
         exact ⟨_, _, _, (aG.1 hw).2 x, hst _ fun _ => hx.symm, bu _, hfn _ fun _ => hpx, hv0 (by simp [ae])⟩
       | false =>
         have hu := hh.2 (by rw [← hwt]; exact hw)
         exact ⟨_, _, _, aG.2 hw, hst _ fun _ => hu.symm, bu _, hfn _ fun _ => trivial, hv0 (by simp [ae])⟩
     | pinned α d val Post =>
       cases hw : Region.wanted o (yielded ops ac.tmps) with
       | true =>
         obtain ⟨x, hx, hpx⟩ := hh.1 (by rw [← hwt]; exact hw)
         exact ⟨_, _, _, (aG.1 hw).2 x, hst _ fun _ => hx.symm, bu _, hfn _ fun _ => hpx, hv0 (by simp [ae])⟩
       | false =>
         have hu := hh.2 (by rw [← hwt]; exact hw)
         exact ⟨_, _, _, aG.2 hw, hst _ fun _ => hu.symm, bu _, hfn _ fun _ => trivial, hv0 (by simp [ae])⟩
     | major α d val =>
       cases hw : Region.wanted o (yielded ops ac.tmps) with
       | true =>
         obtain ⟨x, hx⟩ := hh.1 (by rw [← hwt]; exact hw)
         exact ⟨_, _, _, (aG.1 hw).2 x, hst _ fun _ => hx.symm, bu _, hfn _ fun _ => trivial, hv3 rfl _ fun _ => hx.symm⟩
       | false =>
         have hu := hh.2 (by rw [← hwt]; exact hw)
         exact ⟨_, _, _, (aG.2 hw).2, hst _ fun _ => hu.symm, bu _, hfn _ fun _ => trivial, hv3 rfl _ fun _ => hu.symm⟩
theorem pU {a : Act} {d : Tmp} (hlt : d < a.tmps.size) {u v : Value} (h : a.put (some d) u = a.put (some d) v) : u = v := by
 have := congrArg (fun b : Act => b.tmps[d]?) h
 simpa [Act.put, hlt] using this
theorem jw {o : Oper} {a ac : Act} {w : World} {R : Value → World → Prop} {K : Act → World → Prop} {Q : Exit → Act → World → Prop} (hlt : ∀ d, o.dst = some d → d < ac.tmps.size)
 (h : One P ops o ac w R) (hex : execOp ac.eval o = execOp a.eval o) (hw : Region.wanted o (yielded ops ac.tmps) = true) (hK : ∀ v w', R v w' → K (a.put o.dst v) w') : o.wp P a w K Q := by
 unfold One wpList at h
 rw [if_pos hw] at h
 rcases h with h | ⟨_, a', w', h⟩
 case inr => exact h.elim
 unfold Oper.wp at *
 rw [hex] at h
 generalize (execOp a.eval o).run P w = r at *
 have key : ∀ u w', wpList P ops (Done o R ac) [] (ac.put o.dst u) w' → K (a.put o.dst u) w' := by
  intro u w' hn
  obtain ⟨v, hv, hR⟩ := hn
  cases hd : o.dst with
  | none => rw [← show a.put o.dst v = a.put none u by rw [hd]; rfl]; exact hK _ _ hR
  | some d =>
    rw [hd] at hv
    have := pU (hlt d hd) hv
    subst this
    rw [← hd]
    exact hK _ _ hR
 cases r with
 | ok n w' =>
   cases n <;> simp only [Oper.upon] at h ⊢
   case value u => exact key _ _ h
   case skip => exact key _ _ h
   case defer x =>
    obtain ⟨v, hv, _⟩ := h
    have := congrArg (fun b : Act => b.defers.length) hv
    simp [put_defers] at this
   case enter f args =>
    refine Calls.mono h fun e w'' he => ?_
    cases e with
    | returned u => exact key _ _ he
    | panicked c => exact (he : False).elim
    | outgrown => obtain ⟨a', w', he⟩ := he; exact (he : False).elim
   case row row args => exact Rows.mono h fun u w'' he => key _ _ he
 | halt x w' =>
   cases x <;> simp only [Oper.upon] at h ⊢
   case panic u => exact (h : False).elim
def more (L : Nat → Bool) (i : Nat) : Nat → Bool := fun j => j == i || L j
theorem eF {L : Nat → Bool} {i : Nat} : more L i i = true := by simp [more]
theorem cZ {L : Nat → Bool} {i j : Nat} (h : L j = true) : more L i j = true := by simp [more, h]
theorem fQ {L : Nat → Bool} {i j : Nat} (h : more L i j = true) : j = i ∨ L j = true := by simpa [more] using h
theorem gG {n N : Nat} {ms : List (List Bool)} {all : List (Oper × Kind × List Bool)} {i j : Nat} {o p : Oper} {k : Kind} {a : Act} {w w' : World} (ok : Ok ops n N ms all) (hi : i < n) (hj : j < n) (hne : i ≠ j)
 (ho : ops[i]? = some o) (hp : ops[j]? = some p) (hnot : at2 ms j i ≠ true) (v : Value)
 (hpost : ∀ α d val Post, (k = .minor α d val Post ∨ k = .pinned α d val Post) → ∀ x, Post x w → Post x w') (h : bQ P ops p a w k) : bQ P ops p (a.put o.dst v) w' k := by
 have eG : slot p (a.put o.dst v) = slot p a := eB (ok.apart i j o p hi hj hne ho hp) v
 have hlk : ∀ t, t ∈ p.looksAt ops → (a.put o.dst v).tmps[t]? = a.tmps[t]? := by
  intro t ht
  exact cO (fun hd => hnot (ok.looks j i p o t hj hi hp ho hd ht)) v
 obtain ⟨hex, hwt⟩ := eX (fun cs b => ok.rU j p hj hp cs b) hlk
 cases k with
 | pure => exact Yields.of_same (by rw [eG]; exact h) hex hwt
 | minor α dd val Post =>
   refine ⟨fun hw => ?_, fun hw => ?_⟩
   ·obtain ⟨x, hx, hpx⟩ := h.1 (by rw [← hwt]; exact hw)
    exact ⟨x, by rw [eG]; exact hx, hpost α dd val Post (Or.inl rfl) x hpx⟩
   ·rw [eG]; exact h.2 (by rw [← hwt]; exact hw)
 | pinned α dd val Post =>
   refine ⟨fun hw => ?_, fun hw => ?_⟩
   ·obtain ⟨x, hx, hpx⟩ := h.1 (by rw [← hwt]; exact hw)
    exact ⟨x, by rw [eG]; exact hx, hpost α dd val Post (Or.inr rfl) x hpx⟩
   ·rw [eG]; exact h.2 (by rw [← hwt]; exact hw)
 | major α dd val =>
   refine ⟨fun hw => ?_, fun hw => ?_⟩
   ·obtain ⟨x, hx⟩ := h.1 (by rw [← hwt]; exact hw)
    exact ⟨x, by rw [eG]; exact hx⟩
   ·rw [eG]; exact h.2 (by rw [← hwt]; exact hw)
theorem lW {l : List (Oper × Kind × List Bool)} (h : stays G l) {j : Nat} {o : Oper} {k : Kind} {m : List Bool} (hj : l[j]? = some (o, k, m)) : dw G k := by
 induction l generalizing j with
 | nil => simp at hj
 | cons x l ih =>
   cases j with
   | zero => simp at hj; subst hj; exact h.1
   | succ j => exact ih h.2 (by simpa using hj)
theorem Inv.next {n N : Nat} {ms : List (List Bool)} {all : List (Oper × Kind × List Bool)} {a0 a : Act} {L : Nat → Bool} {w w' : World} {i : Nat} {o : Oper} {k : Kind} {m : List Bool} {v : Value}
 (ok : Ok ops n N ms all) (hN : a0.tmps.size = N) (inv : Inv P ops S n ms all a0 L a w) (hi : i < n) (eY : L i = false) (hall : all[i]? = some (o, k, m)) (hm : ∀ j, at2 ms i j = true → L j = true)
 (hpost : ∀ (j : Nat) (p : Oper) (k' : Kind) (m' : List Bool), all[j]? = some (p, k', m') → ∀ α d val Post, (k' = .minor α d val Post ∨ k' = .pinned α d val Post) → ∀ x, Post x w → Post x w')
 (tC : o.dst = none → v = undef) (hself : bQ P ops o (a.put o.dst v) w' k)
 (hS : S (if ae k = 3 then valsOf L a all 0 ++ [v] else valsOf L a all 0) w') : Inv P ops S n ms all a0 (more L i) (a.put o.dst v) w' := by
 obtain ⟨ho, _⟩ := ok.get i o k m hall
 have hsz : ∀ d, o.dst = some d → d < a.tmps.size := fun d hd => by rw [inv.size, hN]; exact ok.dst i o hi ho d hd
 have hjlt : ∀ (j : Nat) (p : Oper) (k' : Kind) (m' : List Bool), all[j]? = some (p, k', m') → j < n := fun j p k' m' hj => by rw [← ok.len]; exact (List.getElem?_eq_some_iff.1 hj).1
 refine ⟨(put_defers _ _ _).trans inv.defers, (iR _ _ _).trans inv.size, ?_, ?_, ?_, ?_⟩
 ·intro t ht
  rw [cO (ht i o hi eF ho)]
  exact inv.frame t fun j p hj dJ hp => ht j p hj (cZ dJ) hp
 ·intro x j hx tF hxj
  rcases fQ tF with rfl | tF
  ·exact cZ (hm j hxj)
  ·exact cZ (inv.closed x j hx tF hxj)
 ·intro j p k' m' dJ hj
  rcases fQ dJ with rfl | dJ
  ·rw [hall] at hj
   obtain ⟨rfl, rfl, rfl⟩ : o = p ∧ k = k' ∧ m = m' := by simpa using hj
   exact hself
  ·have hjn := hjlt j p k' m' hj
   have hne : i ≠ j := fun e => by subst e; rw [eY] at dJ; cases dJ
   refine gG ok hi hjn hne ho (ok.get j p k' m' hj).1 (fun h => ?_) v (hpost j p k' m' hj) (inv.holds j p k' m' dJ hj)
   have := inv.closed j i hjn dJ h
   rw [eY] at this; cases this
 ·have hil : i < all.length := by rw [ok.len]; exact hi
  have hsplit : all = all.take i ++ (o, k, m) :: all.drop (i + 1) := by
   have h1 := List.drop_eq_getElem_cons hil
   rw [List.getElem?_eq_getElem hil] at hall
   rw [Option.some.inj hall] at h1
   rw [← h1, List.take_append_drop]
  have hlen : (all.take i).length = i := by rw [List.length_take]; omega
  have hval : valsOf (more L i) (a.put o.dst v) all 0 = if ae k = 3 then valsOf L a all 0 ++ [v] else valsOf L a all 0 := by
   have pV : ∀ (l : List (Oper × Kind × List Bool)) (j0 : Nat), (∀ x y, l[x]? = some y → all[j0 + x]? = some y ∧ j0 + x ≠ i) → valsOf (more L i) (a.put o.dst v) l j0 = valsOf L a l j0 := by
    intro l j0 hl
    refine (eu l j0 fun x y hx ht => ?_).symm
    obtain ⟨h1, h2⟩ := hl x y hx
    refine ⟨by simp [more, h2], fun hL => ?_⟩
    obtain ⟨p, k', m'⟩ := y
    exact (eB (ok.apart i (j0 + x) o p hi (hjlt _ p k' m' h1) (Ne.symm h2) ho (ok.get _ p k' m' h1).1) v).symm
   have hA : valsOf (more L i) (a.put o.dst v) (all.take i) 0 = valsOf L a (all.take i) 0 := pV _ 0 fun x y hx => by
    rw [List.getElem?_take] at hx
    split at hx
    ·exact ⟨by simpa using hx, by omega⟩
    ·cases hx
   have hB : valsOf (more L i) (a.put o.dst v) (all.drop (i + 1)) (i + 1) = valsOf L a (all.drop (i + 1)) (i + 1) := pV _ (i + 1) fun x y hx => by
    rw [List.getElem?_drop] at hx
    exact ⟨hx, by omega⟩
   have e1 : valsOf (more L i) (a.put o.dst v) all 0 = valsOf L a (all.take i) 0 ++ ((if ae k = 3 then [v] else []) ++ valsOf L a (all.drop (i + 1)) (i + 1)) := by
    conv => lhs; rw [hsplit]
    rw [aN, hA, hlen]
    simp only [valsOf, Nat.zero_add, hB, eF, and_true]
    rw [aT tC hsz]
   have e2 : valsOf L a all 0 = valsOf L a (all.take i) 0 ++ valsOf L a (all.drop (i + 1)) (i + 1) := by
    conv => lhs; rw [hsplit]
    rw [aN, hlen]
    simp [valsOf, eY]
   by_cases ht : ae k = 3
   ·have hC : valsOf L a (all.drop (i + 1)) (i + 1) = [] := by
     refine bX _ _ fun x y hx hy => ?_
     rw [List.getElem?_drop] at hx
     obtain ⟨p, k', m'⟩ := y
     have hjn := hjlt _ p k' m' hx
     rcases ok.uu i (i + 1 + x) o k m p k' m' hall (Or.inl ht) hx hy (by omega) with h | h
     ·have := bH (ok.iQ i o hi ho) h; omega
     ·cases hL : L (i + 1 + x) with
      | false => rfl
      | true => have := inv.closed _ i hjn hL h; rw [eY] at this; cases this
    rw [e1, e2, hC]
    simp [ht]
   ·rw [e1, e2]
    simp [ht]
  rw [hval]
  exact hS
structure pW (I : World → Prop) (S : List Value → World → Prop) (G : World → World → Prop) (all : List (Oper × Kind × List Bool)) : Prop where
 s : ∀ vs w w', Ext w w' → S vs w → S vs w'
 ie : ∀ w w', Ext w w' → I w → I w'
 ig : ∀ w w', G w w' → I w → I w'
 st : stays G all
theorem Ext.refl (w : World) : Ext w w := Below.refl _ _
theorem og {n N : Nat} {ms : List (List Bool)} {all : List (Oper × Kind × List Bool)} {a0 a : Act} {L : Nat → Bool} {w : World} {i : Nat} {K : Act → World → Prop} {Q : Exit → Act → World → Prop} (ok : Ok ops n N ms all) (hN : a0.tmps.size = N) (fe : pW I S G all)
 (hp : pass P ops I S G fin all a0 [] []) (inv : Inv P ops S n ms all a0 L a w) (hI : I w) (hi : i < n) (eY : L i = false) (hm : ∀ j, at2 ms i j = true → L j = true)
 (hK : ∀ a' w', Inv P ops S n ms all a0 (more L i) a' w' → I w' → K a' w') : wpOp P ops Q i K a w := by
 obtain ⟨ac, F, vs, aG, hag, hF, hf, hvs⟩ := iT ok hN inv hp i (by omega)
 have hil : i < all.length := by rw [ok.len]; exact hi
 obtain ⟨⟨o, k, m⟩, hall⟩ : ∃ x, all[i]? = some x := ⟨all[i], by simp [hil]⟩
 obtain ⟨ho, hmm⟩ := ok.get i o k m hall
 have hlt := ok.dst i o hi ho
 have bW := ok.non i o k m hall
 have hdrop : all.drop i = (o, k, m) :: all.drop (i + 1) := by
  rw [List.drop_eq_getElem_cons hil]
  rw [List.getElem?_eq_getElem hil] at hall
  rw [Option.some.inj hall]
 rw [hdrop] at aG
 have gP : ∀ d, o.dst = some d → d < a.tmps.size := fun d hd => by rw [inv.size, hN]; exact hlt d hd
 have hcsz : ∀ d, o.dst = some d → d < ac.tmps.size := fun d hd => by rw [hag.size, hN]; exact hlt d hd
 obtain ⟨hex, hwt⟩ := eX (fun cs b => ok.rU i o hi ho cs b) (hag.looks ok inv hi ho hm)
 have hjlt : ∀ (j : Nat) (p : Oper) (k' : Kind) (m' : List Bool), all[j]? = some (p, k', m') → j < n := fun j p k' m' hj => by rw [← ok.len]; exact (List.getElem?_eq_some_iff.1 hj).1
 have hown : ∀ v, execOp (a.put o.dst v).eval o = execOp a.eval o ∧ Region.wanted o (yielded ops (a.put o.dst v).tmps) = Region.wanted o (yielded ops a.tmps) := fun v =>
  eX (fun cs b => ok.rU i o hi ho cs b) fun t ht => by
   refine cO (fun hd => ?_) v
   have h1 := ok.looks i i o o t hi hi ho ho hd ht
   have := bH (ok.iQ i o hi ho) h1
   omega
 have jy : facts w m F := fA m F fun j f hj u7 => hf j f (hm j (by subst hmm; exact hj)) u7
 have tH : ∀ w', Ext w w' ∨ G w w' → ∀ (j : Nat) (p : Oper) (k' : Kind) (m' : List Bool), all[j]? = some (p, k', m') → ∀ α dd val Post, (k' = .minor α dd val Post ∨ k' = .pinned α dd val Post) → ∀ x, Post x w → Post x w' := by
  intro w' hw' j p k' m' hj α dd val Post hk x hx
  have hs := lW fe.st hj
  rcases hk with rfl | rfl <;> rcases hw' with h | h
  ·exact hs.1 x w w' h hx
  ·exact hs.2 x w w' h hx
  ·exact hs.1 x w w' h hx
  ·exact hs.2 x w w' h hx
 have gQ : (ae k = 3 ∨ ae k = 2) → vs = valsOf L a all 0 := by
  intro ht
  have hold : ∀ (j : Nat) (x : Oper × Kind × List Bool), j ≠ i → all[j]? = some x → ae x.2.1 = 3 → (j < i → L j = true) ∧ (i < j → L j = false) := by
   intro j x hne hj hx
   obtain ⟨p, k', m'⟩ := x
   have hjn := hjlt j p k' m' hj
   rcases ok.uu i j o k m p k' m' hall ht hj hx (Ne.symm hne) with h | h
   ·have hji := bH (ok.iQ i o hi ho) h
    exact ⟨fun _ => hm j h, fun _ => by omega⟩
   ·have hji := bH (ok.iQ j p hjn (ok.get j p k' m' hj).1) h
    refine ⟨fun _ => by omega, fun _ => ?_⟩
    cases hL : L j with
    | false => rfl
    | true => have := inv.closed j i hjn hL h; rw [eY] at this; cases this
  rw [hvs fun j x hji hj hx => (hold j x (by omega) hj hx).1 hji]
  have hsplit : all = all.take i ++ all.drop i := (List.take_append_drop i all).symm
  have hlen : (all.take i).length = i := by rw [List.length_take]; omega
  conv => rhs; rw [hsplit]
  rw [aN, hlen, Nat.zero_add, bX (all.drop i) i fun x y hx hy => ?_, List.append_nil]
  rw [List.getElem?_drop] at hx
  by_cases h0 : x = 0
  ·subst h0; simpa using eY
  ·exact (hold (i + x) y (by omega) hx hy).2 (by omega)
 have other : ∀ v w', (o.dst = none → v = undef) → (Ext w w' ∨ G w w') → bQ P ops o (a.put o.dst v) w' k → S (if ae k = 3 then valsOf L a all 0 ++ [v] else valsOf L a all 0) w' → K (a.put o.dst v) w' := by
  intro v w' tC hw' hself hS
  refine hK _ _ (inv.next ok hN hi eY hall hm (tH w' hw') tC hself hS) ?_
  rcases hw' with h | h
  ·exact fe.ie w w' h hI
  ·exact fe.ig w w' h hI
 unfold wpOp
 simp only [ho]
 cases k with
 | pure =>
   obtain ⟨v, hy, _⟩ := aG
   have hya : Yields P ops o v a := hy.of_same hex.symm hwt.symm
   have hk := other v w (fun hn => absurd (bW hn) id) (Or.inl (Ext.refl w)) (by
    show Yields P ops o (slot o (a.put o.dst v)) (a.put o.dst v)
    rw [aT (fun hn => absurd (bW hn) id) gP]
    exact hya.of_same (hown v).1 (hown v).2) (by simpa [ae] using inv.state)
   rcases hya with ⟨hw, hv⟩ | ⟨hw, rfl⟩
   ·rw [if_pos hw]; left; simp only [Oper.wp, hv w, Oper.upon]; exact hk
   ·rw [if_neg (by simp [hw])]; exact hk
 | minor α dd val Post =>
   cases hw : Region.wanted o (yielded ops ac.tmps) with
   | true =>
     rw [if_pos (by rw [← hwt]; exact hw)]
     left
     refine jw hcsz ((aG.1 hw).1 w hI jy) hex hw fun v w' ⟨⟨x, hx, hpx⟩, he⟩ => ?_
     refine other v w' (fun hn => absurd (bW hn) id) (Or.inl he) ⟨fun _ => ⟨x, by rw [aT (fun hn => absurd (bW hn) id) gP]; exact hx, hpx⟩, fun h => ?_⟩ (by simpa [ae] using fe.s _ w w' he inv.state)
     rw [(hown v).2, ← hwt, hw] at h; cases h
   | false =>
     rw [if_neg (by rw [← hwt]; simp [hw])]
     refine other undef w (fun hn => absurd (bW hn) id) (Or.inl (Ext.refl w)) ⟨fun h => ?_, fun _ => aT (fun hn => absurd (bW hn) id) gP⟩ (by simpa [ae] using inv.state)
     rw [(hown undef).2, ← hwt, hw] at h; cases h
 | pinned α dd val Post =>
   cases hw : Region.wanted o (yielded ops ac.tmps) with
   | true =>
     rw [if_pos (by rw [← hwt]; exact hw)]
     left
     refine jw hcsz ((aG.1 hw).1 w hI (by rw [gQ (Or.inr rfl)]; exact inv.state) jy) hex hw fun v w' ⟨⟨x, hx, hpx⟩, he⟩ => ?_
     refine other v w' (fun hn => absurd (bW hn) id) (Or.inl he) ⟨fun _ => ⟨x, by rw [aT (fun hn => absurd (bW hn) id) gP]; exact hx, hpx⟩, fun h => ?_⟩ (by simpa [ae] using fe.s _ w w' he inv.state)
     rw [(hown v).2, ← hwt, hw] at h; cases h
   | false =>
     rw [if_neg (by rw [← hwt]; simp [hw])]
     refine other undef w (fun hn => absurd (bW hn) id) (Or.inl (Ext.refl w)) ⟨fun h => ?_, fun _ => aT (fun hn => absurd (bW hn) id) gP⟩ (by simpa [ae] using inv.state)
     rw [(hown undef).2, ← hwt, hw] at h; cases h
 | major α dd val =>
   cases hw : Region.wanted o (yielded ops ac.tmps) with
   | true =>
     rw [if_pos (by rw [← hwt]; exact hw)]
     left
     refine jw hcsz ((aG.1 hw).1 w hI (by rw [gQ (Or.inl rfl)]; exact inv.state) jy) hex hw fun v w' ⟨⟨⟨x, hx⟩, hS⟩, hg⟩ => ?_
     refine other v w' (fun hn => by rw [hx]; exact bW hn x) (Or.inr hg) ⟨fun _ => ⟨x, by rw [aT (fun hn => by rw [hx]; exact bW hn x) gP]; exact hx⟩, fun h => ?_⟩ (by rw [gQ (Or.inl rfl)] at hS; simpa [ae] using hS)
     rw [(hown v).2, ← hwt, hw] at h; cases h
   | false =>
     rw [if_neg (by rw [← hwt]; simp [hw])]
     have hS := (aG.2 hw).1 w hI (by rw [gQ (Or.inl rfl)]; exact inv.state)
     rw [gQ (Or.inl rfl)] at hS
     refine other undef w (fun _ => rfl) (Or.inl (Ext.refl w)) ⟨fun h => ?_, fun _ => aT (fun _ => rfl) gP⟩ (by simpa [ae] using hS)
     rw [(hown undef).2, ← hwt, hw] at h; cases h
def Last (P : Program) (ops : Array Oper) (I : World → Prop) (S : List Value → World → Prop) (Q : Exit → Act → World → Prop) (n : Nat) (a : Act) (F : List (World → Prop)) (vs : List Value) : Prop :=
 ∀ w, I w → S vs w → dW w F → wpList P ops Q (ops.toList.drop n) a w
theorem pX {a b : Act} (h1 : a.defers = b.defers) (hs : a.tmps.size = b.tmps.size) (h : ∀ t : Nat, a.tmps[t]? = b.tmps[t]?) : a = b := by
 obtain ⟨at_, ad⟩ := a
 obtain ⟨bt, bd⟩ := b
 simp only at h1 hs h
 subst h1
 congr 1
 apply Array.ext hs
 intro i hi hi'
 have := h i
 simpa [hi, hi'] using this
theorem oh {n N : Nat} {ms : List (List Bool)} {all : List (Oper × Kind × List Bool)} {a0 a : Act} {L : Nat → Bool} {w : World} {Q : Exit → Act → World → Prop} (ok : Ok ops n N ms all) (hN : a0.tmps.size = N)
 (hp : pass P ops I S G (Last P ops I S Q n) all a0 [] []) (inv : Inv P ops S n ms all a0 L a w) (hI : I w) (hL : ∀ j, j < n → L j = true) : wpList P ops Q (ops.toList.drop n) a w := by
 obtain ⟨ac, F, vs, aG, hag, hF, hf, hvs⟩ := iT ok hN inv hp n (Nat.le_refl _)
 have hd : all.drop n = [] := List.drop_eq_nil_of_le (by rw [ok.len]; exact Nat.le_refl _)
 rw [hd] at aG
 have hv : vs = valsOf L a all 0 := by
  rw [hvs fun i x hi _ _ => hL i hi, List.take_of_length_le (by rw [ok.len]; exact Nat.le_refl _)]
 have hac : ac = a := by
  refine pX (hag.defers.trans inv.defers.symm) (hag.size.trans inv.size.symm) fun t => ?_
  by_cases hx : ∃ (i : Nat) (p : Oper), i < n ∧ ops[i]? = some p ∧ p.dst = some t
  ·obtain ⟨i, p, hin, hp, hdt⟩ := hx
   exact hag.done i p t hin hin (hL i hin) hp hdt
  ·rw [hag.rest t fun i p _ hin hp hdt => hx ⟨i, p, hin, hp, hdt⟩, inv.frame t fun i p hin _ hp hdt => hx ⟨i, p, hin, hp, hdt⟩]
 subst hac
 exact aG w hI (by rw [hv]; exact inv.state) (eZ F fun i f hi => hf i f (hL i (by have := (List.getElem?_eq_some_iff.1 hi).1; omega)) hi)
theorem iU {f : Nat → Bool} : ∀ n, (∃ j, j < n ∧ f j = false) → ∃ j, j < n ∧ f j = false ∧ ∀ i, i < j → f i = true
 | 0, ⟨j, h, _⟩ => by omega
 | n + 1, ⟨j, hj, hf⟩ => by
   by_cases hx : ∃ i, i < n ∧ f i = false
   ·obtain ⟨i, hi, h1, h2⟩ := iU n hx
    exact ⟨i, by omega, h1, h2⟩
   ·have hjn : j = n := by
     rcases Nat.lt_or_ge j n with h | h
     ·exact (hx ⟨j, h, hf⟩).elim
     ·omega
    subst hjn
    refine ⟨j, hj, hf, fun i hi => ?_⟩
    cases h : f i with
    | true => rfl
    | false => exact (hx ⟨i, hi, h⟩).elim
theorem gT {l : Array Bool} {i : Nat} (h : l.getD i true = false) : i < l.size := by
 rcases Nat.lt_or_ge i l.size with h' | h'
 ·exact h'
 ·simp [Array.getElem?_eq_none h'] at h
theorem dX {l : Array Bool} {i : Nat} (h : i < l.size) (d d' : Bool) : l.getD i d = l.getD i d' := by simp [h]
theorem iV {l : Array Bool} {i : Nat} (h : i < l.size) : (fun j => (l.setIfInBounds i true).getD j false) = more (fun j => l.getD j false) i := by
 funext j
 by_cases hij : i = j
 ·subst hij; simp [more, h]
 ·have : (j == i) = false := by simp [Ne.symm hij]
  simp only [more, this, Bool.false_or]
  exact getD_set_ne false hij
theorem count_set {l : Array Bool} {i : Nat} (h : l.getD i true = false) : (l.setIfInBounds i true).toList.count false + 1 = l.toList.count false := by
 have hi := gT h
 have hl : l[i] = false := by simpa [hi] using h
 have hpos : 0 < l.toList.count false := List.count_pos_iff.2 (by rw [← hl]; exact Array.mem_toList_iff.2 (Array.getElem_mem hi))
 rw [Array.toList_setIfInBounds, List.count_set (by simpa using hi)]
 have e : (l.toList[i]'(by simpa using hi) == false) = true := by simp [hl]
 rw [if_pos e, if_neg (by decide)]
 omega
theorem om {n N : Nat} {ms : List (List Bool)} {all : List (Oper × Kind × List Bool)} {a0 : Act} {Q : Exit → Act → World → Prop} (ok : Ok ops n N ms all) (hN : a0.tmps.size = N) (fe : pW I S G all)
 (hp : pass P ops I S G (Last P ops I S Q n) all a0 [] []) : ∀ (fuel : Nat) (listed : Array Bool) (a : Act) (w : World), listed.size = ops.size → listed.toList.count false ≤ fuel →
  (((∃ j, j < n ∧ listed.getD j false = false) ∧ Inv P ops S n ms all a0 (fun j => listed.getD j false) a w ∧ I w) ∨
    ∃ k, n ≤ k ∧ k ≤ ops.size ∧ (∀ j, j < k → listed.getD j false = true) ∧ (∀ j, k ≤ j → listed.getD j false = false) ∧ wpList P ops Q (ops.toList.drop k) a w) →
  (∀ j, n ≤ j → (∃ i, i < n ∧ listed.getD i false = false) → listed.getD j false = false) → wpAny P .any ops Q fuel listed a w := by
 intro fuel
 have fB : ∀ {listed : Array Bool} {i : Nat}, listed.size = ops.size → i ∈ Region.ready .any ops listed → ∃ o, ops[i]? = some o ∧ i < listed.size ∧ listed.getD i false = false ∧ ∀ e ∈ o.after, Region.binds .any e = true → listed.getD e.on false = true := by
  intro listed i hs h
  obtain ⟨h0, o, ho, hall⟩ := mem_ready.1 h
  have hlt := gT h0
  exact ⟨o, ho, hlt, by rw [dX hlt false true]; exact h0, hall⟩
 have iW : ∀ {listed : Array Bool} {j : Nat}, listed.size = ops.size → j < ops.size → listed.getD j false = false → (∀ i, i < j → listed.getD i false = true) → j ∈ Region.ready .any ops listed := by
  intro listed j hs hj hf hbe
  refine mem_ready.2 ⟨by rw [dX (by omega) true false]; exact hf, ops[j], by simp [hj], fun e he hb => hbe _ (ok.back j ops[j] (by simp [hj]) e he hb)⟩
 induction fuel with
 | zero =>
   intro listed a w hs hc jA _
   have hnone : ∀ j, j < ops.size → listed.getD j false = true := by
    intro j hj
    have hj' : j < listed.size := by omega
    have h0 : ¬ false ∈ listed.toList := fun h => by have := List.count_pos_iff.2 h; omega
    have : listed[j] ≠ false := fun e => h0 (by rw [← e]; exact Array.mem_toList_iff.2 (Array.getElem_mem hj'))
    simpa [hj'] using this
   have hr : Region.ready .any ops listed = [] := by
    cases hx : Region.ready .any ops listed with
    | nil => rfl
    | cons i l =>
      obtain ⟨o, ho, _, hf, _⟩ := fB hs (by rw [hx]; exact List.mem_cons_self ..)
      have := hnone i (Array.getElem?_eq_some_iff.1 ho).1
      rw [hf] at this; cases this
   refine ⟨hr, ?_⟩
   rcases jA with ⟨⟨j, hj, hf⟩, _⟩ | ⟨k, hnk, hks, _, hafter, hl⟩
   ·have := hnone j (by have := ok.le; omega)
    rw [hf] at this; cases this
   ·have hk : k = ops.size := by
     rcases Nat.lt_or_ge k ops.size with h | h
     ·have h1 := hnone k h; rw [hafter k (Nat.le_refl _)] at h1; cases h1
     ·omega
    rw [List.drop_eq_nil_of_le (by rw [Array.length_toList, hk]; exact Nat.le_refl _)] at hl
    exact hl
 | succ fuel ih =>
   intro listed a w hs hc jA lX
   rcases jA with ⟨hex, inv, hI⟩ | ⟨k, hnk, hks, fo, hafter, hl⟩
   ·obtain ⟨j0, hj0, hf0, hb0⟩ := iU n hex
    have sI := iW (j := j0) hs (by have := ok.le; omega) hf0 hb0
    refine ⟨fun h => (by rw [h] at sI; cases sI), fun i hi => ?_⟩
    obtain ⟨o, ho, hil, hif, jB⟩ := fB hs hi
    have hin : i < n := by
     rcases Nat.lt_or_ge i n with h | h
     ·exact h
     ·obtain ⟨e, he, hb, hon⟩ := ok.tail i o j0 h ho (by omega)
      have := jB e he hb
      rcases hon with hon | ⟨hon, hat⟩ | ⟨hon, _⟩
      ·rw [hon, hf0] at this; cases this
      ·have h2 := inv.closed e.on j0 hon this hat
       have h2 : listed.getD j0 false = true := h2
       rw [hf0] at h2; cases h2
      ·rw [lX e.on hon hex] at this; cases this
    have hm : ∀ j, at2 ms i j = true → (fun j => listed.getD j false) j = true := by
     intro j hj
     obtain ⟨e, he, hb, hon⟩ := ok.ahead i o j hin ho hj
     have h1 := jB e he hb
     rcases hon with rfl | hon
     ·exact h1
     ·exact inv.closed e.on j (by have := ok.back i o ho e he hb; omega) h1 hon
    refine og ok hN fe hp inv hI hin hif hm fun a' w' sJ hI' => ?_
    have hset : (fun j => (listed.setIfInBounds i true).getD j false) = more (fun j => listed.getD j false) i := iV hil
    have hcnt := count_set (l := listed) (i := i) (by rw [dX hil true false]; exact hif)
    refine ih _ a' w' (by simpa using hs) (by omega) ?_ ?_
    ·by_cases hall : ∀ j, j < n → more (fun j => listed.getD j false) i j = true
     ·right
      refine ⟨n, Nat.le_refl _, ok.le, fun j hj => ?_, fun j hj => ?_, oh ok hN hp sJ hI' hall⟩
      ·have := congrFun hset j; rw [this]; exact hall j hj
      ·have := congrFun hset j
       rw [this]
       have h1 := lX j hj hex
       have : (j == i) = false := by simp; omega
       simp only [more, this, Bool.false_or]
       exact h1
     ·left
      refine ⟨?_, by rw [hset]; exact sJ, hI'⟩
      have ⟨j, hj⟩ := Classical.not_forall.1 hall
      have ⟨hjn, hj2⟩ := Classical.not_imp.1 hj
      exact ⟨j, hjn, by have := congrFun hset j; rw [this]; simpa using hj2⟩
    ·intro j hj _
     have := congrFun hset j
     rw [this]
     have h1 := lX j hj hex
     have : (j == i) = false := by simp; omega
     simp only [more, this, Bool.false_or]
     exact h1
   ·refine ⟨fun h => ?_, fun i hi => ?_⟩
    ·have hk : k = ops.size := by
      rcases Nat.lt_or_ge k ops.size with hlt | hge
      ·have := iW hs hlt (hafter k (Nat.le_refl _)) fo
       rw [h] at this; cases this
      ·omega
     rw [List.drop_eq_nil_of_le (by rw [Array.length_toList, hk]; exact Nat.le_refl _)] at hl
     exact hl
    ·obtain ⟨o, ho, hil, hif, jB⟩ := fB hs hi
     have hki : k ≤ i := by
      rcases Nat.lt_or_ge i k with h | h
      ·have := fo i h; rw [hif] at this; cases this
      ·exact h
     have hik : i = k := by
      rcases Nat.lt_or_ge k i with h | h
      ·obtain ⟨e, he, hb, hon⟩ := ok.tail i o k (by omega) ho h
       have := jB e he hb
       rcases hon with hon | ⟨hon, hat⟩ | ⟨_, hon⟩
       ·rw [hon, hafter k (Nat.le_refl _)] at this; cases this
       ·obtain ⟨oe, hoe⟩ : ∃ oe, ops[e.on]? = some oe := ⟨_, Array.getElem?_eq_getElem (by have := ok.le; omega)⟩
        have := bH (ok.iQ e.on oe hon hoe) hat
        omega
       ·rw [hafter e.on (by omega)] at this; cases this
      ·omega
     subst hik
     have hilt : i < ops.toList.length := by rw [Array.length_toList]; exact (Array.getElem?_eq_some_iff.1 ho).1
     have tJ : ops.toList.drop i = o :: ops.toList.drop (i + 1) := by
      rw [List.drop_eq_getElem_cons hilt]
      have h1 := ho
      rw [← Array.getElem?_toList, List.getElem?_eq_getElem hilt] at h1
      rw [Option.some.inj h1]
     rw [tJ] at hl
     have hset : (fun j => (listed.setIfInBounds i true).getD j false) = more (fun j => listed.getD j false) i := iV hil
     have hcnt := count_set (l := listed) (i := i) (by rw [dX hil true false]; exact hif)
     have hw : wpOp P ops Q i (wpList P ops Q (ops.toList.drop (i + 1))) a w := by
      unfold wpOp
      simp only [ho]
      exact hl
     refine wpOp_mono (fun a' w' h => ih _ a' w' (by simpa using hs) (by omega) (Or.inr ⟨i + 1, by omega, by rw [Array.length_toList] at hilt; omega, fun j hj => ?_, fun j hj => ?_, h⟩) ?_) hw
     ·have := congrFun hset j
      rw [this]
      by_cases hji : j = i
      ·subst hji; exact eF
      ·exact cZ (fo j (by omega))
     ·have := congrFun hset j
      rw [this]
      have : (j == i) = false := by simp; omega
      simp only [more, this, Bool.false_or]
      exact hafter j (by omega)
     ·rintro j hj ⟨x, hx, tK⟩
      have := congrFun hset x
      rw [this] at tK
      have h2 := fo x (by omega)
      rw [cZ h2] at tK; cases tK
theorem region {n N : Nat} {ms : List (List Bool)} (all : List (Oper × Kind × List Bool)) {a : Act} {w : World} {id : Nat} {Q : Exit → Act → World → Prop} (I : World → Prop) (S : List Value → World → Prop) (G : World → World → Prop)
 (hm : P.follows .mixedOrders = true) (ok : Ok ops n N ms all) (hN : a.tmps.size = N) (fe : pW I S G all) (hn : 0 < n) (hI : I w.drew) (hS : S [] w.drew)
 (hp : pass P ops I S G (Last P ops I S Q n) all a [] []) : (Code.region id ops true).wp P Q a w := by
 refine wp_region_any hm ?_
 show wpAny P .any ops Q ops.size (Array.replicate ops.size false) a w.drew
 have jC : ∀ j, (Array.replicate ops.size false).getD j false = false := by
  intro j
  rcases Nat.lt_or_ge j ops.size with h | h
  ·simp [h]
  ·simp [Array.getElem?_eq_none (xs := Array.replicate ops.size false) (i := j) (by simpa using h)]
 refine om ok hN fe hp ops.size _ a w.drew (by simp) (by simp) (Or.inl ⟨⟨0, hn, jC 0⟩, ?_, hI⟩) fun j _ _ => jC j
 have hL : (fun j => (Array.replicate ops.size false).getD j false) = fun _ => false := funext jC
 rw [hL]
 refine ⟨rfl, rfl, fun t _ => rfl, fun i j _ h => (nomatch h), fun j o k m h => (nomatch h), ?_⟩
 rw [bX all 0 fun i x _ _ => rfl]
 exact hS
def mk (ops : Array Oper) (n : Nat) (ks : List Kind) (ms : List (List Bool)) : List (Oper × Kind × List Bool) := (ops.toList.take n).zip (ks.zip ms)
def jD : List (Oper × Kind × List Bool) → Prop
 | x :: r => (x.1.dst = none → silent x.2.1) ∧ jD r
 | [] => True
theorem gU : ∀ {l : List (Oper × Kind × List Bool)}, jD l → ∀ x ∈ l, x.1.dst = none → silent x.2.1
 | [], _, _, hx => nomatch hx
 | y :: l, h, x, hx => by
   rcases List.mem_cons.1 hx with rfl | hx
   ·exact h.1
   ·exact gU h.2 x hx
theorem lY (n N : Nat) (ms : List (List Bool)) (tags : List Nat) (ks : List Kind) {a : Act} {w : World} {id : Nat} {Q : Exit → Act → World → Prop} (I : World → Prop) (S : List Value → World → Prop) (G : World → World → Prop)
 (hm : P.follows .mixedOrders = true) (hok : (okB ops n N ms tags && (ms.length == n) && (tags.length == n) && decide (0 < n)) = true) (fC : ks.map ae = tags) (hN : a.tmps.size = N)
 (hs : ∀ vs w w', Ext w w' → S vs w → S vs w') (hie : ∀ w w', Ext w w' → I w → I w') (hig : ∀ w w', G w w' → I w → I w') (hst : stays G (mk ops n ks ms)) (hnn : jD (mk ops n ks ms)) (hI : I w.drew) (hS : S [] w.drew)
 (hp : pass P ops I S G (Last P ops I S Q n) (mk ops n ks ms) a [] []) : (Code.region id ops true).wp P Q a w := by
 simp only [Bool.and_eq_true, beq_iff_eq, decide_eq_true_eq] at hok
 obtain ⟨⟨⟨hok, iL⟩, htl⟩, hn⟩ := hok
 have hle : n ≤ ops.size := by
  unfold okB at hok
  rw [Bool.and_eq_true] at hok
  simpa using hok.1
 have hkl : ks.length = n := by rw [← htl, ← fC, List.length_map]
 have h1 : (mk ops n ks ms).map (·.1) = ops.toList.take n := by
  unfold mk
  rw [List.map_fst_zip]
  rw [List.length_zip, List.length_take, hkl, iL]; omega
 have hl0 : (ops.toList.take n).length = n := by rw [List.length_take, Array.length_toList]; omega
 have h2 : (mk ops n ks ms).map (·.2) = ks.zip ms := by
  unfold mk
  rw [List.map_snd_zip]
  rw [List.length_zip, hl0, hkl, iL]; omega
 have h3 : (mk ops n ks ms).map (·.2.2) = ms := by
  have : (mk ops n ks ms).map (·.2.2) = ((mk ops n ks ms).map (·.2)).map (·.2) := by rw [List.map_map]; rfl
  rw [this, h2, List.map_snd_zip]
  omega
 have h4 : (mk ops n ks ms).map (fun x => ae x.2.1) = tags := by
  have : (mk ops n ks ms).map (fun x => ae x.2.1) = (((mk ops n ks ms).map (·.2)).map (·.1)).map ae := by rw [List.map_map, List.map_map]; rfl
  rw [this, h2, List.map_fst_zip, fC]
  omega
 exact region _ I S G hm (pQ _ (by rw [h4]; exact hok) h1 h3 (gU hnn)) hN ⟨hs, hie, hig, hst⟩ hn hI hS hp
theorem tL (k N : Nat) (ms : List (List Bool)) (tags : List Nat) (ks : List Kind) {a : Act} {w : World} {id : Nat} {Q : Exit → Act → World → Prop} (I : World → Prop) (S : List Value → World → Prop) (G : World → World → Prop)
 (hm : P.follows .mixedOrders = true) (hok : ((okB ops k N ms tags && (ms.length == k) && (tags.length == k) && decide (0 < k)) && (ops.toList.take k).all (fun o => o.dst.isSome)) = true) (fC : ks.map ae = tags) (hN : a.tmps.size = N)
 (hs : ∀ vs w w', Ext w w' → S vs w → S vs w') (hie : ∀ w w', Ext w w' → I w → I w') (hig : ∀ w w', G w w' → I w → I w') (hst : stays G (mk ops k ks ms)) (hI : I w.drew) (hS : S [] w.drew)
 (hp : pass P ops I S G (Last P ops I S Q k) (mk ops k ks ms) a [] []) : (Code.region id ops true).wp P Q a w := by
 have h := Bool.and_eq_true_iff.1 hok
 refine lY (P := P) (ops := ops) k N ms tags ks I S G hm h.1 fC hN hs hie hig hst ?_ hI hS hp
 have key : ∀ l : List (Oper × Kind × List Bool), (∀ x ∈ l, x.1.dst.isSome = true) → jD l := by
  intro l
  induction l with
  | nil => intro _; trivial
  | cons x l ih => exact fun hl => ⟨fun e => (by have := hl x List.mem_cons_self; rw [e] at this; cases this), ih fun z hz => hl z (List.mem_cons_of_mem _ hz)⟩
 exact key _ fun x hx => List.all_eq_true.1 h.2 x.1 (List.of_mem_zip (a := x.1) (b := x.2) hx).1
inductive RC where
 | p (n : Nat)
 | m (n : Nat)
def row (i n : Nat) : List Bool := (List.range i).map n.testBit
def tg : RC → Nat | .p _ => 0 | .m _ => 1
def rows : Nat → List RC → List (List Bool)
 | i, .p n :: cs => row i n :: rows (i + 1) cs
 | i, .m n :: cs => row i n :: rows (i + 1) cs
 | _, [] => []
def need : List RC → Nat
 | .p _ :: cs => need cs
 | .m _ :: cs => need cs + 1
 | [] => 0
def jE : List Oper → Nat → List RC → List Value → List (Oper × Kind × List Bool)
 | o :: os, i, .p n :: cs, vs => (o, .pure, row i n) :: jE os (i + 1) cs vs
 | o :: os, i, .m n :: cs, v :: vs => (o, .minor Unit () (fun _ => v) (fun _ _ => True), row i n) :: jE os (i + 1) cs vs
 | _, _, _, _ => []
theorem gV (G : World → World → Prop) : ∀ (cs : List RC) (os : List Oper) (i : Nat) (vs : List Value), cs.length ≤ os.length → need cs = vs.length →
 (jE os i cs vs).map (·.1) = os.take cs.length ∧ (jE os i cs vs).map (fun x => ae x.2.1) = cs.map tg ∧ (jE os i cs vs).map (·.2.2) = rows i cs ∧ stays G (jE os i cs vs)
 | [], os, i, vs, _, _ => by cases os <;> exact ⟨rfl, rfl, rfl, trivial⟩
 | .p n :: cs, [], i, vs, h, _ => by simp at h
 | .m n :: cs, [], i, vs, h, _ => by simp at h
 | .p n :: cs, o :: os, i, vs, h, hv => by
   obtain ⟨h1, h2, h3, h4⟩ := gV G cs os (i + 1) vs (by simpa using h) hv
   exact ⟨congrArg (List.cons o) h1, congrArg (List.cons 0) h2, congrArg (List.cons (row i n)) h3, trivial, h4⟩
 | .m n :: cs, o :: os, i, [], h, hv => by simp [need] at hv
 | .m n :: cs, o :: os, i, v :: vs, h, hv => by
   obtain ⟨h1, h2, h3, h4⟩ := gV G cs os (i + 1) vs (by simpa using h) (by simpa [need] using hv)
   exact ⟨congrArg (List.cons o) h1, congrArg (List.cons 1) h2, congrArg (List.cons (row i n)) h3, ⟨fun _ _ _ _ _ => trivial, fun _ _ _ _ _ => trivial⟩, h4⟩
def uw (ops : Array Oper) (n N : Nat) (cs : List RC) : Bool :=
 okB ops n N (rows 0 cs) (cs.map tg) && decide (n ≤ ops.size) && decide (0 < n) && (cs.length == n) && (ops.toList.take n).all (fun o => o.dst.isSome)
theorem ro (w0 : World) (n N : Nat) (cs : List RC) (vs : List Value) {a : Act} {w : World} {id : Nat} {Q : Exit → Act → World → Prop}
 (hm : P.follows .mixedOrders = true) (hok : uw ops n N cs = true) (hk : need cs = vs.length) (hN : a.tmps.size = N) (hI : Below w0.heap.size w0 w.drew)
 (hp : pass P ops (fun W => Below w0.heap.size w0 W) (fun _ _ => True) (fun a b => Below a.heap.size a b) (Last P ops (fun W => Below w0.heap.size w0 W) (fun _ _ => True) Q n) (jE ops.toList 0 cs vs) a [] []) : (Code.region id ops true).wp P Q a w := by
 unfold uw at hok
 simp only [Bool.and_eq_true, beq_iff_eq, decide_eq_true_eq] at hok
 obtain ⟨⟨⟨⟨hok, hle⟩, h0⟩, rfl⟩, hd⟩ := hok
 obtain ⟨h1, h2, h3, h4⟩ := gV (fun a b => Below a.heap.size a b) cs ops.toList 0 vs (by simpa using hle) hk
 exact region (P := P) (ops := ops) (jE ops.toList 0 cs vs) (fun W => Below w0.heap.size w0 W) (fun _ _ => True) (fun a b => Below a.heap.size a b) hm
  (pQ (ops := ops) (by rw [h2]; exact hok) h1 h3 fun x hx e => (by
   have hx1 : x.1 ∈ ops.toList.take cs.length := by rw [← h1]; exact List.mem_map_of_mem hx
   have := List.all_eq_true.1 hd x.1 hx1
   rw [e] at this; cases this)) hN
  ⟨fun _ _ _ _ _ => trivial, fun _ _ he hb => hb.trans (Below.mono he hb.size), fun _ _ he hb => hb.trans (Below.mono he hb.size), h4⟩ h0 hI trivial hp
section
variable {o : Oper} {m : List Bool} {r : List (Oper × Kind × List Bool)} {a : Act} {F : List (World → Prop)} {vs : List Value}
theorem tN (v : Value) (h : Yields P ops o v a) (hn : pass P ops I S G fin r (a.put o.dst v) (F ++ [aX]) vs) : pass P ops I S G fin ((o, .pure, m) :: r) a F vs := ⟨v, h, hn⟩
theorem dK (v : Value) (hw : Region.wanted o (yielded ops a.tmps) = true) (h : ∀ w, (execOp a.eval o).run P w = .ok (.value v) w) (hn : pass P ops I S G fin r (a.put o.dst v) (F ++ [aX]) vs) : pass P ops I S G fin ((o, .pure, m) :: r) a F vs := ⟨v, Or.inl ⟨hw, h⟩, hn⟩
theorem uj (hw : Region.wanted o (yielded ops a.tmps) = false) (hn : pass P ops I S G fin r (a.put o.dst undef) (F ++ [aX]) vs) : pass P ops I S G fin ((o, .pure, m) :: r) a F vs := ⟨undef, Or.inr ⟨hw, rfl⟩, hn⟩
theorem dL {α : Type} {d : α} {val : α → Value} {Post : α → World → Prop} (hw : Region.wanted o (yielded ops a.tmps) = true) (h : ∀ w, I w → facts w m F → One P ops o a w fun v w' => (∃ x : α, v = val x ∧ Post x w') ∧ Ext w w')
 (hn : ∀ x : α, pass P ops I S G fin r (a.put o.dst (val x)) (F ++ [Post x]) vs) : pass P ops I S G fin ((o, .minor α d val Post, m) :: r) a F vs := ⟨fun _ => ⟨h, hn⟩, fun h' => by rw [hw] at h'; cases h'⟩
theorem pY {α : Type} {d : α} {val : α → Value} {Post : α → World → Prop} (hw : Region.wanted o (yielded ops a.tmps) = false)
 (hn : pass P ops I S G fin r (a.put o.dst undef) (F ++ [aX]) vs) : pass P ops I S G fin ((o, .minor α d val Post, m) :: r) a F vs := ⟨fun h' => (by rw [hw] at h'; cases h'), fun _ => hn⟩
theorem jF {α : Type} {d : α} {val : α → Value} {Post : α → World → Prop} (hw : Region.wanted o (yielded ops a.tmps) = true) (h : ∀ w, I w → S vs w → facts w m F → One P ops o a w fun v w' => (∃ x : α, v = val x ∧ Post x w') ∧ Ext w w')
 (hn : ∀ x : α, pass P ops I S G fin r (a.put o.dst (val x)) (F ++ [Post x]) vs) : pass P ops I S G fin ((o, .pinned α d val Post, m) :: r) a F vs := ⟨fun _ => ⟨h, hn⟩, fun h' => by rw [hw] at h'; cases h'⟩
theorem pF {α : Type} {d : α} {val : α → Value} {Post : α → World → Prop} (hw : Region.wanted o (yielded ops a.tmps) = false)
 (hn : pass P ops I S G fin r (a.put o.dst undef) (F ++ [aX]) vs) : pass P ops I S G fin ((o, .pinned α d val Post, m) :: r) a F vs := ⟨fun h' => (by rw [hw] at h'; cases h'), fun _ => hn⟩
theorem kv {α : Type} {d : α} {val : α → Value} (hw : Region.wanted o (yielded ops a.tmps) = true) (h : ∀ w, I w → S vs w → facts w m F → One P ops o a w fun v w' => ((∃ x : α, v = val x) ∧ S (vs ++ [v]) w') ∧ G w w')
 (hn : ∀ x : α, pass P ops I S G fin r (a.put o.dst (val x)) (F ++ [aX]) (vs ++ [val x])) : pass P ops I S G fin ((o, .major α d val, m) :: r) a F vs := ⟨fun _ => ⟨h, hn⟩, fun h' => by rw [hw] at h'; cases h'⟩
theorem p8 {α : Type} {d : α} {val : α → Value} (hw : Region.wanted o (yielded ops a.tmps) = false) (h : ∀ w, I w → S vs w → S (vs ++ [undef]) w)
 (hn : pass P ops I S G fin r (a.put o.dst undef) (F ++ [aX]) (vs ++ [undef])) : pass P ops I S G fin ((o, .major α d val, m) :: r) a F vs := ⟨fun h' => (by rw [hw] at h'; cases h'), fun _ => ⟨h, hn⟩⟩
theorem fD {n : Nat} {Q : Exit → Act → World → Prop} (h : ∀ w, I w → S vs w → dW w F → wpList P ops Q (ops.toList.drop n) a w) : pass P ops I S G (Last P ops I S Q n) [] a F vs := h
end
end Reg2
end Go.Proofs.YtfmpgdafnlehaaaGreat

namespace Go.Proofs.YtfmpgdafnlehaaaGreat
open Go.RowKit
abbrev gW : Bool := true
abbrev fT : Bool := false
namespace Reg2
abbrev Kind.mU (v : Value) : Kind := .minor Unit () (fun _ => v) (fun _ _ => True)
theorem rd {P : Program} {ops : Array Oper} (w0 : World) (k N : Nat) (ms : List (List Bool)) (tags : List Nat) (ks : List Kind) {a : Act} {w : World} {id : Nat} {Q : Exit → Act → World → Prop}
 (hm : P.follows .mixedOrders = true) (hok : ((okB ops k N ms tags && (ms.length == k) && (tags.length == k) && decide (0 < k)) && (ops.toList.take k).all (fun o => o.dst.isSome)) = true)
 (fC : ks.map ae = tags) (hN : a.tmps.size = N) (hst : stays (fun a b => Below a.heap.size a b) (mk ops k ks ms)) (hI : Below w0.heap.size w0 w.drew)
 (hp : pass P ops (fun W => Below w0.heap.size w0 W) (fun _ _ => True) (fun a b => Below a.heap.size a b) (Last P ops (fun W => Below w0.heap.size w0 W) (fun _ _ => True) Q k) (mk ops k ks ms) a [] []) : (Code.region id ops true).wp P Q a w :=
 tL k N ms tags ks (fun W => Below w0.heap.size w0 W) (fun _ _ => True) (fun a b => Below a.heap.size a b) hm hok fC hN (fun _ _ _ _ _ => trivial) (fun _ _ he hb => hb.trans (Below.mono he hb.size)) (fun _ _ he hb => hb.trans (Below.mono he hb.size)) hst hI trivial hp
theorem tt {G : World → World → Prop} : dw G (Kind.mU .nilFunc) := ⟨fun _ _ _ _ _ => trivial, fun _ _ _ _ _ => trivial⟩
section
variable {P : Program} {ops : Array Oper} {I : World → Prop} {S : List Value → World → Prop} {G : World → World → Prop} {fin : Act → List (World → Prop) → List Value → Prop} {o : Oper} {m : List Bool} {r : List (Oper × Kind × List Bool)} {a : Act} {F : List (World → Prop)} {vs : List Value}
theorem pm {α : Type} {d : α} {val : α → Value} {Post : α → World → Prop} (h : ∀ w, I w → facts w m F → wpList P ops (Done o (fun v w' => (∃ x : α, v = val x ∧ Post x w') ∧ Ext w w') a) [o] a w) (hn : ∀ x : α, pass P ops I S G fin r (a.put o.dst (val x)) (F ++ [Post x]) vs) (hw : Region.wanted o (yielded ops a.tmps) = true) : pass P ops I S G fin ((o, .minor α d val Post, m) :: r) a F vs := dL hw h hn
theorem pp {α : Type} {d : α} {val : α → Value} {Post : α → World → Prop} (h : ∀ w, I w → S vs w → facts w m F → wpList P ops (Done o (fun v w' => (∃ x : α, v = val x ∧ Post x w') ∧ Ext w w') a) [o] a w) (hn : ∀ x : α, pass P ops I S G fin r (a.put o.dst (val x)) (F ++ [Post x]) vs) (hw : Region.wanted o (yielded ops a.tmps) = true) : pass P ops I S G fin ((o, .pinned α d val Post, m) :: r) a F vs := jF hw h hn
theorem pj {α : Type} {d : α} {val : α → Value} (h : ∀ w, I w → S vs w → facts w m F → wpList P ops (Done o (fun v w' => ((∃ x : α, v = val x) ∧ S (vs ++ [v]) w') ∧ G w w') a) [o] a w) (hn : ∀ x : α, pass P ops I S G fin r (a.put o.dst (val x)) (F ++ [aX]) (vs ++ [val x])) (hw : Region.wanted o (yielded ops a.tmps) = true) : pass P ops I S G fin ((o, .major α d val, m) :: r) a F vs := kv hw h hn

end
end Reg2
end Go.Proofs.YtfmpgdafnlehaaaGreat


namespace Go.Proofs.YtfmpgdafnlehaaaGreat
open Go.RowKit Go.Lib
structure ay (S : Nat → Prop) (w w' : World) : Prop where
 os : w'.os = w.os
 tape : w'.tape = w.tape
 output : w'.output = w.output
 size : w.heap.size ≤ w'.heap.size
 block : ∀ k, k < w.heap.size → ¬ S k → w'.heap[k]? = w.heap[k]?
def nC (w : World) (S S' : Nat → Prop) : Prop := ∀ k, S' k → S k ∨ w.heap.size ≤ k
section
variable {S S' : Nat → Prop} {w w1 w2 : World}
theorem ay.refl (S : Nat → Prop) (w : World) : ay S w w := ⟨rfl, rfl, rfl, Nat.le_refl _, fun _ _ _ => rfl⟩
theorem ay.of_below (h : Below w.heap.size w w1) : ay S w w1 := ⟨h.os, h.tape, h.output, h.size, fun k hk _ => h.block k hk⟩
theorem ay.nD {g : Nat} (h : Put.Off g g w w1) (hg : S g) : ay S w w1 := ⟨h.os, h.tape, h.output, h.size, fun k hk hn => h.block k hk (fun e => hn (e ▸ hg)) (fun e => hn (e ▸ hg))⟩
theorem ay.trans (h : ay S w w1) (h' : ay S' w1 w2) (hg : nC w S S') : ay S w w2 :=
 ⟨h'.os.trans h.os, h'.tape.trans h.tape, h'.output.trans h.output, Nat.le_trans h.size h'.size, fun k hk hn => by
  rw [h'.block k (Nat.lt_of_lt_of_le hk h.size) (fun hs => (hg k hs).elim hn (fun hle => absurd hk (Nat.not_lt.2 hle)))]
  exact h.block k hk hn⟩
theorem ay.below {B : Nat} (h : ay S w w1) (hS : ∀ k, S k → B ≤ k) (hB : B ≤ w.heap.size) : Below B w w1 :=
 ⟨h.os, h.tape, h.output, h.size, fun k hk => h.block k (by omega) (fun hs => absurd (hS k hs) (by omega))⟩
theorem nC.refl (w : World) (S : Nat → Prop) : nC w S S := fun _ h => .inl h
end
section
variable {w w' : World} {p g n cap m : Nat} {dv lv : Value} {M : Md}
theorem eD {e : TypeId} {sz n B k : Nat} {v : Value} {xs : List Value} (h : w.ownsRow B e sz v n xs) (hk : v.ownBlock = some k) : ∃ cur, w.heap[k]? = some (.cells cur e (0, 0)) := by
 obtain ⟨_, ⟨rfl, _⟩ | ⟨g, cap, cur, rfl, _, hh, _⟩⟩ := h
 ·cases hk
 ·have : k = g := by simpa [Value.ownBlock] using hk.symm
  subst this
  exact ⟨cur, hh⟩
theorem oq {e : TypeId} {sz n B : Nat} {v : Value} {xs : List Value} (h : w.ownsRow B e sz v n xs) (hk : ∀ k, v.ownBlock = some k → w'.heap[k]? = w.heap[k]?) : w'.ownsRow B e sz v n xs := aM h hk
end
end Go.Proofs.YtfmpgdafnlehaaaGreat

namespace Go.Proofs.YtfmpgdafnlehaaaGreat
open Go.RowKit Go.Lib
structure Hd where
 wk : Nat
 who : Int
 x : Bool
 y : Bool
 z : Bool
 st : Int
 lk : Int
section
variable {w w' : World} {h : Nat} {H : Hd}
theorem aD {S : Nat → Prop} (ho : ay S w w') (hs : S h) (j : Nat) (v : Value) : ay S w (w'.setCell ⟨h, j, none⟩ v) :=
 ⟨ho.os, ho.tape, ho.output, by simpa using ho.size, fun k hk hn => by rw [Below.heap_setCell _ _ _ _ (fun e => hn (by rw [e]; exact hs))]; exact ho.block k hk hn⟩
end
end Go.Proofs.YtfmpgdafnlehaaaGreat

namespace Go.Proofs.YtfmpgdafnlehaaaGreat
open Go.RowKit Go.Lib
structure Fi where
 pl : Nat
 who : Int
 aZ : Int
 dep : Int
 st : Int
 it : Value
 ah : Int
def ag (w : World) (f : Nat) (F : Fi) : Prop := w.heap[f]? = some (.cells #[.pointer (some ⟨F.pl, 0, none⟩), .int .i64 F.who, .int .i64 F.aZ, .int .i64 F.dep, .int .i64 F.st, F.it, .int .i64 F.ah, .int .i64 0, .int .i64 0, .int .i64 0, .pointer none, .int .i64 0, .bool false] 113 (0, 0))
section
variable {w w' : World} {f : Nat} {F : Fi}
theorem ag.lt (q : ag w f F) : f < w.heap.size := aJ q
theorem ag.below {B : Nat} (q : ag w f F) (hb : Below B w w') (hs : f < B) : ag w' f F := by
 unfold ag at *; rw [hb.block f hs]; exact q
theorem ag.c0 (q : ag w f F) : w.cell? ⟨f, 0, none⟩ = some (.pointer (some ⟨F.pl, 0, none⟩)) := by simp [World.cell?, show w.heap[f]? = _ from q]
theorem ag.c1 (q : ag w f F) : w.cell? ⟨f, 1, none⟩ = some (.int .i64 F.who) := by simp [World.cell?, show w.heap[f]? = _ from q]
theorem ag.c2 (q : ag w f F) : w.cell? ⟨f, 2, none⟩ = some (.int .i64 F.aZ) := by simp [World.cell?, show w.heap[f]? = _ from q]
theorem ag.c3 (q : ag w f F) : w.cell? ⟨f, 3, none⟩ = some (.int .i64 F.dep) := by simp [World.cell?, show w.heap[f]? = _ from q]
theorem ag.c4 (q : ag w f F) : w.cell? ⟨f, 4, none⟩ = some (.int .i64 F.st) := by simp [World.cell?, show w.heap[f]? = _ from q]
theorem ag.c5 (q : ag w f F) : w.cell? ⟨f, 5, none⟩ = some F.it := by simp [World.cell?, show w.heap[f]? = _ from q]
theorem ag.c6 (q : ag w f F) : w.cell? ⟨f, 6, none⟩ = some (.int .i64 F.ah) := by simp [World.cell?, show w.heap[f]? = _ from q]
theorem ag.c10 (q : ag w f F) : w.cell? ⟨f, 10, none⟩ = some (.pointer none) := by simp [World.cell?, show w.heap[f]? = _ from q]
theorem ag.free (q : ag w f F) (j : Nat) : w.frozen? ⟨f, j, none⟩ = false := by simp [World.frozen?, show w.heap[f]? = _ from q]
theorem ag.tO (q : ag w f F) (n : Nat) : ag (w.setCell ⟨f, 0, none⟩ (.pointer (some ⟨n, 0, none⟩))) f { F with pl := n } := heap_put (i := 0) q _
theorem ag.setSt (q : ag w f F) (n : Int) : ag (w.setCell ⟨f, 4, none⟩ (.int .i64 n)) f { F with st := n } := heap_put (i := 4) q _
theorem ag.p9 (q : ag w f F) (v : Value) : ag (w.setCell ⟨f, 5, none⟩ v) f { F with it := v } := heap_put (i := 5) q _
theorem ag.rV (q : ag w f F) (n : Int) : ag (w.setCell ⟨f, 6, none⟩ (.int .i64 n)) f { F with ah := n } := heap_put (i := 6) q _
theorem ag.qa (q : ag w f F) : ag (w.setCell ⟨f, 10, none⟩ (.pointer none)) f F := heap_put (i := 10) q _
end
theorem fq (n : Int) (w : World) : Calls Tryz.prog 59 #[.int .i64 n] w fun e w' => e = .returned (.bool (decide (1 ≤ n) && decide (n ≤ 64))) ∧ w = w' := by
 by_cases h1 : 1 ≤ n
 ·have d1 : decide (1 ≤ n) = true := decide_eq_true h1
  go_enter Tryz.func59, Tryz.ntmps59
  go_wp2_with fail
  go_ret
  exact ⟨by simp [h1], rfl⟩
 ·have d1 : decide (1 ≤ n) = false := decide_eq_false h1
  go_enter Tryz.func59, Tryz.ntmps59
  go_wp2_with fail
  go_ret
  exact ⟨by simp [h1], rfl⟩
theorem ky (who aZ dep : Int) (h1 : 1 ≤ who) (h2 : 1 ≤ aZ ∧ aZ ≤ 64) (h3 : 1 ≤ dep ∧ dep ≤ 64) (w : World) : Calls Tryz.prog 18 #[.int .i64 who, .int .i64 aZ, .int .i64 dep] w fun e w' => ∃ f, e = .returned (.tuple #[.pointer (some ⟨f, 0, none⟩), .int .i64 0]) ∧ ag w' f ⟨w.heap.size, who, aZ, dep, 0, .slice none 0 0, 0⟩ ∧ w.heap.size < f ∧ Below w.heap.size w w' := by
 have g1 := fq aZ w
 have g2 := fq dep w
 rw [show (decide (1 ≤ aZ) && decide (aZ ≤ 64)) = true by simp [h2]] at g1
 rw [show (decide (1 ≤ dep) && decide (dep ≤ 64)) = true by simp [h3]] at g2
 have b1 : ¬ who < 1 := by omega
 have d1 : decide (who < 1) = false := decide_eq_false b1
 clear h2 h3
 obtain ⟨w1, hw1⟩ : ∃ w1, w1 = (w.alloc (.cells #[.pointer none, .slice none 0 0, .slice none 0 0] 111)).alloc (.cells #[.pointer (some ⟨w.heap.size, 0, none⟩), .int .i64 who, .int .i64 aZ, .int .i64 dep, .int .i64 0, .slice none 0 0, .int .i64 0, .int .i64 0, .int .i64 0, .int .i64 0, .pointer none, .int .i64 0, .bool false] 113) := ⟨_, rfl⟩
 have hb1 : Hid (Below w.heap.size w w1) := by show Below _ _ _; rw [hw1]; exact ((Below.refl _ _).alloc (Nat.le_refl _) _).alloc (by simp) _
 have q1 : Hid (ag w1 (w.heap.size + 1) ⟨w.heap.size, who, aZ, dep, 0, .slice none 0 0, 0⟩) := by show ag _ _ _; rw [hw1]; exact heap_alloc2_new w _ _
 go_enter Tryz.func18, Tryz.ntmps18
 go_wp2_with (go_at_call 59; first | (with_reducible refine g1.mono ?_; rintro e w' ⟨rfl, rfl⟩) | (with_reducible refine g2.mono ?_; rintro e w' ⟨rfl, rfl⟩))
 rw [← hw1]
 go_ret2
 exact ⟨_, rfl, q1.out, Nat.lt_succ_self _, hb1.out⟩
theorem ou (who aZ dep : Int) (h1 : who < 1) (w : World) : Calls Tryz.prog 18 #[.int .i64 who, .int .i64 aZ, .int .i64 dep] w fun e w' => e = .returned (.tuple #[.pointer none, .int .i64 1]) ∧ w = w' := by
 have d1 : decide (who < 1) = true := decide_eq_true h1
 go_enter Tryz.func18, Tryz.ntmps18
 go_wp2_with fail
 go_ret2
 exact ⟨rfl, rfl⟩
theorem aU {w : World} {f : Nat} {F : Fi} (q : ag w f F) (hw : F.who ≠ 0) : Calls Tryz.prog 19 #[.pointer (some ⟨f, 0, none⟩)] w fun e w' => e = .returned (.int .i64 F.st) ∧ w = w' := by
 have c1 := q.c1
 have c4 := q.c4
 have d : (F.who == 0) = false := by simp [hw]
 clear q
 go_enter Tryz.func19, Tryz.ntmps19
 go_wp2_with fail
 go_ret
 exact ⟨rfl, rfl⟩
theorem bY (w : World) : Calls Tryz.prog 19 #[.pointer none] w fun e w' => e = .returned (.int .i64 8) ∧ w = w' := by
 go_enter Tryz.func19, Tryz.ntmps19
 go_wp2_with fail
 go_ret
 exact ⟨rfl, rfl⟩
theorem fU (w : World) : Calls Tryz.prog 20 #[.pointer none] w fun e w' => e = .returned (.int .i64 0) ∧ w = w' := by
 go_enter Tryz.func20, Tryz.ntmps20
 go_wp2_with fail
 go_ret
 exact ⟨rfl, rfl⟩
theorem fV (w : World) : Calls Tryz.prog 21 #[.pointer none] w fun e w' => e = .returned (.bool false) ∧ w = w' := by
 go_enter Tryz.func21, Tryz.ntmps21
 go_wp2_with fail
 go_ret
 exact ⟨rfl, rfl⟩
theorem fZ (v : Value) (w : World) : Calls Tryz.prog 22 #[.pointer none, v] w fun e w' => e = .returned (.bool false) ∧ w = w' := by
 have hs := bY w
 go_enter Tryz.func22, Tryz.ntmps22
 go_wp2_with (go_at_call 19; go_must (refine hs.mono ?_); rintro e w' ⟨rfl, rfl⟩)
 go_ret
 exact ⟨rfl, rfl⟩
theorem iX {w : World} {f s : Nat} {F : Fi} {l : Lk} (k : Int) (q : ag w f F) (hl : au 29 w s l) (hn : 0 ≤ l.n ∧ l.n ≤ 1000000) (hk : l.dG k F.who = 0) (hst : 0 ≤ F.st ∧ F.st ≤ 100) (hne : f ≠ s) :
 Calls Tryz.prog 53 #[.pointer (some ⟨f, 0, none⟩), .pointer (some ⟨s, 0, none⟩), .int .i64 k] w fun e w' => e = .returned (.tuple #[]) ∧ ag w' f { F with st := F.st + 1 } ∧ au 29 w' s (l.dH k F.who) ∧ ay (fun k => k = f ∨ k = s) w w' := by
 have ht := rH k F.who hl hn
 rw [hk] at ht
 have c1 := q.c1
 have wi : IntKind.i64.wrap (F.st + 1) = F.st + 1 := IntWalk.i64_in _ (by omega)
 have q0 := Lib.hid q
 clear hl hk q
 go_enter Tryz.func53, Tryz.ntmps53
 go_wp2_with fail
 go_at_call 80
 refine ht.mono ?_
 clear ht c1
 rintro e w2 ⟨rfl, hl2, ho2⟩
 have q2 : ag w2 f F := (ho2.block f q0.out.lt hne hne).trans q0.out
 have qb : ay (fun k => k = f ∨ k = s) w w2 := ay.nD (S := fun k => k = f ∨ k = s) ho2 (.inr rfl)
 have c4 := q2.c4
 have f4 := q2.free 4
 have q3 := Lib.hid (q2.setSt (F.st + 1))
 have l3 : Hid (au 29 (w2.setCell ⟨f, 4, none⟩ (.int .i64 (F.st + 1))) s (l.dH k F.who)) := (Below.heap_setCell w2 ⟨f, 4, none⟩ _ s (Ne.symm hne)).trans hl2
 have ow : Hid (ay (fun k => k = f ∨ k = s) w (w2.setCell ⟨f, 4, none⟩ (.int .i64 (F.st + 1)))) := aD (h := f) qb (.inl rfl) 4 _
 clear hl2 ho2 q2 qb
 go_wp2_with fail
 go_end0
 exact ⟨rfl, q3.out, l3.out, ow.out⟩
theorem iY {w : World} {f s : Nat} {F : Fi} {l : Lk} (k : Int) (q : ag w f F) (hl : au 29 w s l) (hst : 0 ≤ F.st ∧ F.st ≤ 100) (hne : f ≠ s) :
 Calls Tryz.prog 55 #[.pointer (some ⟨f, 0, none⟩), .pointer (some ⟨s, 0, none⟩), .int .i64 k] w fun e w' => e = .returned (.tuple #[]) ∧ ag w' f { F with st := F.st + 1 } ∧ au 29 w' s (l.bO k F.who) ∧ ay (fun k => k = f ∨ k = s) w w' := by
 have ht := j5 k F.who hl
 have c1 := q.c1
 have wi : IntKind.i64.wrap (F.st + 1) = F.st + 1 := IntWalk.i64_in _ (by omega)
 have q0 := Lib.hid q
 generalize l.bN k F.who = r at *
 clear hl q
 go_enter Tryz.func55, Tryz.ntmps55
 go_wp2_with fail
 go_at_call 83
 refine ht.mono ?_
 clear ht c1
 rintro e w2 ⟨rfl, hl2, ho2⟩
 have q2 : ag w2 f F := (ho2.block f q0.out.lt hne hne).trans q0.out
 have qb : ay (fun k => k = f ∨ k = s) w w2 := ay.nD (S := fun k => k = f ∨ k = s) ho2 (.inr rfl)
 have c4 := q2.c4
 have f4 := q2.free 4
 have q3 := Lib.hid (q2.setSt (F.st + 1))
 have l3 : Hid (au 29 (w2.setCell ⟨f, 4, none⟩ (.int .i64 (F.st + 1))) s (l.bO k F.who)) := (Below.heap_setCell w2 ⟨f, 4, none⟩ _ s (Ne.symm hne)).trans hl2
 have ow : Hid (ay (fun k => k = f ∨ k = s) w (w2.setCell ⟨f, 4, none⟩ (.int .i64 (F.st + 1)))) := aD (h := f) qb (.inl rfl) 4 _
 clear hl2 ho2 q2 qb
 go_wp2_with fail
 go_end0
 exact ⟨rfl, q3.out, l3.out, ow.out⟩
end Go.Proofs.YtfmpgdafnlehaaaGreat

namespace Go.Proofs.YtfmpgdafnlehaaaGreat
open Go.RowKit Go.Lib
theorem kz {fn : Func} {p u v : Tmp} {ty : TypeId} (h : fn.results = #[.cell p ty, .tmp u, .tmp v]) (tmps : Array Value) (P : Program) (w : World) :
 (results fn tmps).run P w = ((asAddr (tmps.getD p undef)).run P w).andThen fun a w₁ => ((loadVar ty a).run P w₁).andThen fun x w₂ => .ok (.tuple #[x, tmps.getD u undef, tmps.getD v undef]) w₂ := by
 simp only [results, h]
 simp [Sem.run_bind, Result.andThen]
def aj (w : World) (b : Nat) : Prop := w.heap[b]? = some (.cells #[.int .i64 0, .int .i64 0] 44 (0, 0))
theorem aO {fn : Func} {q u v : Tmp} {b : Nat} {tmps : Array Value} {w : World} (h : fn.results = #[.cell q 44, .tmp u, .tmp v]) (ha : tmps.getD q undef = .pointer (some ⟨b, 0, none⟩)) (hb : aj w b) :
 (results fn tmps).run Tryz.prog w = .ok (.tuple #[.agg #[.int .i64 0, .int .i64 0], tmps.getD u undef, tmps.getD v undef]) w := by
 have h1 : Sem.run Tryz.prog (loadCells ⟨b, 0, none⟩ 2) w = .ok #[.int .i64 0, .int .i64 0] w := run_loadCells_list w ⟨b, 0, none⟩ [.int .i64 0, .int .i64 0] fun j u hj => by
  rw [Go.WideShapes.add_plain]
  show w.cell? ⟨b, 0 + j, none⟩ = _
  rw [Nat.zero_add]
  simp only [World.cell?, show w.heap[b]? = _ from hb]
  match j, hj with
  | 0, hj => simpa using hj
  | 1, hj => simpa using hj
  | n + 2, hj => simp at hj
 have aE : ∀ w, Sem.run Tryz.prog (isAgg 44) w = .ok true w := Tryz.isAgg44
 have zE : ∀ w, Sem.run Tryz.prog (Go.sizeOf 44) w = .ok 2 w := Tryz.sizeOf44
 rw [kz h, ha]
 simp only [loadVar, asAddr, Sem.run_bind, Sem.run_pure, Result.andThen_ok, aE, zE, h1, if_true]
theorem kC {w : World} {b i : Nat} {v : Value} {cs : Array Value} {t : TypeId} {fz : Nat × Nat} (h : w.heap[b]? = some (.cells cs t fz)) (hv : cs[i]? = some v) : w.setCell ⟨b, i, none⟩ v = w := by
 have hlt := aJ h
 have h3 : cs.setIfInBounds i v = cs := by
  refine Array.ext (by simp) fun q h4 h5 => ?_
  rw [Array.getElem_setIfInBounds]
  ·by_cases eq : i = q
   ·subst eq
    rw [Array.getElem?_eq_getElem h5] at hv
    rw [if_pos rfl]
    exact (Option.some.inj hv).symm
   ·rw [if_neg eq]
 have e : ∀ F : Obj → Obj, F (.cells cs t fz) = .cells cs t fz → w.heap.modify b F = w.heap := fun F hF => by
  refine Array.ext (by simp) fun j h1 h2 => ?_
  rw [Array.getElem_modify]
  by_cases ej : b = j
  ·subst ej
   rw [Array.getElem?_eq_getElem hlt] at h
   replace h := Option.some.inj h
   rw [if_pos rfl, h, hF]
  ·rw [if_neg ej]
 unfold World.setCell
 rw [e _ (by simp [h3])]
theorem ak {w : World} {b i : Nat} (h : aj w b) (hi : i < 2) : w.setCell ⟨b, i, none⟩ (.int .i64 0) = w ∧ w.cell? ⟨b, i, none⟩ = some (.int .i64 0) ∧ w.frozen? ⟨b, i, none⟩ = false := by
 have hc : (#[.int .i64 0, .int .i64 0] : Array Value)[i]? = some (.int .i64 0) := by
  match i, hi with
  | 0, _ => rfl
  | 1, _ => rfl
 refine ⟨kC h hc, ?_, by simp [World.frozen?, show w.heap[b]? = _ from h]⟩
 simp only [World.cell?, show w.heap[b]? = _ from h]
 exact hc
def bR : Value := .tuple #[.agg #[.int .i64 0, .int .i64 0], .bool false, .bool false]
section
variable {w : World} {f : Nat} {F : Fi} {cv sv : Value}
theorem lZ (w : World) : Calls Tryz.prog 17 #[.pointer none, cv, sv] w fun e w' => e = .returned bR ∧ Below w.heap.size w w' := by
 obtain ⟨w1, hw1⟩ : ∃ w1, w1 = w.alloc (.cells #[.int .i64 0, .int .i64 0] 44) := ⟨_, rfl⟩
 have hb1 : Below w.heap.size w w1 := by rw [hw1]; exact (Below.refl _ _).alloc (Nat.le_refl _) _
 have z1 : aj w1 w.heap.size := by rw [hw1]; exact heap_alloc_new w _
 have hg := bY w1
 obtain ⟨e0, c0, f0⟩ := ak z1 (show 0 < 2 by decide)
 obtain ⟨e1, c1, f1⟩ := ak z1 (show 1 < 2 by decide)
 replace hb1 := Lib.hid hb1
 replace z1 := Lib.hid z1
 rw [hw1] at hg
 replace hw1 := Lib.hid hw1
 go_enter Tryz.func17, Tryz.ntmps17
 go_wp2_with fail
 rw [← hw1.out] at hg ⊢
 go_at_call 19
 refine hg.mono ?_
 clear hg
 rintro e w' ⟨rfl, rfl⟩
 go_wp2_with fail
 exact bodyPost_ret (aO rfl rfl z1.out) rfl ⟨rfl, hb1.out⟩
theorem qc (q : ag w f F) (hw : F.who ≠ 0) (hs : F.st = 0) {Q : World → Prop} (hsub : ∀ w1, aj w1 w.heap.size → Below w.heap.size w w1 → Calls Tryz.prog 53 #[.pointer (some ⟨f, 0, none⟩), sv, .int .i64 0] w1 fun e w' => e = .returned (.tuple #[]) ∧ Q w' ∧ aj w' w.heap.size) :
 Calls Tryz.prog 17 #[.pointer (some ⟨f, 0, none⟩), cv, sv] w fun e w' => e = .returned bR ∧ Q w' := by
 obtain ⟨w1, hw1⟩ : ∃ w1, w1 = w.alloc (.cells #[.int .i64 0, .int .i64 0] 44) := ⟨_, rfl⟩
 have hb1 : Below w.heap.size w w1 := by rw [hw1]; exact (Below.refl _ _).alloc (Nat.le_refl _) _
 have z1 : aj w1 w.heap.size := by rw [hw1]; exact heap_alloc_new w _
 have hg := aU (q.below hb1 q.lt) hw
 have hc := hsub w1 z1 hb1
 rw [hs, hw1] at hg
 clear hb1 z1 hsub q hs hw
 go_enter Tryz.func17, Tryz.ntmps17
 go_wp2_with (go_at_call 19; go_must (refine hg.mono ?_); rintro e w' ⟨rfl, rfl⟩)
 rw [← hw1]
 clear hg
 replace hw1 := Lib.hid hw1
 go_at_call 53
 refine hc.mono ?_
 clear hc
 rintro e w2 ⟨rfl, hQ, z2⟩
 obtain ⟨e0, c0, f0⟩ := ak z2 (show 0 < 2 by decide)
 obtain ⟨e1, c1, f1⟩ := ak z2 (show 1 < 2 by decide)
 replace hQ := Lib.hid hQ
 replace z2 := Lib.hid z2
 go_wp2_with fail
 exact bodyPost_ret (aO rfl rfl z2.out) rfl ⟨rfl, hQ.out⟩
theorem qd (q : ag w f F) (hw : F.who ≠ 0) (hs : F.st = 1) {Q : World → Prop} (hsub : ∀ w1, aj w1 w.heap.size → Below w.heap.size w w1 → Calls Tryz.prog 54 #[.pointer (some ⟨f, 0, none⟩), cv] w1 fun e w' => e = .returned (.tuple #[]) ∧ Q w' ∧ aj w' w.heap.size) :
 Calls Tryz.prog 17 #[.pointer (some ⟨f, 0, none⟩), cv, sv] w fun e w' => e = .returned bR ∧ Q w' := by
 obtain ⟨w1, hw1⟩ : ∃ w1, w1 = w.alloc (.cells #[.int .i64 0, .int .i64 0] 44) := ⟨_, rfl⟩
 have hb1 : Below w.heap.size w w1 := by rw [hw1]; exact (Below.refl _ _).alloc (Nat.le_refl _) _
 have z1 : aj w1 w.heap.size := by rw [hw1]; exact heap_alloc_new w _
 have hg := aU (q.below hb1 q.lt) hw
 have hc := hsub w1 z1 hb1
 rw [hs, hw1] at hg
 clear hb1 z1 hsub q hs hw
 go_enter Tryz.func17, Tryz.ntmps17
 go_wp2_with (go_at_call 19; go_must (refine hg.mono ?_); rintro e w' ⟨rfl, rfl⟩)
 rw [← hw1]
 clear hg
 replace hw1 := Lib.hid hw1
 go_at_call 54
 refine hc.mono ?_
 clear hc
 rintro e w2 ⟨rfl, hQ, z2⟩
 obtain ⟨e0, c0, f0⟩ := ak z2 (show 0 < 2 by decide)
 obtain ⟨e1, c1, f1⟩ := ak z2 (show 1 < 2 by decide)
 replace hQ := Lib.hid hQ
 replace z2 := Lib.hid z2
 go_wp2_with fail
 exact bodyPost_ret (aO rfl rfl z2.out) rfl ⟨rfl, hQ.out⟩
theorem qf (q : ag w f F) (hw : F.who ≠ 0) (hs : F.st = 2) {Q : World → Prop} (hsub : ∀ w1, aj w1 w.heap.size → Below w.heap.size w w1 → Calls Tryz.prog 55 #[.pointer (some ⟨f, 0, none⟩), sv, .int .i64 0] w1 fun e w' => e = .returned (.tuple #[]) ∧ Q w' ∧ aj w' w.heap.size) :
 Calls Tryz.prog 17 #[.pointer (some ⟨f, 0, none⟩), cv, sv] w fun e w' => e = .returned bR ∧ Q w' := by
 obtain ⟨w1, hw1⟩ : ∃ w1, w1 = w.alloc (.cells #[.int .i64 0, .int .i64 0] 44) := ⟨_, rfl⟩
 have hb1 : Below w.heap.size w w1 := by rw [hw1]; exact (Below.refl _ _).alloc (Nat.le_refl _) _
 have z1 : aj w1 w.heap.size := by rw [hw1]; exact heap_alloc_new w _
 have hg := aU (q.below hb1 q.lt) hw
 have hc := hsub w1 z1 hb1
 rw [hs, hw1] at hg
 clear hb1 z1 hsub q hs hw
 go_enter Tryz.func17, Tryz.ntmps17
 go_wp2_with (go_at_call 19; go_must (refine hg.mono ?_); rintro e w' ⟨rfl, rfl⟩)
 rw [← hw1]
 clear hg
 replace hw1 := Lib.hid hw1
 go_at_call 55
 refine hc.mono ?_
 clear hc
 rintro e w2 ⟨rfl, hQ, z2⟩
 obtain ⟨e0, c0, f0⟩ := ak z2 (show 0 < 2 by decide)
 obtain ⟨e1, c1, f1⟩ := ak z2 (show 1 < 2 by decide)
 replace hQ := Lib.hid hQ
 replace z2 := Lib.hid z2
 go_wp2_with fail
 exact bodyPost_ret (aO rfl rfl z2.out) rfl ⟨rfl, hQ.out⟩
theorem qg (q : ag w f F) (hw : F.who ≠ 0) (hs : F.st = 3) {Q : World → Prop} (hsub : ∀ w1, aj w1 w.heap.size → Below w.heap.size w w1 → Calls Tryz.prog 53 #[.pointer (some ⟨f, 0, none⟩), sv, .int .i64 2] w1 fun e w' => e = .returned (.tuple #[]) ∧ Q w' ∧ aj w' w.heap.size) :
 Calls Tryz.prog 17 #[.pointer (some ⟨f, 0, none⟩), cv, sv] w fun e w' => e = .returned bR ∧ Q w' := by
 obtain ⟨w1, hw1⟩ : ∃ w1, w1 = w.alloc (.cells #[.int .i64 0, .int .i64 0] 44) := ⟨_, rfl⟩
 have hb1 : Below w.heap.size w w1 := by rw [hw1]; exact (Below.refl _ _).alloc (Nat.le_refl _) _
 have z1 : aj w1 w.heap.size := by rw [hw1]; exact heap_alloc_new w _
 have hg := aU (q.below hb1 q.lt) hw
 have hc := hsub w1 z1 hb1
 rw [hs, hw1] at hg
 clear hb1 z1 hsub q hs hw
 go_enter Tryz.func17, Tryz.ntmps17
 go_wp2_with (go_at_call 19; go_must (refine hg.mono ?_); rintro e w' ⟨rfl, rfl⟩)
 rw [← hw1]
 clear hg
 replace hw1 := Lib.hid hw1
 go_at_call 53
 refine hc.mono ?_
 clear hc
 rintro e w2 ⟨rfl, hQ, z2⟩
 obtain ⟨e0, c0, f0⟩ := ak z2 (show 0 < 2 by decide)
 obtain ⟨e1, c1, f1⟩ := ak z2 (show 1 < 2 by decide)
 replace hQ := Lib.hid hQ
 replace z2 := Lib.hid z2
 go_wp2_with fail
 exact bodyPost_ret (aO rfl rfl z2.out) rfl ⟨rfl, hQ.out⟩
theorem qh (q : ag w f F) (hw : F.who ≠ 0) (hs : F.st = 4) {Q : World → Prop} (hsub : ∀ w1, aj w1 w.heap.size → Below w.heap.size w w1 → Calls Tryz.prog 56 #[.pointer (some ⟨f, 0, none⟩), cv] w1 fun e w' => e = .returned (.tuple #[]) ∧ Q w' ∧ aj w' w.heap.size) :
 Calls Tryz.prog 17 #[.pointer (some ⟨f, 0, none⟩), cv, sv] w fun e w' => e = .returned bR ∧ Q w' := by
 obtain ⟨w1, hw1⟩ : ∃ w1, w1 = w.alloc (.cells #[.int .i64 0, .int .i64 0] 44) := ⟨_, rfl⟩
 have hb1 : Below w.heap.size w w1 := by rw [hw1]; exact (Below.refl _ _).alloc (Nat.le_refl _) _
 have z1 : aj w1 w.heap.size := by rw [hw1]; exact heap_alloc_new w _
 have hg := aU (q.below hb1 q.lt) hw
 have hc := hsub w1 z1 hb1
 rw [hs, hw1] at hg
 clear hb1 z1 hsub q hs hw
 go_enter Tryz.func17, Tryz.ntmps17
 go_wp2_with (go_at_call 19; go_must (refine hg.mono ?_); rintro e w' ⟨rfl, rfl⟩)
 rw [← hw1]
 clear hg
 replace hw1 := Lib.hid hw1
 go_at_call 56
 refine hc.mono ?_
 clear hc
 rintro e w2 ⟨rfl, hQ, z2⟩
 obtain ⟨e0, c0, f0⟩ := ak z2 (show 0 < 2 by decide)
 obtain ⟨e1, c1, f1⟩ := ak z2 (show 1 < 2 by decide)
 replace hQ := Lib.hid hQ
 replace z2 := Lib.hid z2
 go_wp2_with fail
 exact bodyPost_ret (aO rfl rfl z2.out) rfl ⟨rfl, hQ.out⟩
theorem ql (q : ag w f F) (hw : F.who ≠ 0) (hs : F.st = 5) {Q : World → Prop} (hsub : ∀ w1, aj w1 w.heap.size → Below w.heap.size w w1 → Calls Tryz.prog 55 #[.pointer (some ⟨f, 0, none⟩), sv, .int .i64 2] w1 fun e w' => e = .returned (.tuple #[]) ∧ Q w' ∧ aj w' w.heap.size) :
 Calls Tryz.prog 17 #[.pointer (some ⟨f, 0, none⟩), cv, sv] w fun e w' => e = .returned bR ∧ Q w' := by
 obtain ⟨w1, hw1⟩ : ∃ w1, w1 = w.alloc (.cells #[.int .i64 0, .int .i64 0] 44) := ⟨_, rfl⟩
 have hb1 : Below w.heap.size w w1 := by rw [hw1]; exact (Below.refl _ _).alloc (Nat.le_refl _) _
 have z1 : aj w1 w.heap.size := by rw [hw1]; exact heap_alloc_new w _
 have hg := aU (q.below hb1 q.lt) hw
 have hc := hsub w1 z1 hb1
 rw [hs, hw1] at hg
 clear hb1 z1 hsub q hs hw
 go_enter Tryz.func17, Tryz.ntmps17
 go_wp2_with (go_at_call 19; go_must (refine hg.mono ?_); rintro e w' ⟨rfl, rfl⟩)
 rw [← hw1]
 clear hg
 replace hw1 := Lib.hid hw1
 go_at_call 55
 refine hc.mono ?_
 clear hc
 rintro e w2 ⟨rfl, hQ, z2⟩
 obtain ⟨e0, c0, f0⟩ := ak z2 (show 0 < 2 by decide)
 obtain ⟨e1, c1, f1⟩ := ak z2 (show 1 < 2 by decide)
 replace hQ := Lib.hid hQ
 replace z2 := Lib.hid z2
 go_wp2_with fail
 exact bodyPost_ret (aO rfl rfl z2.out) rfl ⟨rfl, hQ.out⟩
theorem qm (q : ag w f F) (hw : F.who ≠ 0) (hs : F.st = 6) {Q : World → Prop} (hsub : ∀ w1, aj w1 w.heap.size → Below w.heap.size w w1 → Calls Tryz.prog 57 #[.pointer (some ⟨f, 0, none⟩)] w1 fun e w' => e = .returned (.tuple #[]) ∧ Q w' ∧ aj w' w.heap.size) :
 Calls Tryz.prog 17 #[.pointer (some ⟨f, 0, none⟩), cv, sv] w fun e w' => e = .returned bR ∧ Q w' := by
 obtain ⟨w1, hw1⟩ : ∃ w1, w1 = w.alloc (.cells #[.int .i64 0, .int .i64 0] 44) := ⟨_, rfl⟩
 have hb1 : Below w.heap.size w w1 := by rw [hw1]; exact (Below.refl _ _).alloc (Nat.le_refl _) _
 have z1 : aj w1 w.heap.size := by rw [hw1]; exact heap_alloc_new w _
 have hg := aU (q.below hb1 q.lt) hw
 have hc := hsub w1 z1 hb1
 rw [hs, hw1] at hg
 clear hb1 z1 hsub q hs hw
 go_enter Tryz.func17, Tryz.ntmps17
 go_wp2_with (go_at_call 19; go_must (refine hg.mono ?_); rintro e w' ⟨rfl, rfl⟩)
 rw [← hw1]
 clear hg
 replace hw1 := Lib.hid hw1
 go_at_call 57
 refine hc.mono ?_
 clear hc
 rintro e w2 ⟨rfl, hQ, z2⟩
 obtain ⟨e0, c0, f0⟩ := ak z2 (show 0 < 2 by decide)
 obtain ⟨e1, c1, f1⟩ := ak z2 (show 1 < 2 by decide)
 replace hQ := Lib.hid hQ
 replace z2 := Lib.hid z2
 go_wp2_with fail
 exact bodyPost_ret (aO rfl rfl z2.out) rfl ⟨rfl, hQ.out⟩
end
end Go.Proofs.YtfmpgdafnlehaaaGreat

namespace Go.Proofs.YtfmpgdafnlehaaaGreat
open Go.RowKit Go.Lib
def aF (n : Nat) : Md := ⟨0, List.replicate n false, [], false⟩
end Go.Proofs.YtfmpgdafnlehaaaGreat

namespace Go.Proofs.YtfmpgdafnlehaaaGreat
section
variable {M : Md}
theorem l5 {n : Nat} (hn : n < M.dr.length) : dV M n = if 0 ≤ holderL M.L n then (if M.dr.getD n false = true then 3 else 2) else if M.dr.getD n false = true then 4 else 1 := by
 unfold dV
 rw [if_neg (by omega)]
 simp only [Int.toNat_natCast]
theorem kD {n : Nat} (hn : ¬ n < M.dr.length) : dV M n = 0 := by
 unfold dV
 rw [if_pos (by omega)]
end
end Go.Proofs.YtfmpgdafnlehaaaGreat

namespace Go.Proofs.YtfmpgdafnlehaaaGreat
open Go.RowKit Go.Lib
open Go.ChangeShapes Go.WideShapes Go.ChangeAt Go.Deep
structure Rq where
 kind : Int
 id : Int
 user : Int
 width : Int
 limit : Int
 prio : Int
 held : Bool
 node : Int
 till : Int
deriving DecidableEq
section
end
end Go.Proofs.YtfmpgdafnlehaaaGreat

namespace Go.Proofs.YtfmpgdafnlehaaaGreat
open Go.RowKit Go.Lib Go.Sort
def dE (x y : Int) : Int := if x < y then -1 else if y < x then 1 else 0
theorem iZ (x : Int) (w : World) : Calls Tryz.prog 217 #[.int .i64 x] w fun e w' => e = .returned (.bool false) ∧ w = w' := by
 have h : (x != x) = false := by simp
 go_enter Tryz.func217, Tryz.ntmps217
 go_wp2_with fail
 go_ret
 exact ⟨rfl, rfl⟩
theorem gX (x y : Int) (w : World) : Calls Tryz.prog 181 #[.int .i64 x, .int .i64 y] w fun e w' => e = .returned (.int .i64 (dE x y)) ∧ w = w' := by
 have hx := iZ x w
 have hy := iZ y w
 unfold dE
 by_cases h1 : x < y
 ·have e1 : (if x < y then (-1 : Int) else if y < x then 1 else 0) = -1 := if_pos h1
  rw [e1]
  go_enter Tryz.func181, Tryz.ntmps181
  go_wp2_with (go_at_call 217; first | (refine hx.mono ?_; rintro e w' ⟨rfl, rfl⟩) | (refine hy.mono ?_; rintro e w' ⟨rfl, rfl⟩))
  go_ret
  exact ⟨rfl, rfl⟩
 ·by_cases h2 : y < x
  ·have e1 : (if x < y then (-1 : Int) else if y < x then 1 else 0) = 1 := by rw [if_neg h1, if_pos h2]
   rw [e1]
   go_enter Tryz.func181, Tryz.ntmps181
   go_wp2_with (go_at_call 217; first | (refine hx.mono ?_; rintro e w' ⟨rfl, rfl⟩) | (refine hy.mono ?_; rintro e w' ⟨rfl, rfl⟩))
   go_ret
   exact ⟨rfl, rfl⟩
  ·have e1 : (if x < y then (-1 : Int) else if y < x then 1 else 0) = 0 := by rw [if_neg h1, if_neg h2]
   rw [e1]
   go_enter Tryz.func181, Tryz.ntmps181
   go_wp2_with (go_at_call 217; first | (refine hx.mono ?_; rintro e w' ⟨rfl, rfl⟩) | (refine hy.mono ?_; rintro e w' ⟨rfl, rfl⟩))
   go_ret
   exact ⟨rfl, rfl⟩
theorem rW (x y : Int) (p c : Nat) (w : World) (h0 : w.cell? ⟨p, 0, none⟩ = some (.int .i64 x)) (h1 : w.cell? ⟨p, 1, none⟩ = some (.int .i64 y)) : Calls Tryz.prog 180 #[.slice (some ⟨p, 0, none⟩) 2 c] w fun e w' => e = .returned (.int .i64 (if x = 0 then y else x)) ∧ w = w' := by
 by_cases hx : x = 0
 ·subst hx
  rw [if_pos rfl]
  by_cases hy : y = 0
  ·subst hy
   go_enter Tryz.func180, Tryz.ntmps180
   go_wp2_with fail
   go_loopw [8] (fun ii wr => ∃ (i : Nat), i ≤ 2 ∧ ii = .int .i64 i ∧ wr = w) (fun ii _ => 2 - (intOf ii).toNat)
   case atStart => exact ⟨0, by omega, rfl, rfl⟩
   case round =>
    obtain ⟨i, hi, rfl, rfl⟩ := hrel
    rcases (by omega : i = 0 ∨ i = 1 ∨ i = 2) with rfl | rfl | rfl
    ·go_wp2_with fail
     go_roundw
     case rel => exact ⟨1, by omega, rfl, trivial⟩
     case measure => decide
    ·go_wp2_with fail
     go_roundw
     case rel => exact ⟨2, by omega, rfl, trivial⟩
     case measure => decide
    ·go_wp2_with fail
     go_ret
     exact ⟨rfl, rfl⟩
  ·have ny : (y != 0) = true := by simp [hy]
   go_enter Tryz.func180, Tryz.ntmps180
   go_wp2_with fail
   go_loopw [8] (fun ii wr => ∃ (i : Nat), i ≤ 1 ∧ ii = .int .i64 i ∧ wr = w) (fun ii _ => 2 - (intOf ii).toNat)
   case atStart => exact ⟨0, by omega, rfl, rfl⟩
   case round =>
    obtain ⟨i, hi, rfl, rfl⟩ := hrel
    rcases (by omega : i = 0 ∨ i = 1) with rfl | rfl
    ·go_wp2_with fail
     go_roundw
     case rel => exact ⟨1, by omega, rfl, trivial⟩
     case measure => decide
    ·go_wp2_with fail
     go_ret
     exact ⟨rfl, rfl⟩
 ·rw [if_neg hx]
  have nx : (x != 0) = true := by simp [hx]
  go_enter Tryz.func180, Tryz.ntmps180
  go_wp2_with fail
  go_loopw [8] (fun ii wr => ii = .int .i64 0 ∧ wr = w) (fun ii _ => 2 - (intOf ii).toNat)
  case atStart => exact ⟨rfl, rfl⟩
  case round =>
   obtain ⟨rfl, rfl⟩ := hrel
   go_wp2_with fail
   go_ret
   exact ⟨rfl, rfl⟩
theorem oz (a b : Jb) : (if dE b.prio a.prio = 0 then dE a.id b.id else dE b.prio a.prio) = gM a b := by
 unfold dE gM aA
 by_cases h1 : b.prio < a.prio
 ·simp [h1]
 ·by_cases h2 : a.prio < b.prio
  ·have : ¬ a.prio = b.prio := by omega
   have : ¬ b.prio = a.prio := by omega
   simp [*]
  ·have e : a.prio = b.prio := by omega
   simp [e]
end Go.Proofs.YtfmpgdafnlehaaaGreat

namespace Go.Proofs.YtfmpgdafnlehaaaGreat
open Go.RowKit Go.Lib Go.Sort
theorem kE (x y : Value) (t : Nat) (n : Nat) (W : World) (hn : n = W.heap.size) : (W.alloc (.cells #[x, y] t)).cell? ⟨n, 0, none⟩ = some x := by
 subst hn
 have h : (W.alloc (.cells #[x, y] t)).heap[W.heap.size]? = some (.cells #[x, y] t) := heap_alloc_new W _
 unfold World.cell?
 rw [h]
 rfl
theorem jG (x y : Value) (t : Nat) (n : Nat) (W : World) (hn : n = W.heap.size) : (W.alloc (.cells #[x, y] t)).cell? ⟨n, 1, none⟩ = some y := by
 subst hn
 have h : (W.alloc (.cells #[x, y] t)).heap[W.heap.size]? = some (.cells #[x, y] t) := heap_alloc_new W _
 unfold World.cell?
 rw [h]
 rfl
theorem qo (w : World) (o1 o2 : Obj) : ((w.alloc o1).alloc o2).heap.size = w.heap.size + 2 ∧ ((w.alloc o1).alloc o2).heap[w.heap.size]? = some o1 ∧ ((w.alloc o1).alloc o2).heap[w.heap.size + 1]? = some o2 := by
 refine ⟨by simp, ?_, ?_⟩
 ·rw [Below.heap_alloc _ _ _ (by simp)]; exact heap_alloc_new w o1
 ·have := heap_alloc_new (w.alloc o1) o2
  rwa [show (w.alloc o1).heap.size = w.heap.size + 1 from by simp] at this
theorem kF (a b : Jb) (w : World) : Calls Tryz.prog 141 #[.agg (ai a).toArray, .agg (ai b).toArray] w fun e w' => e = .returned (.int .i64 (gM a b)) ∧ Gr w w' := by
 rw [← oz]
 have hg : ∀ o1 o2 o3 : Obj, Gr w (((w.alloc o1).alloc o2).drew.alloc o3) := fun o1 o2 o3 => ⟨1, #[o1] ++ #[o2] ++ #[o3], by
  rw [Go.Sort.alloc_eq_grow, Go.Sort.alloc_eq_grow, Go.Sort.alloc_eq_grow, ← Go.Sort.grow_grow, ← Go.Sort.grow_grow]; rfl⟩
 obtain ⟨x1, x2, x3, x4, x5, x6, x7, x8, x9, x0⟩ := a
 obtain ⟨y1, y2, y3, y4, y5, y6, y7, y8, y9, y0⟩ := b
 have kG := (by kernel_rfl : Tryz.prog.follows .mixedOrders = true)
 unfold Jb.prio Jb.id
 simp only [ai]
 have c1 := fun W => (gX y5 x5 W).mono fun e w1 h => (⟨h.1, h.2.symm⟩ : _ ∧ w1 = W)
 have c2 := fun W => (gX x1 y1 W).mono fun e w1 h => (⟨h.1, h.2.symm⟩ : _ ∧ w1 = W)
 have ho := fun (n : Nat) (W : World) (hn : n = W.heap.size) => rW (dE y5 x5) (dE x1 y1) n 2 (W.alloc (.cells #[.int .i64 (dE y5 x5), .int .i64 (dE x1 y1)] 3)) (kE _ _ _ _ _ hn) (jG _ _ _ _ _ hn)
 generalize dE y5 x5 = r1 at *
 generalize dE x1 y1 = r2 at *
 generalize (if r1 = 0 then r2 else r1) = rr at *
 have HO := Lib.hid ho
 clear ho
 have C1 := Lib.hid c1
 have C2 := Lib.hid c2
 clear c1 c2
 go_enter Tryz.func141, Tryz.ntmps141
 go_wp2_with fail
 have H2 := qo w (.cells #[.int .i64 x1, .int .i64 x2, .int .i64 x3, .int .i64 x4, .int .i64 x5, .int .i64 x6, .int .i64 x7, .int .i64 x8, .int .i64 x9, .int .u64 x0] 94) (.cells #[.int .i64 y1, .int .i64 y2, .int .i64 y3, .int .i64 y4, .int .i64 y5, .int .i64 y6, .int .i64 y7, .int .i64 y8, .int .i64 y9, .int .u64 y0] 94)
 have hg2 := fun o3 => hg (.cells #[.int .i64 x1, .int .i64 x2, .int .i64 x3, .int .i64 x4, .int .i64 x5, .int .i64 x6, .int .i64 x7, .int .i64 x8, .int .i64 x9, .int .u64 x0] 94) (.cells #[.int .i64 y1, .int .i64 y2, .int .i64 y3, .int .i64 y4, .int .i64 y5, .int .i64 y6, .int .i64 y7, .int .i64 y8, .int .i64 y9, .int .u64 y0] 94) o3
 clear hg
 generalize ((w.alloc (.cells #[.int .i64 x1, .int .i64 x2, .int .i64 x3, .int .i64 x4, .int .i64 x5, .int .i64 x6, .int .i64 x7, .int .i64 x8, .int .i64 x9, .int .u64 x0] 94)).alloc (.cells #[.int .i64 y1, .int .i64 y2, .int .i64 y3, .int .i64 y4, .int .i64 y5, .int .i64 y6, .int .i64 y7, .int .i64 y8, .int .i64 y9, .int .u64 y0] 94)) = wr at *
 obtain ⟨hsz, hA, hB⟩ := H2
 have vT : wr.drew.cell? ⟨w.heap.size, 0, none⟩ = some (.int .i64 x1) := by
  show wr.cell? _ = _
  unfold World.cell?
  rw [hA]; rfl
 have vU : wr.drew.cell? ⟨w.heap.size, 4, none⟩ = some (.int .i64 x5) := by
  show wr.cell? _ = _
  unfold World.cell?
  rw [hA]; rfl
 have vV : wr.drew.cell? ⟨w.heap.size + 1, 0, none⟩ = some (.int .i64 y1) := by
  show wr.cell? _ = _
  unfold World.cell?
  rw [hB]; rfl
 have vW : wr.drew.cell? ⟨w.heap.size + 1, 4, none⟩ = some (.int .i64 y5) := by
  show wr.cell? _ = _
  unfold World.cell?
  rw [hB]; rfl
 clear hA hB
 replace hsz := Lib.hid hsz
 replace hg2 := Lib.hid hg2
 refine wp_region_still_tail 10 kG (by kernel_rfl) ?_
 simp only [List.take_succ_cons, List.take_zero, List.drop_succ_cons, List.drop_zero]
 change wpStill _ _ wr.drew _ _ _
 still_step
 still_step
 still_step
 still_step
 still_call (C1.out _)
 still_step
 still_step
 still_step
 still_step
 still_call (C2.out _)
 refine wpStill_nil ?_
 change wpList _ _ _ _ _ wr.drew
 generalize wr.drew = w2 at *
 go_wp2_with (go_at_call 180; refine (HO.out _ _ ?_).mono ?_; rotate_left; rintro e w' ⟨rfl, rfl⟩)
 ·go_ret
  exact ⟨rfl, hg2.out _⟩
 ·rfl
end Go.Proofs.YtfmpgdafnlehaaaGreat

namespace Go.Proofs.YtfmpgdafnlehaaaGreat
namespace Sb
open Go.Sort
variable {α : Type} [Inhabited α]
def bI (a b n i : Nat) (d : Array α) : Array α := if i < n then bI a b n (i + 1) (swp d (a + i) (b + i)) else d
termination_by n - i
def bD (m i j : Nat) (d : Array α) : Array α :=
 if i = j ∨ i = 0 ∨ j = 0 then bI (m - i) m i 0 d
 else if j < i then bD m (i - j) j (bI (m - i) m j 0 d)
 else bD m i (j - i) (bI (m - i) (m + j - i) i 0 d)
termination_by i + j
def az (f : Nat → Bool) (i j : Nat) : Nat := if i < j then (if f ((i + j) / 2) then az f ((i + j) / 2 + 1) j else az f i ((i + j) / 2)) else i
termination_by j - i
def eH (e k : Nat) (d : Array α) : Array α := if k < e then eH e (k + 1) (swp d k (k + 1)) else d
termination_by e - k
def eO (i k : Nat) (d : Array α) : Array α := if i < k then eO i (k - 1) (swp d k (k - 1)) else d
termination_by k
def dM (lt : α → α → Bool) (a m b : Nat) (d : Array α) : Nat :=
 if (a + b) / 2 < m then az (fun c => !lt d[(a + b) / 2 + m - 1 - c]! d[c]!) ((a + b) / 2 + m - b) ((a + b) / 2)
 else az (fun c => !lt d[(a + b) / 2 + m - 1 - c]! d[c]!) a m
def symF (lt : α → α → Bool) : Nat → Nat → Nat → Nat → Array α → Array α
 | 0, _, _, _, d => d
 | f + 1, a, m, b, d =>
   if m - a = 1 then eH (az (fun h => lt d[h]! d[a]!) m b - 1) a d
   else if b - m = 1 then eO (az (fun h => !lt d[m]! d[h]!) a m) m d
   else
    let mid := (a + b) / 2
    let s := dM lt a m b d
    let e := mid + m - s
    let d1 := if s < m ∧ m < e then bD m (m - s) (e - m) d else d
    let d2 := if a < s ∧ s < mid then symF lt f a s mid d1 else d1
    if mid < e ∧ e < b then symF lt f mid e b d2 else d2
def bF (lt : α → α → Bool) (n a : Nat) (d : Array α) : Array α :=
 if a + 20 ≤ n then bF lt n (a + 20) (insertionSort lt d a (a + 20)) else insertionSort lt d a n
termination_by n - a
def bB (lt : α → α → Bool) (s n a : Nat) (d : Array α) : Array α :=
 if 0 < s ∧ a + 2 * s ≤ n then bB lt s n (a + 2 * s) (symF lt (2 * s) a (a + s) (a + 2 * s) d)
 else if a + s < n then symF lt (n - a) a (a + s) n d else d
termination_by n - a
def bZ (lt : α → α → Bool) (n s : Nat) (d : Array α) : Array α := if 0 < s ∧ s < n then bZ lt n (2 * s) (bB lt s n 0 d) else d
termination_by n - s
def fu (lt : α → α → Bool) (d : Array α) : Array α := bZ lt d.size 20 (bF lt d.size 0 d)
theorem jH {a b n i : Nat} {d : Array α} (h : i < n) : bI a b n i d = bI a b n (i + 1) (swp d (a + i) (b + i)) := by rw [bI, if_pos h]
theorem fE {a b n i : Nat} {d : Array α} (h : ¬ i < n) : bI a b n i d = d := by rw [bI, if_neg h]
theorem df {f : Nat → Bool} {i j : Nat} (h : i < j) (hf : f ((i + j) / 2) = true) : az f i j = az f ((i + j) / 2 + 1) j := by rw [az, if_pos h, if_pos hf]
theorem dY {f : Nat → Bool} {i j : Nat} (h : i < j) (hf : f ((i + j) / 2) = false) : az f i j = az f i ((i + j) / 2) := by rw [az, if_pos h, if_neg (by rw [hf]; decide)]
theorem bq {f : Nat → Bool} {i j : Nat} (h : ¬ i < j) : az f i j = i := by rw [az, if_neg h]
theorem nE {e k : Nat} {d : Array α} (h : k < e) : eH e k d = eH e (k + 1) (swp d k (k + 1)) := by rw [eH, if_pos h]
theorem jd {e k : Nat} {d : Array α} (h : ¬ k < e) : eH e k d = d := by rw [eH, if_neg h]
theorem nG {i k : Nat} {d : Array α} (h : i < k) : eO i k d = eO i (k - 1) (swp d k (k - 1)) := by rw [eO, if_pos h]
theorem je {i k : Nat} {d : Array α} (h : ¬ i < k) : eO i k d = d := by rw [eO, if_neg h]
theorem dh (a b n : Nat) : ∀ (t i : Nat) (d : Array α), n - i = t → i ≤ n → a + n ≤ b → b + n ≤ d.size →
 (bI a b n i d).size = d.size ∧ (∀ k, (bI a b n i d)[k]! = if a + i ≤ k ∧ k < a + n then d[k + (b - a)]! else if b + i ≤ k ∧ k < b + n then d[k - (b - a)]! else d[k]!) := by
 intro t
 induction t with
 | zero =>
   intro i d ht hi hab hb
   rw [fE (by omega)]
   exact ⟨rfl, fun k => by rw [if_neg (by omega), if_neg (by omega)]⟩
 | succ t ih =>
   intro i d ht hi hab hb
   rw [jH (by omega)]
   obtain ⟨h1, h2⟩ := ih (i + 1) (swp d (a + i) (b + i)) (by omega) (by omega) hab (by rw [swp_size]; exact hb)
   refine ⟨by rw [h1, swp_size], fun k => ?_⟩
   rw [h2 k]
   simp only [swp_get d (show a + i < d.size by omega) (show b + i < d.size by omega)]
   by_cases c1 : k = a + i
   ·subst c1
    rw [if_neg (by omega), if_neg (by omega), if_neg (by omega), if_pos rfl, if_pos (by omega)]
    congr 1; omega
   ·by_cases c2 : k = b + i
    ·subst c2
     rw [if_neg (by omega), if_neg (by omega), if_pos rfl, if_neg (by omega), if_pos (by omega)]
     congr 1; omega
    ·by_cases c3 : a + (i + 1) ≤ k ∧ k < a + n
     ·rw [if_pos c3, if_neg (by omega), if_neg (by omega), if_pos (by omega)]
     ·rw [if_neg c3]
      by_cases c4 : b + (i + 1) ≤ k ∧ k < b + n
      ·rw [if_pos c4, if_neg (by omega), if_neg (by omega), if_neg (by omega), if_pos (by omega)]
      ·rw [if_neg c4, if_neg c2, if_neg c1, if_neg (by omega), if_neg (by omega)]
theorem fF (a b n lo hi : Nat) : ∀ (t i : Nat) (d : Array α), n - i = t → lo ≤ a → a + n ≤ b → b + n ≤ hi → hi ≤ d.size → PermIn lo hi d (bI a b n i d) := by
 intro t
 induction t with
 | zero => intro i d ht h1 h2 h3 h4; rw [fE (by omega)]; exact permIn_refl _ _ _
 | succ t ih =>
   intro i d ht h1 h2 h3 h4
   rw [jH (by omega)]
   refine permIn_trans _ _ _ _ _ (swp_permIn d lo hi (a + i) (b + i) (by omega) (by omega) (by omega) (by omega) h4) ?_
   exact ih (i + 1) _ (by omega) h1 h2 h3 (by rw [swp_size]; exact h4)
theorem nH {m i : Nat} {d : Array α} : bD m i i d = bI (m - i) m i 0 d := by rw [bD, if_pos (.inl rfl)]
theorem nI {m i j : Nat} {d : Array α} (h : j < i) (hj : 0 < j) : bD m i j d = bD m (i - j) j (bI (m - i) m j 0 d) := by rw [bD, if_neg (by omega), if_pos h]
theorem nJ {m i j : Nat} {d : Array α} (h : i < j) (hi : 0 < i) : bD m i j d = bD m i (j - i) (bI (m - i) (m + j - i) i 0 d) := by rw [bD, if_neg (by omega), if_neg (by omega)]
theorem fG : ∀ (t m i j : Nat) (d : Array α), i + j ≤ t → 0 < i → 0 < j → i ≤ m → m + j ≤ d.size →
 (bD m i j d).size = d.size ∧ (∀ k, (bD m i j d)[k]! = if m - i ≤ k ∧ k < m - i + j then d[k + i]! else if m - i + j ≤ k ∧ k < m + j then d[k - j]! else d[k]!) ∧ ∀ lo hi, lo ≤ m - i → m + j ≤ hi → hi ≤ d.size → PermIn lo hi d (bD m i j d) := by
 intro t
 induction t with
 | zero => intro m i j d ht hi; omega
 | succ t ih =>
   intro m i j d ht hi hj him vX
   rcases Nat.lt_trichotomy i j with h | h | h
   ·obtain ⟨s1, s2⟩ := dh (m - i) (m + j - i) i (i - 0) 0 d rfl (Nat.zero_le _) (by omega) (by omega)
    have sp : ∀ lo hi, lo ≤ m - i → m + j ≤ hi → hi ≤ d.size → PermIn lo hi d (bI (m - i) (m + j - i) i 0 d) := fun lo hi h1 h2 h3 => fF (m - i) (m + j - i) i lo hi (i - 0) 0 d rfl h1 (by omega) (by omega) h3
    rw [nJ h hi]
    obtain ⟨r1, r2, r3⟩ := ih m i (j - i) (bI (m - i) (m + j - i) i 0 d) (by omega) hi (by omega) him (by rw [s1]; omega)
    refine ⟨by rw [r1, s1], fun k => ?_, fun lo hi' h1 h2 h3 => permIn_trans _ _ _ _ _ (sp lo hi' h1 h2 h3) (r3 lo hi' h1 (by omega) (by rw [s1]; exact h3))⟩
    rw [r2 k]
    simp only [s2]
    by_cases c1 : m - i ≤ k ∧ k < m - i + (j - i)
    ·rw [if_pos c1, if_neg (by omega), if_neg (by omega), if_pos (by omega)]
    ·rw [if_neg c1]
     by_cases c2 : m - i + (j - i) ≤ k ∧ k < m + (j - i)
     ·rw [if_pos c2, if_pos (by omega), if_pos (by omega)]
      congr 1; omega
     ·rw [if_neg c2]
      by_cases c3 : m - i + j ≤ k ∧ k < m + j
      ·rw [if_neg (by omega), if_pos (by omega), if_neg (by omega), if_pos c3]
       congr 1; omega
      ·rw [if_neg (by omega), if_neg (by omega), if_neg (by omega), if_neg c3]
   ·subst h
    rw [nH]
    obtain ⟨s1, s2⟩ := dh (m - i) m i (i - 0) 0 d rfl (Nat.zero_le _) (by omega) (by omega)
    refine ⟨s1, fun k => ?_, fun lo hi' h1 h2 h3 => fF (m - i) m i lo hi' (i - 0) 0 d rfl h1 (by omega) h2 h3⟩
    rw [s2 k]
    by_cases c1 : m - i ≤ k ∧ k < m - i + i
    ·rw [if_pos (by omega), if_pos c1]; congr 1; omega
    ·rw [if_neg (by omega), if_neg c1]
     by_cases c2 : m - i + i ≤ k ∧ k < m + i
     ·rw [if_pos (by omega), if_pos c2]; congr 1; omega
     ·rw [if_neg (by omega), if_neg c2]
   ·obtain ⟨s1, s2⟩ := dh (m - i) m j (j - 0) 0 d rfl (Nat.zero_le _) (by omega) (by omega)
    have sp : ∀ lo hi, lo ≤ m - i → m + j ≤ hi → hi ≤ d.size → PermIn lo hi d (bI (m - i) m j 0 d) := fun lo hi h1 h2 h3 => fF (m - i) m j lo hi (j - 0) 0 d rfl h1 (by omega) h2 h3
    rw [nI h hj]
    obtain ⟨r1, r2, r3⟩ := ih m (i - j) j (bI (m - i) m j 0 d) (by omega) (by omega) hj (by omega) (by rw [s1]; omega)
    refine ⟨by rw [r1, s1], fun k => ?_, fun lo hi' h1 h2 h3 => permIn_trans _ _ _ _ _ (sp lo hi' h1 h2 h3) (r3 lo hi' (by omega) h2 (by rw [s1]; exact h3))⟩
    rw [r2 k]
    simp only [s2]
    by_cases c0 : m - i ≤ k ∧ k < m - i + j
    ·rw [if_neg (by omega), if_neg (by omega), if_pos (by omega), if_pos c0]
     congr 1; omega
    ·rw [if_neg c0]
     by_cases c1 : m - (i - j) ≤ k ∧ k < m - (i - j) + j
     ·rw [if_pos c1, if_neg (by omega), if_pos (by omega), if_pos (by omega)]
      congr 1; omega
     ·rw [if_neg c1]
      by_cases c2 : m - (i - j) + j ≤ k ∧ k < m + j
      ·rw [if_pos c2, if_neg (by omega), if_neg (by omega), if_pos (by omega)]
      ·rw [if_neg c2, if_neg (by omega), if_neg (by omega), if_neg (by omega)]
theorem fH (f : Nat → Bool) : ∀ (t i j : Nat), j - i ≤ t → i ≤ j → (∀ x y, i ≤ x → x ≤ y → y < j → f y = true → f x = true) →
 i ≤ az f i j ∧ az f i j ≤ j ∧ (∀ x, i ≤ x → x < az f i j → f x = true) ∧ ∀ x, az f i j ≤ x → x < j → f x = false := by
 intro t
 induction t with
 | zero =>
   intro i j ht hij hm
   rw [bq (by omega)]
   exact ⟨Nat.le_refl _, hij, fun x h1 h2 => by omega, fun x h1 h2 => by omega⟩
 | succ t ih =>
   intro i j ht hij hm
   by_cases h : i < j
   ·cases hf : f ((i + j) / 2) with
    | true =>
      rw [df h hf]
      obtain ⟨h1, h2, h3, h4⟩ := ih ((i + j) / 2 + 1) j (by omega) (by omega) (fun x y a b c => hm x y (by omega) b c)
      refine ⟨by omega, h2, fun x h5 h6 => ?_, h4⟩
      by_cases h7 : x ≤ (i + j) / 2
      ·exact hm x _ h5 h7 (by omega) hf
      ·exact h3 x (by omega) h6
    | false =>
      rw [dY h hf]
      obtain ⟨h1, h2, h3, h4⟩ := ih i ((i + j) / 2) (by omega) (by omega) (fun x y a b c => hm x y a b (by omega))
      refine ⟨h1, by omega, h3, fun x h5 h6 => ?_⟩
      by_cases h7 : x < (i + j) / 2
      ·exact h4 x h5 h7
      ·cases hx : f x with
       | false => rfl
       | true =>
         have := hm ((i + j) / 2) x (by omega) (by omega) h6 hx
         rw [hf] at this; cases this
   ·rw [bq h]
    exact ⟨Nat.le_refl _, hij, fun x h1 h2 => by omega, fun x h1 h2 => by omega⟩
theorem jf (e : Nat) : ∀ (t k : Nat) (d : Array α), e - k = t → k ≤ e → e < d.size →
 (eH e k d).size = d.size ∧ (∀ x, (eH e k d)[x]! = if k ≤ x ∧ x < e then d[x + 1]! else if x = e then d[k]! else d[x]!) ∧ ∀ lo hi, lo ≤ k → e < hi → hi ≤ d.size → PermIn lo hi d (eH e k d) := by
 intro t
 induction t with
 | zero =>
   intro k d ht hk he
   rw [jd (by omega)]
   refine ⟨rfl, fun x => ?_, fun _ _ _ _ _ => permIn_refl _ _ _⟩
   rw [if_neg (by omega)]
   by_cases c : x = e
   ·rw [if_pos c, c]; congr 1; omega
   ·rw [if_neg c]
 | succ t ih =>
   intro k d ht hk he
   rw [nE (by omega)]
   obtain ⟨h1, h2, h3⟩ := ih (k + 1) (swp d k (k + 1)) (by omega) (by omega) (by rw [swp_size]; exact he)
   refine ⟨by rw [h1, swp_size], fun x => ?_, fun lo hi a b c => permIn_trans _ _ _ _ _ (swp_permIn d lo hi k (k + 1) a (by omega) (by omega) (by omega) c) (h3 lo hi (by omega) b (by rw [swp_size]; exact c))⟩
   rw [h2 x]
   simp only [swp_get d (show k < d.size by omega) (show k + 1 < d.size by omega)]
   by_cases c1 : k + 1 ≤ x ∧ x < e
   ·rw [if_pos c1, if_neg (by omega), if_neg (by omega), if_pos (by omega)]
   ·rw [if_neg c1]
    by_cases c2 : x = e
    ·rw [if_pos c2, if_pos trivial, if_neg (by omega), if_pos c2]
    ·rw [if_neg c2]
     by_cases c3 : x = k
     ·rw [if_neg (by omega), if_pos c3, if_pos (by omega), c3]
     ·rw [if_neg (by omega), if_neg c3, if_neg (by omega), if_neg c2]
theorem jg (i : Nat) : ∀ (t k : Nat) (d : Array α), k - i = t → i ≤ k → k < d.size →
 (eO i k d).size = d.size ∧ (∀ x, (eO i k d)[x]! = if i < x ∧ x ≤ k then d[x - 1]! else if x = i then d[k]! else d[x]!) ∧ ∀ lo hi, lo ≤ i → k < hi → hi ≤ d.size → PermIn lo hi d (eO i k d) := by
 intro t
 induction t with
 | zero =>
   intro k d ht hk he
   rw [je (by omega)]
   refine ⟨rfl, fun x => ?_, fun _ _ _ _ _ => permIn_refl _ _ _⟩
   rw [if_neg (by omega)]
   by_cases c : x = i
   ·rw [if_pos c, c]; congr 1; omega
   ·rw [if_neg c]
 | succ t ih =>
   intro k d ht hk he
   rw [nG (by omega)]
   obtain ⟨h1, h2, h3⟩ := ih (k - 1) (swp d k (k - 1)) (by omega) (by omega) (by rw [swp_size]; omega)
   refine ⟨by rw [h1, swp_size], fun x => ?_, fun lo hi a b c => permIn_trans _ _ _ _ _ (swp_permIn d lo hi k (k - 1) (by omega) b (by omega) (by omega) c) (h3 lo hi a (by omega) (by rw [swp_size]; exact c))⟩
   rw [h2 x]
   simp only [swp_get d (show k < d.size by omega) (show k - 1 < d.size by omega)]
   by_cases c1 : i < x ∧ x ≤ k - 1
   ·rw [if_pos c1, if_neg (by omega), if_neg (by omega), if_pos (by omega)]
   ·rw [if_neg c1]
    by_cases c2 : x = i
    ·rw [if_pos c2, if_pos trivial, if_neg (by omega), if_pos c2]
    ·rw [if_neg c2]
     by_cases c3 : x = k
     ·rw [if_neg (by omega), if_pos c3, if_pos (by omega), c3]
     ·rw [if_neg (by omega), if_neg c3, if_neg (by omega), if_neg c2]
end Sb
end Go.Proofs.YtfmpgdafnlehaaaGreat
