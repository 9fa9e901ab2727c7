/-
 Own words and walks, merged: part 4 of 9.
-/
import Derived.Laws.ResultCell
import Derived.BigQuiet
import Derived.WalkKit
import Derived.ProofKit
import Derived.OpenShut
import Derived.Test.YtelnhablglomjaaGreatRows
import Derived.WalkSpells
import Derived.WalkLawsBesides
import Derived.Deep.DeepMust
import Derived.Lib.Hide
import Derived.Laws.Bits128
import Derived.Lib.MinMax
import Derived.Test.YtelnhablglomjaaGreatZa3
set_option maxRecDepth 1000000
set_option maxHeartbeats 8000000
set_option linter.all false
namespace Go.Proofs.YtelnhablglomjaaGreat
open Go.RowKit Go.Lib Go.Sort Go.Shelf
theorem TI (l : List Jb) : ∀ u ∈ l.flatMap ai, u.oneCell' = true := by
 intro u hu
 obtain ⟨x, _, hx⟩ := List.mem_flatMap.1 hu
 exact dJ x u hx
theorem H8 {w : World} {b off : Nat} {l : List Jb} (h : ∀ i s j u, l[i]? = some s → (ai s)[j]? = some u → w.cell? ⟨b, off + (i * 10 + j), none⟩ = some u) : ∀ j u, (l.flatMap ai)[j]? = some u → w.cell? ((⟨b, off, none⟩ : Addr).add j) = some u := by
 intro j u hj
 rw [Go.WideShapes.add_plain]
 have key : ∀ (l : List Jb) (j : Nat), (l.flatMap ai)[j]? = some u → ∃ i s q, l[i]? = some s ∧ (ai s)[q]? = some u ∧ j = i * 10 + q := by
  intro l
  induction l with
  | nil => intro j hj; simp at hj
  | cons a l ih =>
    intro j hj
    rw [List.flatMap_cons] at hj
    by_cases hlt : j < 10
    ·rw [List.getElem?_append_left (by rw [ax]; exact hlt)] at hj
     exact ⟨0, a, j, rfl, hj, by omega⟩
    ·rw [List.getElem?_append_right (by rw [ax]; omega), ax] at hj
     obtain ⟨i, s, q, h1, h2, h3⟩ := ih _ hj
     exact ⟨i + 1, s, q, h1, h2, by omega⟩
 obtain ⟨i, s, q, h1, h2, rfl⟩ := key l j hj
 exact h i s q u h1 h2
section
variable {w : World} {v : Value} {l : List Jb}
theorem TJ (hr : aB ai 10 w v l) : Src Tryz.prog 10 60 v l.length (l.flatMap ai) w := by
 obtain ⟨ao, cap, rfl, q1, q2, q3⟩ := hr
 by_cases h0 : l.length = 0
 ·have : l = [] := List.eq_nil_of_length_eq_zero h0
  subst this
  rcases ao with _ | a
  ·exact Src.ofNil w Tryz.underlying60 cap
  ·exact Src.ofSlice w Tryz.underlying60 a 0 cap [] rfl (fun j u hj => by simp at hj) (fun u hu => by simp at hu)
 ·obtain ⟨b, off, rfl, hlt, hc⟩ := q3 (by omega)
  exact Src.ofSlice w Tryz.underlying60 ⟨b, off, none⟩ l.length cap _ (mY l) (H8 hc) (TI l)
def mZ (w : World) (l : List Jb) (e : Ending) (w' : World) : Prop :=
 ∃ v', e = .returned v' ∧ w'.ownsRow w.heap.size 92 10 v' l.length (l.flatMap ai) ∧ Below w.heap.size w w'
theorem D7 (hr : aB ai 10 w v l) (hl : l.length ≤ 1000) : Calls Tryz.prog 50 #[v] w (mZ w l) := by
 obtain ⟨i0, hi0, hz0, hz1, hz2⟩ := info_parts xI
 have hr1 := hr.below ((Below.refl w.heap.size w).alloc (Nat.le_refl _) (.cells #[] 92))
 have hown : (w.alloc (.cells #[] 92)).ownsRow w.heap.size 92 10 (.slice (some ⟨w.heap.size, 0, none⟩) 0 0) 0 [] := wX (vs := []) rfl (Nat.le_refl _) rfl (Nat.zero_le _)
 have hsrc := Lib.hid (TJ hr1)
 obtain ⟨ao, cap, rfl, q1, q2, q3⟩ := hr
 rcases ao with _ | a
 ·have hz : l = [] := by
   rcases Nat.eq_zero_or_pos l.length with h | h
   ·exact List.eq_nil_of_length_eq_zero h
   ·obtain ⟨b, off, e, _⟩ := q3 h; cases e
  subst hz
  have hnil : ∀ w : World, (binOp .eql 60 (.slice none 0 cap) (.slice none 0 0)).run Tryz.prog w = .ok (.bool true) w := fun w => Lib.run_eql_slice_nil w _ _ _ _ _ _ _ Tryz.underlying60
  have hfin : Hid (mZ w [] (.returned (.slice none 0 0)) w) := ⟨_, rfl, World.ownsRow_nil w w.heap.size 92 10, Below.refl _ _⟩
  clear hown hsrc q3 hr1
  simp only [List.length_nil] at *
  go_enter Tryz.func50, Tryz.ntmps50
  go_wp2_with fail
  go_ret
  exact hfin.out
 ·have hnil : ∀ w : World, (binOp .eql 60 (.slice (some a) l.length cap) (.slice none 0 0)).run Tryz.prog w = .ok (.bool false) w := fun w => Lib.run_eql_slice_nil w _ _ _ _ _ _ _ Tryz.underlying60
  obtain ⟨n, hn⟩ : ∃ n, l.length = n := ⟨_, rfl⟩
  rw [hn] at hnil hsrc hl ⊢
  clear q1 q2 q3 hr1
  replace hn := Lib.hid hn
  go_enter Tryz.func50, Tryz.ntmps50
  go_wp2_with (at_builtin; go_must (refine vQ _ rfl (.tmp 5) (.tmp 6) 60 60 rfl w.heap.size 92 i0 (.agg (ai default).toArray) 10 80 Tryz.underlying60 hi0 hz0 hz1 hz2 rfl (.slice (some ⟨w.heap.size, 0, none⟩) 0 0) 0 [] rfl hown (.slice (some a) n cap) n (l.flatMap ai) rfl hsrc.out ?c2 ?c3 ?c4 ?c5))
  case c2 => unfold maxLen; omega
  case c3 => omega
  case c4 => simp
  case c5 =>
   intro v' w2 hown3 hgrow
   have hfin : Hid (mZ w l (.returned v') w2) := ⟨_, rfl, by rw [hn.out]; exact hown3, ((Below.refl _ w).alloc (Nat.le_refl _) _).grown hgrow (by simp) (fun q hq => by cases hq; exact Nat.le_refl _)⟩
   clear hown hgrow hown3 hsrc
   go_wp2_with fail
   go_ret
   exact hfin.out
end
def uh (x : Jb × Nat) : List Value := ai x.1
theorem QB : ma uh 10 := ⟨fun x => ax x.1, fun x v hv => dJ x.1 v hv⟩
theorem Yz : ltOf (fun x y : Jb × Nat => zf x.1 y.1) = fun x y => aV x.1 y.1 := by
 funext x y
 exact GV x.1 y.1
theorem zy (a b : Jb) : aV a b = true ↔ (b.prio < a.prio ∨ a.prio = b.prio ∧ a.id < b.id) := by
 unfold aV; simp
theorem zz (a b : Jb) : aV a b = false ↔ ¬ (b.prio < a.prio ∨ a.prio = b.prio ∧ a.id < b.id) := by
 rw [← zy]; simp
theorem WI : SWO aV where
 irrefl x := by rw [zz]; omega
 trans x y z h1 h2 := by rw [zy] at *; omega
 ntrans x y z h1 h2 := by rw [zz] at *; omega
theorem Ky (blk off size : Nat) (w : World) : pF Tryz.prog 162 uh 10 (fun x y => zf x.1 y.1) blk off size w :=
 ⟨enters_of Tryz.func162 (by kernel_rfl) rfl, fun _ _ _ _ x y => zo x.1 y.1 _⟩
theorem QC (d : Array (Jb × Nat)) : flatK uh 10 d = ((d.toList.map (·.1)).flatMap ai).toArray := by
 rw [GQ uh 10 (fun x => ax x.1), List.flatMap_map]
 rfl
section
set_option maxHeartbeats 1000000
theorem NF (f : Value) (w : World) : Calls Tryz.prog 179 #[.slice none 0 0, .int .i64 0, .int .i64 0, f] w fun e w' => e = .returned (.tuple #[]) ∧ w = w' := by
 go_enter Tryz.func179, Tryz.ntmps179
 go_wp2_with fail
 go_loopw [8] (fun ii wr => ii = .int .i64 1 ∧ w = wr) (fun _ _ => 0)
 case atStart => exact ⟨rfl, rfl⟩
 case round =>
  obtain ⟨rfl, rfl⟩ := hrel
  go_wp2_with fail
  go_end0
  exact ⟨rfl, rfl⟩
theorem FN (f : Value) (w : World) : Calls Tryz.prog 177 #[.slice none 0 0, .int .i64 0, f] w fun e w' => e = .returned (.tuple #[]) ∧ w = w' := by
 have hi := NF f w
 go_enter Tryz.func177, Tryz.ntmps177
 go_wp2_with fail
 go_loopw [7, 8] (fun aa bb wr => aa = .int .i64 0 ∧ bb = .int .i64 20 ∧ w = wr) (fun _ _ _ => 0)
 case atStart => exact ⟨rfl, rfl, rfl⟩
 case round =>
  obtain ⟨rfl, rfl, rfl⟩ := hrel
  go_wp2_with (go_at_call 179; go_must (refine hi.mono ?_); rintro e9 w9 ⟨rfl, rfl⟩)
  go_loopw [6] (fun ss wr => ss = .int .i64 20 ∧ w = wr) (fun _ _ => 0)
  case atStart => exact ⟨rfl, rfl⟩
  case round =>
   obtain ⟨rfl, rfl⟩ := hrel
   go_wp2_with fail
   go_end0
   exact ⟨rfl, rfl⟩
theorem yB (f : Value) (w : World) : Calls Tryz.prog 172 #[.slice none 0 0, f] w fun e w' => e = .returned (.tuple #[]) ∧ w = w' := by
 have hc := FN f w
 go_enter Tryz.func172, Tryz.ntmps172
 go_wp2_with (go_at_call 177; go_must (refine hc.mono ?_); rintro e9 w9 ⟨rfl, rfl⟩)
 go_end0
 exact ⟨rfl, rfl⟩
end
def NG (l r : List Jb) : Prop := r.length = l.length ∧ (∀ i, i < l.length → Sb.Bh aV l i l.length < l.length ∧ r[Sb.Bh aV l i l.length]! = l[i]!) ∧ r.Perm l ∧ r.Pairwise fun x y => aV y x = false
theorem NH {base : Nat} (v : Value) (l : List Jb) (w : World) (h : w.ownsRow base 92 10 v l.length (l.flatMap ai)) (hlen : l.length ≤ 1000) (hbase : base ≤ w.heap.size) :
 Calls Tryz.prog 172 #[v, .func (.func 162) #[] #[]] w fun e w' => e = .returned (.tuple #[]) ∧ ∃ r, NG l r ∧ w'.ownsRow base 92 10 v r.length (r.flatMap ai) ∧ Below base w w' := by
 by_cases hv : v = .slice none 0 0
 ·have hz : l.length = 0 := by
   rcases h.2 with ⟨_, h0⟩ | ⟨g, cap, cur, e0, _⟩
   ·exact h0
   ·rw [hv] at e0; cases e0
  have hz : l = [] := List.eq_nil_of_length_eq_zero hz
  subst hz
  subst hv
  refine (yB _ w).mono ?_
  rintro e w' ⟨rfl, rfl⟩
  exact ⟨rfl, [], ⟨rfl, fun i hi => by simp at hi, List.Perm.refl _, List.Pairwise.nil⟩, h, Below.refl _ _⟩
 ·obtain ⟨g, cap, rfl, hb, hlt, _, _, hH⟩ := J2 h hv
  obtain ⟨r, hr, hrs, hpos, WJ, WK⟩ := Sb.NC (lt := aV) WI l
  have hts : (Sb.tagged l).toArray.size = l.length := by simp [Sb.tY]
  have YA : HoldsK uh 10 w g 0 (Sb.tagged l).toArray := by
   unfold HoldsK
   rw [QC]
   rw [show (Sb.tagged l).toArray.toList = Sb.tagged l from rfl, Sb.zt]
   exact hH
  have hc := Bq (cap := cap) (d := (Sb.tagged l).toArray) 10 Tryz.isAgg92 Tryz.sizeOf92 QB (Ky g 0 _ w) YA hlt (by omega)
  rw [hts] at hc
  rw [Yz, ← hr] at hc
  refine hc.mono ?_
  rintro e w' ⟨rfl, q, os, rfl⟩
  have hrl : (r.toList.map (·.1)).length = l.length := by simp [hrs]
  refine ⟨rfl, r.toList.map (·.1), ⟨hrl, fun i hi => ?_, WJ, WK⟩, ?_, ?_⟩
  ·obtain ⟨h1, h2⟩ := hpos i hi
   refine ⟨h1, ?_⟩
   rw [← h2]
   have h3 : Sb.Bh aV l i l.length < r.size := by omega
   rw [getElem!_pos r _ h3, getElem!_pos _ _ (by simpa using h3)]
   simp
  ·unfold sortWorldK putRowK
   rw [QC, hrl]
   exact Nk (GN (q := q) h (by rw [mY, mY, hrl])) os
  ·unfold sortWorldK putRowK
   exact below_grow (below_putRow (Below.refl _ _) hb) (by simpa [putRow, mapBlock, Sort.ahead] using hbase) os
end Go.Proofs.YtelnhablglomjaaGreat

namespace Go.Proofs.YtelnhablglomjaaGreat
open Go.RowKit Go.Lib Go.Sort
theorem gV {W : World} {p : Nat} {x : Jb} (h : W.heap[p]? = some (.cells (ai x).toArray 92 (0, 0))) : ∀ j u, (ai x)[j]? = some u → W.cell? ⟨p, j, none⟩ = some u := by
 intro j u hj
 simp [World.cell?, h, hj]
theorem H9 (j : Jb) (v : Value) (l : List Jb) (w : World) (hr : aB ai 10 w v l) (hl : l.length ≤ 900) : Calls Tryz.prog 124 #[.agg (ai j).toArray, v] w fun e w' => ∃ v', e = .returned v' ∧ aB ai 10 w' v' (l.filter (aV j)) ∧ Below w.heap.size w w' := by
 have zE := bJ
 obtain ⟨i0, hi0, hz0, hz1, hz2⟩ := info_parts xI
 obtain ⟨w0, hw0⟩ : ∃ w0, w0 = w.alloc (.cells (ai j).toArray 92) := ⟨_, rfl⟩
 have hb0 : Below w.heap.size w w0 := by rw [hw0]; exact (Below.refl _ _).alloc (Nat.le_refl _) _
 have hsz0 : w0.heap.size = w.heap.size + 1 := by rw [hw0]; simp
 have TK : w0.heap[w.heap.size]? = some (.cells (ai j).toArray 92 (0, 0)) := by rw [hw0]; exact heap_alloc_new w _
 have hr0 : aB ai 10 w0 v l := hr.below hb0
 have lJ := ax j
 obtain ⟨k, hk⟩ : ∃ k, k = 10 := ⟨_, rfl⟩
 rw [← hk] at zE lJ
 have BX : Hid (∀ W, Below w0.heap.size w0 W → Sem.run Tryz.prog (loadCellsFrom ⟨w.heap.size, 0, none⟩ 0 k #[]) W = .ok (ai j).toArray W) := fun W hW => qK ((hW.block _ (by omega)).trans TK) lJ
 replace hk := Lib.hid hk
 obtain ⟨ao, cap, rfl, q1, q2, q3⟩ := hr0
 obtain ⟨n, hn⟩ : ∃ n, l.length = n := ⟨_, rfl⟩
 rw [hn] at q1 q3 hl ⊢
 have HQ : Hid (0 < n → ∃ b off, ao = some ⟨b, off, none⟩ ∧ nM w0 b off l) := fun hp => by
  obtain ⟨b, off, e1, e2, e3⟩ := q3 hp
  exact ⟨b, off, e1, e2, e3⟩
 have EO : cap ≤ 9223372036854775807 := by unfold maxLen at q2; omega
 replace hn := Lib.hid hn
 clear q2 q3 hr
 go_enter Tryz.func124, Tryz.ntmps124
 go_wp2_with fail
 rw [← hw0]
 replace hw0 := Lib.hid hw0
 go_loopw [5, 10] (fun oo ii wr => ∃ (i : Nat), i ≤ n ∧ ii = .int .i64 i ∧ wr.ownsRow w0.heap.size 92 10 oo ((l.take i).filter (aV j)).length (((l.take i).filter (aV j)).flatMap ai) ∧ Below w0.heap.size w0 wr) (fun _ ii _ => n - (intOf ii).toNat)
 case atStart => exact ⟨0, Nat.zero_le _, rfl, by simpa using World.ownsRow_nil w0 w0.heap.size 92 10, Below.refl _ _⟩
 case round =>
  obtain ⟨i, hin, rfl, hown, hbr⟩ := hrel
  by_cases hlt : i < n
  ·have b2 : (i : Int) < (n : Int) := by omega
   have wi : IntKind.i64.wrap ((i : Int) + 1) = (i : Int) + 1 := by rw [IntKind.wrap_i64]; omega
   obtain ⟨b, off, rfl, hJ⟩ := HQ.out (by omega)
   have sW := hJ.below hbr
   have iM : i < l.length := by have := hn.out; omega
   have LI := sW.load hk.out iM
   have lI := ax l[i]!
   have st : Sem.run Tryz.prog (storeCells ⟨wr.heap.size, 0, none⟩ (ai l[i]!) 0) (wr.alloc (.cells #[.int .i64 0, .int .i64 0, .int .i64 0, .int .i64 0, .int .i64 0, .int .i64 0, .int .i64 0, .int .i64 0, .int .i64 0, .int .u64 0] 92)) = .ok () (wr.alloc (.cells (ai l[i]!).toArray 92)) := dE wr wr.heap.size (ai l[i]!) (ai default) 92 rfl (by rw [ax, ax]) (dJ _)
   rw [← hk.out] at lI
   have hb1 : Below w0.heap.size w0 (wr.alloc (.cells (ai l[i]!).toArray 92)) := hbr.alloc hbr.size _
   have hsz1 : (wr.alloc (.cells (ai l[i]!).toArray 92)).heap.size = wr.heap.size + 1 := by simp
   have hnew := heap_alloc_new wr (.cells (ai l[i]!).toArray 92)
   have hown1 := hown.alloc (.cells (ai l[i]!).toArray 92)
   have bx := BX.out _ hb1
   have bi := qK hnew lI
   have hless := Qq j l[i]! (wr.alloc (.cells (ai l[i]!).toArray 92))
   generalize hcI : ai l[i]! = cI at *
   replace hcI := Lib.hid hcI
   generalize hw1 : wr.alloc (.cells cI.toArray 92) = w1 at *
   replace hw1 := Lib.hid hw1
   go_wp2_with fail
   go_at_call 150
   refine hless.mono ?_
   clear hless bx bi st LI
   rintro e w2 ⟨rfl, h2⟩
   have g2 := h2.below
   have hb2 : Below w0.heap.size w0 w2 := hb1.trans (g2.mono hb1.size)
   have Kz : w2.heap[wr.heap.size]? = some (.cells cI.toArray 92 (0, 0)) := (g2.block _ (by omega)).trans hnew
   have hown2 : w2.ownsRow w0.heap.size 92 10 u5 ((l.take i).filter (aV j)).length (((l.take i).filter (aV j)).flatMap ai) := bA hown1 fun q hq => g2.block q (hown1.lt q hq).2
   clear hown1 hnew sW hb1
   cases hA : aV j l[i]! with
   | false =>
     have hF := Lib.hid (H5 (p := aV j) iM hA)
     have hown3 : Hid (w2.ownsRow w0.heap.size 92 10 u5 ((l.take (i + 1)).filter (aV j)).length (((l.take (i + 1)).filter (aV j)).flatMap ai)) := by
      show World.ownsRow _ _ _ _ _ _ _
      rw [hF.out]; exact hown2
     clear hown2 hown Kz
     go_wp2_with fail
     go_roundw
     case rel => exact ⟨i + 1, by omega, by go_num, hown3.out, hb2⟩
     case measure => simp [intOf]; omega
   | true =>
     have hF := Lib.hid (D6 (p := aV j) iM hA)
     obtain ⟨X, hX⟩ : ∃ X, X = (l.take i).filter (aV j) := ⟨_, rfl⟩
     rw [← hX] at hown2 hF
     have WL : X.length ≤ 1000 := by rw [hX]; exact Nat.le_trans (List.length_filter_le _ _) (by rw [List.length_take]; omega)
     replace hX := Lib.hid hX
     clear hown
     obtain rfl := hk.out
     have QD := hcI.out
     clear hcI
     generalize l[i]! = y at *
     obtain ⟨x1, x2, x3, x4, x5, x6, x7, x8, x9, x0⟩ := y
     subst QD
     have kk := gV Kz
     have k0 := kk 0 _ rfl
     have k1 := kk 1 _ rfl
     have k2 := kk 2 _ rfl
     have k3 := kk 3 _ rfl
     have k4 := kk 4 _ rfl
     have k5 := kk 5 _ rfl
     have k6 := kk 6 _ rfl
     have k7 := kk 7 _ rfl
     have k8 := kk 8 _ rfl
     have k9 := kk 9 _ rfl
     clear kk Kz
     have hsz2 := g2.size
     have WM := hb2.size
     go_wp2_with (at_builtin; go_must (refine wpList_append_own _ rfl (.tmp 17) (.tmp 19) 60 rfl w0.heap.size 92 i0 (.agg (ai default).toArray) 10 80 Tryz.underlying60 hi0 hz0 hz1 hz2 rfl (by decide) u5 X.length (X.flatMap ai) rfl (hown2.alloc _) ⟨w2.heap.size, 0, none⟩ 1 1 (ai (x1, x2, x3, x4, x5, x6, x7, x8, x9, x0)) rfl rfl ?c0 ?c1 ?c2 ?c3 ?c4 ?c5))
     case c0 => exact vP (vs := ai (x1, x2, x3, x4, x5, x6, x7, x8, x9, x0)) rfl
     case c1 => exact dJ _
     case c2 => unfold maxLen; omega
     case c3 => omega
     case c4 => (have hh : ∀ o, (w2.alloc o).heap.size = w2.heap.size + 1 := fun o => by simp); first | omega | (rw [hh]; omega)
     case c5 =>
      intro v6 w7 QE QF _
      have kD : Below w0.heap.size w0 w7 := (hb2.alloc WM _).grown QF (by simp; omega) (fun k hk => (hown2.lt k hk).1)
      have QG : Hid (w7.ownsRow w0.heap.size 92 10 v6 ((l.take (i + 1)).filter (aV j)).length (((l.take (i + 1)).filter (aV j)).flatMap ai)) := by
       show World.ownsRow _ _ _ _ _ _ _
       rw [hF.out, List.length_append, List.flatMap_append]
       simp only [List.length_singleton, List.flatMap_cons, List.flatMap_nil, List.append_nil]
       rw [hsz0]
       exact QE
      clear k0 k1 k2 k3 k4 k5 k6 k7 k8 k9 QE QF hown2 hb2
      go_wp2_with fail
      go_roundw
      case rel => exact ⟨i + 1, by omega, by go_num, QG.out, kD⟩
      case measure => simp [intOf]; omega
  ·obtain rfl : i = n := by omega
   have b2 : ¬ (i : Int) < (i : Int) := by omega
   have e1 : l.take i = l := List.take_of_length_le (by rw [hn.out]; exact Nat.le_refl _)
   rw [e1] at hown
   have hfin : Hid (∃ v', Ending.returned u5 = .returned v' ∧ aB ai 10 wr v' (l.filter (aV j)) ∧ Below w.heap.size w wr) := ⟨u5, rfl, aB.jk hown ax rfl rfl, hb0.trans (hbr.mono hb0.size)⟩
   clear hown e1
   go_wp2_with fail
   go_ret
   exact hfin.out
end Go.Proofs.YtelnhablglomjaaGreat

namespace Go.Proofs.YtelnhablglomjaaGreat
open Go.RowKit Go.Sort Go.Lib Go.Shelf Put
def Jb.limit (j : Jb) : Int := j.2.2.2.1
def Jb.state (j : Jb) : Int := j.2.2.2.2.2.1
def jM (L : List Jb) : Nat := L.countP fun j => decide (j.state < 4)
def D8 (L : List Jb) (r : Rq) : Jb := ((L.length : Int) + 1, r.user, r.width, r.limit, r.prio, if r.held then 2 else 1, -1, -1, -1, 0)
def mf (L : List Jb) (r : Rq) : Int := if aQ r ≠ 0 then 0 else if 64 ≤ jM L ∨ 1024 ≤ L.length then 0 else (L.length : Int) + 1
def je (L : List Jb) (r : Rq) : Int := if aQ r ≠ 0 then aQ r else if 64 ≤ jM L ∨ 1024 ≤ L.length then 6 else 0
def ql (L : List Jb) (r : Rq) : List Jb := if aQ r ≠ 0 then L else if 64 ≤ jM L ∨ 1024 ≤ L.length then L else L ++ [D8 L r]
def bN (L : List Jb) (e0 id : Int) (ok : Jb → Bool) : Int := if e0 ≠ 0 then e0 else if id < 1 then 7 else if (L.length : Int) < id then 7 else if ok L[(id - 1).toNat]! then 0 else 8
def cz (L : List Jb) (e0 id : Int) (ok : Jb → Bool) (ch : Jb → Jb) : List Jb := if bN L e0 id ok = 0 then L.set (id - 1).toNat (ch L[(id - 1).toNat]!) else L
def qA (j : Jb) : Jb := (j.1, j.2.1, j.2.2.1, j.2.2.2.1, j.2.2.2.2.1, 2, j.2.2.2.2.2.2.1, j.2.2.2.2.2.2.2.1, -1, j.2.2.2.2.2.2.2.2.2)
def pJ (j : Jb) : Jb := (j.1, j.2.1, j.2.2.1, j.2.2.2.1, j.2.2.2.2.1, 1, j.2.2.2.2.2.2.1, j.2.2.2.2.2.2.2.1, j.2.2.2.2.2.2.2.2.1, j.2.2.2.2.2.2.2.2.2)
def lq (t : Int) (j : Jb) : Jb := (j.1, j.2.1, j.2.2.1, j.2.2.2.1, j.2.2.2.2.1, j.2.2.2.2.2.1, j.2.2.2.2.2.2.1, j.2.2.2.2.2.2.2.1, t, j.2.2.2.2.2.2.2.2.2)
def mg (t n : Int) (j : Jb) : Jb := (j.1, j.2.1, j.2.2.1, j.2.2.2.1, j.2.2.2.2.1, 3, t, t + j.2.2.2.1, -1, n)
def bR (s t : Int) (j : Jb) : Jb := (j.1, j.2.1, j.2.2.1, j.2.2.2.1, j.2.2.2.2.1, s, j.2.2.2.2.2.2.1, if j.2.2.2.2.2.1 = 3 then t else j.2.2.2.2.2.2.2.1, -1, j.2.2.2.2.2.2.2.2.2)
theorem NI {L : List Jb} {e0 id : Int} {ok : Jb → Bool} (h : bN L e0 id ok = 0) : e0 = 0 ∧ 1 ≤ id ∧ id ≤ L.length ∧ ok L[(id - 1).toNat]! = true := by
 unfold bN at h
 split at h
 ·exact absurd h ‹_›
 ·split at h
  ·omega
  ·split at h
   ·omega
   ·split at h
    ·exact ⟨by omega, by omega, by omega, ‹_›⟩
    ·omega
def splice (L : List Jb) (i : Nat) (cs : List Value) : List Value := (L.take i).flatMap ai ++ cs ++ (L.drop (i + 1)).flatMap ai
theorem zA {L : List Jb} {i : Nat} (hi : i < L.length) (x : Jb) : splice L i (ai x) = (L.set i x).flatMap ai := by
 rw [List.set_eq_take_append_cons_drop, if_pos hi, List.flatMap_append, List.flatMap_cons, splice, List.append_assoc]
theorem FO {L : List Jb} {i : Nat} (hi : i < L.length) : L.flatMap ai = splice L i (ai L[i]!) := by
 rw [zA hi, getElem!_pos L i hi, List.set_getElem_self]
theorem Ia {L : List Jb} {i j : Nat} (hi : i < L.length) {cs : List Value} (hc : cs.length = 10) (hj : j < 10) (u : Value) : (splice L i cs).set (i * 10 + j) u = splice L i (cs.set j u) := by
 have hl : ((L.take i).flatMap ai).length = i * 10 := by rw [mY, List.length_take]; omega
 unfold splice
 rw [List.append_assoc, List.append_assoc, List.set_append_right _ _ (by omega), hl, List.set_append_left _ _ (by omega)]
 congr 3
 omega
structure BV (T : TypeId) (pre : List Value) (w : World) (p : Nat) (v : Value) (L : List Jb) : Prop where
 cell : w.heap[p]? = some (.cells (pre ++ [v]).toArray T (0, 0))
 own : w.ownsRow 0 92 10 v L.length (L.flatMap ai)
abbrev TV := BV 103 [.bool true]
structure dL (p : Nat) (o : Option Nat) (w w' : World) : Prop where
 os : w'.os = w.os
 tape : w'.tape = w.tape
 output : w'.output = w.output
 size : w.heap.size ≤ w'.heap.size
 block : ∀ k, k < w.heap.size → k ≠ p → o ≠ some k → w'.heap[k]? = w.heap[k]?
def dV (w : World) (o o' : Option Nat) : Prop := o' = o ∨ ∃ k, o' = some k ∧ w.heap.size ≤ k
section
variable {p : Nat} {o o1 o2 : Option Nat} {w w1 w2 : World}
theorem dL.of_below (h : Below w.heap.size w w1) : dL p o w w1 := ⟨h.os, h.tape, h.output, h.size, fun k hk _ _ => h.block k hk⟩
theorem dL.Aq {g : Nat} (h : Off p g w w1) : dL p (some g) w w1 := ⟨h.os, h.tape, h.output, h.size, fun k hk h1 h2 => h.block k hk h1 (fun e => h2 (by rw [e]))⟩
theorem dL.D9 (h : w.grownBy w1 o) : dL p o w w1 := ⟨h.os, h.tape, h.output, h.size, fun k hk _ h2 => h.block k hk (fun e => h2 e.symm)⟩
theorem dL.trans (h : dL p o w w1) (h' : dL p o1 w1 w2) (hn : dV w o o1) : dL p o w w2 :=
 ⟨h'.os.trans h.os, h'.tape.trans h.tape, h'.output.trans h.output, Nat.le_trans h.size h'.size, fun k hk h1 h2 => by
  rw [h'.block k (Nat.lt_of_lt_of_le hk h.size) h1 (by
   rcases hn with rfl | ⟨q, rfl, hq⟩
   ·exact h2
   ·intro e; injection e with e; omega), h.block k hk h1 h2]⟩
theorem dV.refl (w : World) (o : Option Nat) : dV w o o := .inl rfl
theorem dV.trans (h : dV w o o1) (h' : dV w1 o1 o2) (hs : w.heap.size ≤ w1.heap.size) : dV w o o2 := by
 rcases h' with rfl | ⟨q, rfl, hq⟩
 ·exact h
 ·exact .inr ⟨q, rfl, by omega⟩
end
section
variable {T : TypeId} {pre : List Value} {w w' : World} {p g n cap : Nat} {v : Value} {L : List Jb}
theorem BV.lt (h : BV T pre w p v L) : p < w.heap.size := Put.lt_of_heap h.cell
theorem BV.kept (h : BV T pre w p v L) (hb : Below w.heap.size w w') : BV T pre w' p v L := ⟨by rw [hb.block p h.lt]; exact h.cell, Put.uR h.own hb⟩
theorem BV.ob (hT : T ≠ 92) (h : BV T pre w p v L) : v.ownBlock ≠ some p := by
 intro e
 rcases h.own.2 with ⟨e0, _⟩ | ⟨g', cap', cur, e0, _, hg, _⟩
 ·rw [e0] at e; simp [Value.ownBlock] at e
 ·rw [e0] at e
  simp [Value.ownBlock] at e
  subst e
  exact Put.aI h.cell hg hT rfl
theorem BV.row {m : Nat} (h : BV T pre w p (.slice (some ⟨g, 0, none⟩) m cap) L) : nM w g 0 L := by
 have hr := aB.jk h.own ax rfl rfl
 refine ⟨(h.own.lt g rfl).2, fun i s j u hi hj => ?_⟩
 obtain ⟨ao, cap', e, _, _, q3⟩ := hr
 cases e
 obtain ⟨b, off, e1, _, q⟩ := q3 (by have := (List.getElem?_eq_some_iff.1 hi).1; omega)
 cases e1
 exact q i s j u hi hj
theorem BV.rowAt (h : BV T pre w p v L) : aB ai 10 w v L := aB.jk h.own ax rfl rfl
theorem BV.shape (h : BV T pre w p v L) (hL : 0 < L.length) : ∃ g cap, v = .slice (some ⟨g, 0, none⟩) L.length cap := by
 obtain ⟨ao, cap, rfl, hp⟩ := gH h.own
 obtain ⟨g, rfl⟩ := hp hL
 exact ⟨g, cap, rfl⟩
end
end Go.Proofs.YtelnhablglomjaaGreat

namespace Go.Proofs.YtelnhablglomjaaGreat
open Go.RowKit Go.Sort Go.Lib Go.Shelf Put
theorem oK (r : Rq) (w : World) : Calls Tryz.prog 120 #[.agg (encR r).toArray] w fun e w' => e = .returned (.int .i64 (aQ r)) ∧ ∃ o, w' = w.alloc o := by
 obtain ⟨x1, x2, x3, x4, x5, x6, x7, x8, x9⟩ := r
 simp only [encR]
 by_cases h0 : x3 < 0
 ·have d0 : decide (x3 < 0) = true := decide_eq_true h0
  have e : aQ ⟨x1, x2, x3, x4, x5, x6, x7, x8, x9⟩ = 1 := by simp [aQ, h0]
  rw [e]
  clear e
  go_enter Tryz.func120, Tryz.ntmps120
  go_wp2_with fail
  go_ret
  exact ⟨rfl, _, rfl⟩
 ·have d0 : decide (x3 < 0) = false := decide_eq_false h0
  by_cases h1 : 255 < x3
  ·have d1 : decide (255 < x3) = true := decide_eq_true h1
   have e : aQ ⟨x1, x2, x3, x4, x5, x6, x7, x8, x9⟩ = 1 := by simp [aQ, h0, h1]
   rw [e]
   clear e
   go_enter Tryz.func120, Tryz.ntmps120
   go_wp2_with fail
   go_ret
   exact ⟨rfl, _, rfl⟩
  ·have d1 : decide (255 < x3) = false := decide_eq_false h1
   by_cases h2 : x6 < 0
   ·have d2 : decide (x6 < 0) = true := decide_eq_true h2
    have e : aQ ⟨x1, x2, x3, x4, x5, x6, x7, x8, x9⟩ = 1 := by simp [aQ, h0, h1, h2]
    rw [e]
    clear e
    go_enter Tryz.func120, Tryz.ntmps120
    go_wp2_with fail
    go_ret
    exact ⟨rfl, _, rfl⟩
   ·have d2 : decide (x6 < 0) = false := decide_eq_false h2
    by_cases h3 : 1000 < x6
    ·have d3 : decide (1000 < x6) = true := decide_eq_true h3
     have e : aQ ⟨x1, x2, x3, x4, x5, x6, x7, x8, x9⟩ = 1 := by simp [aQ, h0, h1, h2, h3]
     rw [e]
     clear e
     go_enter Tryz.func120, Tryz.ntmps120
     go_wp2_with fail
     go_ret
     exact ⟨rfl, _, rfl⟩
    ·have d3 : decide (1000 < x6) = false := decide_eq_false h3
     by_cases h4 : x4 < 1
     ·have d4 : decide (x4 < 1) = true := decide_eq_true h4
      have e : aQ ⟨x1, x2, x3, x4, x5, x6, x7, x8, x9⟩ = 9 := by simp [aQ, h0, h1, h2, h3, h4]
      rw [e]
      clear e
      go_enter Tryz.func120, Tryz.ntmps120
      go_wp2_with fail
      go_ret
      exact ⟨rfl, _, rfl⟩
     ·have d4 : decide (x4 < 1) = false := decide_eq_false h4
      by_cases h5 : 64 < x4
      ·have d5 : decide (64 < x4) = true := decide_eq_true h5
       have e : aQ ⟨x1, x2, x3, x4, x5, x6, x7, x8, x9⟩ = 9 := by simp [aQ, h0, h1, h2, h3, h4, h5]
       rw [e]
       clear e
       go_enter Tryz.func120, Tryz.ntmps120
       go_wp2_with fail
       go_ret
       exact ⟨rfl, _, rfl⟩
      ·have d5 : decide (64 < x4) = false := decide_eq_false h5
       by_cases h6 : x5 < 1
       ·have d6 : decide (x5 < 1) = true := decide_eq_true h6
        have e : aQ ⟨x1, x2, x3, x4, x5, x6, x7, x8, x9⟩ = 10 := by simp [aQ, h0, h1, h2, h3, h4, h5, h6]
        rw [e]
        clear e
        go_enter Tryz.func120, Tryz.ntmps120
        go_wp2_with fail
        go_ret
        exact ⟨rfl, _, rfl⟩
       ·have d6 : decide (x5 < 1) = false := decide_eq_false h6
        by_cases h7 : 1048576 < x5
        ·have d7 : decide (1048576 < x5) = true := decide_eq_true h7
         have e : aQ ⟨x1, x2, x3, x4, x5, x6, x7, x8, x9⟩ = 10 := by simp [aQ, h0, h1, h2, h3, h4, h5, h6, h7]
         rw [e]
         clear e
         go_enter Tryz.func120, Tryz.ntmps120
         go_wp2_with fail
         go_ret
         exact ⟨rfl, _, rfl⟩
        ·have d7 : decide (1048576 < x5) = false := decide_eq_false h7
         have e : aQ ⟨x1, x2, x3, x4, x5, x6, x7, x8, x9⟩ = 0 := by simp [aQ, h0, h1, h2, h3, h4, h5, h6, h7]
         rw [e]
         clear e
         go_enter Tryz.func120, Tryz.ntmps120
         go_wp2_with fail
         go_ret
         exact ⟨rfl, _, rfl⟩
def cnt (s : Int) (L : List Jb) : Nat := L.countP fun j => decide (j.state = s)
theorem FP (s : Int) (L : List Jb) : cnt s L ≤ L.length := List.countP_le_length
theorem Br {s : Int} {L : List Jb} {i : Nat} (hi : i < L.length) (h : (L[i]!).state = s) : cnt s (L.take (i + 1)) = cnt s (L.take i) + 1 := by
 unfold cnt
 rw [Bi hi, List.countP_append, List.countP_singleton, if_pos (decide_eq_true h)]
theorem FQ {s : Int} {L : List Jb} {i : Nat} (hi : i < L.length) (h : (L[i]!).state ≠ s) : cnt s (L.take (i + 1)) = cnt s (L.take i) := by
 unfold cnt
 rw [Bi hi, List.countP_append, List.countP_singleton, if_neg (by rw [decide_eq_false h]; decide)]; rfl
theorem NJ {L : List Jb} (h : ∀ j ∈ L, 1 ≤ j.state ∧ j.state ≤ 6) : (cnt 1 L : Int) + cnt 2 L + cnt 3 L = jM L := by
 unfold cnt jM
 induction L with
 | nil => simp
 | cons a l ih =>
   have ih := ih fun j hj => h j (by simp [hj])
   have ha := h a (by simp)
   simp only [List.countP_cons]
   by_cases h1 : a.state = 1
   ·simp [h1]; omega
   ·by_cases h2 : a.state = 2
    ·simp [h2]; omega
    ·by_cases h3 : a.state = 3
     ·simp [h3]; omega
     ·have : ¬ a.state < 4 := by omega
      simp [h1, h2, h3, this]; omega
section
variable {w w' : World} {p : Nat} {v : Value} {L : List Jb}
theorem kQ (h : TV w p v L) : Calls Tryz.prog 49 #[.pointer (some ⟨p, 0, none⟩)] w fun e w' => e = .returned (.bool false) ∧ w = w' := by
 have c0 : w.cell? ⟨p, 0, none⟩ = some (.bool true) := by simp [World.cell?, h.cell]
 clear h
 go_enter Tryz.func49, Tryz.ntmps49
 go_wp2_with fail
 go_ret
 exact ⟨rfl, rfl⟩
theorem BV.c1 (h : TV w p v L) : w.cell? ⟨p, 1, none⟩ = some v := by simp [World.cell?, h.cell]
theorem Ib (h : TV w p v L) : Calls Tryz.prog 122 #[.pointer (some ⟨p, 0, none⟩)] w fun e w' => e = .returned (.int .i64 L.length) ∧ w = w' := by
 have c1 := h.c1
 have hno := kQ h
 have hle := tF h.own
 obtain ⟨ao, cap, rfl, _⟩ := gH h.own
 clear h
 go_enter Tryz.func122, Tryz.ntmps122
 go_wp2_with (go_at_call 49; go_must (refine hno.mono ?_); rintro e w' ⟨rfl, rfl⟩)
 go_ret
 exact ⟨rfl, rfl⟩
theorem Bt (h : TV w p v L) (hL : L.length ≤ 1000) : Calls Tryz.prog 81 #[.pointer (some ⟨p, 0, none⟩)] w fun e w' => e = .returned (.tuple #[.int .i64 (cnt 1 L), .int .i64 (cnt 2 L), .int .i64 (cnt 3 L)]) ∧ Below w.heap.size w w' := by
 have c1 := h.c1
 have hno := kQ h
 have zE := bJ
 obtain ⟨k, hk⟩ : ∃ k, k = 10 := ⟨_, rfl⟩
 rw [← hk] at zE
 replace hk := Lib.hid hk
 obtain ⟨n, hn⟩ : ∃ n, L.length = n := ⟨_, rfl⟩
 have HQ : Hid (0 < n → ∃ g cap, v = .slice (some ⟨g, 0, none⟩) n cap ∧ nM w g 0 L) := fun hp => by
  obtain ⟨g, cap, e⟩ := h.shape (by omega)
  subst e
  exact ⟨g, cap, by rw [hn], h.row⟩
 have hle := tF h.own
 obtain ⟨ao, cap, rfl, _⟩ := gH h.own
 rw [hn] at hL hle c1
 replace hn := Lib.hid hn
 clear h
 go_enter Tryz.func81, Tryz.ntmps81
 go_wp2_with (go_at_call 49; go_must (refine hno.mono ?_); rintro e w' ⟨rfl, rfl⟩)
 clear hno
 go_loopw [5, 6, 7, 17] (fun aa bb cc ii wr => ∃ (i a b c : Nat), i ≤ n ∧ ii = .int .i64 i ∧ aa = .int .i64 a ∧ bb = .int .i64 b ∧ cc = .int .i64 c ∧ a ≤ i ∧ b ≤ i ∧ c ≤ i ∧ Hid (a = cnt 1 (L.take i)) ∧ Hid (b = cnt 2 (L.take i)) ∧ Hid (c = cnt 3 (L.take i)) ∧ Below w.heap.size w wr) (fun _ _ _ ii _ => n - (intOf ii).toNat)
 case atStart => exact ⟨0, 0, 0, 0, Nat.zero_le _, rfl, rfl, rfl, rfl, Nat.le_refl _, Nat.le_refl _, Nat.le_refl _, Lib.hid rfl, Lib.hid rfl, Lib.hid rfl, Below.refl _ _⟩
 case round =>
  obtain ⟨i, a, b, c, hin, rfl, rfl, rfl, rfl, la, lb, lc, ha, hb, hc, hbr⟩ := hrel
  by_cases hlt : i < n
  ·have b2 : (i : Int) < (n : Int) := by omega
   have wi : IntKind.i64.wrap ((i : Int) + 1) = (i : Int) + 1 := by rw [IntKind.wrap_i64]; omega
   obtain ⟨g, cap2, e2, hJ⟩ := HQ.out (by omega)
   cases e2
   have iM : i < L.length := by have := hn.out; omega
   have sW := hJ.below hbr
   have LI := sW.load hk.out iM
   simp only [Nat.zero_add] at LI
   have lI := ax L[i]!
   have st : Sem.run Tryz.prog (storeCells ⟨wr.heap.size, 0, none⟩ (ai L[i]!) 0) (wr.alloc (.cells #[.int .i64 0, .int .i64 0, .int .i64 0, .int .i64 0, .int .i64 0, .int .i64 0, .int .i64 0, .int .i64 0, .int .i64 0, .int .u64 0] 92)) = .ok () (wr.alloc (.cells (ai L[i]!).toArray 92)) := dE wr wr.heap.size (ai L[i]!) (ai default) 92 rfl (by rw [ax, ax]) (dJ _)
   rw [← hk.out] at lI
   have hb1 : Below w.heap.size w (wr.alloc (.cells (ai L[i]!).toArray 92)) := hbr.alloc hbr.size _
   have k5 := gV (heap_alloc_new wr (.cells (ai L[i]!).toArray 92)) 5 _ rfl
   generalize hs : (L[i]!).2.2.2.2.2.1 = s at k5
   replace hs : (L[i]!).state = s := hs
   have y1 := fun e => Br (s := 1) iM (hs.trans e)
   have y2 := fun e => Br (s := 2) iM (hs.trans e)
   have y3 := fun e => Br (s := 3) iM (hs.trans e)
   have n1 := fun (e : s ≠ 1) => FQ (s := 1) iM (fun h => e (hs.symm.trans h))
   have n2 := fun (e : s ≠ 2) => FQ (s := 2) iM (fun h => e (hs.symm.trans h))
   have n3 := fun (e : s ≠ 3) => FQ (s := 3) iM (fun h => e (hs.symm.trans h))
   have N1 : Hid (if s = 1 then a + 1 = cnt 1 (L.take (i + 1)) else a = cnt 1 (L.take (i + 1))) := by
    show ite _ _ _
    split
    ·rw [y1 ‹_›, ha.out]
    ·rw [n1 ‹_›, ha.out]
   have N2 : Hid (if s = 2 then b + 1 = cnt 2 (L.take (i + 1)) else b = cnt 2 (L.take (i + 1))) := by
    show ite _ _ _
    split
    ·rw [y2 ‹_›, hb.out]
    ·rw [n2 ‹_›, hb.out]
   have N3 : Hid (if s = 3 then c + 1 = cnt 3 (L.take (i + 1)) else c = cnt 3 (L.take (i + 1))) := by
    show ite _ _ _
    split
    ·rw [y3 ‹_›, hc.out]
    ·rw [n3 ‹_›, hc.out]
   clear y1 y2 y3 n1 n2 n3 ha hb hc hs hJ sW
   generalize ai L[i]! = cI at *
   generalize hw1 : wr.alloc (.cells cI.toArray 92) = w1 at *
   replace hw1 := Lib.hid hw1
   have wa : IntKind.i64.wrap ((a : Int) + 1) = (a : Int) + 1 := by rw [IntKind.wrap_i64]; omega
   have wb : IntKind.i64.wrap ((b : Int) + 1) = (b : Int) + 1 := by rw [IntKind.wrap_i64]; omega
   have wc : IntKind.i64.wrap ((c : Int) + 1) = (c : Int) + 1 := by rw [IntKind.wrap_i64]; omega
   by_cases h1 : s = 1
   ·subst h1
    have M1 := N1.out
    have M2 := N2.out
    have M3 := N3.out
    rw [if_pos rfl] at M1
    rw [if_neg (by decide)] at M2 M3
    replace M1 := Lib.hid M1
    replace M2 := Lib.hid M2
    replace M3 := Lib.hid M3
    clear N1 N2 N3
    go_wp2_with fail
    go_roundw
    case rel => exact ⟨i + 1, a + 1, b, c, by omega, by go_num, by go_num, rfl, rfl, by omega, by omega, by omega, M1, M2, M3, hb1⟩
    case measure => simp [intOf]; omega
   ·have d1 : (s == 1) = false := beq_eq_false_iff_ne.2 h1
    by_cases h2 : s = 2
    ·subst h2
     have M1 := N1.out
     have M2 := N2.out
     have M3 := N3.out
     rw [if_neg (by decide)] at M1 M3
     rw [if_pos rfl] at M2
     replace M1 := Lib.hid M1
     replace M2 := Lib.hid M2
     replace M3 := Lib.hid M3
     clear N1 N2 N3 h1
     go_wp2_with fail
     go_roundw
     case rel => exact ⟨i + 1, a, b + 1, c, by omega, by go_num, rfl, by go_num, rfl, by omega, by omega, by omega, M1, M2, M3, hb1⟩
     case measure => simp [intOf]; omega
    ·have d2 : (s == 2) = false := beq_eq_false_iff_ne.2 h2
     by_cases h3 : s = 3
     ·subst h3
      have M1 := N1.out
      have M2 := N2.out
      have M3 := N3.out
      rw [if_neg (by decide)] at M1 M2
      rw [if_pos rfl] at M3
      replace M1 := Lib.hid M1
      replace M2 := Lib.hid M2
      replace M3 := Lib.hid M3
      clear N1 N2 N3 h1 h2
      go_wp2_with fail
      go_roundw
      case rel => exact ⟨i + 1, a, b, c + 1, by omega, by go_num, rfl, rfl, by go_num, by omega, by omega, by omega, M1, M2, M3, hb1⟩
      case measure => simp [intOf]; omega
     ·have d3 : (s == 3) = false := beq_eq_false_iff_ne.2 h3
      have M1 := N1.out
      have M2 := N2.out
      have M3 := N3.out
      rw [if_neg h1] at M1
      rw [if_neg h2] at M2
      rw [if_neg h3] at M3
      replace M1 := Lib.hid M1
      replace M2 := Lib.hid M2
      replace M3 := Lib.hid M3
      clear N1 N2 N3 h1 h2 h3
      go_wp2_with fail
      go_roundw
      case rel => exact ⟨i + 1, a, b, c, by omega, by go_num, rfl, rfl, rfl, by omega, by omega, by omega, M1, M2, M3, hb1⟩
      case measure => simp [intOf]; omega
  ·obtain rfl : i = n := by omega
   have b2 : ¬ (i : Int) < (i : Int) := by omega
   have e1 : L.take i = L := List.take_of_length_le (by rw [hn.out]; exact Nat.le_refl _)
   have e2 := ha.out
   have e3 := hb.out
   have e4 := hc.out
   rw [e1] at e2 e3 e4
   replace e2 := Lib.hid e2
   replace e3 := Lib.hid e3
   replace e4 := Lib.hid e4
   clear e1 ha hb hc
   go_wp2_with fail
   go_ret3
   exact ⟨by rw [← e2.out, ← e3.out, ← e4.out]; rfl, hbr⟩
theorem QH (h : TV w p v L) (hL : L.length ≤ 1000) (hg : ∀ j ∈ L, 1 ≤ j.state ∧ j.state ≤ 6) : Calls Tryz.prog 121 #[.pointer (some ⟨p, 0, none⟩)] w fun e w' => e = .returned (.int .i64 (jM L)) ∧ Below w.heap.size w w' := by
 have hc := Bt h hL
 have he := NJ hg
 have h1 := FP 1 L
 have h2 := FP 2 L
 have h3 := FP 3 L
 rw [← he]
 clear he h
 generalize cnt 1 L = a at *
 generalize cnt 2 L = b at *
 generalize cnt 3 L = c at *
 have wa : IntKind.i64.wrap ((a : Int) + b) = (a : Int) + b := by rw [IntKind.wrap_i64]; omega
 have wb : IntKind.i64.wrap ((a : Int) + b + c) = (a : Int) + b + c := by rw [IntKind.wrap_i64]; omega
 go_enter Tryz.func121, Tryz.ntmps121
 go_wp2_with (go_at_call 81; go_must (refine hc.mono ?_); rintro e w' ⟨rfl, hb⟩)
 go_ret
 exact ⟨rfl, hb⟩
end
end Go.Proofs.YtelnhablglomjaaGreat

namespace Go.Proofs.YtelnhablglomjaaGreat
open Go.RowKit Go.Sort Go.Lib Go.Shelf Put
def enc1 (x : Int) : List Value := [.int .i64 x]
theorem gW (a m : Int) (w : World) : Calls Tryz.prog 126 #[.int .i64 a, .int .i64 m] w fun e w' => e = .returned (.bool (decide (0 ≤ a) && decide (a ≤ m))) ∧ w = w' := by
 by_cases h1 : 0 ≤ a
 ·have d1 : decide (0 ≤ a) = true := decide_eq_true h1
  by_cases h2 : a ≤ m
  ·have d2 : decide (a ≤ m) = true := decide_eq_true h2
   go_enter Tryz.func126, Tryz.ntmps126
   go_wp2_with fail
   go_ret
   exact ⟨by simp [h1, h2], rfl⟩
  ·have d2 : decide (a ≤ m) = false := decide_eq_false h2
   go_enter Tryz.func126, Tryz.ntmps126
   go_wp2_with fail
   go_ret
   exact ⟨by simp, rfl⟩
 ·have d1 : decide (0 ≤ a) = false := decide_eq_false h1
  go_enter Tryz.func126, Tryz.ntmps126
  go_wp2_with fail
  go_ret
  exact ⟨by simp, rfl⟩
theorem gB (w : World) (b : Nat) (l : List Int) (hb : b = w.heap.size) (hl : l.length ≤ 1000) : aB enc1 1 (w.alloc (.cells (l.flatMap enc1).toArray 3)) (.slice (some ⟨b, 0, none⟩) l.length l.length) l := by
 subst hb
 have hlen : (l.flatMap enc1).length = l.length * 1 := by
  clear hl
  induction l with
  | nil => rfl
  | cons a l ih => rw [List.flatMap_cons, List.length_append, ih, List.length_cons]; simp [enc1]; omega
 exact aB.jk (base := w.heap.size) (e := 3) (wX rfl (Nat.le_refl _) hlen (by unfold maxLen; omega)) (fun _ => rfl) rfl rfl
section
variable {w w' : World} {p : Nat} {v : Value} {L : List Jb}
theorem NK (x : Int) {ps : List Int} (hr : aB enc1 1 w v ps) : Calls Tryz.prog 163 #[v, .int .i64 x] w fun e w' => (∃ r : Int, e = .returned (.int .i64 r) ∧ (0 ≤ r ↔ x ∈ ps)) ∧ w = w' := by
 obtain ⟨ao, cap, rfl, q1, q2, q3⟩ := hr
 obtain ⟨n, hn⟩ : ∃ n, ps.length = n := ⟨_, rfl⟩
 have HQ : Hid (∀ i, i < n → ∃ b off, ao = some ⟨b, off, none⟩ ∧ w.cell? ⟨b, off + i, none⟩ = some (.int .i64 ps[i]!)) := fun i hi => by
  obtain ⟨b, off, e, _, hc⟩ := q3 (by omega)
  refine ⟨b, off, e, ?_⟩
  have := hc i _ 0 _ (by rw [List.getElem?_eq_getElem (by omega), getElem!_pos ps i (by omega)]) (show (enc1 ps[i]!)[0]? = some _ from rfl)
  simpa using this
 have ZI : n ≤ 9223372036854775807 := by unfold maxLen at q2; omega
 have EO : cap ≤ 9223372036854775807 := by unfold maxLen at q2; omega
 clear q3
 rw [hn] at q1 ⊢
 replace hn := Lib.hid hn
 go_enter Tryz.func163, Tryz.ntmps163
 go_wp2_with fail
 go_loopw [8] (fun ii wr => ∃ (i : Nat), i ≤ n ∧ ii = .int .i64 i ∧ Hid (x ∉ ps.take i) ∧ w = wr) (fun ii _ => n - (intOf ii).toNat)
 case atStart => exact ⟨0, Nat.zero_le _, rfl, Lib.hid (by simp), rfl⟩
 case round =>
  obtain ⟨i, hin, rfl, hno, rfl⟩ := hrel
  by_cases hlt : i < n
  ·have b2 : (i : Int) < (n : Int) := by omega
   have wi : IntKind.i64.wrap ((i : Int) + 1) = (i : Int) + 1 := by rw [IntKind.wrap_i64]; omega
   obtain ⟨b, off, rfl, c⟩ := HQ.out i hlt
   have iM : i < ps.length := by have := hn.out; omega
   have hm : x ∈ ps.take (i + 1) ↔ x ∈ ps.take i ∨ x = ps[i]! := by
    rw [List.take_add_one, List.getElem?_eq_getElem iM, getElem!_pos ps i iM, Option.toList_some, List.mem_append, List.mem_singleton]
   have hmem : ps[i]! ∈ ps := by rw [getElem!_pos ps i iM]; exact List.getElem_mem _
   by_cases hx : x = ps[i]!
   ·have hin : Hid (x ∈ ps) := by show x ∈ ps; rw [hx]; exact hmem
    clear hm hmem
    rw [← hx] at c
    clear hx
    go_wp2_with fail
    go_ret
    refine ⟨⟨i, rfl, ?_⟩, rfl⟩
    exact ⟨fun _ => hin.out, fun _ => by omega⟩
   ·have d : (x == ps[i]!) = false := beq_eq_false_iff_ne.2 hx
    have WN : Hid (x ∉ ps.take (i + 1)) := by
     show ¬ _
     rw [hm]
     rintro (h | h)
     ·exact hno.out h
     ·exact hx h
    clear hm hmem hx hno
    generalize ps[i]! = y at *
    go_wp2_with fail
    go_roundw
    case rel => exact ⟨i + 1, by omega, by go_num, WN, trivial⟩
    case measure => simp [intOf]; omega
  ·obtain rfl : i = n := by omega
   have b2 : ¬ (i : Int) < (i : Int) := by omega
   go_wp2_with fail
   go_ret
   refine ⟨⟨-1, rfl, ?_⟩, rfl⟩
   have e1 : ps.take i = ps := List.take_of_length_le (by rw [hn.out]; exact Nat.le_refl _)
   have h2 := hno.out
   rw [e1] at h2
   exact ⟨fun h => by omega, fun h => absurd h h2⟩
theorem rY (x : Int) {ps : List Int} (hr : aB enc1 1 w v ps) : Calls Tryz.prog 151 #[v, .int .i64 x] w fun e w' => e = .returned (.bool (decide (x ∈ ps))) ∧ w = w' := by
 have hi := NK x hr
 clear hr
 go_enter Tryz.func151, Tryz.ntmps151
 go_wp2_with (go_at_call 163; go_must (refine hi.mono ?_); rintro e w' ⟨⟨r, rfl, hd⟩, rfl⟩; replace hd := Lib.hid hd)
 go_ret
 exact ⟨by rw [← decide_eq_decide.2 hd.out]; rfl, rfl⟩
def gN (L : List Jb) (id : Int) : Int := if id < 1 then 7 else if (L.length : Int) < id then 7 else 0
def bO (L : List Jb) (id : Int) : Jb := if id < 1 then default else if (L.length : Int) < id then default else L[(id - 1).toNat]!
def iU (w : World) (L : List Jb) (id : Int) (e : Ending) (w' : World) : Prop := e = .returned (.tuple #[.agg (ai (bO L id)).toArray, .int .i64 (gN L id)]) ∧ Gr w w'
theorem Bu {fn : Func} {q u : Tmp} {b : Nat} {tmps : Array Value} {w : World} {cs : List Value} (h : fn.results = #[.cell q 92, .tmp u]) (ha : tmps.getD q undef = .pointer (some ⟨b, 0, none⟩)) (hb : w.heap[b]? = some (.cells cs.toArray 92 (0, 0))) (hl : cs.length = 10) :
 (results fn tmps).run Tryz.prog w = .ok (.tuple #[.agg cs.toArray, tmps.getD u undef]) w := by
 have h1 : Sem.run Tryz.prog (loadCells ⟨b, 0, none⟩ 10) w = .ok cs.toArray w := qK hb hl
 rw [results_cell_tmp h, ha]
 simp only [loadVar, asAddr, Sem.run_bind, Sem.run_pure, Result.andThen_ok, Tz, bJ, h1, if_true]
theorem Gr.one (w : World) (o : Obj) : Gr w (w.alloc o) := ⟨0, #[o], by rw [Go.Sort.alloc_eq_grow]; rfl⟩
theorem CY {w : World} {b i : Nat} {v : Value} {cs : Array Value} {t : TypeId} {fz : Nat × Nat} (h : w.heap[b]? = some (.cells cs t fz)) (hv : cs[i]? = some v) : w.setCell ⟨b, i, none⟩ v = w := by
 have hlt := Put.lt_of_heap h
 have h3 : cs.setIfInBounds i v = cs := by
  refine Array.ext (by simp) fun q h4 h5 => ?_
  rw [Array.getElem_setIfInBounds]
  ·by_cases eq : i = q
   ·subst eq
    rw [Array.getElem?_eq_getElem h5] at hv
    rw [if_pos rfl]
    exact (Option.some.inj hv).symm
   ·rw [if_neg eq]
 have e : ∀ F : Obj → Obj, F (.cells cs t fz) = .cells cs t fz → w.heap.modify b F = w.heap := fun F hF => by
  refine Array.ext (by simp) fun j h1 h2 => ?_
  rw [Array.getElem_modify]
  by_cases ej : b = j
  ·subst ej
   rw [Array.getElem?_eq_getElem hlt] at h
   replace h := Option.some.inj h
   rw [if_pos rfl, h, hF]
  ·rw [if_neg ej]
 unfold World.setCell
 rw [e _ (by simp [h3])]
theorem bH {w : World} {b : Nat} {cs : Array Value} (h : w.heap[b]? = some (.cells cs 92 (0, 0))) : ∀ j u, cs[j]? = some u → w.cell? ⟨b, j, none⟩ = some u ∧ w.frozen? ⟨b, j, none⟩ = false ∧ w.setCell ⟨b, j, none⟩ u = w := fun j u hj =>
 ⟨by simp [World.cell?, h, hj], by simp [World.frozen?, h], CY h hj⟩
theorem gY (h : TV w p v L) (id : Int) : Calls Tryz.prog 77 #[.pointer (some ⟨p, 0, none⟩), .int .i64 id] w (iU w L id) := by
 have hb1 := (Below.refl w.heap.size w).alloc (Nat.le_refl _) (.cells #[.int .i64 0, .int .i64 0, .int .i64 0, .int .i64 0, .int .i64 0, .int .i64 0, .int .i64 0, .int .i64 0, .int .i64 0, .int .u64 0] 92)
 have h1 := h.kept hb1
 have hA := heap_alloc_new w (.cells #[.int .i64 0, .int .i64 0, .int .i64 0, .int .i64 0, .int .i64 0, .int .i64 0, .int .i64 0, .int .i64 0, .int .i64 0, .int .u64 0] 92)
 have hg := Lib.hid (Gr.one w (.cells #[.int .i64 0, .int .i64 0, .int .i64 0, .int .i64 0, .int .i64 0, .int .i64 0, .int .i64 0, .int .i64 0, .int .i64 0, .int .u64 0] 92))
 have hle := tF h.own
 have stx := fun (_ : True) => dE w w.heap.size (ai L[(id - 1).toNat]!) (ai default) 92 rfl (by rw [ax, ax]) (dJ _)
 have hb2 := (Below.refl w.heap.size w).alloc (Nat.le_refl _) (.cells (ai L[(id - 1).toNat]!).toArray 92)
 have hA2 := Lib.hid (heap_alloc_new w (.cells (ai L[(id - 1).toNat]!).toArray 92))
 have hg2 := Lib.hid (Gr.one w (.cells (ai L[(id - 1).toNat]!).toArray 92))
 rw [show ai default = [.int .i64 0, .int .i64 0, .int .i64 0, .int .i64 0, .int .i64 0, .int .i64 0, .int .i64 0, .int .i64 0, .int .i64 0, .int .u64 0] from rfl] at stx
 obtain ⟨w1, hw1⟩ : ∃ w1, w1 = w.alloc (.cells #[.int .i64 0, .int .i64 0, .int .i64 0, .int .i64 0, .int .i64 0, .int .i64 0, .int .i64 0, .int .i64 0, .int .i64 0, .int .u64 0] 92) := ⟨_, rfl⟩
 rw [← hw1] at h1 hA hg stx
 have hno := kQ h1
 have c1 := h1.c1
 have yC : iU w L id = (fun e w' => e = .returned (.tuple #[.agg (ai (bO L id)).toArray, .int .i64 (gN L id)]) ∧ Gr w w') := rfl
 by_cases a1 : id < 1
 ·have d1 : decide (id < 1) = true := decide_eq_true a1
  have e1 : gN L id = 7 := by unfold gN; rw [if_pos a1]
  have e2 : bO L id = default := by unfold bO; rw [if_pos a1]
  rw [yC, e1, e2]
  clear e1 e2 yC h h1 stx c1 hb1 hb2 hA2 hg2 a1
  obtain ⟨k0, f0, s0⟩ := bH hA 0 (.int .i64 0) rfl
  obtain ⟨k1, f1, s1⟩ := bH hA 1 (.int .i64 0) rfl
  obtain ⟨k2, f2, s2⟩ := bH hA 2 (.int .i64 0) rfl
  obtain ⟨k3, f3, s3⟩ := bH hA 3 (.int .i64 0) rfl
  obtain ⟨k4, f4, s4⟩ := bH hA 4 (.int .i64 0) rfl
  obtain ⟨k5, f5, s5⟩ := bH hA 5 (.int .i64 0) rfl
  obtain ⟨k6, f6, s6⟩ := bH hA 6 (.int .i64 0) rfl
  obtain ⟨k7, f7, s7⟩ := bH hA 7 (.int .i64 0) rfl
  obtain ⟨k8, f8, s8⟩ := bH hA 8 (.int .i64 0) rfl
  obtain ⟨k9, f9, s9⟩ := bH hA 9 (.int .u64 0) rfl
  replace hA := Lib.hid hA
  go_enter Tryz.func77, Tryz.ntmps77
  go_wp2_with fail
  go_at_call 49
  rw [← hw1]
  replace hw1 := Lib.hid hw1
  refine hno.mono ?_
  clear hno
  rintro e w' ⟨rfl, rfl⟩
  go_wp2_with fail
  (try simp only [Exit.inBlock, Exit.then])
  refine bodyPost_ret (Bu (b := w.heap.size) (cs := ai default) rfl rfl hA.out (ax _)) rfl ?_
  exact ⟨rfl, hg.out⟩
 ·have d1 : decide (id < 1) = false := decide_eq_false a1
  by_cases a2 : (L.length : Int) < id
  ·have d2 : decide ((L.length : Int) < id) = true := decide_eq_true a2
   have e1 : gN L id = 7 := by unfold gN; rw [if_neg a1, if_pos a2]
   have e2 : bO L id = default := by unfold bO; rw [if_neg a1, if_pos a2]
   obtain ⟨ao, cap, rfl, _⟩ := gH h.own
   rw [yC, e1, e2]
   clear e1 e2 yC h h1 stx hb1 hb2 hA2 hg2
   obtain ⟨k0, f0, s0⟩ := bH hA 0 (.int .i64 0) rfl
   obtain ⟨k1, f1, s1⟩ := bH hA 1 (.int .i64 0) rfl
   obtain ⟨k2, f2, s2⟩ := bH hA 2 (.int .i64 0) rfl
   obtain ⟨k3, f3, s3⟩ := bH hA 3 (.int .i64 0) rfl
   obtain ⟨k4, f4, s4⟩ := bH hA 4 (.int .i64 0) rfl
   obtain ⟨k5, f5, s5⟩ := bH hA 5 (.int .i64 0) rfl
   obtain ⟨k6, f6, s6⟩ := bH hA 6 (.int .i64 0) rfl
   obtain ⟨k7, f7, s7⟩ := bH hA 7 (.int .i64 0) rfl
   obtain ⟨k8, f8, s8⟩ := bH hA 8 (.int .i64 0) rfl
   obtain ⟨k9, f9, s9⟩ := bH hA 9 (.int .u64 0) rfl
   replace hA := Lib.hid hA
   generalize L.length = n at *
   clear a1 a2
   go_enter Tryz.func77, Tryz.ntmps77
   go_wp2_with fail
   go_at_call 49
   rw [← hw1]
   replace hw1 := Lib.hid hw1
   refine hno.mono ?_
   clear hno
   rintro e w' ⟨rfl, rfl⟩
   go_wp2_with fail
   (try simp only [Exit.inBlock, Exit.then])
   refine bodyPost_ret (Bu (b := w.heap.size) (cs := ai default) rfl rfl hA.out (ax _)) rfl ?_
   exact ⟨rfl, hg.out⟩
  ·have d2 : decide ((L.length : Int) < id) = false := decide_eq_false a2
   have e1 : gN L id = 0 := by unfold gN; rw [if_neg a1, if_neg a2]
   have e2 : bO L id = L[(id - 1).toNat]! := by unfold bO; rw [if_neg a1, if_neg a2]
   obtain ⟨m, rfl⟩ : ∃ m : Nat, id = (m : Int) + 1 := ⟨(id - 1).toNat, by omega⟩
   have em : ((m : Int) + 1 - 1).toNat = m := by omega
   rw [em] at e2 stx hA2 hg2 hb2
   have hm : m < L.length := by omega
   obtain ⟨g, cap, rfl⟩ := h.shape (by omega)
   rw [yC, e1, e2]
   clear e1 e2 yC em hb1 hg
   have zE := bJ
   obtain ⟨k, hk⟩ : ∃ k, k = 10 := ⟨_, rfl⟩
   have LI := h1.row.load hk hm
   simp only [Nat.zero_add] at LI
   have lI := ax L[m]!
   have YB := Lib.hid (ax L[m]!)
   have st := stx trivial
   rw [← hk] at zE lI
   replace hk := Lib.hid hk
   clear h h1 stx hb2
   generalize ai L[m]! = cI at *
   generalize L.length = n at *
   have wi : IntKind.i64.wrap ((m : Int) + 1 - 1) = (m : Int) := by rw [IntKind.wrap_i64]; omega
   have b1 : (m : Int) < (n : Int) := by omega
   have b0 : (0 : Int) ≤ (m : Int) := by omega
   clear a1 a2
   go_enter Tryz.func77, Tryz.ntmps77
   go_wp2_with fail
   go_at_call 49
   rw [← hw1]
   replace hw1 := Lib.hid hw1
   refine hno.mono ?_
   clear hno
   rintro e w' ⟨rfl, rfl⟩
   go_wp2_with fail
   (try simp only [Exit.inBlock, Exit.then])
   refine bodyPost_ret (Bu (b := w.heap.size) (cs := cI) rfl rfl hA2.out YB.out) rfl ?_
   exact ⟨rfl, hg2.out⟩
end
end Go.Proofs.YtelnhablglomjaaGreat

namespace Go.Proofs.YtelnhablglomjaaGreat
open Go.RowKit Go.Sort Go.Lib Go.Shelf Put
structure RV (w : World) (p : Nat) (v : Value) (L : List Jb) (m : Nat) (cs : List Value) : Prop where
 cell : w.heap[p]? = some (.cells #[.bool true, v] 103 (0, 0))
 own : w.ownsRow 0 92 10 v L.length (splice L m cs)
 len : cs.length = 10
section
variable {w w' : World} {p g n cap m : Nat} {v : Value} {L : List Jb} {cs : List Value}
theorem RV.of (h : TV w p v L) (hm : m < L.length) : RV w p v L m (ai L[m]!) := ⟨h.cell, by rw [← FO hm]; exact h.own, ax _⟩
theorem RV.done {x : Jb} (h : RV w p v L m cs) (hm : m < L.length) (hx : cs = ai x) : TV w p v (L.set m x) := by
 subst hx
 exact ⟨h.cell, by have := h.own; rw [zA hm] at this; rw [List.length_set]; exact this⟩
theorem RV.kept (h : RV w p v L m cs) (hb : Below w.heap.size w w') : RV w' p v L m cs := ⟨by rw [hb.block p (Put.lt_of_heap h.cell)]; exact h.cell, Put.uR h.own hb, h.len⟩
theorem Ic (hm : m < L.length) (hc : cs.length = 10) : (splice L m cs).length = L.length * 10 := by
 unfold splice
 rw [List.length_append, List.length_append, mY, mY, List.length_take, List.length_drop, hc]
 omega
theorem Bv (hm : m < L.length) (hc : cs.length = 10) {j : Nat} {u : Value} (hj : cs[j]? = some u) : (splice L m cs)[m * 10 + j]? = some u := by
 have hl : ((L.take m).flatMap ai).length = m * 10 := by rw [mY, List.length_take]; omega
 have hj2 : j < cs.length := (List.getElem?_eq_some_iff.1 hj).1
 unfold splice
 rw [List.append_assoc, List.getElem?_append_right (by omega), hl, Nat.add_sub_cancel_left, List.getElem?_append_left hj2]
 exact hj
theorem RV.cellAt (h : RV w p (.slice (some ⟨g, 0, none⟩) n cap) L m cs) (hm : m < L.length) : ∀ j u, cs[j]? = some u → w.cell? ⟨g, m * 10 + j, none⟩ = some u ∧ w.frozen? ⟨g, m * 10 + j, none⟩ = false := by
 intro j u hj
 rcases h.own.2 with ⟨e0, _⟩ | ⟨g', cap', cur, e0, _, hg, hn, _, hs, ht⟩
 ·cases e0
 ·cases e0
  have hj2 : j < 10 := by have := (List.getElem?_eq_some_iff.1 hj).1; rw [h.len] at this; exact this
  have h1 := Bv hm h.len hj
  rw [← ht, List.getElem?_take] at h1
  split at h1
  ·rw [Array.getElem?_toList] at h1
   exact ⟨by simp [World.cell?, hg, h1], by simp [World.frozen?, hg]⟩
  ·cases h1
theorem RV.set (h : RV w p (.slice (some ⟨g, 0, none⟩) n cap) L m cs) (hm : m < L.length) {j : Nat} (hj : j < 10) (u : Value) : RV (w.setCell ⟨g, m * 10 + j, none⟩ u) p (.slice (some ⟨g, 0, none⟩) n cap) L m (cs.set j u) := by
 rcases h.own.2 with ⟨e0, _⟩ | ⟨g', cap', cur, e0, hb, hg, hn, hm2, hs, ht⟩
 ·cases e0
 ·cases e0
  have hlt := Put.lt_of_heap hg
  have hne : p ≠ g := Put.aI h.cell hg (by decide)
  refine ⟨by rw [Below.heap_setCell w ⟨g, _, none⟩ u p hne]; exact h.cell, ⟨?_, .inr ⟨g, cap, cur.setIfInBounds (m * 10 + j) u, rfl, hb, ?_, hn, hm2, by simpa using hs, ?_⟩⟩, by rw [List.length_set]; exact h.len⟩
  ·rw [Ic hm (by rw [List.length_set]; exact h.len)]
  ·rw [Array.getElem?_eq_getElem hlt] at hg
   replace hg := Option.some.inj hg
   simp [World.setCell, hlt, Array.getElem_modify, hg]
  ·rw [← Ia hm h.len hj u, ← ht, Array.toList_setIfInBounds, List.take_set]
theorem RV.frame (w : World) (j : Nat) (u : Value) : dL p (some g) w (w.setCell ⟨g, j, none⟩ u) := dL.Aq ((Off.refl p g w).setCell (.inr (.inl rfl)))
theorem ng (h : TV w p v L) (id e0 : Int) {pv : Value} {ps : List Int} (hr : aB enc1 1 w pv ps) (he : bN L 0 id (fun j => decide (j.state ∈ ps)) = e0) (hne : e0 ≠ 0) : Calls Tryz.prog 127 #[.pointer (some ⟨p, 0, none⟩), .int .i64 id, pv] w fun e w' => e = .returned (.tuple #[.pointer none, .int .i64 e0]) ∧ Gr w w' := by
 have hG := gY h id
 have zE := bJ
 obtain ⟨k, hk⟩ : ∃ k, k = 10 := ⟨_, rfl⟩
 rw [← hk] at zE
 replace hk := Lib.hid hk
 have lI := ax (bO L id)
 rw [← hk.out] at lI
 have HS : Hid (∀ W : World, Sem.run Tryz.prog (storeCells ⟨W.heap.size, 0, none⟩ (ai (bO L id)) 0) (W.alloc (.cells #[.int .i64 0, .int .i64 0, .int .i64 0, .int .i64 0, .int .i64 0, .int .i64 0, .int .i64 0, .int .i64 0, .int .i64 0, .int .u64 0] 92)) = .ok () (W.alloc (.cells (ai (bO L id)).toArray 92))) := fun W => dE W W.heap.size (ai (bO L id)) (ai default) 92 rfl (by rw [ax, ax]) (dJ _)
 have HC : Hid (∀ W : World, (W.alloc (.cells (ai (bO L id)).toArray 92)).cell? ⟨W.heap.size, 5, none⟩ = some (.int .i64 (bO L id).state)) := fun W => gV (heap_alloc_new W (.cells (ai (bO L id)).toArray 92)) 5 _ rfl
 have cases : (gN L id = e0 ∧ (e0 == 0) = false) ∨ (gN L id = 0 ∧ e0 = 8 ∧ decide ((bO L id).state ∈ ps) = false) := by
  unfold bN at he
  unfold gN bO
  by_cases a1 : id < 1
  ·rw [if_neg (by decide), if_pos a1] at he
   rw [if_pos a1]
   exact .inl ⟨he, beq_eq_false_iff_ne.2 hne⟩
  ·rw [if_neg (by decide), if_neg a1] at he
   rw [if_neg a1, if_neg a1]
   by_cases a2 : (L.length : Int) < id
   ·rw [if_pos a2] at he
    rw [if_pos a2]
    exact .inl ⟨he, beq_eq_false_iff_ne.2 hne⟩
   ·rw [if_neg a2] at he
    rw [if_neg a2, if_neg a2]
    right
    by_cases a3 : decide ((L[(id - 1).toNat]!).state ∈ ps) = true
    ·rw [if_pos a3] at he; exact absurd he.symm hne
    ·rw [if_neg a3] at he; exact ⟨rfl, he.symm, by simpa using a3⟩
 clear he h
 unfold iU at hG
 generalize bO L id = y at *
 generalize gN L id = eG at *
 generalize hcI : ai y = cI at *
 replace hcI := Lib.hid hcI
 rcases cases with ⟨rfl, hb⟩ | ⟨rfl, rfl, hb⟩
 ·replace hne := Lib.hid hne
  go_enter Tryz.func127, Tryz.ntmps127
  go_wp2_with fail
  go_at_call 77
  refine hG.mono ?_
  clear hG
  rintro e w2 ⟨rfl, hg⟩
  have st := HS.out w2
  have hg2 := Lib.hid (eO hg (Gr.one w2 (.cells cI.toArray 92)))
  clear hg
  go_wp2_with fail
  go_ret2
  exact ⟨rfl, hg2.out⟩
 ·replace hne := Lib.hid hne
  go_enter Tryz.func127, Tryz.ntmps127
  go_wp2_with fail
  go_at_call 77
  refine hG.mono ?_
  clear hG
  rintro e w2 ⟨rfl, hg⟩
  have st := HS.out w2
  have c5 := HC.out w2
  have hg2 := eO hg (Gr.one w2 (.cells cI.toArray 92))
  have hr2 := hr.below hg2.below
  have hct := rY y.state hr2
  rw [hb] at hct
  generalize w2.alloc (.cells cI.toArray 92) = w3 at *
  replace hg2 := Lib.hid hg2
  clear hr hr2 hg HS HC
  generalize y.state = s at *
  go_wp2_with (go_at_call 151; go_must (refine hct.mono ?_); rintro e w' ⟨rfl, rfl⟩)
  go_ret2
  exact ⟨rfl, hg2.out⟩
theorem find_ok (h : TV w p (.slice (some ⟨g, 0, none⟩) n cap) L) (hm : m < L.length) {pv : Value} {ps : List Int} (hr : aB enc1 1 w pv ps) (hs : (L[m]!).state ∈ ps) : Calls Tryz.prog 127 #[.pointer (some ⟨p, 0, none⟩), .int .i64 ((m : Int) + 1), pv] w fun e w' => e = .returned (.tuple #[.pointer (some ⟨g, m * 10, none⟩), .int .i64 0]) ∧ Gr w w' := by
 have hG := gY h ((m : Int) + 1)
 have zE := bJ
 obtain ⟨k, hk⟩ : ∃ k, k = 10 := ⟨_, rfl⟩
 rw [← hk] at zE ⊢
 replace hk := Lib.hid hk
 have e1 : gN L ((m : Int) + 1) = 0 := by unfold gN; rw [if_neg (by omega), if_neg (by omega)]
 have e2 : bO L ((m : Int) + 1) = L[m]! := by unfold bO; rw [if_neg (by omega), if_neg (by omega)]; congr 1; omega
 unfold iU at hG
 rw [e1, e2] at hG
 clear e1 e2
 have lI := ax L[m]!
 rw [← hk.out] at lI
 have HS : Hid (∀ W : World, Sem.run Tryz.prog (storeCells ⟨W.heap.size, 0, none⟩ (ai L[m]!) 0) (W.alloc (.cells #[.int .i64 0, .int .i64 0, .int .i64 0, .int .i64 0, .int .i64 0, .int .i64 0, .int .i64 0, .int .i64 0, .int .i64 0, .int .u64 0] 92)) = .ok () (W.alloc (.cells (ai L[m]!).toArray 92))) := fun W => dE W W.heap.size (ai L[m]!) (ai default) 92 rfl (by rw [ax, ax]) (dJ _)
 have HC : Hid (∀ W : World, (W.alloc (.cells (ai L[m]!).toArray 92)).cell? ⟨W.heap.size, 5, none⟩ = some (.int .i64 (L[m]!).state)) := fun W => gV (heap_alloc_new W (.cells (ai L[m]!).toArray 92)) 5 _ rfl
 have hlen : n = L.length := by
  rcases h.own.2 with ⟨e0, _⟩ | ⟨g', cap', cur, e0, _⟩
  ·cases e0
  ·cases e0; rfl
 have hle := tF h.own
 rw [← hlen] at hm hle
 replace h := Lib.hid h
 have hb : decide ((L[m]!).state ∈ ps) = true := decide_eq_true hs
 generalize L[m]! = y at *
 generalize hcI : ai y = cI at *
 replace hcI := Lib.hid hcI
 have wi : IntKind.i64.wrap ((m : Int) + 1 - 1) = (m : Int) := by rw [IntKind.wrap_i64]; omega
 have b1 : (m : Int) < (n : Int) := by omega
 have b0 : (0 : Int) ≤ (m : Int) := by omega
 replace hlen := Lib.hid hlen
 go_enter Tryz.func127, Tryz.ntmps127
 go_wp2_with fail
 go_at_call 77
 refine hG.mono ?_
 clear hG
 rintro e w2 ⟨rfl, hg⟩
 have st := HS.out w2
 have c5 := HC.out w2
 have hg2 := eO hg (Gr.one w2 (.cells cI.toArray 92))
 have hr2 := hr.below hg2.below
 have hct := rY y.state hr2
 rw [hb] at hct
 have h3 := h.out.kept hg2.below
 have c1 := h3.c1
 generalize w2.alloc (.cells cI.toArray 92) = w3 at *
 replace hg2 := Lib.hid hg2
 clear hr hr2 hg HS HC h3 h hs hb
 generalize y.state = s at *
 go_wp2_with (go_at_call 151; go_must (refine hct.mono ?_); rintro e w' ⟨rfl, rfl⟩)
 go_ret2
 exact ⟨rfl, hg2.out⟩
end
end Go.Proofs.YtelnhablglomjaaGreat

namespace Go.Proofs.YtelnhablglomjaaGreat
open Go.RowKit Go.Sort Go.Lib Go.Shelf Put
def lG (w : World) (p : Nat) (v : Value) (L : List Jb) (e0 id : Int) (ok : Jb → Bool) (ch : Jb → Jb) (e : Ending) (w' : World) : Prop :=
 e = .returned (.int .i64 (bN L e0 id ok)) ∧ TV w' p v (cz L e0 id ok ch) ∧ dL p v.ownBlock w w'
def gZ (a : Int) : Int := if a < -1 then 10 else if 1099511627776 < a then 10 else 0
def gF (a : Int) : Int := if a < 0 then 10 else if 1099511627776 < a then 10 else 0
def bB (s a : Int) : Int := if s < 4 then 1 else if 6 < s then 1 else if a < 0 then 10 else if 2199023255552 < a then 10 else 0
def fe (s : Int) (j : Jb) : Bool := decide (j.state = 3) || (decide (s = 5) && decide (j.state ≤ 2))
section
variable {w w' : World} {p g n cap m : Nat} {v : Value} {L : List Jb}
theorem dF {e0 id e1 : Int} {ok : Jb → Bool} {ch : Jb → Jb} {w0 : World} (h : TV w0 p v L) (he : bN L e0 id ok = e1) (hne : e1 ≠ 0) {e : Ending} (hr : e = .returned (.int .i64 e1)) (hb : Gr w0 w') : lG w0 p v L e0 id ok ch e w' := by
 refine ⟨by rw [he]; exact hr, ?_, dL.of_below hb.below⟩
 unfold cz
 rw [if_neg (by rw [he]; exact hne)]
 exact h.kept hb.below
theorem iO {e0 : Int} {ok : Jb → Bool} {ch : Jb → Jb} {w0 : World} (h0 : e0 = 0) (hm : m < L.length) (hok : ok L[m]! = true) {e : Ending} (hr : e = .returned (.int .i64 0)) (h : TV w' p v (L.set m (ch L[m]!))) (hq : dL p v.ownBlock w0 w') : lG w0 p v L e0 ((m : Int) + 1) ok ch e w' := by
 have em : ((m : Int) + 1 - 1).toNat = m := by omega
 have he : bN L e0 ((m : Int) + 1) ok = 0 := by
  unfold bN
  rw [if_neg (by omega), if_neg (by omega), if_neg (by omega), em, if_pos hok]
 refine ⟨by rw [he]; exact hr, ?_, hq⟩
 unfold cz
 rw [if_pos he, em]
 exact h
theorem jv (L : List Jb) (e0 id : Int) (ok : Jb → Bool) : (∃ e1, bN L e0 id ok = e1 ∧ e1 ≠ 0) ∨ ∃ m : Nat, id = (m : Int) + 1 ∧ m < L.length ∧ ok L[m]! = true := by
 by_cases h : bN L e0 id ok = 0
 ·right
  obtain ⟨_, h1, h2, h3⟩ := NI h
  refine ⟨(id - 1).toNat, by omega, by omega, h3⟩
 ·exact .inl ⟨_, rfl, h⟩
theorem jy {L : List Jb} {e0 id : Int} {ok ok' : Jb → Bool} (h : ∀ j ∈ L, ok j = ok' j) : bN L e0 id ok = bN L e0 id ok' := by
 unfold bN
 by_cases h0 : e0 ≠ 0
 ·rw [if_pos h0, if_pos h0]
 ·rw [if_neg h0, if_neg h0]
  by_cases h1 : id < 1
  ·rw [if_pos h1, if_pos h1]
  ·rw [if_neg h1, if_neg h1]
   by_cases h2 : (L.length : Int) < id
   ·rw [if_pos h2, if_pos h2]
   ·rw [if_neg h2, if_neg h2, h _ (by rw [getElem!_pos L _ (by omega)]; exact List.getElem_mem _)]
theorem iI {L : List Jb} {e0 id : Int} {ok : Jb → Bool} (h : e0 ≠ 0) : bN L e0 id ok = e0 := by unfold bN; rw [if_pos h]
theorem jY {L : List Jb} {e0 id : Int} {ok : Jb → Bool} (h : e0 = 0) : bN L e0 id ok = bN L 0 id ok := by rw [h]
theorem QI (h : TV w p v L) (id : Int)  : Calls Tryz.prog 102 #[.pointer (some ⟨p, 0, none⟩), .int .i64 id] w (lG w p v L ((0 : Int)) id (fun j : Jb => decide (j.state = 1)) (qA)) := by
 have h0 : (0 : Int) = 0 := by rfl
 have hb1 := (Below.refl w.heap.size w).alloc (Nat.le_refl _) (.cells #[.int .i64 1] 3)
 have hr : aB enc1 1 (w.alloc (.cells #[.int .i64 1] 3)) (.slice (some ⟨w.heap.size, 0, none⟩) 1 1) [1] := gB w w.heap.size [1] rfl (by decide)
 have hg1 := Gr.one w (.cells #[.int .i64 1] 3)
 have h1 := h.kept hb1
 have hok : ∀ j ∈ L, (fun j : Jb => decide (j.state = 1)) j = decide (j.state ∈ ([1] : List Int)) := by intro j _; simp
 rcases jv L ((0 : Int)) id (fun j : Jb => decide (j.state = 1)) with ⟨e1, he, hne⟩ | ⟨m, rfl, hm, ho⟩
 ·have hfin := fun (W : World) (e : Ending) (hr : e = .returned (.int .i64 e1)) (hg : Gr w W) => dF (ch := qA) h he hne hr hg
  have hf := ng h1 id e1 hr (by rw [← jy hok, ← jY h0]; exact he) hne
  have d1 : (e1 == 0) = false := beq_eq_false_iff_ne.2 hne
  replace hfin := Lib.hid hfin
  replace hg1 := Lib.hid hg1
  clear h h1 hr hb1 hok he hne
  go_enter Tryz.func102, Tryz.ntmps102
  go_wp2_with fail
  go_at_call 127
  refine hf.mono ?_
  clear hf
  rintro e w2 ⟨rfl, hg⟩
  have hg2 := Lib.hid (eO hg1.out hg)
  clear hg hg1
  go_wp2_with fail
  go_ret
  exact hfin.out _ _ rfl hg2.out
 ·have hs : (L[m]!).state ∈ ([1] : List Int) := of_decide_eq_true ((hok L[m]! (by rw [getElem!_pos L m hm]; exact List.getElem_mem _)).symm.trans ho)
  obtain ⟨g, cap, rfl⟩ := h.shape (by omega)
  have hf := find_ok h1 hm hr hs
  have hfin := fun (W : World) (e : Ending) (hr : e = .returned (.int .i64 0)) (hT : TV W p (.slice (some ⟨g, 0, none⟩) L.length cap) (L.set m ((qA) L[m]!))) (hq : dL p (some g) w W) => iO (e0 := (0 : Int)) (ok := fun j : Jb => decide (j.state = 1)) (ch := qA) h0 hm ho hr hT hq
  have kE := RV.of h hm
  generalize hy : L[m]! = y at *
  replace hy := Lib.hid hy
  replace hfin := Lib.hid hfin
  replace kE := Lib.hid kE
  replace hm := Lib.hid hm
  replace hg1 := Lib.hid hg1
  clear h h1 hr hb1 hok ho hs
  go_enter Tryz.func102, Tryz.ntmps102
  go_wp2_with fail
  go_at_call 127
  refine hf.mono ?_
  clear hf
  rintro e w2 ⟨rfl, hg⟩
  have hg2 := eO hg1.out hg
  have rv := kE.out.kept hg2.below
  have q0 : dL p (some g) w w2 := dL.of_below hg2.below
  clear hg hg1 hg2 kE
  obtain ⟨k5, f5⟩ := rv.cellAt hm.out 5 _ rfl
  obtain ⟨k8, f8⟩ := rv.cellAt hm.out 8 _ rfl
  replace rv := Lib.hid rv
  replace q0 := Lib.hid q0
  go_wp2_with fail
  go_ret
  exact hfin.out _ _ rfl (RV.done (RV.set (RV.set rv.out hm.out (j := 5) (by decide) (.int .i64 2)) hm.out (j := 8) (by decide) (.int .i64 (-1))) hm.out rfl) ((q0.out.trans (RV.frame _ _ _) (dV.refl _ _)).trans (RV.frame _ _ _) (dV.refl _ _))
theorem Ie (h : TV w p v L) (id : Int)  : Calls Tryz.prog 104 #[.pointer (some ⟨p, 0, none⟩), .int .i64 id] w (lG w p v L ((0 : Int)) id (fun j : Jb => decide (j.state = 2)) (pJ)) := by
 have h0 : (0 : Int) = 0 := by rfl
 have hb1 := (Below.refl w.heap.size w).alloc (Nat.le_refl _) (.cells #[.int .i64 2] 3)
 have hr : aB enc1 1 (w.alloc (.cells #[.int .i64 2] 3)) (.slice (some ⟨w.heap.size, 0, none⟩) 1 1) [2] := gB w w.heap.size [2] rfl (by decide)
 have hg1 := Gr.one w (.cells #[.int .i64 2] 3)
 have h1 := h.kept hb1
 have hok : ∀ j ∈ L, (fun j : Jb => decide (j.state = 2)) j = decide (j.state ∈ ([2] : List Int)) := by intro j _; simp
 rcases jv L ((0 : Int)) id (fun j : Jb => decide (j.state = 2)) with ⟨e1, he, hne⟩ | ⟨m, rfl, hm, ho⟩
 ·have hfin := fun (W : World) (e : Ending) (hr : e = .returned (.int .i64 e1)) (hg : Gr w W) => dF (ch := pJ) h he hne hr hg
  have hf := ng h1 id e1 hr (by rw [← jy hok, ← jY h0]; exact he) hne
  have d1 : (e1 == 0) = false := beq_eq_false_iff_ne.2 hne
  replace hfin := Lib.hid hfin
  replace hg1 := Lib.hid hg1
  clear h h1 hr hb1 hok he hne
  go_enter Tryz.func104, Tryz.ntmps104
  go_wp2_with fail
  go_at_call 127
  refine hf.mono ?_
  clear hf
  rintro e w2 ⟨rfl, hg⟩
  have hg2 := Lib.hid (eO hg1.out hg)
  clear hg hg1
  go_wp2_with fail
  go_ret
  exact hfin.out _ _ rfl hg2.out
 ·have hs : (L[m]!).state ∈ ([2] : List Int) := of_decide_eq_true ((hok L[m]! (by rw [getElem!_pos L m hm]; exact List.getElem_mem _)).symm.trans ho)
  obtain ⟨g, cap, rfl⟩ := h.shape (by omega)
  have hf := find_ok h1 hm hr hs
  have hfin := fun (W : World) (e : Ending) (hr : e = .returned (.int .i64 0)) (hT : TV W p (.slice (some ⟨g, 0, none⟩) L.length cap) (L.set m ((pJ) L[m]!))) (hq : dL p (some g) w W) => iO (e0 := (0 : Int)) (ok := fun j : Jb => decide (j.state = 2)) (ch := pJ) h0 hm ho hr hT hq
  have kE := RV.of h hm
  generalize hy : L[m]! = y at *
  replace hy := Lib.hid hy
  replace hfin := Lib.hid hfin
  replace kE := Lib.hid kE
  replace hm := Lib.hid hm
  replace hg1 := Lib.hid hg1
  clear h h1 hr hb1 hok ho hs
  go_enter Tryz.func104, Tryz.ntmps104
  go_wp2_with fail
  go_at_call 127
  refine hf.mono ?_
  clear hf
  rintro e w2 ⟨rfl, hg⟩
  have hg2 := eO hg1.out hg
  have rv := kE.out.kept hg2.below
  have q0 : dL p (some g) w w2 := dL.of_below hg2.below
  clear hg hg1 hg2 kE
  obtain ⟨k5, f5⟩ := rv.cellAt hm.out 5 _ rfl
  replace rv := Lib.hid rv
  replace q0 := Lib.hid q0
  go_wp2_with fail
  go_ret
  exact hfin.out _ _ rfl (RV.done (RV.set rv.out hm.out (j := 5) (by decide) (.int .i64 1)) hm.out rfl) (q0.out.trans (RV.frame _ _ _) (dV.refl _ _))
theorem QJ (h : TV w p v L) (id : Int) (a : Int) : Calls Tryz.prog 149 #[.pointer (some ⟨p, 0, none⟩), .int .i64 id, .int .i64 a] w (lG w p v L (gZ a) id (fun j : Jb => decide (j.state = 1)) (lq a)) := by
 have hno := kQ h
 by_cases t0 : a < -1
 ·have he : gZ a = 10 := by unfold gZ; simp [t0]
  have hfin := fun (W : World) (e : Ending) (hr : e = .returned (.int .i64 10)) (hg : Gr w W) => dF (ch := lq a) h (iI (L := L) (id := id) (ok := fun j : Jb => decide (j.state = 1)) (e0 := gZ a) (by omega) |>.trans he) (by decide) hr hg
  replace hfin := Lib.hid hfin
  clear h he
  have dn : (a != -1) = true := bne_iff_ne.2 (by omega)
  have jR := gW a 1099511627776 w
  rw [show (decide (0 ≤ a) && decide (a ≤ 1099511627776)) = false from by simp; omega] at jR
  go_enter Tryz.func149, Tryz.ntmps149
  go_wp2_with (first | (go_at_call 49; go_must (refine hno.mono ?_); rintro e w' ⟨rfl, rfl⟩) | (go_at_call 126; go_must (refine jR.mono ?_); rintro e w' ⟨rfl, rfl⟩))
  go_ret
  exact hfin.out _ _ rfl (Gr.refl _)
 ·have WO : decide (a < -1) = false := decide_eq_false t0
  by_cases t1 : 1099511627776 < a
  ·have he : gZ a = 10 := by unfold gZ; simp [t0, t1]
   have hfin := fun (W : World) (e : Ending) (hr : e = .returned (.int .i64 10)) (hg : Gr w W) => dF (ch := lq a) h (iI (L := L) (id := id) (ok := fun j : Jb => decide (j.state = 1)) (e0 := gZ a) (by omega) |>.trans he) (by decide) hr hg
   replace hfin := Lib.hid hfin
   clear h he
   have dn : (a != -1) = true := bne_iff_ne.2 (by omega)
   have jR := gW a 1099511627776 w
   rw [show (decide (0 ≤ a) && decide (a ≤ 1099511627776)) = false from by simp; omega] at jR
   go_enter Tryz.func149, Tryz.ntmps149
   go_wp2_with (first | (go_at_call 49; go_must (refine hno.mono ?_); rintro e w' ⟨rfl, rfl⟩) | (go_at_call 126; go_must (refine jR.mono ?_); rintro e w' ⟨rfl, rfl⟩))
   go_ret
   exact hfin.out _ _ rfl (Gr.refl _)
  ·have WQ : decide (1099511627776 < a) = false := decide_eq_false t1
   have h0 : gZ a = 0 := by unfold gZ; simp [t0, t1]
   by_cases ha : a = -1
   ·have dn : (a != -1) = false := by rw [ha]; rfl
    have jR := gW a 1099511627776 w
    have hb1 := (Below.refl w.heap.size w).alloc (Nat.le_refl _) (.cells #[.int .i64 1] 3)
    have hr : aB enc1 1 (w.alloc (.cells #[.int .i64 1] 3)) (.slice (some ⟨w.heap.size, 0, none⟩) 1 1) [1] := gB w w.heap.size [1] rfl (by decide)
    have hg1 := Gr.one w (.cells #[.int .i64 1] 3)
    have h1 := h.kept hb1
    have hok : ∀ j ∈ L, (fun j : Jb => decide (j.state = 1)) j = decide (j.state ∈ ([1] : List Int)) := by intro j _; simp
    rcases jv L (gZ a) id (fun j : Jb => decide (j.state = 1)) with ⟨e1, he, hne⟩ | ⟨m, rfl, hm, ho⟩
    ·have hfin := fun (W : World) (e : Ending) (hr : e = .returned (.int .i64 e1)) (hg : Gr w W) => dF (ch := lq a) h he hne hr hg
     have hf := ng h1 id e1 hr (by rw [← jy hok, ← jY h0]; exact he) hne
     have d1 : (e1 == 0) = false := beq_eq_false_iff_ne.2 hne
     replace hfin := Lib.hid hfin
     replace hg1 := Lib.hid hg1
     clear h h1 hr hb1 hok he hne h0
     clear ha
     go_enter Tryz.func149, Tryz.ntmps149
     go_wp2_with (first | (go_at_call 49; go_must (refine hno.mono ?_); rintro e w' ⟨rfl, rfl⟩) | (go_at_call 126; go_must (refine jR.mono ?_); rintro e w' ⟨rfl, rfl⟩))
     go_at_call 127
     refine hf.mono ?_
     clear hf
     rintro e w2 ⟨rfl, hg⟩
     have hg2 := Lib.hid (eO hg1.out hg)
     clear hg hg1
     go_wp2_with fail
     go_ret
     exact hfin.out _ _ rfl hg2.out
    ·have hs : (L[m]!).state ∈ ([1] : List Int) := of_decide_eq_true ((hok L[m]! (by rw [getElem!_pos L m hm]; exact List.getElem_mem _)).symm.trans ho)
     obtain ⟨g, cap, rfl⟩ := h.shape (by omega)
     have hf := find_ok h1 hm hr hs
     have hfin := fun (W : World) (e : Ending) (hr : e = .returned (.int .i64 0)) (hT : TV W p (.slice (some ⟨g, 0, none⟩) L.length cap) (L.set m ((lq a) L[m]!))) (hq : dL p (some g) w W) => iO (e0 := gZ a) (ok := fun j : Jb => decide (j.state = 1)) (ch := lq a) h0 hm ho hr hT hq
     have kE := RV.of h hm
     generalize hy : L[m]! = y at *
     replace hy := Lib.hid hy
     replace hfin := Lib.hid hfin
     replace kE := Lib.hid kE
     replace hm := Lib.hid hm
     replace hg1 := Lib.hid hg1
     clear h h1 hr hb1 hok ho hs h0
     clear ha
     go_enter Tryz.func149, Tryz.ntmps149
     go_wp2_with (first | (go_at_call 49; go_must (refine hno.mono ?_); rintro e w' ⟨rfl, rfl⟩) | (go_at_call 126; go_must (refine jR.mono ?_); rintro e w' ⟨rfl, rfl⟩))
     go_at_call 127
     refine hf.mono ?_
     clear hf
     rintro e w2 ⟨rfl, hg⟩
     have hg2 := eO hg1.out hg
     have rv := kE.out.kept hg2.below
     have q0 : dL p (some g) w w2 := dL.of_below hg2.below
     clear hg hg1 hg2 kE
     obtain ⟨k8, f8⟩ := rv.cellAt hm.out 8 _ rfl
     replace rv := Lib.hid rv
     replace q0 := Lib.hid q0
     go_wp2_with fail
     go_ret
     exact hfin.out _ _ rfl (RV.done (RV.set rv.out hm.out (j := 8) (by decide) (.int .i64 a)) hm.out rfl) (q0.out.trans (RV.frame _ _ _) (dV.refl _ _))
   ·have dn : (a != -1) = true := bne_iff_ne.2 ha
    have jR := gW a 1099511627776 w
    rw [show (decide (0 ≤ a) && decide (a ≤ 1099511627776)) = true from by simp; omega] at jR
    have hb1 := (Below.refl w.heap.size w).alloc (Nat.le_refl _) (.cells #[.int .i64 1] 3)
    have hr : aB enc1 1 (w.alloc (.cells #[.int .i64 1] 3)) (.slice (some ⟨w.heap.size, 0, none⟩) 1 1) [1] := gB w w.heap.size [1] rfl (by decide)
    have hg1 := Gr.one w (.cells #[.int .i64 1] 3)
    have h1 := h.kept hb1
    have hok : ∀ j ∈ L, (fun j : Jb => decide (j.state = 1)) j = decide (j.state ∈ ([1] : List Int)) := by intro j _; simp
    rcases jv L (gZ a) id (fun j : Jb => decide (j.state = 1)) with ⟨e1, he, hne⟩ | ⟨m, rfl, hm, ho⟩
    ·have hfin := fun (W : World) (e : Ending) (hr : e = .returned (.int .i64 e1)) (hg : Gr w W) => dF (ch := lq a) h he hne hr hg
     have hf := ng h1 id e1 hr (by rw [← jy hok, ← jY h0]; exact he) hne
     have d1 : (e1 == 0) = false := beq_eq_false_iff_ne.2 hne
     replace hfin := Lib.hid hfin
     replace hg1 := Lib.hid hg1
     clear h h1 hr hb1 hok he hne h0
     clear ha
     go_enter Tryz.func149, Tryz.ntmps149
     go_wp2_with (first | (go_at_call 49; go_must (refine hno.mono ?_); rintro e w' ⟨rfl, rfl⟩) | (go_at_call 126; go_must (refine jR.mono ?_); rintro e w' ⟨rfl, rfl⟩))
     go_at_call 127
     refine hf.mono ?_
     clear hf
     rintro e w2 ⟨rfl, hg⟩
     have hg2 := Lib.hid (eO hg1.out hg)
     clear hg hg1
     go_wp2_with fail
     go_ret
     exact hfin.out _ _ rfl hg2.out
    ·have hs : (L[m]!).state ∈ ([1] : List Int) := of_decide_eq_true ((hok L[m]! (by rw [getElem!_pos L m hm]; exact List.getElem_mem _)).symm.trans ho)
     obtain ⟨g, cap, rfl⟩ := h.shape (by omega)
     have hf := find_ok h1 hm hr hs
     have hfin := fun (W : World) (e : Ending) (hr : e = .returned (.int .i64 0)) (hT : TV W p (.slice (some ⟨g, 0, none⟩) L.length cap) (L.set m ((lq a) L[m]!))) (hq : dL p (some g) w W) => iO (e0 := gZ a) (ok := fun j : Jb => decide (j.state = 1)) (ch := lq a) h0 hm ho hr hT hq
     have kE := RV.of h hm
     generalize hy : L[m]! = y at *
     replace hy := Lib.hid hy
     replace hfin := Lib.hid hfin
     replace kE := Lib.hid kE
     replace hm := Lib.hid hm
     replace hg1 := Lib.hid hg1
     clear h h1 hr hb1 hok ho hs h0
     clear ha
     go_enter Tryz.func149, Tryz.ntmps149
     go_wp2_with (first | (go_at_call 49; go_must (refine hno.mono ?_); rintro e w' ⟨rfl, rfl⟩) | (go_at_call 126; go_must (refine jR.mono ?_); rintro e w' ⟨rfl, rfl⟩))
     go_at_call 127
     refine hf.mono ?_
     clear hf
     rintro e w2 ⟨rfl, hg⟩
     have hg2 := eO hg1.out hg
     have rv := kE.out.kept hg2.below
     have q0 : dL p (some g) w w2 := dL.of_below hg2.below
     clear hg hg1 hg2 kE
     obtain ⟨k8, f8⟩ := rv.cellAt hm.out 8 _ rfl
     replace rv := Lib.hid rv
     replace q0 := Lib.hid q0
     go_wp2_with fail
     go_ret
     exact hfin.out _ _ rfl (RV.done (RV.set rv.out hm.out (j := 8) (by decide) (.int .i64 a)) hm.out rfl) (q0.out.trans (RV.frame _ _ _) (dV.refl _ _))
theorem NL (h : TV w p v L) (id : Int) (a : Int) (n0 : Int) (hL : ∀ j ∈ L, 1 ≤ j.limit ∧ j.limit ≤ 1048576) : Calls Tryz.prog 168 #[.pointer (some ⟨p, 0, none⟩), .int .i64 id, .int .i64 a, .int .u64 n0] w (lG w p v L (gF a) id (fun j : Jb => decide (j.state = 1)) (mg a n0)) := by
 have hno := kQ h
 by_cases t0 : a < 0
 ·have he : gF a = 10 := by unfold gF; simp [t0]
  have hfin := fun (W : World) (e : Ending) (hr : e = .returned (.int .i64 10)) (hg : Gr w W) => dF (ch := mg a n0) h (iI (L := L) (id := id) (ok := fun j : Jb => decide (j.state = 1)) (e0 := gF a) (by omega) |>.trans he) (by decide) hr hg
  replace hfin := Lib.hid hfin
  clear h he hL
  have jR := gW a 1099511627776 w
  rw [show (decide (0 ≤ a) && decide (a ≤ 1099511627776)) = false from by simp; omega] at jR
  go_enter Tryz.func168, Tryz.ntmps168
  go_wp2_with (first | (go_at_call 49; go_must (refine hno.mono ?_); rintro e w' ⟨rfl, rfl⟩) | (go_at_call 126; go_must (refine jR.mono ?_); rintro e w' ⟨rfl, rfl⟩))
  go_ret
  exact hfin.out _ _ rfl (Gr.refl _)
 ·have WO : decide (a < 0) = false := decide_eq_false t0
  by_cases t1 : 1099511627776 < a
  ·have he : gF a = 10 := by unfold gF; simp [t0, t1]
   have hfin := fun (W : World) (e : Ending) (hr : e = .returned (.int .i64 10)) (hg : Gr w W) => dF (ch := mg a n0) h (iI (L := L) (id := id) (ok := fun j : Jb => decide (j.state = 1)) (e0 := gF a) (by omega) |>.trans he) (by decide) hr hg
   replace hfin := Lib.hid hfin
   clear h he hL
   have jR := gW a 1099511627776 w
   rw [show (decide (0 ≤ a) && decide (a ≤ 1099511627776)) = false from by simp; omega] at jR
   go_enter Tryz.func168, Tryz.ntmps168
   go_wp2_with (first | (go_at_call 49; go_must (refine hno.mono ?_); rintro e w' ⟨rfl, rfl⟩) | (go_at_call 126; go_must (refine jR.mono ?_); rintro e w' ⟨rfl, rfl⟩))
   go_ret
   exact hfin.out _ _ rfl (Gr.refl _)
  ·have WQ : decide (1099511627776 < a) = false := decide_eq_false t1
   have h0 : gF a = 0 := by unfold gF; simp [t0, t1]
   have jR := gW a 1099511627776 w
   rw [show (decide (0 ≤ a) && decide (a ≤ 1099511627776)) = true from by simp; omega] at jR
   have hb1 := (Below.refl w.heap.size w).alloc (Nat.le_refl _) (.cells #[.int .i64 1] 3)
   have hr : aB enc1 1 (w.alloc (.cells #[.int .i64 1] 3)) (.slice (some ⟨w.heap.size, 0, none⟩) 1 1) [1] := gB w w.heap.size [1] rfl (by decide)
   have hg1 := Gr.one w (.cells #[.int .i64 1] 3)
   have h1 := h.kept hb1
   have hok : ∀ j ∈ L, (fun j : Jb => decide (j.state = 1)) j = decide (j.state ∈ ([1] : List Int)) := by intro j _; simp
   rcases jv L (gF a) id (fun j : Jb => decide (j.state = 1)) with ⟨e1, he, hne⟩ | ⟨m, rfl, hm, ho⟩
   ·have hfin := fun (W : World) (e : Ending) (hr : e = .returned (.int .i64 e1)) (hg : Gr w W) => dF (ch := mg a n0) h he hne hr hg
    have hf := ng h1 id e1 hr (by rw [← jy hok, ← jY h0]; exact he) hne
    have d1 : (e1 == 0) = false := beq_eq_false_iff_ne.2 hne
    replace hfin := Lib.hid hfin
    replace hg1 := Lib.hid hg1
    clear h h1 hr hb1 hok he hne hL h0
    go_enter Tryz.func168, Tryz.ntmps168
    go_wp2_with (first | (go_at_call 49; go_must (refine hno.mono ?_); rintro e w' ⟨rfl, rfl⟩) | (go_at_call 126; go_must (refine jR.mono ?_); rintro e w' ⟨rfl, rfl⟩))
    go_at_call 127
    refine hf.mono ?_
    clear hf
    rintro e w2 ⟨rfl, hg⟩
    have hg2 := Lib.hid (eO hg1.out hg)
    clear hg hg1
    go_wp2_with fail
    go_ret
    exact hfin.out _ _ rfl hg2.out
   ·have hs : (L[m]!).state ∈ ([1] : List Int) := of_decide_eq_true ((hok L[m]! (by rw [getElem!_pos L m hm]; exact List.getElem_mem _)).symm.trans ho)
    obtain ⟨g, cap, rfl⟩ := h.shape (by omega)
    have hf := find_ok h1 hm hr hs
    have hfin := fun (W : World) (e : Ending) (hr : e = .returned (.int .i64 0)) (hT : TV W p (.slice (some ⟨g, 0, none⟩) L.length cap) (L.set m ((mg a n0) L[m]!))) (hq : dL p (some g) w W) => iO (e0 := gF a) (ok := fun j : Jb => decide (j.state = 1)) (ch := mg a n0) h0 hm ho hr hT hq
    have hlim := hL L[m]! (by rw [getElem!_pos L m hm]; exact List.getElem_mem _)
    clear hL
    have kE := RV.of h hm
    generalize hy : L[m]! = y at *
    replace hy := Lib.hid hy
    replace hfin := Lib.hid hfin
    replace kE := Lib.hid kE
    replace hm := Lib.hid hm
    replace hg1 := Lib.hid hg1
    clear h h1 hr hb1 hok ho hs h0
    go_enter Tryz.func168, Tryz.ntmps168
    go_wp2_with (first | (go_at_call 49; go_must (refine hno.mono ?_); rintro e w' ⟨rfl, rfl⟩) | (go_at_call 126; go_must (refine jR.mono ?_); rintro e w' ⟨rfl, rfl⟩))
    go_at_call 127
    refine hf.mono ?_
    clear hf
    rintro e w2 ⟨rfl, hg⟩
    have hg2 := eO hg1.out hg
    have rv := kE.out.kept hg2.below
    have q0 : dL p (some g) w w2 := dL.of_below hg2.below
    clear hg hg1 hg2 kE
    obtain ⟨k3, f3⟩ := rv.cellAt hm.out 3 _ rfl
    obtain ⟨k5, f5⟩ := rv.cellAt hm.out 5 _ rfl
    obtain ⟨k6, f6⟩ := rv.cellAt hm.out 6 _ rfl
    obtain ⟨k7, f7⟩ := rv.cellAt hm.out 7 _ rfl
    obtain ⟨k8, f8⟩ := rv.cellAt hm.out 8 _ rfl
    obtain ⟨k9, f9⟩ := rv.cellAt hm.out 9 _ rfl
    have wl : IntKind.i64.wrap (a + y.2.2.2.1) = a + y.2.2.2.1 := by (have : y.limit = y.2.2.2.1 := rfl); rw [IntKind.wrap_i64]; omega
    replace rv := Lib.hid rv
    replace q0 := Lib.hid q0
    go_wp2_with fail
    go_ret
    exact hfin.out _ _ rfl (RV.done (RV.set (RV.set (RV.set (RV.set (RV.set rv.out hm.out (j := 5) (by decide) (.int .i64 3)) hm.out (j := 6) (by decide) (.int .i64 a)) hm.out (j := 7) (by decide) (.int .i64 (a + y.2.2.2.1))) hm.out (j := 8) (by decide) (.int .i64 (-1))) hm.out (j := 9) (by decide) (.int .u64 n0)) hm.out rfl) (((((q0.out.trans (RV.frame _ _ _) (dV.refl _ _)).trans (RV.frame _ _ _) (dV.refl _ _)).trans (RV.frame _ _ _) (dV.refl _ _)).trans (RV.frame _ _ _) (dV.refl _ _)).trans (RV.frame _ _ _) (dV.refl _ _))
end
end Go.Proofs.YtelnhablglomjaaGreat

namespace Go.Proofs.YtelnhablglomjaaGreat
open Go.RowKit Go.Sort Go.Lib Go.Shelf Put
theorem QK {w : World} {b : Nat} {x : Jb} {cs : List Value} (hb : w.heap[b]? = some (.cells cs.toArray 92 (0, 0))) (hl : cs.length = 10) :
 Sem.run Tryz.prog (storeCells ⟨b, 0, none⟩ (ai x) 0) w = .ok () (w.setRow b (ai x).toArray) ∧ (w.setRow b (ai x).toArray).heap[b]? = some (.cells (ai x).toArray 92 (0, 0)) ∧ Off b b w (w.setRow b (ai x).toArray) := by
 have hst := run_storeCells_at Tryz.prog b 0 92 (ai x) 0 cs.toArray w hb (by simp [hl, ax]) (dJ x)
 simp only [Nat.add_zero] at hst
 have e : ((cs.toArray.toList.take 0 ++ ai x ++ cs.toArray.toList.drop (0 + (ai x).length)).toArray) = (ai x).toArray := by simp [hl, ax]
 rw [e] at hst
 exact ⟨hst, setRow_heap w b _ _ _ _ hb, ⟨rfl, rfl, rfl, by simp, fun k hk h1 _ => setRow_other w b k _ h1⟩⟩
theorem QL {w : World} {b j : Nat} {u : Value} {cs : List Value} (hb : w.heap[b]? = some (.cells cs.toArray 92 (0, 0))) :
 (w.setCell ⟨b, j, none⟩ u).heap[b]? = some (.cells (cs.set j u).toArray 92 (0, 0)) ∧ Off b b w (w.setCell ⟨b, j, none⟩ u) := by
 have hlt := Put.lt_of_heap hb
 refine ⟨?_, (Off.refl b b w).setCell (.inl rfl)⟩
 rw [Array.getElem?_eq_getElem hlt] at hb
 replace hb := Option.some.inj hb
 simp [World.setCell, hlt, Array.getElem_modify, hb]
def jb_AppS (w1 : World) (hq : Value) (L : List Jb) (x : Jb) (vs : List Value) (W : World) : Prop :=
 match vs with
 | [] => W.ownsRow 0 92 10 hq L.length (L.flatMap ai)
 | v' :: _ => W.ownsRow 0 92 10 v' (L.length + 1) (L.flatMap ai ++ ai x) ∧ dV w1 hq.ownBlock v'.ownBlock
theorem xJ {w1 a b : World} {hq : Value} {L : List Jb} {x : Jb} {vs : List Value} (h : Below a.heap.size a b) (hs : jb_AppS w1 hq L x vs a) : jb_AppS w1 hq L x vs b := by
 unfold jb_AppS at *
 split at hs
 ·exact Put.uR hs h
 ·exact ⟨Put.uR hs.1 h, hs.2⟩
section
variable {T : TypeId} {pre : List Value} {w w' : World} {p g : Nat} {v : Value} {L : List Jb}
theorem BV.Ea {x : Value} {g' m c : Nat} {D : List Jb} (hT : T ≠ 92) (hp : w.heap[p]? = some (.cells (pre ++ [x]).toArray T (0, 0))) (ho : w.ownsRow 0 92 10 (.slice (some ⟨g', 0, none⟩) m c) D.length (D.flatMap ai)) :
 BV T pre (w.setCell ⟨p, pre.length, none⟩ (.slice (some ⟨g', 0, none⟩) m c)) p (.slice (some ⟨g', 0, none⟩) m c) D ∧ ∀ o, dL p o w (w.setCell ⟨p, pre.length, none⟩ (.slice (some ⟨g', 0, none⟩) m c)) := by
 have hlt := Put.lt_of_heap hp
 have hne : p ≠ g' := by
  rcases ho.2 with ⟨e0, _⟩ | ⟨g2, cap', cur, e0, _, hg, _⟩
  ·cases e0
  ·cases e0
   exact Put.aI hp hg hT
 refine ⟨⟨?_, Aw ho (fun k hk => by
  have : g' = k := by simpa [Value.ownBlock] using hk
  subst this
  exact fun e => hne e.symm) _ _⟩, fun o => ⟨rfl, rfl, rfl, by simp, fun k hk h1 _ => Below.heap_setCell w ⟨p, _, none⟩ _ k h1⟩⟩
 rw [Array.getElem?_eq_getElem hlt] at hp
 replace hp := Option.some.inj hp
 simp [World.setCell, hlt, Array.getElem_modify, hp]
def Bw (T : TypeId) (pre : List Value) (w : World) (p : Nat) (v : Value) (L : List Jb) (r : Rq) (e : Ending) (w' : World) : Prop :=
 e = .returned (.tuple #[.int .i64 (mf L r), .int .i64 (je L r)]) ∧ ∃ v', BV T pre w' p v' (ql L r) ∧ dL p v.ownBlock w w' ∧ dV w v.ownBlock v'.ownBlock
theorem zB {r : Rq} {e : Ending} {e1 : Int} (h : BV T pre w p v L) (he : je L r = e1) (hne : e1 ≠ 0) (hr : e = .returned (.tuple #[.int .i64 0, .int .i64 e1])) (hb : Below w.heap.size w w') : Bw T pre w p v L r e w' := by
 unfold je at he
 by_cases h0 : aQ r ≠ 0
 ·rw [if_pos h0] at he
  refine ⟨?_, v, ?_, dL.of_below hb, dV.refl _ _⟩
  ·unfold mf je; rw [if_pos h0, if_pos h0, he]; exact hr
  ·unfold ql; rw [if_pos h0]; exact h.kept hb
 ·rw [if_neg h0] at he
  by_cases h1 : 64 ≤ jM L ∨ 1024 ≤ L.length
  ·rw [if_pos h1] at he
   refine ⟨?_, v, ?_, dL.of_below hb, dV.refl _ _⟩
   ·unfold mf je; rw [if_neg h0, if_neg h0, if_pos h1, if_pos h1, he]; exact hr
   ·unfold ql; rw [if_neg h0, if_pos h1]; exact h.kept hb
  ·rw [if_neg h1] at he; exact absurd he.symm hne
theorem FR {r : Rq} {e : Ending} {v' : Value} (h0 : aQ r = 0) (hl : jM L < 64) (hn : L.length < 1024) (hr : e = .returned (.tuple #[.int .i64 ((L.length : Int) + 1), .int .i64 0])) (h : BV T pre w' p v' (L ++ [D8 L r])) (hq : dL p v.ownBlock w w') (ho : dV w v.ownBlock v'.ownBlock) : Bw T pre w p v L r e w' := by
 have a0 : ¬ aQ r ≠ 0 := by omega
 have a1 : ¬ (64 ≤ jM L ∨ 1024 ≤ L.length) := by omega
 refine ⟨?_, v', ?_, hq, ho⟩
 ·unfold mf je; rw [if_neg a0, if_neg a0, if_neg a1, if_neg a1]; exact hr
 ·unfold ql; rw [if_neg a0, if_neg a1]; exact h
theorem KA (h : TV w p v L) (hG : ∀ j ∈ L, 1 ≤ j.state ∧ j.state ≤ 6) (hL : L.length ≤ 900) (r : Rq) : Calls Tryz.prog 98 #[.pointer (some ⟨p, 0, none⟩), .agg (encR r).toArray] w (Bw 103 [.bool true] w p v L r) := by
 have nY := TF
 have zR := kC
 obtain ⟨i0, hi0, hz0, hz1, hz2⟩ := info_parts xI
 obtain ⟨k9, bP⟩ : ∃ k, k = 9 := ⟨_, rfl⟩
 have lR := gP r
 rw [← bP] at zR lR
 have hb1 := (Below.refl w.heap.size w).alloc (Nat.le_refl _) (.cells (encR r).toArray 24)
 have ER := heap_alloc_new w (.cells (encR r).toArray 24)
 have hsz1 : (w.alloc (.cells (encR r).toArray 24)).heap.size = w.heap.size + 1 := by simp
 obtain ⟨w1, hw1⟩ : ∃ w1, w1 = w.alloc (.cells (encR r).toArray 24) := ⟨_, rfl⟩
 rw [← hw1] at hb1 ER hsz1
 have h1 := h.kept hb1
 have lr := (show Sem.run Tryz.prog (loadCellsFrom ⟨w.heap.size, 0, none⟩ 0 k9 #[]) w1 = .ok (encR r).toArray w1 from run_loadCellsFrom_list Tryz.prog w1 _ _ k9 lR fun j u hj => by rw [Go.WideShapes.add_plain]; simpa using jr ER j u hj)
 have hno := kQ h1
 have hrt := oK r w1
 replace bP := Lib.hid bP
 by_cases h0 : aQ r = 0
 ·rw [h0] at hrt
  replace h := Lib.hid h
  replace h1 := Lib.hid h1
  go_enter Tryz.func98, Tryz.ntmps98
  go_wp2_with fail
  go_at_call 49
  rw [← hw1]
  replace hw1 := Lib.hid hw1
  refine hno.mono ?_
  clear hno
  rintro e w' ⟨rfl, rfl⟩
  go_wp2_with fail
  go_at_call 120
  refine hrt.mono ?_
  clear hrt lr
  rintro e w2 ⟨rfl, o2, rfl⟩
  have hb2 : Below w.heap.size w (w1.alloc o2) := hb1.alloc hb1.size _
  have hR2 : (w1.alloc o2).heap[w.heap.size]? = _ := (Go.heap_alloc_old w1 o2 (by omega)).trans ER
  have hsz2 : w.heap.size + 1 ≤ (w1.alloc o2).heap.size := by simp [hsz1]
  generalize w1.alloc o2 = w2 at *
  have h2 := h.out.kept hb2
  have hlv := QH h2 (by omega) hG
  clear h1 hb1 ER hsz1 h2 hG
  by_cases hfull : 64 ≤ jM L
  ·have hfin := fun (W : World) (e : Ending) hr hb => zB (w' := W) (e := e) (r := r) h.out (show je L r = 6 by unfold je; rw [if_neg (by omega), if_pos (.inl hfull)]) (by decide) hr hb
   have d1 : decide ((64 : Int) ≤ (jM L : Int)) = true := decide_eq_true (by omega)
   replace hfin := Lib.hid hfin
   clear h h0 hfull lR
   generalize jM L = nl at *
   go_wp2_with fail
   go_at_call 121
   refine hlv.mono ?_
   clear hlv
   rintro e w4 ⟨rfl, hb4⟩
   have hb5 := Lib.hid (hb2.trans (hb4.mono hb2.size))
   clear hb4 hb2
   go_wp2_with fail
   go_ret2
   exact hfin.out _ _ rfl hb5.out
  ·have hfin := fun (W : World) (e : Ending) (v' : Value) (hr : e = .returned (.tuple #[.int .i64 ((L.length : Int) + 1), .int .i64 0])) h ho hq => FR (T := 103) (pre := [.bool true]) (p := p) (w := w) (w' := W) (v := v) (v' := v') (r := r) (L := L) h0 (by omega) (by omega) hr h ho hq
   have d1 : decide ((64 : Int) ≤ (jM L : Int)) = false := decide_eq_false (by omega)
   have d2 : decide ((1024 : Int) ≤ (L.length : Int)) = false := decide_eq_false (by omega)
   replace hfin := Lib.hid hfin
   clear h0 hfull
   generalize jM L = nl at *
   go_wp2_with fail
   go_at_call 121
   refine hlv.mono ?_
   clear hlv
   rintro e w4 ⟨rfl, QM⟩
   have hb4 : Below w.heap.size w w4 := hb2.trans (QM.mono hb2.size)
   have pK := (QM.block _ (by omega)).trans hR2
   have qX := h.out.kept hb4
   have hln := Ib qX
   have wn : IntKind.i64.wrap ((L.length : Int) + 1) = (L.length : Int) + 1 := by rw [IntKind.wrap_i64]; omega
   clear QM hb2 hR2
   replace qX := Lib.hid qX
   replace pK := Lib.hid pK
   replace hb4 := Lib.hid hb4
   go_wp2_with (go_at_call 122; go_must (refine hln.mono ?_); rintro e w' ⟨rfl, rfl⟩)
   obtain ⟨cY, Ad⟩ : ∃ cY, cY = ai ((L.length : Int) + 1, r.user, r.width, r.limit, r.prio, 1, -1, -1, -1, 0) := ⟨_, rfl⟩
   have hcl : cY.length = 10 := by rw [Ad]; rfl
   simp only [ai] at Ad
   replace Ad := Lib.hid Ad
   replace hcl := Lib.hid hcl
   refine Reg2.rd w4 13 50 [[],[af],[af,af],[ae,ae,ae],[ae,ae,ae,af],[ae,ae,ae,ae,ae],[ae,ae,ae,ae,ae,af],[ae,ae,ae,ae,ae,ae,ae],[ae,ae,ae,ae,ae,ae,ae,af],[ae,ae,ae,ae,ae,ae,ae,ae,ae],[ae,ae,ae,ae,ae,ae,ae,ae,ae,af],[af,af,af,af,af,af,af,af,af,af,af],[ae,ae,ae,ae,ae,ae,ae,ae,ae,ae,ae,ae]] [0, 1, 0, 0, 1, 0, 1, 0, 1, 0, 1, 0, 1] [.pure, .mU (.int .i64 (L.length : Int)), .pure, .pure, .mU (.int .i64 r.user), .pure, .mU (.int .i64 r.width), .pure, .mU (.int .i64 r.limit), .pure, .mU (.int .i64 r.prio), .pure, .minor Nat 0 (fun x => .pointer (some ⟨x, 0, none⟩)) (fun x W => W.heap[x]? = some (.cells #[.int .i64 0, .int .i64 0, .int .i64 0, .int .i64 0, .int .i64 0, .int .i64 0, .int .i64 0, .int .i64 0, .int .i64 0, .int .u64 0] 92 (0, 0)) ∧ w4.heap.size ≤ x)] (by kernel_rfl) (by kernel_rfl) rfl rfl ⟨trivial, Reg2.tt, trivial, trivial, Reg2.tt, trivial, Reg2.tt, trivial, Reg2.tt, trivial, Reg2.tt, trivial, ⟨fun x a b he h => ⟨(Below.block he x (Put.lt_of_heap h.1)).trans h.1, h.2⟩, fun x a b he h => ⟨(Below.block he x (Put.lt_of_heap h.1)).trans h.1, h.2⟩⟩, trivial⟩ ⟨rfl, rfl, rfl, Nat.le_refl _, fun _ _ => rfl⟩ ?_
   dsimp only [Reg2.mk, List.zip, List.zipWith, List.take]
   repeat (refine' Reg2.ak _ (by rfl) (fun wz => ?_) ?_; rotate_left; (go_simp; first | rfl | rw [if_neg (by omega)]); simp only [Act.put, xA, xB, xC, xD, xE, id])
   refine Reg2.pm (fun wz hI hF => ?_) (fun r1 => ?_) (by rfl)
   ·have hl := Ib (qX.out.kept hI)
    go_wp2_with (go_at_call 122; go_must (refine hl.mono ?_); rintro e w' ⟨rfl, rfl⟩)
    first | exact ⟨_, rfl, rfl, Reg2.Ext.refl _⟩ | exact ⟨_, rfl, ⟨(), rfl, trivial⟩, Reg2.Ext.refl _⟩
   simp only [Act.put, xA, xB, xC, xD, xE, id]
   repeat (refine' Reg2.ak _ (by rfl) (fun wz => ?_) ?_; rotate_left; (go_simp; first | rfl | rw [if_neg (by omega)]); simp only [Act.put, xA, xB, xC, xD, xE, id])
   refine Reg2.pm (fun wz hI hF => ?_) (fun r4 => ?_) (by rfl)
   ·have d0 := jr (hI.block _ (Put.lt_of_heap pK.out) |>.trans pK.out) 2 _ rfl
    go_wp2_with fail
    first | exact ⟨_, rfl, rfl, Reg2.Ext.refl _⟩ | exact ⟨_, rfl, ⟨(), rfl, trivial⟩, Reg2.Ext.refl _⟩
   simp only [Act.put, xA, xB, xC, xD, xE, id]
   repeat (refine' Reg2.ak _ (by rfl) (fun wz => ?_) ?_; rotate_left; (go_simp; first | rfl | rw [if_neg (by omega)]); simp only [Act.put, xA, xB, xC, xD, xE, id])
   refine Reg2.pm (fun wz hI hF => ?_) (fun r6 => ?_) (by rfl)
   ·have d0 := jr (hI.block _ (Put.lt_of_heap pK.out) |>.trans pK.out) 3 _ rfl
    go_wp2_with fail
    first | exact ⟨_, rfl, rfl, Reg2.Ext.refl _⟩ | exact ⟨_, rfl, ⟨(), rfl, trivial⟩, Reg2.Ext.refl _⟩
   simp only [Act.put, xA, xB, xC, xD, xE, id]
   repeat (refine' Reg2.ak _ (by rfl) (fun wz => ?_) ?_; rotate_left; (go_simp; first | rfl | rw [if_neg (by omega)]); simp only [Act.put, xA, xB, xC, xD, xE, id])
   refine Reg2.pm (fun wz hI hF => ?_) (fun r8 => ?_) (by rfl)
   ·have d0 := jr (hI.block _ (Put.lt_of_heap pK.out) |>.trans pK.out) 4 _ rfl
    go_wp2_with fail
    first | exact ⟨_, rfl, rfl, Reg2.Ext.refl _⟩ | exact ⟨_, rfl, ⟨(), rfl, trivial⟩, Reg2.Ext.refl _⟩
   simp only [Act.put, xA, xB, xC, xD, xE, id]
   repeat (refine' Reg2.ak _ (by rfl) (fun wz => ?_) ?_; rotate_left; (go_simp; first | rfl | rw [if_neg (by omega)]); simp only [Act.put, xA, xB, xC, xD, xE, id])
   refine Reg2.pm (fun wz hI hF => ?_) (fun Bz => ?_) (by rfl)
   ·have d0 := jr (hI.block _ (Put.lt_of_heap pK.out) |>.trans pK.out) 5 _ rfl
    go_wp2_with fail
    first | exact ⟨_, rfl, rfl, Reg2.Ext.refl _⟩ | exact ⟨_, rfl, ⟨(), rfl, trivial⟩, Reg2.Ext.refl _⟩
   simp only [Act.put, xA, xB, xC, xD, xE, id]
   refine Reg2.ak (.agg cY.toArray) (by rfl) (fun wz => ?_) ?_
   ·go_simp
    rw [Ad.out]
   simp only [Act.put, xA, xB, xC, xD, xE, id]
   refine Reg2.pm (fun wz hI hF => ?_) (fun xK => ?_) (by rfl)
   ·go_wp2_with fail
    exact ⟨_, rfl, ⟨wz.heap.size, rfl, heap_alloc_new wz _, by have := hI.size; omega⟩, (Below.refl wz.heap.size wz).alloc (Nat.le_refl _) _⟩
   simp only [Act.put, xA, xB, xC, xD, xE, id]
   refine Reg2.aA ?_
   intro w5 KC _ WR
   obtain ⟨Ig, hx5⟩ := WR.2.2.2.2.2.2.2.2.2.2.2.2.1
   clear WR r1 r4 r6 r8 Bz
   dsimp only [List.drop]
   obtain ⟨WT, hb6, Eb⟩ := QK (x := ((L.length : Int) + 1, r.user, r.width, r.limit, r.prio, 1, -1, -1, -1, 0)) (cs := [.int .i64 0, .int .i64 0, .int .i64 0, .int .i64 0, .int .i64 0, .int .i64 0, .int .i64 0, .int .i64 0, .int .i64 0, .int .u64 0]) Ig rfl
   rw [show ai ((L.length : Int) + 1, r.user, r.width, r.limit, r.prio, 1, -1, -1, -1, 0) = cY from Ad.out.symm] at WT hb6 Eb
   have zE := bJ
   obtain ⟨k, hk⟩ : ∃ k, k = 10 := ⟨_, rfl⟩
   rw [← hk] at zE
   have lI : cY.length = k := by rw [hk]; exact hcl.out
   have TL := qX.out.kept KC
   have KD := (KC.block _ (Put.lt_of_heap pK.out)).trans pK.out
   have hx0 : xK ≠ p := fun e => by have := qX.out.lt; omega
   have qY : w.heap.size ≠ xK := fun e => by have := Put.lt_of_heap pK.out; omega
   have ZJ : w.heap.size ≤ xK := by have := hb4.out.size; omega
   have hxo : v.ownBlock ≠ some xK := fun e => by have := (qX.out.own.lt _ e).2; omega
   have Ae : BV 103 [.bool true] (w5.setRow xK cY.toArray) p v L := ⟨(Eb.block p TL.lt hx0.symm hx0.symm).trans TL.cell, Eb.own TL.own fun k hk => ⟨fun e => hxo (by rw [hk, e]), fun e => hxo (by rw [hk, e])⟩⟩
   have NM := (Eb.block w.heap.size (Put.lt_of_heap KD) qY qY).trans KD
   have Ih : Below w.heap.size w (w5.setRow xK cY.toArray) := by
    have hb5 := hb4.out.trans (KC.mono hb4.out.size)
    have := hb4.out.size
    exact hb5.trans (Eb.below (by omega) (by omega) hb5.size)
   obtain ⟨w6, xL⟩ : ∃ w6, w6 = w5.setRow xK cY.toArray := ⟨_, rfl⟩
   rw [← xL] at WT Ae NM Ih hb6
   replace xL := Lib.hid xL
   have hd6 := jr NM 6 _ rfl
   clear Ig pK qX TL KD Eb NM KC hx5 hb4
   replace Ae := Lib.hid Ae
   replace Ih := Lib.hid Ih
   replace hb6 := Lib.hid hb6
   have f65 : w6.frozen? ⟨xK, 5, none⟩ = false := by simp [World.frozen?, hb6.out]
   have WU : w6.cell? ⟨xK, 5, none⟩ = some (.int .i64 1) := by simp [World.cell?, hb6.out, Ad.out]
   replace hk := Lib.hid hk
   rcases Bool.eq_false_or_eq_true r.held with hh | hh
   ·rw [hh] at hd6
    go_wp2_with fail
    obtain ⟨hA, QN⟩ := QL (j := 5) (u := .int .i64 2) hb6.out
    have hT : BV 103 [.bool true] (w6.setCell ⟨xK, 5, none⟩ (.int .i64 2)) p v L := ⟨(QN.block p Ae.out.lt hx0.symm hx0.symm).trans Ae.out.cell, QN.own Ae.out.own fun k hk => ⟨fun e => hxo (by rw [hk, e]), fun e => hxo (by rw [hk, e])⟩⟩
    have CZ : Below w.heap.size w (w6.setCell ⟨xK, 5, none⟩ (.int .i64 2)) := Ih.out.trans (QN.below (by omega) (by omega) Ih.out.size)
    generalize aJ : w6.setCell ⟨xK, 5, none⟩ (.int .i64 2) = wA at *
    replace aJ := Lib.hid aJ
    have ey : ((L.length : Int) + 1, r.user, r.width, r.limit, r.prio, 2, -1, -1, -1, 0) = D8 L r := by unfold D8; rw [hh]; rfl
    have hbne := hxo
    obtain ⟨b, hb⟩ : ∃ b, b = xK := ⟨_, rfl⟩
    rw [← hb] at hA hbne ⊢
    replace hb := Lib.hid hb
    obtain rfl := hk.out
    clear zE lI hd6 f65 WU hxo hx0 hb6 Ae Ih
    obtain ⟨y, hy⟩ : ∃ y : Jb, y = ((L.length : Int) + 1, r.user, r.width, r.limit, r.prio, 2, -1, -1, -1, 0) := ⟨_, rfl⟩
    replace hA : wA.heap[b]? = some (.cells (ai y).toArray 92 (0, 0)) := by rw [hy]; rw [Ad.out] at hA; exact hA
    have hid : y.1 = (L.length : Int) + 1 := by rw [hy]
    rw [← hy] at ey
    replace hy := Lib.hid hy
    replace CZ := Lib.hid CZ
    replace ey := Lib.hid ey
    obtain ⟨x1, x2, x3, x4, x5, x6, x7, x8, x9, x0⟩ := y
    replace hid : Hid (x1 = (L.length : Int) + 1) := Lib.hid hid
    have cA := hT.c1
    have hpl := hT.lt
    have FT : v.ownBlock ≠ some p := hT.ob (by decide)
    have ui : ∀ W, wA.grownBy W v.ownBlock → W.heap[p]? = _ := fun W hW => (hW.block p hpl (fun e => FT e.symm)).trans hT.cell
    have uj : ∀ W, wA.grownBy W v.ownBlock → W.heap[b]? = some (.cells (ai (x1, x2, x3, x4, x5, x6, x7, x8, x9, x0)).toArray 92 (0, 0)) := fun W hW => (hW.block b (Put.lt_of_heap hA) (fun e => hbne e.symm)).trans hA
    have hI0 : wA.grownBy wA.drew v.ownBlock := ⟨rfl, rfl, rfl, Nat.le_refl _, fun _ _ _ => rfl⟩
    have hS0 : wA.drew.ownsRow 0 92 10 v L.length (L.flatMap ai) := bA hT.own fun _ _ => rfl
    have BA : Hid ((ai (x1, x2, x3, x4, x5, x6, x7, x8, x9, x0)).length = 10) := ax _
    have BB : Hid (∀ u ∈ ai (x1, x2, x3, x4, x5, x6, x7, x8, x9, x0), u.oneCell' = true) := dJ _
    have FU : ∀ q, v.ownBlock = some q → q < wA.heap.size := fun q hq' => (hT.own.lt q hq').2
    replace hT := Lib.hid hT
    replace hA := Lib.hid hA
    replace ui := Lib.hid ui
    replace uj := Lib.hid uj
    replace FT := Lib.hid FT
    replace FU := Lib.hid FU
    replace hbne := Lib.hid hbne
    refine Reg2.rM 8 50 [[],[ae],[ae,af],[ae,af,af],[ae,af,af,af],[ae,ae,ae,ae,ae],[ae,ae,ae,ae,ae,af],[ae,af,af,af,af,af,af]] [0, 0, 0, 0, 1, 1, 1, 3]
     [.pure, .pure, .pure, .pure, .mU (v), .mU (.agg #[.int .i64 x1, .int .i64 x2, .int .i64 x3, .int .i64 x4, .int .i64 x5, .int .i64 x6, .int .i64 x7, .int .i64 x8, .int .i64 x9, .int .u64 x0]), .minor Nat 0 (fun x => .slice (some ⟨x, 0, none⟩) 1 1) (fun x W => W.heap[x]? = some (.cells (ai (x1, x2, x3, x4, x5, x6, x7, x8, x9, x0)).toArray 92 (0, 0)) ∧ wA.heap.size ≤ x), .major Value undef id]
     (fun W => wA.grownBy W v.ownBlock) (jb_AppS wA v L (x1, x2, x3, x4, x5, x6, x7, x8, x9, x0)) (fun a b => a.grownBy b v.ownBlock) (by kernel_rfl) (by kernel_rfl) rfl rfl (fun vs a b h hs => xJ h hs) ?_ ?_ ?_ ?_ ?_ ?_
    ·intro a b he hb
     exact ⟨he.os.trans hb.os, he.tape.trans hb.tape, he.output.trans hb.output, Nat.le_trans hb.size he.size, fun q hq' h2 => (he.block q (Nat.lt_of_lt_of_le hq' hb.size)).trans (hb.block q hq' h2)⟩
    ·intro a b he hb
     exact ⟨he.os.trans hb.os, he.tape.trans hb.tape, he.output.trans hb.output, Nat.le_trans hb.size he.size, fun q hq' h2 => (he.block q (Nat.lt_of_lt_of_le hq' hb.size) h2).trans (hb.block q hq' h2)⟩
    ·refine ⟨trivial, trivial, trivial, trivial, ⟨fun _ _ _ _ _ => trivial, fun _ _ _ _ _ => trivial⟩, ⟨fun _ _ _ _ _ => trivial, fun _ _ _ _ _ => trivial⟩, ⟨fun x a b he h => ⟨(he.block x (Put.lt_of_heap h.1)).trans h.1, h.2⟩, fun x a b he h => ⟨(he.block x (Put.lt_of_heap h.1) (fun e => by have := FU.out x e.symm; have := h.2; omega)).trans h.1, h.2⟩⟩, trivial, trivial⟩
    ·exact hI0
    ·exact hS0
    dsimp only [Reg2.mk, List.zip, List.zipWith, List.take]
    repeat ((first
     | (refine' Reg2.ak _ (by rfl) (fun wz => ?_) ?_; rotate_left; (go_simp; first | rfl | rw [if_neg (by omega)]))
     | (refine Reg2.au (by rfl) (fun wz hI hF => ?_) (fun _ => ?_)
        ·unfold Reg2.One
         have d0 : wz.cell? ⟨p, 1, none⟩ = some v := by simp [World.cell?, ui.out wz hI]
         have kk := gV (uj.out wz hI)
         have q0 := kk 0 _ rfl
         have q1 := kk 1 _ rfl
         have q2 := kk 2 _ rfl
         have q3 := kk 3 _ rfl
         have q4 := kk 4 _ rfl
         have q5 := kk 5 _ rfl
         have q6 := kk 6 _ rfl
         have q7 := kk 7 _ rfl
         have q8 := kk 8 _ rfl
         have q9 := kk 9 _ rfl
         clear kk
         go_wp2_with fail
         first | exact ⟨_, rfl, rfl, Reg2.Ext.refl _⟩ | exact ⟨_, rfl, ⟨(), rfl, trivial⟩, Reg2.Ext.refl _⟩)); simp only [Act.put, xA, xB, xC, xD, xE, id])
    refine Reg2.pm (fun wz hI hF => ?_) (fun r6 => ?_) (by rfl)
    ·go_wp2_with fail
     exact ⟨_, rfl, ⟨wz.heap.size, rfl, heap_alloc_new wz (.cells (ai (x1, x2, x3, x4, x5, x6, x7, x8, x9, x0)).toArray 92), by have := hI.size; omega⟩, (Below.refl wz.heap.size wz).alloc (Nat.le_refl _) _⟩
    simp only [Act.put, xA, xB, xC, xD, xE, id]
    refine Reg2.pj (fun wz hI hS hF => ?_) (fun vv => ?_) (by rfl)
    ·have hS1 : wz.ownsRow 0 92 10 v L.length (L.flatMap ai) := hS
     have hone := hF.2.2.2.2.2.1
     have hsrc : Src Tryz.prog 10 60 (.slice (some ⟨r6, 0, none⟩) 1 1) 1 (ai (x1, x2, x3, x4, x5, x6, x7, x8, x9, x0)) wz := Src.ofSlice wz Tryz.underlying60 ⟨r6, 0, none⟩ 1 1 (ai (x1, x2, x3, x4, x5, x6, x7, x8, x9, x0)) BA.out (fun j u hj => by rw [Go.WideShapes.add_plain]; simpa using gV hone.1 j u hj) BB.out
     have hszI := hI.size
     go_wp2_with (at_builtin; go_must (refine pE _ rfl (.tmp 42) (.tmp 44) 60 60 rfl 0 92 i0 (.agg (ai default).toArray) 10 80 Tryz.underlying60 hi0 hz0 hz1 hz2 rfl v L.length (L.flatMap ai) rfl hS1 (.slice (some ⟨r6, 0, none⟩) 1 1) 1 (ai (x1, x2, x3, x4, x5, x6, x7, x8, x9, x0)) rfl hsrc ?c0 ?c1 (Nat.zero_le _) ?c2))
     case c0 => unfold maxLen; omega
     case c1 => omega
     case c2 =>
      intro v' w9 VC VD hnb
      have hnn : dV wA v.ownBlock v'.ownBlock := by
       rcases hnb with e | e
       ·exact .inl e
       ·exact .inr ⟨_, e, hszI⟩
      go_wp2_with fail
      exact ⟨v', rfl, ⟨VC, hnn⟩, VD⟩
    simp only [Act.put, xA, xB, xC, xD, xE, id]
    refine Reg2.aA ?_
    intro w3 HI3 KE qB
    clear qB hI0 hS0 BA BB
    obtain ⟨ho3, KF⟩ : w3.ownsRow 0 92 10 vv (L.length + 1) (L.flatMap ai ++ ai (x1, x2, x3, x4, x5, x6, x7, x8, x9, x0)) ∧ dV wA v.ownBlock vv.ownBlock := KE
    obtain ⟨g', c', rfl⟩ : ∃ g' c', vv = .slice (some ⟨g', 0, none⟩) (L.length + 1) c' := by
     obtain ⟨Nb, c', e, hp'⟩ := gH ho3
     obtain ⟨g', e2⟩ := hp' (by omega)
     exact ⟨g', c', by rw [e, e2]⟩
    have hp3 := ui.out w3 HI3
    have hb3 := uj.out w3 HI3
    obtain ⟨qX, qZ⟩ := BV.Ea (D := L ++ [(x1, x2, x3, x4, x5, x6, x7, x8, x9, x0)]) (by decide) hp3 (by rw [List.length_append, List.flatMap_append]; simpa using ho3)
    have qZ := qZ v.ownBlock
    rw [show (List.length _ : Nat) = 1 from rfl] at qX qZ
    have BC : dL p v.ownBlock wA w3 := dL.D9 HI3
    have hbp : b ≠ p := fun e => by rw [e, hp3] at hb3; cases hb3
    have hb4 : (w3.setCell ⟨p, 1, none⟩ (.slice (some ⟨g', 0, none⟩) (L.length + 1) c')).heap[b]? = some (.cells (ai (x1, x2, x3, x4, x5, x6, x7, x8, x9, x0)).toArray 92 (0, 0)) := (Below.heap_setCell w3 ⟨p, _, none⟩ _ b hbp).trans hb3
    have f3 : w3.frozen? ⟨p, 1, none⟩ = false := by simp [World.frozen?, hp3]
    have c3 : w3.cell? ⟨p, 1, none⟩ = some v := by simp [World.cell?, hp3]
    clear hp3 hb3 hT hA HI3 ui uj FT FU hbne cA
    dsimp only [List.drop]
    replace qZ := Lib.hid ((dL.of_below CZ.out).trans (BC.trans qZ (dV.refl _ _)) (dV.refl _ _))
    have hN := Lib.hid (dV.trans (w := w) (dV.refl w v.ownBlock) KF CZ.out.size)
    rw [ey.out] at qX
    have c5 : (w3.setCell ⟨p, 1, none⟩ (.slice (some ⟨g', 0, none⟩) (L.length + 1) c')).cell? ⟨b, 0, none⟩ = some (.int .i64 ((L.length : Int) + 1)) := by rw [← hid.out]; exact gV hb4 0 _ rfl
    replace qX := Lib.hid qX
    replace hb4 := Lib.hid hb4
    clear BC KF ho3
    go_wp2_with fail
    go_ret2
    exact hfin.out _ _ _ (by rfl) qX.out qZ.out hN.out
   ·rw [hh] at hd6
    go_wp2_with fail
    have hA := hb6.out
    have hT := Ae.out
    have CZ := Ih.out
    clear qY
    obtain ⟨wA, aJ⟩ : ∃ wA, wA = w6 := ⟨_, rfl⟩
    rw [← aJ] at hA hT CZ ⊢
    replace aJ := Lib.hid aJ
    have ey : ((L.length : Int) + 1, r.user, r.width, r.limit, r.prio, 1, -1, -1, -1, 0) = D8 L r := by unfold D8; rw [hh]; rfl
    have hbne := hxo
    obtain ⟨b, hb⟩ : ∃ b, b = xK := ⟨_, rfl⟩
    rw [← hb] at hA hbne ⊢
    replace hb := Lib.hid hb
    obtain rfl := hk.out
    clear zE lI hd6 f65 WU hxo hx0 hb6 Ae Ih
    obtain ⟨y, hy⟩ : ∃ y : Jb, y = ((L.length : Int) + 1, r.user, r.width, r.limit, r.prio, 1, -1, -1, -1, 0) := ⟨_, rfl⟩
    replace hA : wA.heap[b]? = some (.cells (ai y).toArray 92 (0, 0)) := by rw [hy]; rw [Ad.out] at hA; exact hA
    have hid : y.1 = (L.length : Int) + 1 := by rw [hy]
    rw [← hy] at ey
    replace hy := Lib.hid hy
    replace CZ := Lib.hid CZ
    replace ey := Lib.hid ey
    obtain ⟨x1, x2, x3, x4, x5, x6, x7, x8, x9, x0⟩ := y
    replace hid : Hid (x1 = (L.length : Int) + 1) := Lib.hid hid
    have cA := hT.c1
    have hpl := hT.lt
    have FT : v.ownBlock ≠ some p := hT.ob (by decide)
    have ui : ∀ W, wA.grownBy W v.ownBlock → W.heap[p]? = _ := fun W hW => (hW.block p hpl (fun e => FT e.symm)).trans hT.cell
    have uj : ∀ W, wA.grownBy W v.ownBlock → W.heap[b]? = some (.cells (ai (x1, x2, x3, x4, x5, x6, x7, x8, x9, x0)).toArray 92 (0, 0)) := fun W hW => (hW.block b (Put.lt_of_heap hA) (fun e => hbne e.symm)).trans hA
    have hI0 : wA.grownBy wA.drew v.ownBlock := ⟨rfl, rfl, rfl, Nat.le_refl _, fun _ _ _ => rfl⟩
    have hS0 : wA.drew.ownsRow 0 92 10 v L.length (L.flatMap ai) := bA hT.own fun _ _ => rfl
    have BA : Hid ((ai (x1, x2, x3, x4, x5, x6, x7, x8, x9, x0)).length = 10) := ax _
    have BB : Hid (∀ u ∈ ai (x1, x2, x3, x4, x5, x6, x7, x8, x9, x0), u.oneCell' = true) := dJ _
    have FU : ∀ q, v.ownBlock = some q → q < wA.heap.size := fun q hq' => (hT.own.lt q hq').2
    replace hT := Lib.hid hT
    replace hA := Lib.hid hA
    replace ui := Lib.hid ui
    replace uj := Lib.hid uj
    replace FT := Lib.hid FT
    replace FU := Lib.hid FU
    replace hbne := Lib.hid hbne
    refine Reg2.rM 8 50 [[],[ae],[ae,af],[ae,af,af],[ae,af,af,af],[ae,ae,ae,ae,ae],[ae,ae,ae,ae,ae,af],[ae,af,af,af,af,af,af]] [0, 0, 0, 0, 1, 1, 1, 3]
     [.pure, .pure, .pure, .pure, .mU (v), .mU (.agg #[.int .i64 x1, .int .i64 x2, .int .i64 x3, .int .i64 x4, .int .i64 x5, .int .i64 x6, .int .i64 x7, .int .i64 x8, .int .i64 x9, .int .u64 x0]), .minor Nat 0 (fun x => .slice (some ⟨x, 0, none⟩) 1 1) (fun x W => W.heap[x]? = some (.cells (ai (x1, x2, x3, x4, x5, x6, x7, x8, x9, x0)).toArray 92 (0, 0)) ∧ wA.heap.size ≤ x), .major Value undef id]
     (fun W => wA.grownBy W v.ownBlock) (jb_AppS wA v L (x1, x2, x3, x4, x5, x6, x7, x8, x9, x0)) (fun a b => a.grownBy b v.ownBlock) (by kernel_rfl) (by kernel_rfl) rfl rfl (fun vs a b h hs => xJ h hs) ?_ ?_ ?_ ?_ ?_ ?_
    ·intro a b he hb
     exact ⟨he.os.trans hb.os, he.tape.trans hb.tape, he.output.trans hb.output, Nat.le_trans hb.size he.size, fun q hq' h2 => (he.block q (Nat.lt_of_lt_of_le hq' hb.size)).trans (hb.block q hq' h2)⟩
    ·intro a b he hb
     exact ⟨he.os.trans hb.os, he.tape.trans hb.tape, he.output.trans hb.output, Nat.le_trans hb.size he.size, fun q hq' h2 => (he.block q (Nat.lt_of_lt_of_le hq' hb.size) h2).trans (hb.block q hq' h2)⟩
    ·refine ⟨trivial, trivial, trivial, trivial, ⟨fun _ _ _ _ _ => trivial, fun _ _ _ _ _ => trivial⟩, ⟨fun _ _ _ _ _ => trivial, fun _ _ _ _ _ => trivial⟩, ⟨fun x a b he h => ⟨(he.block x (Put.lt_of_heap h.1)).trans h.1, h.2⟩, fun x a b he h => ⟨(he.block x (Put.lt_of_heap h.1) (fun e => by have := FU.out x e.symm; have := h.2; omega)).trans h.1, h.2⟩⟩, trivial, trivial⟩
    ·exact hI0
    ·exact hS0
    dsimp only [Reg2.mk, List.zip, List.zipWith, List.take]
    repeat ((first
     | (refine' Reg2.ak _ (by rfl) (fun wz => ?_) ?_; rotate_left; (go_simp; first | rfl | rw [if_neg (by omega)]))
     | (refine Reg2.au (by rfl) (fun wz hI hF => ?_) (fun _ => ?_)
        ·unfold Reg2.One
         have d0 : wz.cell? ⟨p, 1, none⟩ = some v := by simp [World.cell?, ui.out wz hI]
         have kk := gV (uj.out wz hI)
         have q0 := kk 0 _ rfl
         have q1 := kk 1 _ rfl
         have q2 := kk 2 _ rfl
         have q3 := kk 3 _ rfl
         have q4 := kk 4 _ rfl
         have q5 := kk 5 _ rfl
         have q6 := kk 6 _ rfl
         have q7 := kk 7 _ rfl
         have q8 := kk 8 _ rfl
         have q9 := kk 9 _ rfl
         clear kk
         go_wp2_with fail
         first | exact ⟨_, rfl, rfl, Reg2.Ext.refl _⟩ | exact ⟨_, rfl, ⟨(), rfl, trivial⟩, Reg2.Ext.refl _⟩)); simp only [Act.put, xA, xB, xC, xD, xE, id])
    refine Reg2.pm (fun wz hI hF => ?_) (fun r6 => ?_) (by rfl)
    ·go_wp2_with fail
     exact ⟨_, rfl, ⟨wz.heap.size, rfl, heap_alloc_new wz (.cells (ai (x1, x2, x3, x4, x5, x6, x7, x8, x9, x0)).toArray 92), by have := hI.size; omega⟩, (Below.refl wz.heap.size wz).alloc (Nat.le_refl _) _⟩
    simp only [Act.put, xA, xB, xC, xD, xE, id]
    refine Reg2.pj (fun wz hI hS hF => ?_) (fun vv => ?_) (by rfl)
    ·have hS1 : wz.ownsRow 0 92 10 v L.length (L.flatMap ai) := hS
     have hone := hF.2.2.2.2.2.1
     have hsrc : Src Tryz.prog 10 60 (.slice (some ⟨r6, 0, none⟩) 1 1) 1 (ai (x1, x2, x3, x4, x5, x6, x7, x8, x9, x0)) wz := Src.ofSlice wz Tryz.underlying60 ⟨r6, 0, none⟩ 1 1 (ai (x1, x2, x3, x4, x5, x6, x7, x8, x9, x0)) BA.out (fun j u hj => by rw [Go.WideShapes.add_plain]; simpa using gV hone.1 j u hj) BB.out
     have hszI := hI.size
     go_wp2_with (at_builtin; go_must (refine pE _ rfl (.tmp 42) (.tmp 44) 60 60 rfl 0 92 i0 (.agg (ai default).toArray) 10 80 Tryz.underlying60 hi0 hz0 hz1 hz2 rfl v L.length (L.flatMap ai) rfl hS1 (.slice (some ⟨r6, 0, none⟩) 1 1) 1 (ai (x1, x2, x3, x4, x5, x6, x7, x8, x9, x0)) rfl hsrc ?c0 ?c1 (Nat.zero_le _) ?c2))
     case c0 => unfold maxLen; omega
     case c1 => omega
     case c2 =>
      intro v' w9 VC VD hnb
      have hnn : dV wA v.ownBlock v'.ownBlock := by
       rcases hnb with e | e
       ·exact .inl e
       ·exact .inr ⟨_, e, hszI⟩
      go_wp2_with fail
      exact ⟨v', rfl, ⟨VC, hnn⟩, VD⟩
    simp only [Act.put, xA, xB, xC, xD, xE, id]
    refine Reg2.aA ?_
    intro w3 HI3 KE qB
    clear qB hI0 hS0 BA BB
    obtain ⟨ho3, KF⟩ : w3.ownsRow 0 92 10 vv (L.length + 1) (L.flatMap ai ++ ai (x1, x2, x3, x4, x5, x6, x7, x8, x9, x0)) ∧ dV wA v.ownBlock vv.ownBlock := KE
    obtain ⟨g', c', rfl⟩ : ∃ g' c', vv = .slice (some ⟨g', 0, none⟩) (L.length + 1) c' := by
     obtain ⟨Nb, c', e, hp'⟩ := gH ho3
     obtain ⟨g', e2⟩ := hp' (by omega)
     exact ⟨g', c', by rw [e, e2]⟩
    have hp3 := ui.out w3 HI3
    have hb3 := uj.out w3 HI3
    obtain ⟨qX, qZ⟩ := BV.Ea (D := L ++ [(x1, x2, x3, x4, x5, x6, x7, x8, x9, x0)]) (by decide) hp3 (by rw [List.length_append, List.flatMap_append]; simpa using ho3)
    have qZ := qZ v.ownBlock
    rw [show (List.length _ : Nat) = 1 from rfl] at qX qZ
    have BC : dL p v.ownBlock wA w3 := dL.D9 HI3
    have hbp : b ≠ p := fun e => by rw [e, hp3] at hb3; cases hb3
    have hb4 : (w3.setCell ⟨p, 1, none⟩ (.slice (some ⟨g', 0, none⟩) (L.length + 1) c')).heap[b]? = some (.cells (ai (x1, x2, x3, x4, x5, x6, x7, x8, x9, x0)).toArray 92 (0, 0)) := (Below.heap_setCell w3 ⟨p, _, none⟩ _ b hbp).trans hb3
    have f3 : w3.frozen? ⟨p, 1, none⟩ = false := by simp [World.frozen?, hp3]
    have c3 : w3.cell? ⟨p, 1, none⟩ = some v := by simp [World.cell?, hp3]
    clear hp3 hb3 hT hA HI3 ui uj FT FU hbne cA
    dsimp only [List.drop]
    replace qZ := Lib.hid ((dL.of_below CZ.out).trans (BC.trans qZ (dV.refl _ _)) (dV.refl _ _))
    have hN := Lib.hid (dV.trans (w := w) (dV.refl w v.ownBlock) KF CZ.out.size)
    rw [ey.out] at qX
    have c5 : (w3.setCell ⟨p, 1, none⟩ (.slice (some ⟨g', 0, none⟩) (L.length + 1) c')).cell? ⟨b, 0, none⟩ = some (.int .i64 ((L.length : Int) + 1)) := by rw [← hid.out]; exact gV hb4 0 _ rfl
    replace qX := Lib.hid qX
    replace hb4 := Lib.hid hb4
    clear BC KF ho3
    go_wp2_with fail
    go_ret2
    exact hfin.out _ _ _ (by rfl) qX.out qZ.out hN.out
 ·have hfin := fun (W : World) (e : Ending) hr hb => zB (w' := W) (e := e) (r := r) h (show je L r = aQ r by unfold je; rw [if_pos h0]) h0 hr hb
  have d1 : (aQ r == 0) = false := beq_eq_false_iff_ne.2 h0
  replace hfin := Lib.hid hfin
  clear h h1 h0
  generalize aQ r = e1 at *
  go_enter Tryz.func98, Tryz.ntmps98
  go_wp2_with fail
  go_at_call 49
  rw [← hw1]
  replace hw1 := Lib.hid hw1
  refine hno.mono ?_
  clear hno
  rintro e w' ⟨rfl, rfl⟩
  go_wp2_with fail
  go_at_call 120
  refine hrt.mono ?_
  clear hrt lr
  rintro e w2 ⟨rfl, o2, rfl⟩
  have hb2 : Below w.heap.size w (w1.alloc o2) := hb1.alloc hb1.size _
  replace hb2 := Lib.hid hb2
  clear ER hb1
  go_wp2_with fail
  go_ret2
  exact hfin.out _ _ rfl hb2.out
end
end Go.Proofs.YtelnhablglomjaaGreat

namespace Go.Proofs.YtelnhablglomjaaGreat
open Go.RowKit Go.Sort Go.Lib Go.Shelf Put
section
variable {w w' : World} {p g n cap m : Nat} {v : Value} {L : List Jb}
theorem C8 (w : World) : Calls Tryz.prog 128 #[.int .i64 5] w fun e w' => e = .returned (.slice (some ⟨w.heap.size, 0, none⟩) 3 3) ∧ w.alloc (.cells #[.int .i64 1, .int .i64 2, .int .i64 3] 3) = w' := by
 go_enter Tryz.func128, Tryz.ntmps128
 go_wp2_with fail
 go_ret
 exact ⟨rfl, rfl⟩
theorem C9 (s : Int) (hs : s ≠ 5) (w : World) : Calls Tryz.prog 128 #[.int .i64 s] w fun e w' => e = .returned (.slice (some ⟨w.heap.size, 0, none⟩) 1 1) ∧ w.alloc (.cells #[.int .i64 3] 3) = w' := by
 have d : (s == 5) = false := beq_eq_false_iff_ne.2 hs
 go_enter Tryz.func128, Tryz.ntmps128
 go_wp2_with fail
 go_ret
 exact ⟨rfl, rfl⟩
theorem KG (h : TV w p v L) (id : Int) (s : Int) (a : Int) (hG : ∀ j ∈ L, 1 ≤ j.state ∧ j.state ≤ 6) : Calls Tryz.prog 100 #[.pointer (some ⟨p, 0, none⟩), .int .i64 id, .int .i64 s, .int .i64 a] w (lG w p v L (bB s a) id (fe s) (bR s a)) := by
 have hno := kQ h
 by_cases t0 : s < 4
 ·have he : bB s a = 1 := by unfold bB; simp [t0]
  have hfin := fun (W : World) (e : Ending) (hr : e = .returned (.int .i64 1)) (hg : Gr w W) => dF (ch := bR s a) h (iI (L := L) (id := id) (ok := fe s) (e0 := bB s a) (by omega) |>.trans he) (by decide) hr hg
  replace hfin := Lib.hid hfin
  clear h he
  have d : decide (s < 4) = true := decide_eq_true t0
  go_enter Tryz.func100, Tryz.ntmps100
  go_wp2_with (go_at_call 49; go_must (refine hno.mono ?_); rintro e w' ⟨rfl, rfl⟩)
  go_ret
  exact hfin.out _ _ rfl (Gr.refl _)
 ·have WO : decide (s < 4) = false := decide_eq_false t0
  by_cases t1 : 6 < s
  ·have he : bB s a = 1 := by unfold bB; simp [t0, t1]
   have hfin := fun (W : World) (e : Ending) (hr : e = .returned (.int .i64 1)) (hg : Gr w W) => dF (ch := bR s a) h (iI (L := L) (id := id) (ok := fe s) (e0 := bB s a) (by omega) |>.trans he) (by decide) hr hg
   replace hfin := Lib.hid hfin
   clear h he
   have d : decide (6 < s) = true := decide_eq_true t1
   go_enter Tryz.func100, Tryz.ntmps100
   go_wp2_with (go_at_call 49; go_must (refine hno.mono ?_); rintro e w' ⟨rfl, rfl⟩)
   go_ret
   exact hfin.out _ _ rfl (Gr.refl _)
  ·have WQ : decide (6 < s) = false := decide_eq_false t1
   by_cases t2 : a < 0
   ·have he : bB s a = 10 := by unfold bB; simp [t0, t1, t2]
    have hfin := fun (W : World) (e : Ending) (hr : e = .returned (.int .i64 10)) (hg : Gr w W) => dF (ch := bR s a) h (iI (L := L) (id := id) (ok := fe s) (e0 := bB s a) (by omega) |>.trans he) (by decide) hr hg
    replace hfin := Lib.hid hfin
    clear h he
    have jR := gW a 2199023255552 w
    rw [show (decide (0 ≤ a) && decide (a ≤ 2199023255552)) = false from by simp; omega] at jR
    go_enter Tryz.func100, Tryz.ntmps100
    go_wp2_with (first | (go_at_call 49; go_must (refine hno.mono ?_); rintro e w' ⟨rfl, rfl⟩) | (go_at_call 126; go_must (refine jR.mono ?_); rintro e w' ⟨rfl, rfl⟩))
    go_ret
    exact hfin.out _ _ rfl (Gr.refl _)
   ·have ZK : decide (a < 0) = false := decide_eq_false t2
    by_cases t3 : 2199023255552 < a
    ·have he : bB s a = 10 := by unfold bB; simp [t0, t1, t2, t3]
     have hfin := fun (W : World) (e : Ending) (hr : e = .returned (.int .i64 10)) (hg : Gr w W) => dF (ch := bR s a) h (iI (L := L) (id := id) (ok := fe s) (e0 := bB s a) (by omega) |>.trans he) (by decide) hr hg
     replace hfin := Lib.hid hfin
     clear h he
     have jR := gW a 2199023255552 w
     rw [show (decide (0 ≤ a) && decide (a ≤ 2199023255552)) = false from by simp; omega] at jR
     go_enter Tryz.func100, Tryz.ntmps100
     go_wp2_with (first | (go_at_call 49; go_must (refine hno.mono ?_); rintro e w' ⟨rfl, rfl⟩) | (go_at_call 126; go_must (refine jR.mono ?_); rintro e w' ⟨rfl, rfl⟩))
     go_ret
     exact hfin.out _ _ rfl (Gr.refl _)
    ·have ZL : decide (2199023255552 < a) = false := decide_eq_false t3
     have h0 : bB s a = 0 := by unfold bB; simp [t0, t1, t2, t3]
     by_cases h5 : s = 5
     ·have hen := C8 w
      rw [← h5] at hen
      have jR := gW a 2199023255552 w
      rw [show (decide (0 ≤ a) && decide (a ≤ 2199023255552)) = true from by simp; omega] at jR
      have hb1 := (Below.refl w.heap.size w).alloc (Nat.le_refl _) (.cells #[.int .i64 1, .int .i64 2, .int .i64 3] 3)
      have hr : aB enc1 1 (w.alloc (.cells #[.int .i64 1, .int .i64 2, .int .i64 3] 3)) (.slice (some ⟨w.heap.size, 0, none⟩) 3 3) [1, 2, 3] := gB w w.heap.size [1, 2, 3] rfl (by decide)
      have hg1 := Gr.one w (.cells #[.int .i64 1, .int .i64 2, .int .i64 3] 3)
      have h1 := h.kept hb1
      have hok : ∀ j ∈ L, (fe s) j = decide (j.state ∈ ([1, 2, 3] : List Int)) := by intro j hj; have h6 := hG j hj; unfold fe; rw [h5]; have h7 : j.state = 1 ∨ j.state = 2 ∨ j.state = 3 ∨ j.state = 4 ∨ j.state = 5 ∨ j.state = 6 := (by omega); rcases h7 with e | e | e | e | e | e <;> simp [e]
      rcases jv L (bB s a) id (fe s) with ⟨e1, he, hne⟩ | ⟨m, rfl, hm, ho⟩
      ·have hfin := fun (W : World) (e : Ending) (hr : e = .returned (.int .i64 e1)) (hg : Gr w W) => dF (ch := bR s a) h he hne hr hg
       have hf := ng h1 id e1 hr (by rw [← jy hok, ← jY h0]; exact he) hne
       have d1 : (e1 == 0) = false := beq_eq_false_iff_ne.2 hne
       replace hfin := Lib.hid hfin
       replace hg1 := Lib.hid hg1
       clear h h1 hr hb1 hok he hne h0
       clear h5 hG
       go_enter Tryz.func100, Tryz.ntmps100
       go_wp2_with (first | (go_at_call 49; go_must (refine hno.mono ?_); rintro e w' ⟨rfl, rfl⟩) | (go_at_call 126; go_must (refine jR.mono ?_); rintro e w' ⟨rfl, rfl⟩) | (go_at_call 128; go_must (refine hen.mono ?_); rintro e w' ⟨rfl, rfl⟩))
       go_at_call 127
       refine hf.mono ?_
       clear hf
       rintro e w2 ⟨rfl, hg⟩
       have hg2 := Lib.hid (eO hg1.out hg)
       clear hg hg1
       go_wp2_with fail
       go_ret
       exact hfin.out _ _ rfl hg2.out
      ·have hs : (L[m]!).state ∈ ([1, 2, 3] : List Int) := of_decide_eq_true ((hok L[m]! (by rw [getElem!_pos L m hm]; exact List.getElem_mem _)).symm.trans ho)
       obtain ⟨g, cap, rfl⟩ := h.shape (by omega)
       have hf := find_ok h1 hm hr hs
       have hfin := fun (W : World) (e : Ending) (hr : e = .returned (.int .i64 0)) (hT : TV W p (.slice (some ⟨g, 0, none⟩) L.length cap) (L.set m ((bR s a) L[m]!))) (hq : dL p (some g) w W) => iO (e0 := bB s a) (ok := fe s) (ch := bR s a) h0 hm ho hr hT hq
       have kE := RV.of h hm
       generalize hy : L[m]! = y at *
       replace hy := Lib.hid hy
       replace hfin := Lib.hid hfin
       replace kE := Lib.hid kE
       replace hm := Lib.hid hm
       replace hg1 := Lib.hid hg1
       clear h h1 hr hb1 hok ho hs h0
       clear h5 hG
       go_enter Tryz.func100, Tryz.ntmps100
       go_wp2_with (first | (go_at_call 49; go_must (refine hno.mono ?_); rintro e w' ⟨rfl, rfl⟩) | (go_at_call 126; go_must (refine jR.mono ?_); rintro e w' ⟨rfl, rfl⟩) | (go_at_call 128; go_must (refine hen.mono ?_); rintro e w' ⟨rfl, rfl⟩))
       go_at_call 127
       refine hf.mono ?_
       clear hf
       rintro e w2 ⟨rfl, hg⟩
       have hg2 := eO hg1.out hg
       have rv := kE.out.kept hg2.below
       have q0 : dL p (some g) w w2 := dL.of_below hg2.below
       clear hg hg1 hg2 kE
       obtain ⟨k5, f5⟩ := rv.cellAt hm.out 5 _ rfl
       by_cases h3 : y.2.2.2.2.2.1 = 3
       ·have d3 : (y.2.2.2.2.2.1 == 3) = true := by rw [h3]; rfl
        have pM : (((ai y).set 7 (.int .i64 a)).set 5 (.int .i64 s)).set 8 (.int .i64 (-1)) = ai (bR s a y) := by unfold bR; rw [if_pos h3]; rfl
        replace pM := Lib.hid pM
        clear h3
        obtain ⟨k7, f7⟩ := rv.cellAt hm.out 7 _ rfl
        obtain ⟨k8, f8⟩ := rv.cellAt hm.out 8 _ rfl
        replace rv := Lib.hid rv
        replace q0 := Lib.hid q0
        go_wp2_with fail
        go_ret
        exact hfin.out _ _ rfl (RV.done (RV.set (RV.set (RV.set rv.out hm.out (j := 7) (by decide) (.int .i64 a)) hm.out (j := 5) (by decide) (.int .i64 s)) hm.out (j := 8) (by decide) (.int .i64 (-1))) hm.out pM.out) (((q0.out.trans (RV.frame _ _ _) (dV.refl _ _)).trans (RV.frame _ _ _) (dV.refl _ _)).trans (RV.frame _ _ _) (dV.refl _ _))
       ·have d3 : (y.2.2.2.2.2.1 == 3) = false := beq_eq_false_iff_ne.2 h3
        have pM : ((ai y).set 5 (.int .i64 s)).set 8 (.int .i64 (-1)) = ai (bR s a y) := by unfold bR; rw [if_neg h3]; rfl
        replace pM := Lib.hid pM
        clear h3
        obtain ⟨k8, f8⟩ := rv.cellAt hm.out 8 _ rfl
        replace rv := Lib.hid rv
        replace q0 := Lib.hid q0
        go_wp2_with fail
        go_ret
        exact hfin.out _ _ rfl (RV.done (RV.set (RV.set rv.out hm.out (j := 5) (by decide) (.int .i64 s)) hm.out (j := 8) (by decide) (.int .i64 (-1))) hm.out pM.out) ((q0.out.trans (RV.frame _ _ _) (dV.refl _ _)).trans (RV.frame _ _ _) (dV.refl _ _))
     ·have hen := C9 s h5 w
      have jR := gW a 2199023255552 w
      rw [show (decide (0 ≤ a) && decide (a ≤ 2199023255552)) = true from by simp; omega] at jR
      have hb1 := (Below.refl w.heap.size w).alloc (Nat.le_refl _) (.cells #[.int .i64 3] 3)
      have hr : aB enc1 1 (w.alloc (.cells #[.int .i64 3] 3)) (.slice (some ⟨w.heap.size, 0, none⟩) 1 1) [3] := gB w w.heap.size [3] rfl (by decide)
      have hg1 := Gr.one w (.cells #[.int .i64 3] 3)
      have h1 := h.kept hb1
      have hok : ∀ j ∈ L, (fe s) j = decide (j.state ∈ ([3] : List Int)) := by intro j _; unfold fe; simp [h5]
      rcases jv L (bB s a) id (fe s) with ⟨e1, he, hne⟩ | ⟨m, rfl, hm, ho⟩
      ·have hfin := fun (W : World) (e : Ending) (hr : e = .returned (.int .i64 e1)) (hg : Gr w W) => dF (ch := bR s a) h he hne hr hg
       have hf := ng h1 id e1 hr (by rw [← jy hok, ← jY h0]; exact he) hne
       have d1 : (e1 == 0) = false := beq_eq_false_iff_ne.2 hne
       replace hfin := Lib.hid hfin
       replace hg1 := Lib.hid hg1
       clear h h1 hr hb1 hok he hne h0
       clear h5 hG
       go_enter Tryz.func100, Tryz.ntmps100
       go_wp2_with (first | (go_at_call 49; go_must (refine hno.mono ?_); rintro e w' ⟨rfl, rfl⟩) | (go_at_call 126; go_must (refine jR.mono ?_); rintro e w' ⟨rfl, rfl⟩) | (go_at_call 128; go_must (refine hen.mono ?_); rintro e w' ⟨rfl, rfl⟩))
       go_at_call 127
       refine hf.mono ?_
       clear hf
       rintro e w2 ⟨rfl, hg⟩
       have hg2 := Lib.hid (eO hg1.out hg)
       clear hg hg1
       go_wp2_with fail
       go_ret
       exact hfin.out _ _ rfl hg2.out
      ·have hs : (L[m]!).state ∈ ([3] : List Int) := of_decide_eq_true ((hok L[m]! (by rw [getElem!_pos L m hm]; exact List.getElem_mem _)).symm.trans ho)
       obtain ⟨g, cap, rfl⟩ := h.shape (by omega)
       have hf := find_ok h1 hm hr hs
       have hfin := fun (W : World) (e : Ending) (hr : e = .returned (.int .i64 0)) (hT : TV W p (.slice (some ⟨g, 0, none⟩) L.length cap) (L.set m ((bR s a) L[m]!))) (hq : dL p (some g) w W) => iO (e0 := bB s a) (ok := fe s) (ch := bR s a) h0 hm ho hr hT hq
       have kE := RV.of h hm
       generalize hy : L[m]! = y at *
       replace hy := Lib.hid hy
       replace hfin := Lib.hid hfin
       replace kE := Lib.hid kE
       replace hm := Lib.hid hm
       replace hg1 := Lib.hid hg1
       clear h h1 hr hb1 hok ho hs h0
       clear h5 hG
       go_enter Tryz.func100, Tryz.ntmps100
       go_wp2_with (first | (go_at_call 49; go_must (refine hno.mono ?_); rintro e w' ⟨rfl, rfl⟩) | (go_at_call 126; go_must (refine jR.mono ?_); rintro e w' ⟨rfl, rfl⟩) | (go_at_call 128; go_must (refine hen.mono ?_); rintro e w' ⟨rfl, rfl⟩))
       go_at_call 127
       refine hf.mono ?_
       clear hf
       rintro e w2 ⟨rfl, hg⟩
       have hg2 := eO hg1.out hg
       have rv := kE.out.kept hg2.below
       have q0 : dL p (some g) w w2 := dL.of_below hg2.below
       clear hg hg1 hg2 kE
       obtain ⟨k5, f5⟩ := rv.cellAt hm.out 5 _ rfl
       by_cases h3 : y.2.2.2.2.2.1 = 3
       ·have d3 : (y.2.2.2.2.2.1 == 3) = true := by rw [h3]; rfl
        have pM : (((ai y).set 7 (.int .i64 a)).set 5 (.int .i64 s)).set 8 (.int .i64 (-1)) = ai (bR s a y) := by unfold bR; rw [if_pos h3]; rfl
        replace pM := Lib.hid pM
        clear h3
        obtain ⟨k7, f7⟩ := rv.cellAt hm.out 7 _ rfl
        obtain ⟨k8, f8⟩ := rv.cellAt hm.out 8 _ rfl
        replace rv := Lib.hid rv
        replace q0 := Lib.hid q0
        go_wp2_with fail
        go_ret
        exact hfin.out _ _ rfl (RV.done (RV.set (RV.set (RV.set rv.out hm.out (j := 7) (by decide) (.int .i64 a)) hm.out (j := 5) (by decide) (.int .i64 s)) hm.out (j := 8) (by decide) (.int .i64 (-1))) hm.out pM.out) (((q0.out.trans (RV.frame _ _ _) (dV.refl _ _)).trans (RV.frame _ _ _) (dV.refl _ _)).trans (RV.frame _ _ _) (dV.refl _ _))
       ·have d3 : (y.2.2.2.2.2.1 == 3) = false := beq_eq_false_iff_ne.2 h3
        have pM : ((ai y).set 5 (.int .i64 s)).set 8 (.int .i64 (-1)) = ai (bR s a y) := by unfold bR; rw [if_neg h3]; rfl
        replace pM := Lib.hid pM
        clear h3
        obtain ⟨k8, f8⟩ := rv.cellAt hm.out 8 _ rfl
        replace rv := Lib.hid rv
        replace q0 := Lib.hid q0
        go_wp2_with fail
        go_ret
        exact hfin.out _ _ rfl (RV.done (RV.set (RV.set rv.out hm.out (j := 5) (by decide) (.int .i64 s)) hm.out (j := 8) (by decide) (.int .i64 (-1))) hm.out pM.out) ((q0.out.trans (RV.frame _ _ _) (dV.refl _ _)).trans (RV.frame _ _ _) (dV.refl _ _))
end
end Go.Proofs.YtelnhablglomjaaGreat

namespace Go.Proofs.YtelnhablglomjaaGreat
open Go.RowKit Go.Sort Go.Lib Go.Shelf Put
section
variable {w w' : World} {p : Nat} {v : Value} {L : List Jb}
theorem BV.WV (w : World) : TV (w.alloc (.cells #[.bool true, .slice none 0 0] 103)) w.heap.size (.slice none 0 0) [] :=
 ⟨heap_alloc_new w _, by simpa using World.ownsRow_nil _ 0 92 10⟩
theorem KH (w : World) : Calls Tryz.prog 63 #[] w fun e w' => e = .returned (.pointer (some ⟨w.heap.size, 0, none⟩)) ∧ w.alloc (.cells #[.bool true, .slice none 0 0] 103) = w' := by
 go_enter Tryz.func63, Tryz.ntmps63
 go_wp2_with fail
 go_ret
 exact ⟨rfl, rfl⟩
theorem Mw (h : TV w p v L) (hL : L.length ≤ 1000) : Calls Tryz.prog 24 #[.pointer (some ⟨p, 0, none⟩)] w (mZ w L) := by
 have c1 := h.c1
 have hno := kQ h
 have hc := D7 h.rowAt hL
 unfold mZ at *
 obtain ⟨ao, cap, rfl, _⟩ := gH h.own
 clear h
 go_enter Tryz.func24, Tryz.ntmps24
 go_wp2_with (go_at_call 49; go_must (refine hno.mono ?_); rintro e w' ⟨rfl, rfl⟩)
 go_at_call 50
 refine hc.mono ?_
 clear hc
 rintro e w2 ⟨v2, rfl, ho, hb⟩
 have hfin : Hid (∃ v', Ending.returned v2 = .returned v' ∧ w2.ownsRow w.heap.size 92 10 v' L.length (L.flatMap ai) ∧ Below w.heap.size w w2) := ⟨v2, rfl, ho, hb⟩
 clear ho hb
 go_wp2_with fail
 go_ret
 exact hfin.out
def Ec (w : World) (L : List Jb) (e : Ending) (w' : World) : Prop :=
 ∃ q u, e = .returned (.pointer (some ⟨q, 0, none⟩)) ∧ TV w' q u L ∧ w.heap.size ≤ q ∧ (∀ k, u.ownBlock = some k → w.heap.size ≤ k) ∧ Below w.heap.size w w'
theorem TM {w : World} {base : Nat} {e : TypeId} {sz n : Nat} {v : Value} {xs : List Value} (h : w.ownsRow base e sz v n xs) : ∀ k, v.ownBlock = some k → base ≤ k := fun k hk => (h.lt k hk).1
theorem QO (h : TV w p v L) (hL : L.length ≤ 1000) : Calls Tryz.prog 64 #[.pointer (some ⟨p, 0, none⟩)] w (Ec w L) := by
 have hno := kQ h
 have hc := Mw h hL
 unfold mZ at hc
 clear h
 go_enter Tryz.func64, Tryz.ntmps64
 go_wp2_with (go_at_call 49; go_must (refine hno.mono ?_); rintro e w' ⟨rfl, rfl⟩)
 go_at_call 24
 refine hc.mono ?_
 clear hc
 rintro e w2 ⟨v2, rfl, ho, hb⟩
 have hfin : Hid (Ec w L (.returned (.pointer (some ⟨w2.heap.size, 0, none⟩))) (w2.alloc (.cells #[.bool true, v2] 103))) :=
  ⟨w2.heap.size, v2, rfl, ⟨heap_alloc_new w2 _, qw (ho.alloc _) (Nat.zero_le _)⟩, hb.size, TM ho, hb.alloc hb.size _⟩
 obtain ⟨ao, cap, rfl, _⟩ := gH ho
 clear ho hb
 go_wp2_with fail
 go_ret
 exact hfin.out
def BD (w : World) (l : List Jb) (e : Ending) (w' : World) : Prop :=
 ∃ v', e = .returned v' ∧ w'.ownsRow w.heap.size 92 10 v' l.length (l.flatMap ai) ∧ Below w.heap.size w w'
theorem wE (h : TV w p v L) (hL : L.length ≤ 1000) {sv : Value} {ps : List Int} (hr : aB enc1 1 w sv ps) : Calls Tryz.prog 125 #[.pointer (some ⟨p, 0, none⟩), sv] w (BD w (L.filter fun j => decide (j.state ∈ ps))) := by
 have c1 := h.c1
 have hno := kQ h
 have zE := bJ
 obtain ⟨i0, hi0, hz0, hz1, hz2⟩ := info_parts xI
 obtain ⟨k, hk⟩ : ∃ k, k = 10 := ⟨_, rfl⟩
 rw [← hk] at zE
 replace hk := Lib.hid hk
 obtain ⟨n, hn⟩ : ∃ n, L.length = n := ⟨_, rfl⟩
 have HQ : Hid (0 < n → ∃ g cap, v = .slice (some ⟨g, 0, none⟩) n cap ∧ nM w g 0 L) := fun hp => by
  obtain ⟨g, cap, e⟩ := h.shape (by omega)
  subst e
  exact ⟨g, cap, by rw [hn], h.row⟩
 have hle := tF h.own
 obtain ⟨ao, cap, rfl, _⟩ := gH h.own
 rw [hn] at hL hle c1
 replace hn := Lib.hid hn
 clear h
 replace hr := Lib.hid hr
 go_enter Tryz.func125, Tryz.ntmps125
 go_wp2_with (go_at_call 49; go_must (refine hno.mono ?_); rintro e w' ⟨rfl, rfl⟩)
 clear hno
 go_loopw [5, 15] (fun oo ii wr => ∃ (i : Nat), i ≤ n ∧ ii = .int .i64 i ∧ wr.ownsRow w.heap.size 92 10 oo ((L.take i).filter fun j => decide (j.state ∈ ps)).length (((L.take i).filter fun j => decide (j.state ∈ ps)).flatMap ai) ∧ Below w.heap.size w wr) (fun _ ii _ => n - (intOf ii).toNat)
 case atStart => exact ⟨0, Nat.zero_le _, rfl, by simpa using World.ownsRow_nil w w.heap.size 92 10, Below.refl _ _⟩
 case round =>
  obtain ⟨i, hin, rfl, hown, hbr⟩ := hrel
  by_cases hlt : i < n
  ·have b2 : (i : Int) < (n : Int) := by omega
   have wi : IntKind.i64.wrap ((i : Int) + 1) = (i : Int) + 1 := by rw [IntKind.wrap_i64]; omega
   obtain ⟨g, cap2, e2, hJ⟩ := HQ.out (by omega)
   cases e2
   have iM : i < L.length := by have := hn.out; omega
   have sW := hJ.below hbr
   have LI := sW.load hk.out iM
   simp only [Nat.zero_add] at LI
   have lI := ax L[i]!
   have st : Sem.run Tryz.prog (storeCells ⟨wr.heap.size, 0, none⟩ (ai L[i]!) 0) (wr.alloc (.cells #[.int .i64 0, .int .i64 0, .int .i64 0, .int .i64 0, .int .i64 0, .int .i64 0, .int .i64 0, .int .i64 0, .int .i64 0, .int .u64 0] 92)) = .ok () (wr.alloc (.cells (ai L[i]!).toArray 92)) := dE wr wr.heap.size (ai L[i]!) (ai default) 92 rfl (by rw [ax, ax]) (dJ _)
   rw [← hk.out] at lI
   have hb1 : Below w.heap.size w (wr.alloc (.cells (ai L[i]!).toArray 92)) := hbr.alloc hbr.size _
   have Zg := hb1.size
   have jc := Lib.hid (gV (heap_alloc_new wr (.cells (ai L[i]!).toArray 92)))
   have k5 := jc.out 5 _ rfl
   have hown1 := hown.alloc (.cells (ai L[i]!).toArray 92)
   have hct := rY (L[i]!).state (hr.out.below hb1)
   obtain ⟨X, hX⟩ : ∃ X, X = (L.take i).filter fun j => decide (j.state ∈ ps) := ⟨_, rfl⟩
   have WL : X.length ≤ 1000 := by rw [hX]; exact Nat.le_trans (List.length_filter_le _ _) (by rw [List.length_take]; omega)
   rw [← hX] at hown hown1
   have HE : Hid ((L.take (i + 1)).filter (fun j => decide (j.state ∈ ps)) = if decide ((L[i]!).state ∈ ps) = true then X ++ [L[i]!] else X) := by
    show _ = _
    rw [hX]
    split
    ·exact D6 iM ‹_›
    ·rename_i hq
     exact H5 iM (Bool.eq_false_iff.2 hq)
   replace hX := Lib.hid hX
   replace hk := hk.out
   have hsz : w.heap.size ≤ wr.heap.size := hbr.size
   clear hJ sW hbr hown
   generalize hy : L[i]! = y at *
   replace hy := Lib.hid hy
   have es : y.2.2.2.2.2.1 = y.state := rfl
   rw [es] at k5
   clear es
   generalize y.state = s at *
   rcases Bool.eq_false_or_eq_true (decide (s ∈ ps)) with hd | hd
   ·rw [hd] at hct
    have HE2 := HE.out
    rw [if_pos hd] at HE2
    replace HE2 := Lib.hid HE2
    replace hd := Lib.hid hd
    clear HE
    generalize hcI : ai y = cI at *
    replace hcI := Lib.hid hcI
    generalize hw1 : wr.alloc (.cells cI.toArray 92) = w1 at *
    replace hw1 := Lib.hid hw1
    replace hk := Lib.hid hk
    go_wp2_with fail
    go_at_call 151
    refine hct.mono ?_
    clear hct
    rintro e w5 ⟨rfl, rfl⟩
    clear st LI lI
    obtain rfl := hk.out
    have QD := hcI.out
    clear hcI
    obtain ⟨x1, x2, x3, x4, x5, x6, x7, x8, x9, x0⟩ := y
    subst QD
    have k0 := jc.out 0 _ rfl
    have k1 := jc.out 1 _ rfl
    have k2 := jc.out 2 _ rfl
    have k3 := jc.out 3 _ rfl
    have k4 := jc.out 4 _ rfl
    have k6 := jc.out 6 _ rfl
    have k7 := jc.out 7 _ rfl
    have k8 := jc.out 8 _ rfl
    have k9 := jc.out 9 _ rfl
    have YC := jc.out 5 _ rfl
    clear k5
    (try simp only [ai])
    go_wp2_with (at_builtin; go_must (refine wpList_append_own _ rfl (.tmp 23) (.tmp 25) 60 rfl w.heap.size 92 i0 (.agg (ai default).toArray) 10 80 Tryz.underlying60 hi0 hz0 hz1 hz2 rfl (by decide) u5 X.length (X.flatMap ai) rfl (hown1.alloc _) ⟨w1.heap.size, 0, none⟩ 1 1 (ai (x1, x2, x3, x4, x5, x6, x7, x8, x9, x0)) rfl rfl ?c0 ?c1 ?c2 ?c3 ?c4 ?c5))
    case c0 => exact fun _ _ h => h
    case c1 => exact dJ _
    case c2 => unfold maxLen; omega
    case c3 => omega
    case c4 => (have hh : ∀ o, (w1.alloc o).heap.size = w1.heap.size + 1 := fun o => by simp); first | omega | (rw [hh]; omega)
    case c5 =>
     intro v6 w7 QE QF _
     have kD : Below w.heap.size w w7 := (hb1.alloc hb1.size _).grown QF (by simp; omega) (fun k hk => (hown1.lt k hk).1)
     have QG : Hid (w7.ownsRow w.heap.size 92 10 v6 ((L.take (i + 1)).filter fun j => decide (j.state ∈ ps)).length (((L.take (i + 1)).filter fun j => decide (j.state ∈ ps)).flatMap ai)) := by
      show World.ownsRow _ _ _ _ _ _ _
      rw [HE2.out, List.length_append, List.flatMap_append]
      simp only [List.length_singleton, List.flatMap_cons, List.flatMap_nil, List.append_nil]
      exact QE
     clear k0 k1 k2 k3 k4 YC k6 k7 k8 k9 QE QF hown1 hb1
     go_wp2_with fail
     go_roundw
     case rel => exact ⟨i + 1, by omega, by go_num, QG.out, kD⟩
     case measure => simp [intOf]; omega
   ·rw [hd] at hct
    have HE2 := HE.out
    rw [if_neg (by rw [hd]; decide)] at HE2
    have QG : Hid ((wr.alloc (.cells (ai y).toArray 92)).ownsRow w.heap.size 92 10 u5 ((L.take (i + 1)).filter fun j => decide (j.state ∈ ps)).length (((L.take (i + 1)).filter fun j => decide (j.state ∈ ps)).flatMap ai)) := by
     show World.ownsRow _ _ _ _ _ _ _
     rw [HE2]
     exact hown1
    replace hd := Lib.hid hd
    clear HE HE2 hown1 jc
    generalize ai y = cI at *
    generalize hw1 : wr.alloc (.cells cI.toArray 92) = w1 at *
    replace hw1 := Lib.hid hw1
    replace hk := Lib.hid hk
    go_wp2_with (go_at_call 151; go_must (refine hct.mono ?_); rintro e w5 ⟨rfl, rfl⟩)
    go_roundw
    case rel => exact ⟨i + 1, by omega, by go_num, QG.out, hb1⟩
    case measure => simp [intOf]; omega
  ·obtain rfl : i = n := by omega
   have b2 : ¬ (i : Int) < (i : Int) := by omega
   have e1 : L.take i = L := List.take_of_length_le (by rw [hn.out]; exact Nat.le_refl _)
   rw [e1] at hown
   have hfin : Hid (BD w (L.filter fun j => decide (j.state ∈ ps)) (.returned u5) wr) := ⟨u5, rfl, hown, hbr⟩
   clear hown e1
   go_wp2_with fail
   go_ret
   exact hfin.out
end
end Go.Proofs.YtelnhablglomjaaGreat

namespace Go.Proofs.YtelnhablglomjaaGreat
def ofK (f : Nat → Bool) : Nat → Nat
 | 0 => 0
 | k + 1 => ofK f k + (if f k then 2 ^ k else 0)
theorem Mx (f : Nat → Bool) (k : Nat) : ofK f k < 2 ^ k := by
 induction k with
 | zero => simp [ofK]
 | succ k ih =>
   simp only [ofK, Nat.pow_succ]
   split <;> omega
theorem FV (f : Nat → Bool) (k i : Nat) : (ofK f k).testBit i = (decide (i < k) && f i) := by
 induction k with
 | zero => simp [ofK]
 | succ k ih =>
   have hlt := Mx f k
   have e : ofK f (k + 1) = 2 ^ k * (if f k then 1 else 0) + ofK f k := by
    simp only [ofK]
    split <;> omega
   rw [e, Nat.testBit_two_pow_mul_add _ hlt, ih]
   by_cases h : i < k
   ·simp [h, show i < k + 1 by omega]
   ·by_cases h2 : i = k
    ·subst h2
     simp
     cases f i <;> rfl
    ·have : (if f k = true then 1 else 0).testBit (i - k) = false := by
      have h3 : 0 < i - k := by omega
      split
      ·exact Nat.testBit_lt_two_pow (Nat.one_lt_two_pow (by omega))
      ·simp
     simp [this, h, show ¬ i < k + 1 by omega]
def aP (f : Nat → Bool) : Nat := ofK f 64
theorem eB (f : Nat → Bool) : aP f < 18446744073709551616 := Mx f 64
theorem aZ (f : Nat → Bool) (i : Nat) : (aP f).testBit i = (decide (i < 64) && f i) := FV f 64 i
theorem NN {u i : Nat} (hu : u < 18446744073709551616) (hi : 64 ≤ i) : u.testBit i = false :=
 Nat.testBit_lt_two_pow (Nat.lt_of_lt_of_le hu (show 2 ^ 64 ≤ 2 ^ i from Nat.pow_le_pow_right (by decide) hi))
theorem kX {f : Nat → Bool} {u : Nat} (hu : u < 18446744073709551616) (h : ∀ i, i < 64 → f i = u.testBit i) : aP f = u := by
 apply Nat.eq_of_testBit_eq
 intro i
 rw [aZ]
 by_cases hi : i < 64
 ·simp [hi, h i hi]
 ·rw [NN hu (Nat.le_of_not_lt hi)]; simp [hi]
theorem fP {f g : Nat → Bool} (h : ∀ i, i < 64 → f i = g i) : aP f = aP g :=
 kX (eB g) fun i hi => by rw [aZ, h i hi]; simp [hi]
def aO (f : Nat → Bool) : Nat → Nat
 | 0 => 0
 | k + 1 => aO f k + (if f k then 1 else 0)
theorem QP (f : Nat → Bool) (k : Nat) : aO f k ≤ k := by
 induction k with
 | zero => simp [aO]
 | succ k ih => simp only [aO]; split <;> omega
theorem uk {f g : Nat → Bool} (k : Nat) (h : ∀ i, i < k → f i = g i) : aO f k = aO g k := by
 induction k with
 | zero => rfl
 | succ k ih => simp only [aO]; rw [ih fun i hi => h i (by omega), h k (by omega)]
def sP (u : Nat) (n : Int) : Bool := decide (0 ≤ n) && (decide (n ≤ 63) && u.testBit n.toNat)
theorem oL {u i : Nat} (hi : i < 64) : sP u (i : Int) = u.testBit i := by
 unfold sP
 have : ((i : Int) ≤ 63) := by omega
 simp [this]
end Go.Proofs.YtelnhablglomjaaGreat

namespace Go.Proofs.YtelnhablglomjaaGreat
open Go.ChangeShapes Go.WideShapes Go.ChangeAt Go.RowKit
structure qm (w : World) (v : Value) (zs : List Int) : Prop where
 shape : ∃ ao cap, v = .slice ao zs.length cap ∧ zs.length ≤ cap ∧ cap ≤ maxLen ∧ (zs ≠ [] → ∃ b off, ao = some ⟨b, off, none⟩ ∧ b < w.heap.size ∧ ∀ i, i < zs.length → w.cell? ⟨b, off + i, none⟩ = some (.int .i64 (zs.getD i 0)))
 fits : ∀ z ∈ zs, -9223372036854775808 ≤ z ∧ z ≤ 9223372036854775807
theorem QQ {α : Type} {l : List α} {k : Nat} {d : α} (h : k < l.length) : l.getD k d = l[k] := by simp [List.getD, h]
theorem BF {zs : List Int} {k : Nat} (h : k < zs.length) : zs.take (k + 1) = zs.take k ++ [zs.getD k 0] := by
 rw [List.take_succ_eq_append_getElem h, QQ h]
end Go.Proofs.YtelnhablglomjaaGreat

namespace Go.Proofs.YtelnhablglomjaaGreat
theorem lH {b x i : Nat} (hb : b < 256) : (b + 256 * x).testBit i = if i < 8 then b.testBit i else x.testBit (i - 8) := by
 have := Nat.testBit_two_pow_mul_add x (i := 8) (show b < 2 ^ 8 from hb) i
 rw [show b + 256 * x = 2 ^ 8 * x + b by omega]
 exact this
theorem MC {b c : Nat} (hc : c < 256) : b &&& c < 256 := Nat.lt_of_le_of_lt Nat.and_le_right hc
theorem yD {b c x y : Nat} (hb : b < 256) (hc : c < 256) : (b + 256 * x) &&& (c + 256 * y) = (b &&& c) + 256 * (x &&& y) := by
 apply Nat.eq_of_testBit_eq
 intro i
 rw [Nat.testBit_and, lH hb, lH hc, lH (MC hc), Nat.testBit_and, Nat.testBit_and]
 split <;> rfl
theorem zC {b c x y s t : Nat} (hb : b < 256) (hst : s + t = 8) (hc : c < 2 ^ t) : ((b + 256 * x) >>> s) &&& (c + 256 * y) = ((b >>> s) &&& c) + 256 * ((x >>> s) &&& y) := by
 have hc8 : c < 256 := Nat.lt_of_lt_of_le hc (show 2 ^ t ≤ 2 ^ 8 from Nat.pow_le_pow_right (by decide) (by omega))
 apply Nat.eq_of_testBit_eq
 intro i
 rw [Nat.testBit_and, Nat.testBit_shiftRight, lH hb, lH hc8, lH (MC hc8), Nat.testBit_and, Nat.testBit_and, Nat.testBit_shiftRight, Nat.testBit_shiftRight]
 by_cases hi : i < 8
 ·simp only [hi, if_true]
  by_cases h2 : s + i < 8
  ·simp only [h2, if_true]
  ·have hz : c.testBit i = false := Nat.testBit_lt_two_pow (Nat.lt_of_lt_of_le hc (Nat.pow_le_pow_right (by decide) (by omega)))
   simp [hz]
 ·have h2 : ¬ s + i < 8 := by omega
  simp only [hi, h2, if_false]
  rw [show s + i - 8 = s + (i - 8) by omega]
def g1 (b : Nat) : Nat := ((b >>> 1) &&& 85) + (b &&& 85)
def g2 (b : Nat) : Nat := ((b >>> 2) &&& 51) + (b &&& 51)
theorem um : ∀ b, b < 256 → g1 b < 256 ∧ g2 (g1 b) % 16 ≤ 4 ∧ g2 (g1 b) / 16 ≤ 4 ∧ g2 (g1 b) < 256 ∧ g2 (g1 b) % 16 + g2 (g1 b) / 16 = aO b.testBit 8 := by decide +kernel
theorem step1 {b x m : Nat} (hb : b < 256) : ((b + 256 * x) >>> 1 &&& (85 + 256 * m)) + ((b + 256 * x) &&& (85 + 256 * m)) = g1 b + 256 * ((x >>> 1 &&& m) + (x &&& m)) := by
 rw [zC hb (show 1 + 7 = 8 from rfl) (by decide), yD hb (by decide)]
 unfold g1
 omega
theorem step2 {b x m : Nat} (hb : b < 256) : ((b + 256 * x) >>> 2 &&& (51 + 256 * m)) + ((b + 256 * x) &&& (51 + 256 * m)) = g2 b + 256 * ((x >>> 2 &&& m) + (x &&& m)) := by
 rw [zC hb (show 2 + 6 = 8 from rfl) (by decide), yD hb (by decide)]
 unfold g2
 omega
theorem ni {b x : Nat} (hb : b < 256) (k : Nat) : aO (b + 256 * x).testBit (8 + k) = aO b.testBit 8 + aO x.testBit k := by
 induction k with
 | zero =>
   show aO _ 8 = aO _ 8 + 0
   rw [Nat.add_zero]
   apply uk
   intro i hi
   rw [lH hb, if_pos hi]
 | succ k ih =>
   have e : (b + 256 * x).testBit (8 + k) = x.testBit k := by rw [lH hb, if_neg (by omega), show 8 + k - 8 = k by omega]
   show aO (b + 256 * x).testBit (8 + k) + (if (b + 256 * x).testBit (8 + k) then 1 else 0) = aO b.testBit 8 + (aO x.testBit k + (if x.testBit k then 1 else 0))
   rw [ih, e, Nat.add_assoc]
theorem TN (u : Nat) (hu : u < 18446744073709551616) : ∃ b0 b1 b2 b3 b4 b5 b6 b7 : Nat, b0 < 256 ∧ b1 < 256 ∧ b2 < 256 ∧ b3 < 256 ∧ b4 < 256 ∧ b5 < 256 ∧ b6 < 256 ∧ b7 < 256 ∧
 u = b0 + 256 * (b1 + 256 * (b2 + 256 * (b3 + 256 * (b4 + 256 * (b5 + 256 * (b6 + 256 * (b7 + 256 * 0))))))) :=
 ⟨u % 256, u / 256 % 256, u / 65536 % 256, u / 16777216 % 256, u / 4294967296 % 256, u / 1099511627776 % 256, u / 281474976710656 % 256, u / 72057594037927936, by omega, by omega, by omega, by omega, by omega, by omega, by omega, by omega, by omega⟩
theorem TP : 6148914691236517205 = 85 + 256 * (85 + 256 * (85 + 256 * (85 + 256 * (85 + 256 * (85 + 256 * (85 + 256 * (85 + 256 * 0))))))) := rfl
theorem TQ : 3689348814741910323 = 51 + 256 * (51 + 256 * (51 + 256 * (51 + 256 * (51 + 256 * (51 + 256 * (51 + 256 * (51 + 256 * 0))))))) := rfl
theorem TR : 1085102592571150095 = 15 + 256 * (15 + 256 * (15 + 256 * (15 + 256 * (15 + 256 * (15 + 256 * (15 + 256 * (15 + 256 * 0))))))) := rfl
theorem FW (n0 n1 n2 n3 n4 n5 n6 n7 : Nat) (h0 : n0 % 16 ≤ 4 ∧ n0 / 16 ≤ 4) (h1 : n1 % 16 ≤ 4 ∧ n1 / 16 ≤ 4) (h2 : n2 % 16 ≤ 4 ∧ n2 / 16 ≤ 4) (h3 : n3 % 16 ≤ 4 ∧ n3 / 16 ≤ 4)
 (h4 : n4 % 16 ≤ 4 ∧ n4 / 16 ≤ 4) (h5 : n5 % 16 ≤ 4 ∧ n5 / 16 ≤ 4) (h6 : n6 % 16 ≤ 4 ∧ n6 / 16 ≤ 4) (h7 : n7 % 16 ≤ 4 ∧ n7 / 16 ≤ 4) :
 ((n0 + 256 * (n1 + 256 * (n2 + 256 * (n3 + 256 * (n4 + 256 * (n5 + 256 * (n6 + 256 * (n7 + 256 * 0)))))))) >>> 4 + (n0 + 256 * (n1 + 256 * (n2 + 256 * (n3 + 256 * (n4 + 256 * (n5 + 256 * (n6 + 256 * (n7 + 256 * 0))))))))) &&& 1085102592571150095 =
 (n0 % 16 + n0 / 16) + 256 * ((n1 % 16 + n1 / 16) + 256 * ((n2 % 16 + n2 / 16) + 256 * ((n3 % 16 + n3 / 16) + 256 * ((n4 % 16 + n4 / 16) + 256 * ((n5 % 16 + n5 / 16) + 256 * ((n6 % 16 + n6 / 16) + 256 * ((n7 % 16 + n7 / 16) + 256 * 0))))))) := by
 have e : (n0 + 256 * (n1 + 256 * (n2 + 256 * (n3 + 256 * (n4 + 256 * (n5 + 256 * (n6 + 256 * (n7 + 256 * 0)))))))) >>> 4 + (n0 + 256 * (n1 + 256 * (n2 + 256 * (n3 + 256 * (n4 + 256 * (n5 + 256 * (n6 + 256 * (n7 + 256 * 0)))))))) =
  ((n0 % 16 + n0 / 16) + 16 * (n0 / 16 + n1 % 16)) + 256 * (((n1 % 16 + n1 / 16) + 16 * (n1 / 16 + n2 % 16)) + 256 * (((n2 % 16 + n2 / 16) + 16 * (n2 / 16 + n3 % 16)) + 256 * (((n3 % 16 + n3 / 16) + 16 * (n3 / 16 + n4 % 16)) +
  256 * (((n4 % 16 + n4 / 16) + 16 * (n4 / 16 + n5 % 16)) + 256 * (((n5 % 16 + n5 / 16) + 16 * (n5 / 16 + n6 % 16)) + 256 * (((n6 % 16 + n6 / 16) + 16 * (n6 / 16 + n7 % 16)) + 256 * (((n7 % 16 + n7 / 16) + 16 * (n7 / 16)) + 256 * 0))))))) := by
  rw [Nat.shiftRight_eq_div_pow]
  omega
 have YD : ∀ s t : Nat, s ≤ 8 → (s + 16 * t) &&& 15 = s := fun s t hs => by
  rw [show (15 : Nat) = 2 ^ 4 - 1 from rfl, Nat.and_two_pow_sub_one_eq_mod]
  omega
 rw [e, TR]
 iterate 8 rw [yD (by omega) (by decide), YD _ _ (by omega)]
 simp
theorem KI (p0 p1 p2 p3 p4 p5 p6 p7 : Nat) (h0 : p0 ≤ 8) (h1 : p1 ≤ 8) (h2 : p2 ≤ 8) (h3 : p3 ≤ 8) (h4 : p4 ≤ 8) (h5 : p5 ≤ 8) (h6 : p6 ≤ 8) (h7 : p7 ≤ 8) (x3 x4 x5 x6 : Nat)
 (e3 : x3 = p0 + 256 * (p1 + 256 * (p2 + 256 * (p3 + 256 * (p4 + 256 * (p5 + 256 * (p6 + 256 * (p7 + 256 * 0)))))))) (e4 : x4 = x3 + x3 >>> 8) (e5 : x5 = x4 + x4 >>> 16) (e6 : x6 = x5 + x5 >>> 32) :
 x4 < 18446744073709551616 ∧ x5 < 18446744073709551616 ∧ x6 < 18446744073709551616 ∧ x6 &&& 127 = p0 + p1 + p2 + p3 + p4 + p5 + p6 + p7 := by
 rw [Nat.shiftRight_eq_div_pow] at e4 e5 e6
 simp only [Nat.reducePow] at e4 e5 e6
 have dv : ∀ a b m : Nat, a < m → (a + m * b) / m = b := fun a b m h => by rw [Nat.add_mul_div_left _ _ (by omega), Nat.div_eq_of_lt h, Nat.zero_add]
 obtain ⟨X, hX⟩ : ∃ X, X = p1 + 256 * (p2 + 256 * (p3 + 256 * (p4 + 256 * (p5 + 256 * (p6 + 256 * (p7 + 256 * 0)))))) := ⟨_, rfl⟩
 obtain ⟨Y, hY⟩ : ∃ Y, Y = (p2 + p3) + 256 * ((p3 + p4) + 256 * ((p4 + p5) + 256 * ((p5 + p6) + 256 * ((p6 + p7) + 256 * p7)))) := ⟨_, rfl⟩
 obtain ⟨Z, hZ⟩ : ∃ Z, Z = (p4 + p5 + p6 + p7) + 256 * ((p5 + p6 + p7) + 256 * ((p6 + p7) + 256 * p7)) := ⟨_, rfl⟩
 have d3 : x3 = p0 + 256 * X := by rw [e3, hX]
 have v3 : x3 / 256 = X := by rw [d3]; exact dv _ _ _ (by omega)
 rw [v3] at e4
 have d4 : x4 = ((p0 + p1) + 256 * (p1 + p2)) + 65536 * Y := by omega
 have v4 : x4 / 65536 = Y := by rw [d4]; exact dv _ _ _ (by omega)
 rw [v4] at e5
 have d5 : x5 = ((p0 + p1 + p2 + p3) + 256 * ((p1 + p2 + p3 + p4) + 256 * ((p2 + p3 + p4 + p5) + 256 * (p3 + p4 + p5 + p6)))) + 4294967296 * Z := by omega
 have v5 : x5 / 4294967296 = Z := by rw [d5]; exact dv _ _ _ (by omega)
 rw [v5] at e6
 have b4 : x4 < 18446744073709551616 := by clear e3 e5 e6 v3 v4 v5 d5 hZ hX; omega
 have b5 : x5 < 18446744073709551616 := by clear e3 e4 e5 e6 v3 v4 v5 d3 d4 hY hX; omega
 clear e3 e4 e5 v3 v4 v5 dv d3 d4 hX hY
 rw [d5] at e6
 have b6 : x6 < 18446744073709551616 := by clear d5; omega
 refine ⟨b4, b5, b6, ?_⟩
 clear d5 b4 b5 b6
 rw [show (127 : Nat) = 2 ^ 7 - 1 from rfl, Nat.and_two_pow_sub_one_eq_mod]
 simp only [Nat.reducePow]
 obtain ⟨W, hW⟩ : ∃ W, Z = (p4 + p5 + p6 + p7) + 256 * W := ⟨_, hZ⟩
 clear hZ
 omega
def c1 (u : Nat) : Nat := (u >>> 1 &&& 6148914691236517205) + (u &&& 6148914691236517205)
def c2 (u : Nat) : Nat := (u >>> 2 &&& 3689348814741910323) + (u &&& 3689348814741910323)
def c3 (u : Nat) : Nat := (u >>> 4 + u) &&& 1085102592571150095
theorem ib {b x m : Nat} (h : b < 256) (hx : x < m) : b + 256 * x < 256 * m := by omega
theorem TS {b0 b1 b2 b3 b4 b5 b6 b7 : Nat} (h0 : b0 < 256) (h1 : b1 < 256) (h2 : b2 < 256) (h3 : b3 < 256) (h4 : b4 < 256) (h5 : b5 < 256) (h6 : b6 < 256) (h7 : b7 < 256) :
 b0 + 256 * (b1 + 256 * (b2 + 256 * (b3 + 256 * (b4 + 256 * (b5 + 256 * (b6 + 256 * (b7 + 256 * 0))))))) < 18446744073709551616 :=
 Nat.lt_of_lt_of_le (ib h0 (ib h1 (ib h2 (ib h3 (ib h4 (ib h5 (ib h6 (ib h7 (Nat.zero_lt_one))))))))) (by decide)
theorem TT {b0 b1 b2 b3 b4 b5 b6 b7 : Nat} (h0 : b0 ≤ 68) (h1 : b1 ≤ 68) (h2 : b2 ≤ 68) (h3 : b3 ≤ 68) (h4 : b4 ≤ 68) (h5 : b5 ≤ 68) (h6 : b6 ≤ 68) (h7 : b7 ≤ 68) :
 b0 + 256 * (b1 + 256 * (b2 + 256 * (b3 + 256 * (b4 + 256 * (b5 + 256 * (b6 + 256 * (b7 + 256 * 0))))))) < 9223372036854775808 :=
 Nat.lt_of_lt_of_le (ib (show b0 < 256 by omega) (ib (show b1 < 256 by omega) (ib (show b2 < 256 by omega) (ib (show b3 < 256 by omega) (ib (show b4 < 256 by omega) (ib (show b5 < 256 by omega) (ib (show b6 < 256 by omega) (show b7 + 256 * 0 < 128 by omega)))))))) (by decide)
theorem half (n : Nat) (h : n % 16 ≤ 4 ∧ n / 16 ≤ 4) : n ≤ 68 ∧ n % 16 + n / 16 ≤ 8 := by omega
theorem NP {b0 b1 b2 b3 b4 b5 b6 b7 : Nat} (k0 : b0 < 256) (k1 : b1 < 256) (k2 : b2 < 256) (k3 : b3 < 256) (k4 : b4 < 256) (k5 : b5 < 256) (k6 : b6 < 256) (k7 : b7 < 256) :
 c1 (b0 + 256 * (b1 + 256 * (b2 + 256 * (b3 + 256 * (b4 + 256 * (b5 + 256 * (b6 + 256 * (b7 + 256 * 0)))))))) = g1 b0 + 256 * (g1 b1 + 256 * (g1 b2 + 256 * (g1 b3 + 256 * (g1 b4 + 256 * (g1 b5 + 256 * (g1 b6 + 256 * (g1 b7 + 256 * 0))))))) := by
 unfold c1
 rw [TP, step1 k0, step1 k1, step1 k2, step1 k3, step1 k4, step1 k5, step1 k6, step1 k7]
 simp
theorem NQ {b0 b1 b2 b3 b4 b5 b6 b7 : Nat} (k0 : b0 < 256) (k1 : b1 < 256) (k2 : b2 < 256) (k3 : b3 < 256) (k4 : b4 < 256) (k5 : b5 < 256) (k6 : b6 < 256) (k7 : b7 < 256) :
 c2 (b0 + 256 * (b1 + 256 * (b2 + 256 * (b3 + 256 * (b4 + 256 * (b5 + 256 * (b6 + 256 * (b7 + 256 * 0)))))))) = g2 b0 + 256 * (g2 b1 + 256 * (g2 b2 + 256 * (g2 b3 + 256 * (g2 b4 + 256 * (g2 b5 + 256 * (g2 b6 + 256 * (g2 b7 + 256 * 0))))))) := by
 unfold c2
 rw [TQ, step2 k0, step2 k1, step2 k2, step2 k3, step2 k4, step2 k5, step2 k6, step2 k7]
 simp
theorem KJ {b0 b1 b2 b3 b4 b5 b6 b7 : Nat} (k0 : b0 < 256) (k1 : b1 < 256) (k2 : b2 < 256) (k3 : b3 < 256) (k4 : b4 < 256) (k5 : b5 < 256) (k6 : b6 < 256) :
 aO (b0 + 256 * (b1 + 256 * (b2 + 256 * (b3 + 256 * (b4 + 256 * (b5 + 256 * (b6 + 256 * (b7 + 256 * 0)))))))).testBit 64 = aO b0.testBit 8 + (aO b1.testBit 8 + (aO b2.testBit 8 + (aO b3.testBit 8 + (aO b4.testBit 8 + (aO b5.testBit 8 + (aO b6.testBit 8 + aO b7.testBit 8)))))) := by
 refine (ni k0 56).trans (congrArg (aO b0.testBit 8 + ·) ?_)
 refine (ni k1 48).trans (congrArg (aO b1.testBit 8 + ·) ?_)
 refine (ni k2 40).trans (congrArg (aO b2.testBit 8 + ·) ?_)
 refine (ni k3 32).trans (congrArg (aO b3.testBit 8 + ·) ?_)
 refine (ni k4 24).trans (congrArg (aO b4.testBit 8 + ·) ?_)
 refine (ni k5 16).trans (congrArg (aO b5.testBit 8 + ·) ?_)
 refine (ni k6 8).trans (congrArg (aO b6.testBit 8 + ·) ?_)
 rw [Nat.mul_zero, Nat.add_zero]
theorem VE (u : Nat) (hu : u < 18446744073709551616) (x4 x5 x6 : Nat) (e4 : x4 = c3 (c2 (c1 u)) + c3 (c2 (c1 u)) >>> 8) (e5 : x5 = x4 + x4 >>> 16) (e6 : x6 = x5 + x5 >>> 32) :
 c1 u < 18446744073709551616 ∧ c2 (c1 u) < 9223372036854775808 ∧ x4 < 18446744073709551616 ∧ x5 < 18446744073709551616 ∧ x6 < 18446744073709551616 ∧ x6 &&& 127 = aO u.testBit 64 := by
 obtain ⟨b0, b1, b2, b3, b4, b5, b6, b7, k0, k1, k2, k3, k4, k5, k6, k7, rfl⟩ := TN u hu
 obtain ⟨l0, m0, n0, o0, q0⟩ := um b0 k0
 obtain ⟨l1, m1, n1, o1, q1⟩ := um b1 k1
 obtain ⟨l2, m2, n2, o2, q2⟩ := um b2 k2
 obtain ⟨l3, m3, n3, o3, q3⟩ := um b3 k3
 obtain ⟨l4, m4, n4, o4, q4⟩ := um b4 k4
 obtain ⟨l5, m5, n5, o5, q5⟩ := um b5 k5
 obtain ⟨l6, m6, n6, o6, q6⟩ := um b6 k6
 obtain ⟨l7, m7, n7, o7, q7⟩ := um b7 k7
 rw [NP k0 k1 k2 k3 k4 k5 k6 k7, NQ l0 l1 l2 l3 l4 l5 l6 l7] at *
 rw [KJ k0 k1 k2 k3 k4 k5 k6, ← q0, ← q1, ← q2, ← q3, ← q4, ← q5, ← q6, ← q7]
 have hc3 := FW (g2 (g1 b0)) (g2 (g1 b1)) (g2 (g1 b2)) (g2 (g1 b3)) (g2 (g1 b4)) (g2 (g1 b5)) (g2 (g1 b6)) (g2 (g1 b7)) ⟨m0, n0⟩ ⟨m1, n1⟩ ⟨m2, n2⟩ ⟨m3, n3⟩ ⟨m4, n4⟩ ⟨m5, n5⟩ ⟨m6, n6⟩ ⟨m7, n7⟩
 unfold c3 at e4
 have hs := KI _ _ _ _ _ _ _ _ (half _ ⟨m0, n0⟩).2 (half _ ⟨m1, n1⟩).2 (half _ ⟨m2, n2⟩).2 (half _ ⟨m3, n3⟩).2 (half _ ⟨m4, n4⟩).2 (half _ ⟨m5, n5⟩).2 (half _ ⟨m6, n6⟩).2 (half _ ⟨m7, n7⟩).2 _ x4 x5 x6 hc3 e4 e5 e6
 refine ⟨TS l0 l1 l2 l3 l4 l5 l6 l7, TT (half _ ⟨m0, n0⟩).1 (half _ ⟨m1, n1⟩).1 (half _ ⟨m2, n2⟩).1 (half _ ⟨m3, n3⟩).1 (half _ ⟨m4, n4⟩).1 (half _ ⟨m5, n5⟩).1 (half _ ⟨m6, n6⟩).1 (half _ ⟨m7, n7⟩).1, hs.1, hs.2.1, hs.2.2.1, ?_⟩
 rw [hs.2.2.2]
 simp only [Nat.add_assoc]
end Go.Proofs.YtelnhablglomjaaGreat

namespace Go.Proofs.YtelnhablglomjaaGreat
open Go.RowKit
theorem wrap_small {n : Nat} (h : n < 18446744073709551616) : IntKind.u64.wrap (n : Int) = (n : Int) := by rw [IntKind.wrap_u64]; omega
theorem BG (u s : Nat) (c p : Nat) (hu : u < 18446744073709551616) (hc : c < 18446744073709551616) (hp : p = 2 ^ s) : bits .and .u64 ((u : Int) / (p : Int)) (c : Int) = ((u >>> s &&& c : Nat) : Int) := by
 have e : (u : Int) / (p : Int) = ((u >>> s : Nat) : Int) := by rw [Nat.shiftRight_eq_div_pow, hp]; rfl
 rw [e]
 exact bits_and_u64_nat _ _ (Nat.lt_of_le_of_lt (by rw [Nat.shiftRight_eq_div_pow]; exact Nat.div_le_self _ _) hu) hc
theorem NR (u : Nat) (hu : u < 18446744073709551616) (w : World) :
 Calls Tryz.prog 117 #[.int .u64 u] w fun e w' => e = .returned (.int .i64 (aO u.testBit 64)) ∧ w = w' := by
 obtain ⟨x4, e4⟩ : ∃ x, x = c3 (c2 (c1 u)) + c3 (c2 (c1 u)) >>> 8 := ⟨_, rfl⟩
 obtain ⟨x5, e5⟩ : ∃ x, x = x4 + x4 >>> 16 := ⟨_, rfl⟩
 obtain ⟨x6, e6⟩ : ∃ x, x = x5 + x5 >>> 32 := ⟨_, rfl⟩
 obtain ⟨l1, l2, l4, l5, l6, hend⟩ := VE u hu x4 x5 x6 e4 e5 e6
 generalize aO u.testBit 64 = c at hend ⊢
 obtain ⟨a1, h1⟩ : ∃ x, x = c1 u := ⟨_, rfl⟩
 obtain ⟨a2, h2⟩ : ∃ x, x = c2 a1 := ⟨_, rfl⟩
 obtain ⟨a3, h3⟩ : ∃ x, x = c3 a2 := ⟨_, rfl⟩
 have s1 : IntKind.u64.wrap (bits .and .u64 ((u : Int) / 2) 6148914691236517205 + bits .and .u64 (u : Int) 6148914691236517205) = (a1 : Int) := by
  rw [show (bits .and .u64 ((u : Int) / 2) 6148914691236517205) = _ from BG u 1 6148914691236517205 2 hu (by decide) rfl, show (bits .and .u64 (u : Int) 6148914691236517205) = _ from bits_and_u64_nat u 6148914691236517205 hu (by decide)]
  rw [h1]
  exact wrap_small l1
 rw [← h1] at l1 l2 e4
 have s2 : IntKind.u64.wrap (bits .and .u64 ((a1 : Int) / 4) 3689348814741910323 + bits .and .u64 (a1 : Int) 3689348814741910323) = (a2 : Int) := by
  rw [show (bits .and .u64 ((a1 : Int) / 4) 3689348814741910323) = _ from BG a1 2 3689348814741910323 4 l1 (by decide) rfl, show (bits .and .u64 (a1 : Int) 3689348814741910323) = _ from bits_and_u64_nat a1 3689348814741910323 l1 (by decide)]
  rw [h2]
  exact wrap_small (Nat.lt_trans l2 (by decide))
 rw [← h2] at l2 e4
 have s3 : bits .and .u64 ((a2 : Int) / 16 + (a2 : Int)) 1085102592571150095 = (a3 : Int) := by
  have e : (a2 : Int) / 16 + (a2 : Int) = ((a2 >>> 4 + a2 : Nat) : Int) := by rw [Nat.shiftRight_eq_div_pow]; rfl
  have l : a2 >>> 4 + a2 < 18446744073709551616 := by rw [Nat.shiftRight_eq_div_pow]; omega
  rw [show (bits .and .u64 ((a2 : Int) / 16 + (a2 : Int)) 1085102592571150095) = bits .and .u64 (((a2 >>> 4 + a2 : Nat)) : Int) 1085102592571150095 from congrArg (fun n => bits .and .u64 n 1085102592571150095) e, h3]
  exact bits_and_u64_nat _ 1085102592571150095 l (by decide)
 rw [← h3] at e4
 have s4 : IntKind.u64.wrap ((a3 : Int) + (a3 : Int) / 256) = (x4 : Int) := by
  have e : (a3 : Int) + (a3 : Int) / 256 = (x4 : Int) := by rw [e4, Nat.shiftRight_eq_div_pow]; simp only [Nat.reducePow]; omega
  rw [e]; exact wrap_small l4
 have s5 : IntKind.u64.wrap ((x4 : Int) + (x4 : Int) / 65536) = (x5 : Int) := by
  have e : (x4 : Int) + (x4 : Int) / 65536 = (x5 : Int) := by rw [e5, Nat.shiftRight_eq_div_pow]; simp only [Nat.reducePow]; omega
  rw [e]; exact wrap_small l5
 have s6 : IntKind.u64.wrap ((x5 : Int) + (x5 : Int) / 4294967296) = (x6 : Int) := by
  have e : (x5 : Int) + (x5 : Int) / 4294967296 = (x6 : Int) := by rw [e6, Nat.shiftRight_eq_div_pow]; simp only [Nat.reducePow]; omega
  rw [e]; exact wrap_small l6
 clear e4 e5 e6 h1 h2 h3
 have hc : c = x6 % 128 := by rw [← hend]; exact Nat.and_two_pow_sub_one_eq_mod x6 7
 clear hend
 have hw : wrap64 (x6 : Int) % 128 = (c : Int) := by
  clear s1 s2 s3 s4 s5 s6 l1 l2 l4 l5
  unfold wrap64
  omega
 have s7 : bits .and .i64 (wrap64 (x6 : Int)) 127 = (c : Int) := by rw [i64_and127, hw]
 clear hc hw
 go_enter Tryz.func117, Tryz.ntmps117
 go_wp2
 go_ret
 exact ⟨rfl, rfl⟩
end Go.Proofs.YtelnhablglomjaaGreat

namespace Go.Proofs.YtelnhablglomjaaGreat
open Go.RowKit
def mh (n : Int) : Nat := aP fun i => decide ((i : Int) = n)
theorem qC (a b : Nat) (ha : a < 18446744073709551616) (hb : b < 18446744073709551616) :
 bits .andNot .u64 (a : Int) (b : Int) = ((aP fun i => a.testBit i && !b.testBit i : Nat) : Int) := by
 have h1 : (BitVec.ofInt 64 (a : Int)).toNat = a := by
  rw [BitVec.ofInt_natCast, BitVec.toNat_ofNat]; exact Nat.mod_eq_of_lt (by omega)
 have h2 : (BitVec.ofInt 64 (b : Int)).toNat = b := by
  rw [BitVec.ofInt_natCast, BitVec.toNat_ofNat]; exact Nat.mod_eq_of_lt (by omega)
 show IntKind.u64.wrap ((BitVec.ofInt 64 (a : Int) &&& ~~~ BitVec.ofInt 64 (b : Int)).toNat : Int) = _
 generalize hA : BitVec.ofInt 64 (a : Int) = A at *
 generalize hB : BitVec.ofInt 64 (b : Int) = B at *
 have e : (A &&& ~~~ B).toNat = aP fun i => a.testBit i && !b.testBit i := by
  refine (kX (A &&& ~~~ B).isLt fun i hi => ?_).symm
  rw [BitVec.testBit_toNat, BitVec.getLsbD_and, BitVec.getLsbD_not, ← BitVec.testBit_toNat, ← BitVec.testBit_toNat, h1, h2]
  simp [hi]
 rw [e]
 exact wrap_small (eB _)
theorem BH {n : Int} (h : n < 0 ∨ 64 ≤ n) : mh n = 0 := by
 unfold mh
 exact kX (by decide) fun i hi => by simp; omega
theorem NS {m : Nat} (h : m < 64) : mh (m : Int) = 2 ^ m := by
 unfold mh
 refine kX (Nat.pow_lt_pow_right (by decide) h) fun i hi => ?_
 rw [Nat.testBit_two_pow, Bool.eq_iff_iff]
 simp
 omega
theorem BI (n : Int) : mh n < 18446744073709551616 := eB _
theorem BJ (n : Int) (w : World) (hn : -9223372036854775808 ≤ n ∧ n ≤ 9223372036854775807) :
 Calls Tryz.prog 153 #[.int .i64 n] w fun e w' => e = .returned (.int .u64 (mh n)) ∧ w = w' := by
 by_cases h0 : n < 0
 ·rw [BH (.inl h0)]
  go_enter Tryz.func153, Tryz.ntmps153
  go_wp2
  go_ret
  exact ⟨rfl, rfl⟩
 by_cases h1 : 64 ≤ n
 ·rw [BH (.inr h1)]
  go_enter Tryz.func153, Tryz.ntmps153
  go_wp2
  go_ret
  exact ⟨rfl, rfl⟩
 obtain ⟨m, rfl⟩ := Int.eq_ofNat_of_zero_le (show 0 ≤ n by omega)
 have hm : m < 64 := by omega
 go_enter Tryz.func153, Tryz.ntmps153
 go_wp2
 go_ret
 refine ⟨congrArg (fun n => Ending.returned (.int .u64 n)) ?_, rfl⟩
 have h := wrap_small (n := 2 ^ m) (Nat.pow_lt_pow_right (by decide) hm)
 rw [NS hm, ← h]
 exact congrArg IntKind.u64.wrap (by simp)
theorem QR : ∀ m : Fin 65, IntKind.u64.wrap (IntKind.u64.wrap (2 ^ m.val) - 1) = ((2 ^ m.val - 1 : Nat) : Int) := by decide +kernel
theorem TU (n : Int) (w : World) (hn : -9223372036854775808 ≤ n ∧ n ≤ 9223372036854775807) :
 Calls Tryz.prog 75 #[.int .i64 n] w fun e w' => e = .returned (.int .u64 (aP fun i => decide ((i : Int) < n))) ∧ w = w' := by
 go_enter Tryz.func75, Tryz.ntmps75
 go_wp2
 go_ret
 refine ⟨congrArg (fun n => Ending.returned (.int .u64 n)) ?_, rfl⟩
 have hm : (max 0 (min n 64)).toNat < 65 := by omega
 refine (QR ⟨(max 0 (min n 64)).toNat, hm⟩).trans ?_
 have hl : 2 ^ (max 0 (min n 64)).toNat - 1 < 18446744073709551616 := by
  have : 2 ^ (max 0 (min n 64)).toNat ≤ 2 ^ 64 := Nat.pow_le_pow_right (by decide) (by omega)
  have h2 : 0 < 2 ^ (max 0 (min n 64)).toNat := Nat.pow_pos (by decide)
  simp only [Nat.reducePow] at this
  omega
 have e := kX (f := fun i => decide ((i : Int) < n)) hl fun i hi => by
  rw [Nat.testBit_two_pow_sub_one, Bool.eq_iff_iff]
  simp
  omega
 rw [e]
theorem QS (u : Nat) (hu : u < 18446744073709551616) (n : Int) (w : World) (hn : -9223372036854775808 ≤ n ∧ n ≤ 9223372036854775807) :
 Calls Tryz.prog 154 #[.int .u64 u, .int .i64 n] w fun e w' => e = .returned (.int .u64 (aP fun i => decide ((i : Int) = n) || u.testBit i)) ∧ w = w' := by
 have hbl := BI n
 have e : bits .or .u64 (u : Int) (mh n : Int) = ((aP fun i => decide ((i : Int) = n) || u.testBit i : Nat) : Int) := by
  rw [bits_or_u64_nat u (mh n) hu hbl]
  congr 1
  refine (kX (Nat.or_lt_two_pow (n := 64) hu hbl) fun i hi => ?_).symm
  rw [Nat.testBit_or]
  unfold mh
  rw [aZ, Bool.or_comm]
  simp [hi]
 replace e := Lib.hid e
 generalize (aP fun i => decide ((i : Int) = n) || u.testBit i) = x at e ⊢
 have hb := fun w => BJ n w hn
 generalize mh n = b at *
 clear hu hbl
 go_enter Tryz.func154, Tryz.ntmps154
 go_wp2_with (go_at_call 153; go_must (refine (hb _).mono ?_); rintro e w' ⟨rfl, rfl⟩)
 go_ret
 exact ⟨congrArg (fun n => Ending.returned (.int .u64 n)) e.out, rfl⟩
theorem rZ (u : Nat) (hu : u < 18446744073709551616) (w : World) : Calls Tryz.prog 93 #[.int .u64 u] w fun e w' => e = .returned (.int .i64 (aO u.testBit 64)) ∧ w = w' := by
 have h := fun w => NR u hu w
 generalize aO u.testBit 64 = c at *
 clear hu
 go_enter Tryz.func93, Tryz.ntmps93
 go_wp2_with (go_at_call 117; go_must (refine (h _).mono ?_); rintro e w' ⟨rfl, rfl⟩)
 go_ret
 exact ⟨rfl, rfl⟩
end Go.Proofs.YtelnhablglomjaaGreat

namespace Go.Proofs.YtelnhablglomjaaGreat
open Go.RowKit
theorem NT {u : Nat} {n : Int} : (u &&& mh n = 0) ↔ sP u n = false := by
 constructor
 ·intro h
  by_cases hn : 0 ≤ n ∧ n ≤ 63
  ·obtain ⟨m, rfl⟩ := Int.eq_ofNat_of_zero_le hn.1
   have := congrArg (fun x => x.testBit m) h
   simp only [Nat.testBit_and, Nat.zero_testBit] at this
   unfold mh at this
   rw [aZ] at this
   rw [oL (by omega)]
   simpa [show m < 64 by omega] using this
  ·unfold sP
   by_cases h0 : 0 ≤ n
   ·have : ¬ n ≤ 63 := by omega
    simp [this]
   ·simp [h0]
 ·intro h
  apply Nat.eq_of_testBit_eq
  intro i
  rw [Nat.testBit_and, Nat.zero_testBit]
  unfold mh
  rw [aZ]
  by_cases hi : i < 64 ∧ (i : Int) = n
  ·obtain ⟨hi, rfl⟩ := hi
   rw [oL hi] at h
   rw [h]; rfl
  ·have : (decide (i < 64) && decide ((i : Int) = n)) = false := by simp; omega
   rw [this, Bool.and_false]
theorem zq6 (u : Nat) (hu : u < 18446744073709551616) (n : Int) (w : World) (hn : -9223372036854775808 ≤ n ∧ n ≤ 9223372036854775807) :
 Calls Tryz.prog 131 #[.int .u64 u, .int .i64 n] w fun e w' => e = .returned (.bool (sP u n)) ∧ w = w' := by
 have hb := fun w => BJ n w hn
 have hand := bits_and_u64_nat u (mh n) hu (BI n)
 have hi := NT (u := u) (n := n)
 generalize mh n = b at *
 generalize u &&& b = y at *
 clear hu hn
 cases h : sP u n with
 | true =>
   have hy : ((y : Int) != 0) = true := by
    rw [h] at hi
    simp
    intro e
    exact absurd (hi.1 (by omega)) (by decide)
   clear h hi
   go_enter Tryz.func131, Tryz.ntmps131
   go_wp2_with (go_at_call 153; go_must (refine (hb _).mono ?_); rintro e w' ⟨rfl, rfl⟩)
   go_ret
   exact ⟨rfl, rfl⟩
 | false =>
   have hy : ((y : Int) != 0) = false := by
    have := hi.2 h
    simp
    omega
   clear h hi
   go_enter Tryz.func131, Tryz.ntmps131
   go_wp2_with (go_at_call 153; go_must (refine (hb _).mono ?_); rintro e w' ⟨rfl, rfl⟩)
   go_ret
   exact ⟨rfl, rfl⟩
end Go.Proofs.YtelnhablglomjaaGreat

namespace Go.Proofs.YtelnhablglomjaaGreat
theorem KL (f : Nat → Bool) {a b : Nat} (h : a ≤ b) : aO f a ≤ aO f b := by
 induction b with
 | zero => rw [Nat.le_zero.1 h]; exact Nat.le_refl _
 | succ b ih =>
   rcases Nat.lt_or_eq_of_le h with h1 | rfl
   ·have := ih (by omega)
    simp only [aO]
    omega
   ·exact Nat.le_refl _
theorem wF {f : Nat → Bool} {i j : Nat} (hf : f i = true) (h : i < j) : aO f i + 1 ≤ aO f j := by
 have := KL f (show i + 1 ≤ j by omega)
 simp only [aO, hf, if_true] at this
 exact this
theorem Ii {f : Nat → Bool} {k : Nat} : ∀ n, k < aO f n → ∃ m, m < n ∧ f m = true ∧ aO f m = k
 | 0, h => by simp [aO] at h
 | n + 1, h => by
   by_cases h1 : k < aO f n
   ·obtain ⟨m, a, b, c⟩ := Ii n h1
    exact ⟨m, by omega, b, c⟩
   ·simp only [aO] at h
    cases hf : f n with
    | true => exact ⟨n, by omega, hf, by simp only [hf, if_true] at h; omega⟩
    | false => simp [hf] at h; omega
def dZ (u k : Nat) : Nat → Bool := fun i => u.testBit i && decide (k ≤ aO u.testBit i)
theorem Ij (u : Nat) (hu : u < 18446744073709551616) : aP (dZ u 0) = u := kX hu fun i _ => by unfold dZ; simp
theorem NU {x m : Nat} (hm : x.testBit m = true) (hlo : ∀ i, i < m → x.testBit i = false) (i : Nat) : (x &&& (x - 1)).testBit i = (x.testBit i && decide (i ≠ m)) := by
 obtain ⟨q, r, hr, e⟩ : ∃ q r, r < 2 ^ m ∧ x = 2 ^ m * q + r := ⟨x / 2 ^ m, x % 2 ^ m, Nat.mod_lt _ (Nat.pow_pos (by decide)), by rw [Nat.div_add_mod]⟩
 have h0 : r = 0 := by
  apply Nat.eq_of_testBit_eq
  intro j
  rw [Nat.zero_testBit]
  by_cases hj : j < m
  ·have := hlo j hj
   rw [e, Nat.testBit_two_pow_mul_add _ hr, if_pos hj] at this
   exact this
  ·exact Nat.testBit_lt_two_pow (Nat.lt_of_lt_of_le hr (Nat.pow_le_pow_right (by decide) (by omega)))
 subst h0
 rw [Nat.add_zero] at e
 have hq : q % 2 = 1 := by
  rw [e, Nat.testBit_two_pow_mul] at hm
  simp at hm
  exact hm
 have hp : 0 < 2 ^ m := Nat.pow_pos (by decide)
 have e1 : x - 1 = 2 ^ m * (q - 1) + (2 ^ m - 1) := by
  obtain ⟨q', rfl⟩ : ∃ q', q = q' + 1 := ⟨q - 1, by omega⟩
  rw [e, Nat.mul_add, Nat.add_sub_cancel]
  omega
 rw [Nat.testBit_and, e1, Nat.testBit_two_pow_mul_add _ (by omega)]
 by_cases h1 : i < m
 ·rw [hlo i h1]; rfl
 ·rw [if_neg h1]
  by_cases h2 : i = m
  ·subst h2
   have : (q - 1).testBit (i - i) = false := by rw [Nat.sub_self, Nat.testBit_zero]; simp; omega
   rw [this]
   simp
  ·rw [e, Nat.testBit_two_pow_mul]
   obtain ⟨d, hd⟩ : ∃ d, i - m = d + 1 := ⟨i - m - 1, by omega⟩
   have : (q - 1).testBit (d + 1) = q.testBit (d + 1) := by
    rw [Nat.testBit_succ, Nat.testBit_succ]
    congr 1
    omega
   rw [hd, this]
   simp [h2]
theorem Ik {u k : Nat} (hk : k < aO u.testBit 64) : 0 < aP (dZ u k) ∧ aP (dZ u k) &&& (aP (dZ u k) - 1) = aP (dZ u (k + 1)) := by
 obtain ⟨m, hm, hf, hc⟩ := Ii 64 hk
 have hb : (aP (dZ u k)).testBit m = true := by rw [aZ]; unfold dZ; simp [hm, hf, hc]
 have hlo : ∀ i, i < m → (aP (dZ u k)).testBit i = false := by
  intro i hi
  rw [aZ]
  unfold dZ
  cases hfi : u.testBit i with
  | false => simp
  | true =>
    have := wF hfi hi
    simp
    omega
 refine ⟨?_, ?_⟩
 ·rcases Nat.eq_zero_or_pos (aP (dZ u k)) with h | h
  ·rw [h, Nat.zero_testBit] at hb; cases hb
  ·exact h
 ·refine (kX (Nat.lt_of_le_of_lt Nat.and_le_left (eB _)) fun i hi => ?_).symm
  rw [NU hb hlo, aZ]
  unfold dZ
  cases hfi : u.testBit i with
  | false => simp
  | true =>
    simp [hi]
    rw [Bool.eq_iff_iff]
    simp
    by_cases h1 : i = m
    ·subst h1; simp; omega
    ·by_cases h2 : i < m
     ·have := wF hfi h2; omega
     ·have := wF hf (show m < i by omega); omega
end Go.Proofs.YtelnhablglomjaaGreat

namespace Go.Proofs.YtelnhablglomjaaGreat
open Go.RowKit
theorem FX (u : Nat) (hu : u < 18446744073709551616) (n : Int) (w : World) (hn : -9223372036854775808 ≤ n ∧ n ≤ 9223372036854775807) (h : n < 0 ∨ (aO u.testBit 64 : Int) < n) :
 Calls Tryz.prog 173 #[.int .u64 u, .int .i64 n] w fun e w' => e = .returned (.tuple #[.int .u64 0, .bool false]) ∧ w = w' := by
 have hl := fun w => rZ u hu w
 generalize aO u.testBit 64 = c at *
 clear hu
 by_cases h0 : n < 0
 ·clear h
  go_enter Tryz.func173, Tryz.ntmps173
  go_wp2_with (go_at_call 93; go_must (refine (hl _).mono ?_); rintro e w' ⟨rfl, rfl⟩)
  go_ret2
  exact ⟨rfl, rfl⟩
 ·have h1 : (c : Int) < n := by omega
  clear h
  go_enter Tryz.func173, Tryz.ntmps173
  go_wp2_with (go_at_call 93; go_must (refine (hl _).mono ?_); rintro e w' ⟨rfl, rfl⟩)
  go_ret2
  exact ⟨rfl, rfl⟩
def Il (u : Nat) (n : Int) : Nat → Bool := fun i => u.testBit i && decide ((aO u.testBit i : Int) < n)
theorem Da (u : Nat) (hu : u < 18446744073709551616) (n : Int) (w : World) (hn : 0 ≤ n) (h : n ≤ (aO u.testBit 64 : Int)) :
 Calls Tryz.prog 173 #[.int .u64 u, .int .i64 n] w fun e w' => e = .returned (.tuple #[.int .u64 (aP (Il u n)), .bool true]) ∧ w = w' := by
 obtain ⟨m, rfl⟩ := Int.eq_ofNat_of_zero_le hn
 have hl := fun w => rZ u hu w
 obtain ⟨c, hc⟩ : ∃ c, c = aO u.testBit 64 := ⟨_, rfl⟩
 rw [← hc] at h hl
 have Zh : c ≤ 64 := by rw [hc]; exact QP _ _
 have hmc : m ≤ c := by omega
 have h2 : ¬ (c : Int) < (m : Int) := by omega
 replace hc := Lib.hid hc
 have hr0 : Hid (u = aP (dZ u 0)) := Lib.hid (Ij u hu).symm
 have hu' := Lib.hid hu
 clear hu
 go_enter Tryz.func173, Tryz.ntmps173
 go_wp2_with (go_at_call 93; go_must (refine (hl _).mono ?_); rintro e w' ⟨rfl, rfl⟩)
 go_loopw [6, 17] (fun s i wr => ∃ (k x : Nat), k ≤ m ∧ i = .int .i64 k ∧ s = .int .u64 x ∧ Hid (x = aP (dZ u k)) ∧ w = wr) (fun _ i _ => m - (intOf i).toNat)
 case atStart => exact ⟨0, u, Nat.zero_le _, rfl, rfl, hr0, rfl⟩
 case round =>
  obtain ⟨k, x, hk, rfl, rfl, hx, rfl⟩ := hrel
  by_cases hlt : k < m
  ·obtain ⟨hp, hs⟩ := Ik (u := u) (k := k) (by rw [← hc.out]; omega)
   have hxl : x < 18446744073709551616 := by rw [hx.out]; exact eB _
   rw [← hx.out] at hp hs
   obtain ⟨y, hy⟩ : ∃ y, y = aP (dZ u (k + 1)) := ⟨_, rfl⟩
   rw [← hy] at hs
   have e : bits .and .u64 (x : Int) ((x : Int) - 1) = (y : Int) := by
    rw [show (x : Int) - 1 = ((x - 1 : Nat) : Int) by omega, bits_and_u64_nat _ _ hxl (by omega), hs]
   have hx2 : x ≤ 18446744073709551615 := by omega
   replace hy := Lib.hid hy
   clear hs hx hxl
   go_wp2_with fail
   go_roundw
   case rel => exact ⟨k + 1, y, by omega, by go_num, rfl, hy, trivial⟩
   case measure => simp [intOf]; omega
  ·obtain rfl : k = m := by omega
   have e : bits .andNot .u64 (u : Int) (x : Int) = ((aP (Il u (k : Int)) : Nat) : Int) := by
    rw [qC u x hu'.out (by rw [hx.out]; exact eB _), hx.out]
    congr 1
    refine fP fun i hi => ?_
    rw [aZ]
    unfold dZ Il
    cases hb : u.testBit i with
    | false => simp
    | true => simp [hi]; rw [Bool.eq_iff_iff]; simp
   replace e := Lib.hid e
   go_wp2_with fail
   go_ret2
   exact ⟨congrArg (fun n => Ending.returned (.tuple #[.int .u64 n, .bool true])) e.out, rfl⟩
end Go.Proofs.YtelnhablglomjaaGreat

namespace Go.Proofs.YtelnhablglomjaaGreat
open Go.RowKit Go.Lib
def nV (l : List Int) : List Value := l.map (Value.int .i64)
structure jZ (h : Nat) (w w' : World) : Prop where
 os : w'.os = w.os
 tape : w'.tape = w.tape
 output : w'.output = w.output
 size : w'.heap.size = w.heap.size
 block : ∀ k, k ≠ h → w'.heap[k]? = w.heap[k]?
theorem jZ.refl (h : Nat) (w : World) : jZ h w w := ⟨rfl, rfl, rfl, rfl, fun _ _ => rfl⟩
theorem jZ.setCell {h j : Nat} {w w' : World} {v : Value} (ho : jZ h w w') : jZ h w (w'.setCell ⟨h, j, none⟩ v) :=
 ⟨ho.os, ho.tape, ho.output, by simpa using ho.size, fun k hk => by rw [Below.heap_setCell w' ⟨h, j, none⟩ v k hk]; exact ho.block k hk⟩
section
variable {w w' : World} {q h : Nat} {l : List Int}
theorem mo (l : List Int) (i m : Nat) (v : Int) : (l.set i v).getD m 0 = if m = i ∧ i < l.length then v else l.getD m 0 := by
 simp only [List.getD_eq_getElem?_getD, List.getElem?_set]
 by_cases e : i = m
 ·subst e
  by_cases hi : i < l.length
  ·simp [hi]
  ·simp [hi]
 ·rw [if_neg e, if_neg (by omega)]
def Im (l : List Int) (u : Nat) (a b : Int) (m : Nat) : Prop := ∀ i, i < m → u.testBit i = true → i < l.length ∧ (l.getD i 0 = a ∨ l.getD i 0 = b)
end
end Go.Proofs.YtelnhablglomjaaGreat

namespace Go.Proofs.YtelnhablglomjaaGreat
open Go.RowKit Go.Lib
def pO (u : Nat) (i : Nat) (x : Int) : Int := if u.testBit i then (if x = 2 then 1 else 4) else x
def pQ (l : List Int) (u : Nat) (k : Nat) : Nat := (List.range k).countP fun i => u.testBit i && decide (l.getD i 0 = 2)
theorem zD (l : List Int) (u k : Nat) : pQ l u (k + 1) = pQ l u k + if (u.testBit k && decide (l.getD k 0 = 2)) = true then 1 else 0 := by
 unfold pQ
 rw [List.range_succ, List.countP_append, List.countP_cons, List.countP_nil]
 simp
section
variable {w w' : World} {q h : Nat} {l : List Int}
def kI (x : Int) : Int := if x = 1 then 4 else if x = 2 then 3 else if x = 3 then 2 else 1
structure nk (l : List Int) (n : Int) (d : Bool) (e : Int) (l' : List Int) : Prop where
 out : (n < 0 ∨ (l.length : Int) ≤ n) → e = 11 ∧ l' = l
 bad : 0 ≤ n → n < l.length → d ≠ decide (l.getD n.toNat 0 < 3) → e = 8 ∧ l' = l
 good : 0 ≤ n → n < l.length → d = decide (l.getD n.toNat 0 < 3) → e = 0 ∧ l' = l.set n.toNat (kI (l.getD n.toNat 0))
end
end Go.Proofs.YtelnhablglomjaaGreat

namespace Go.Proofs.YtelnhablglomjaaGreat
open Go.RowKit Go.Lib
section
variable {w w' : World} {q h : Nat} {l : List Int}
structure BK (l : List Int) (u : Nat) (n e : Int) (l' : List Int) : Prop where
 bad : ¬ Im l u 2 3 64 → n = 0 ∧ e = 11 ∧ l' = l
 good : Im l u 2 3 64 → n = pQ l u l.length ∧ e = 0 ∧ l' = l.mapIdx (pO u)
end
end Go.Proofs.YtelnhablglomjaaGreat

namespace Go.Proofs.YtelnhablglomjaaGreat
def iq (l : List Int) : Nat → Bool := fun i => decide (l.getD i 0 = 1)
theorem ME {l : List Int} {i : Nat} (h : iq l i = true) : i < l.length := by
 rcases Nat.lt_or_ge i l.length with h1 | h1
 ·exact h1
 ·simp [iq, List.getD_eq_getElem?_getD, List.getElem?_eq_none h1] at h
theorem QT (l : List Int) {k : Nat} (h : l.length ≤ k) : aO (iq l) k = aO (iq l) l.length := by
 induction k with
 | zero => rw [show l.length = 0 by omega]
 | succ k ih =>
   by_cases e : l.length = k + 1
   ·rw [e]
   ·have hk : iq l k = false := by
     cases hb : iq l k with
     | false => rfl
     | true => have := ME hb; omega
    simp only [aO]
    rw [ih (by omega), hk]
    simp
def iB (l : List Int) (n : Int) : Nat → Bool := fun i => iq l i && decide ((aO (iq l) i : Int) < n)
def fo (l : List Int) (n : Int) : List Int := l.mapIdx fun i x => if iB l n i then 2 else x
structure qD (l : List Int) (n : Int) (s : Nat) (e : Int) (l' : List Int) : Prop where
 arg : n < 1 → s = 0 ∧ e = 1 ∧ l' = l
 full : 1 ≤ n → (aO (iq l) l.length : Int) < n → s = 0 ∧ e = 6 ∧ l' = l
 good : 1 ≤ n → n ≤ aO (iq l) l.length → s = aP (iB l n) ∧ e = 0 ∧ l' = fo l n
theorem qD.uniq {l l1 l2 : List Int} {n e1 e2 : Int} {s1 s2 : Nat} (h : qD l n s1 e1 l1) (h' : qD l n s2 e2 l2) : s1 = s2 ∧ e1 = e2 ∧ l1 = l2 := by
 by_cases h1 : n < 1
 ·obtain ⟨rfl, rfl, rfl⟩ := h.arg h1
  obtain ⟨rfl, rfl, rfl⟩ := h'.arg h1
  exact ⟨rfl, rfl, rfl⟩
 ·by_cases h2 : (aO (iq l) l.length : Int) < n
  ·obtain ⟨rfl, rfl, rfl⟩ := h.full (by omega) h2
   obtain ⟨rfl, rfl, rfl⟩ := h'.full (by omega) h2
   exact ⟨rfl, rfl, rfl⟩
  ·obtain ⟨rfl, rfl, rfl⟩ := h.good (by omega) (by omega)
   obtain ⟨rfl, rfl, rfl⟩ := h'.good (by omega) (by omega)
   exact ⟨rfl, rfl, rfl⟩
end Go.Proofs.YtelnhablglomjaaGreat
