/-
 Own words and walks, merged: part 6 of 9.
-/
import Derived.Laws.EntriesVeiled
import Derived.Test.YtelnhablglomjaaGreatRows
import Derived.WalkKit
import Derived.WalkSpells
import Derived.WalkLawsBesides
import Derived.Deep.DeepMust
import Derived.Lib.Hide
import Derived.Lib.MinMax
import Derived.BigRegion
import Derived.Deep.RegionWith
import Derived.Test.YtelnhablglomjaaGreatZl5
set_option maxRecDepth 1000000
set_option maxHeartbeats 8000000
set_option linter.all false
namespace Go.Proofs.YtelnhablglomjaaGreat
open Go.RowKit Go.Lib
def iO (w : World) (b : Nat) (r : Ry) : Prop := w.heap[b]? = some (.cells (bV r).toArray 53 (0, 0))
theorem iO.at {w : World} {b : Nat} {r : Ry} (h : iO w b r) (j : Nat) (u : Value) (hj : (bV r)[j]? = some u) : w.cell? ⟨b, j, none⟩ = some u := by
 simp [World.cell?, show w.heap[b]? = _ from h, hj]
theorem iO.free {w : World} {b : Nat} {r : Ry} (h : iO w b r) (j : Nat) : w.frozen? ⟨b, j, none⟩ = false := by simp [World.frozen?, show w.heap[b]? = _ from h]
theorem iO.below {w w' : World} {b B : Nat} {r : Ry} (h : iO w b r) (hb : Below B w w') (hB : b < B) : iO w' b r := (hb.block b hB).trans h
theorem iO.store {w : World} {b : Nat} {r : Ry} (h : iO w b r) (x : Ry) : Sem.run Tryz.prog (storeCells ⟨b, 0, none⟩ (bV x) 0) w = .ok () (w.setRow b (bV x).toArray) ∧ iO (w.setRow b (bV x).toArray) b x := by
 refine ⟨?_, setRow_heap w b _ _ _ _ h⟩
 have hst := run_storeCells_at Tryz.prog b 0 53 (bV x) 0 (bV r).toArray w h (by simp [bV]) (yx x)
 simp only [Nat.add_zero] at hst
 rw [hst]
 rfl
theorem iO.put {w : World} {b : Nat} {r r' : Ry} (h : iO w b r) (j : Nat) (v : Value) (he : (bV r).toArray.setIfInBounds j v = (bV r').toArray) : iO (w.setCell ⟨b, j, none⟩ v) b r' := by
 have := heap_put (i := j) h v
 rw [he] at this
 exact this
theorem iO.other {w : World} {b g j : Nat} {v : Value} {r : Ry} (h : iO w b r) (hg : b ≠ g) : iO (w.setCell ⟨g, j, none⟩ v) b r := (Below.heap_setCell _ _ _ _ hg).trans h
theorem tZ {B g : Nat} {w0 w : World} (hb : Below B w0 w) (hBg : B ≤ g) (j : Nat) (u : Value) : Below B w0 (w.setCell ⟨g, j, none⟩ u) := hb.trans ((Only.setCell g j w u).below hBg)
theorem qN {B g : Nat} {w0 w : World} (hb : Below B w0 w) (hBg : B ≤ g) (cs : Array Value) : Below B w0 (w.setRow g cs) := hb.trans ((⟨rfl, rfl, rfl, by simp, fun k hk => setRow_other w g k _ hk⟩ : Only g w (w.setRow g cs)).below hBg)
theorem Iq {w : World} {b : Nat} {x3 x5 : Int} (h : iO w b ⟨0, 0, 0, 0, 0, 0, x3, x5, 0⟩) (x1 x6 x7 x8 x9 : Int) : iO (((((w.setCell ⟨b, 1, none⟩ (.int .i64 x1)).setCell ⟨b, 2, none⟩ (.int .i64 x6)).setCell ⟨b, 3, none⟩ (.int .i64 x7)).setCell ⟨b, 4, none⟩ (.int .i64 x8)).setCell ⟨b, 5, none⟩ (.int .i64 x9)).drew b ⟨0, x1, x6, x7, x8, x9, x3, x5, 0⟩ := by
 have h1 : iO (w.setCell ⟨b, 1, none⟩ (.int .i64 x1)) b ⟨0, x1, 0, 0, 0, 0, x3, x5, 0⟩ := h.put 1 _ rfl
 have h2 : iO ((w.setCell ⟨b, 1, none⟩ (.int .i64 x1)).setCell ⟨b, 2, none⟩ (.int .i64 x6)) b ⟨0, x1, x6, 0, 0, 0, x3, x5, 0⟩ := h1.put 2 _ rfl
 clear h h1
 generalize (w.setCell ⟨b, 1, none⟩ (.int .i64 x1)).setCell ⟨b, 2, none⟩ (.int .i64 x6) = W at *
 have h3 : iO (W.setCell ⟨b, 3, none⟩ (.int .i64 x7)) b ⟨0, x1, x6, x7, 0, 0, x3, x5, 0⟩ := h2.put 3 _ rfl
 have h4 : iO ((W.setCell ⟨b, 3, none⟩ (.int .i64 x7)).setCell ⟨b, 4, none⟩ (.int .i64 x8)) b ⟨0, x1, x6, x7, x8, 0, x3, x5, 0⟩ := h3.put 4 _ rfl
 clear h2 h3
 generalize (W.setCell ⟨b, 3, none⟩ (.int .i64 x7)).setCell ⟨b, 4, none⟩ (.int .i64 x8) = V at *
 exact h4.put 5 _ rfl
theorem Tz (j : Jb) (w : World) : Calls Tryz.prog 92 #[.agg (ai j).toArray] w fun e w' => e = .returned (.agg (bV (iV j)).toArray) ∧ Below w.heap.size w w' := by
 have hw := fun W => NG j W
 have ht := fun W => yz j.2.2.1 j.2.2.2.2.1 0 W
 have lJ := au j
 have zJ := bI
 obtain ⟨k10, hk10⟩ : ∃ k, k = 10 := ⟨_, rfl⟩
 rw [← hk10] at lJ zJ
 replace hk10 := Lib.hid hk10
 obtain ⟨wA, aJ⟩ : ∃ wA, wA = (w.alloc (.cells (ai j).toArray 92)).alloc (.cells (bV BN).toArray 53) := ⟨_, rfl⟩
 have bR : Hid (Below w.heap.size w wA) := by show Below _ _ _; rw [aJ]; exact ((Below.refl _ _).alloc (Nat.le_refl _) _).alloc (by simp) _
 have hsA : wA.heap.size = w.heap.size + 2 := by rw [aJ]; simp
 have QI : wA.heap[w.heap.size]? = some (.cells (ai j).toArray 92 (0, 0)) := by rw [aJ]; exact dV (heap_alloc_new w _)
 have jq : iO wA (w.heap.size + 1) BN := by rw [aJ]; exact heap_alloc2_new w _ _
 have ld := qo (k := k10) QI lJ
 rw [aJ] at ld
 replace hsA := Lib.hid hsA
 obtain ⟨x1, x2, x3, x4, x5, x6, x7, x8, x9, x0⟩ := j
 simp only [ai, bV, BN, iV] at *
 go_enter Tryz.func92, Tryz.ntmps92
 go_wp2_with fail
 go_at_call 116
 refine (hw _).mono ?_
 rw [← aJ]
 rintro e w1 ⟨rfl, hb1⟩
 clear hw ld
 go_wp2_with fail
 go_at_call 79
 refine (ht _).mono ?_
 rintro e w2 ⟨rfl, hb2⟩
 clear ht
 obtain ⟨w3, hw3⟩ : ∃ w3, w3 = w2.alloc (.cells #[.int .i64 0, .int .i64 0, .int .i64 0, .int .i64 0, .int .i64 0, .int .i64 0, .int .i64 x3, .int .i64 x5, .int .i64 0] 53) := ⟨_, rfl⟩
 have hb3 : Below wA.heap.size wA w3 := by rw [hw3]; exact (hb1.trans (hb2.mono hb1.size)).alloc (by have := hb1.size; have := hb2.size; omega) _
 have hJ3 : w3.heap[w.heap.size]? = some (.cells (ai (x1, x2, x3, x4, x5, x6, x7, x8, x9, x0)).toArray 92 (0, 0)) := (hb3.block _ (aC QI)).trans QI
 have NH : iO w3 (w.heap.size + 1) BN := jq.below hb3 (aC jq)
 have bW : iO w3 w2.heap.size ⟨0, 0, 0, 0, 0, 0, x3, x5, 0⟩ := by rw [hw3]; exact heap_alloc_new w2 _
 have hs2 : Hid (wA.heap.size ≤ w2.heap.size) := by show _ ≤ _; have := hb1.size; have := hb2.size; omega
 have j0 : w3.cell? ⟨w.heap.size, 0, none⟩ = some (.int .i64 x1) := by simp [World.cell?, hJ3, ai]
 have j5 : w3.cell? ⟨w.heap.size, 5, none⟩ = some (.int .i64 x6) := by simp [World.cell?, hJ3, ai]
 have j6 : w3.cell? ⟨w.heap.size, 6, none⟩ = some (.int .i64 x7) := by simp [World.cell?, hJ3, ai]
 have j7 : w3.cell? ⟨w.heap.size, 7, none⟩ = some (.int .i64 x8) := by simp [World.cell?, hJ3, ai]
 have j8 : w3.cell? ⟨w.heap.size, 8, none⟩ = some (.int .i64 x9) := by simp [World.cell?, hJ3, ai]
 have t1 := bW.at 1 (.int .i64 0) rfl
 have t2 := bW.at 2 (.int .i64 0) rfl
 have t3 := bW.at 3 (.int .i64 0) rfl
 have t4 := bW.at 4 (.int .i64 0) rfl
 have t5 := bW.at 5 (.int .i64 0) rfl
 have f1 := bW.free 1
 have f2 := bW.free 2
 have f3 := bW.free 3
 have f4 := bW.free 4
 have f5 := bW.free 5
 have hne : ¬ w.heap.size = w2.heap.size := by have := aC QI; have := hs2.out; omega
 replace hJ3 := Lib.hid hJ3
 replace NH := Lib.hid NH
 replace bW := Lib.hid bW
 replace hb3 := Lib.hid hb3
 clear hb1 hb2 QI jq
 go_wp2_with fail
 rw [← hw3]
 replace hw3 := Lib.hid hw3
 replace aJ := Lib.hid aJ
 go_region
 obtain ⟨w6, xe⟩ : ∃ w6, w6 = (((((w3.setCell ⟨w2.heap.size, 1, none⟩ (.int .i64 x1)).setCell ⟨w2.heap.size, 2, none⟩ (.int .i64 x6)).setCell ⟨w2.heap.size, 3, none⟩ (.int .i64 x7)).setCell ⟨w2.heap.size, 4, none⟩ (.int .i64 x8)).setCell ⟨w2.heap.size, 5, none⟩ (.int .i64 x9)).drew := ⟨_, rfl⟩
 have hs3 : w.heap.size + 2 ≤ w2.heap.size := by have := hs2.out; have := hsA.out; omega
 have zP : iO w6 w2.heap.size ⟨0, x1, x6, x7, x8, x9, x3, x5, 0⟩ := by
  rw [xe]
  exact Iq bW.out x1 x6 x7 x8 x9
 have M7 : iO w6 (w.heap.size + 1) BN := by
  rw [xe]
  exact ((((NH.out.other (by omega)).other (by omega)).other (by omega)).other (by omega)).other (by omega)
 have hb6 : Hid (Below w.heap.size w w6) := by
  show Below _ _ _
  rw [xe]
  exact (tZ (tZ (tZ (tZ (tZ (bR.out.trans (hb3.out.mono (by have := hsA.out; omega))) (by omega) 1 _) (by omega) 2 _) (by omega) 3 _) (by omega) 4 _) (by omega) 5 _).drew
 rw [← xe]
 clear xe
 have zR := vR
 obtain ⟨k9, bO⟩ : ∃ k, k = 9 := ⟨_, rfl⟩
 rw [← bO] at zR
 replace bO := Lib.hid bO
 have ld := qo (k := k9) zP (by rw [bO.out]; rfl)
 obtain ⟨hst, WK⟩ := M7.store ⟨0, x1, x6, x7, x8, x9, x3, x5, 0⟩
 have jZ : Hid (Below w.heap.size w (w6.setRow (w.heap.size + 1) (bV ⟨0, x1, x6, x7, x8, x9, x3, x5, 0⟩).toArray)) := qN hb6.out (by omega) _
 have Y8 : (bV ⟨0, x1, x6, x7, x8, x9, x3, x5, 0⟩).length = k9 := by rw [bO.out]; rfl
 have X5 : Hid (#[.int .i64 0, .int .i64 x1, .int .i64 x6, .int .i64 x7, .int .i64 x8, .int .i64 x9, .int .i64 x3, .int .i64 x5, .int .i64 0] = (bV ⟨0, x1, x6, x7, x8, x9, x3, x5, 0⟩).toArray) := rfl
 have WL : Hid ((w6.setRow (w.heap.size + 1) (bV ⟨0, x1, x6, x7, x8, x9, x3, x5, 0⟩).toArray).heap[w.heap.size + 1]? = some (.cells (bV ⟨0, x1, x6, x7, x8, x9, x3, x5, 0⟩).toArray 53 (0, 0))) := WK
 clear M7 zP WK
 have X6 := Lib.hid (jD ⟨0, x1, x6, x7, x8, x9, x3, x5, 0⟩)
 generalize bV ⟨0, x1, x6, x7, x8, x9, x3, x5, 0⟩ = cY at *
 go_wp2_with fail
 (try simp only [Exit.inBlock, Exit.then])
 refine bH rfl rfl rfl WL.out Tryz.underlying53 rfl ?_ ⟨by rw [X5.out], jZ.out⟩
 rw [List.size_toArray, X6.out]
 kernel_rfl
end Go.Proofs.YtelnhablglomjaaGreat

namespace Go.Proofs.YtelnhablglomjaaGreat
open Go.RowKit Go.Lib Go.Sort
structure Wk where
 ag : Rq
 kX : Int
 dQ : Int
 left : Value
 aB : Jb
 idle : Int
 target : Int
 rep : Ry
 ok : Bool
def gB (R : Wk) : List Value := encR R.ag ++ ([.int .i64 R.kX, .int .i64 R.dQ, R.left] ++ (ai R.aB ++ ([.int .i64 R.idle, .int .i64 R.target] ++ (bV R.rep ++ [.bool R.ok]))))
def Vg : Rq := ⟨0, 0, 0, 0, 0, 0, false, 0, 0⟩
def il : Jb := (0, 0, 0, 0, 0, 0, 0, 0, 0, 0)
def nQ : Ry := ⟨0, 0, 0, 0, 0, 0, 0, 0, 0⟩
def bJ (w : World) (b : Nat) (R : Wk) : Prop := w.heap[b]? = some (.cells (gB R).toArray 94 (0, 0))
section
variable {w w' w1 w2 : World} {b c t d p g a g' g1 g2 a' : Nat} {v v' v1 v2 : Value} {m m' : Int} {P P' : Pg} {R R' : Wk}
theorem bJ.lt (h : bJ w b R) : b < w.heap.size := aC h
theorem bJ.at (h : bJ w b R) (j : Nat) (u : Value) (hj : (gB R)[j]? = some u) : w.cell? ⟨b, j, none⟩ = some u := by
 simp [World.cell?, show w.heap[b]? = _ from h, hj]
theorem bJ.free (h : bJ w b R) (j : Nat) : w.frozen? ⟨b, j, none⟩ = false := by simp [World.frozen?, show w.heap[b]? = _ from h]
theorem bJ.put (h : bJ w b R) (j : Nat) (u : Value) (he : (gB R).set j u = gB R') : bJ (w.setCell ⟨b, j, none⟩ u) b R' := by
 refine (heap_put h u).trans ?_
 rw [xA, he]
theorem bJ.left (h : bJ w b R) (u : Value) : bJ (w.setCell ⟨b, 11, none⟩ u) b { R with left := u } := h.put 11 u rfl
theorem bJ.idle (h : bJ w b R) (n : Int) : bJ (w.setCell ⟨b, 22, none⟩ (.int .i64 n)) b { R with idle := n } := h.put 22 _ rfl
theorem bJ.target (h : bJ w b R) (n : Int) : bJ (w.setCell ⟨b, 23, none⟩ (.int .i64 n)) b { R with target := n } := h.put 23 _ rfl
theorem bJ.Uh (h : bJ w b R) (x : Bool) : bJ (w.setCell ⟨b, 33, none⟩ (.bool x)) b { R with ok := x } := h.put 33 _ rfl
theorem bJ.plan (h : bJ w b R) (n : Int) : bJ (w.setCell ⟨b, 20, none⟩ (.int .i64 n)) b { R with aB := R.aB.aG n } := h.put 20 _ rfl
theorem xm {w : World} {g : Nat} {cs : Array Value} {t : TypeId} {fr : Nat × Nat} (h : w.heap[g]? = some (.cells cs t fr)) (cs' : Array Value) : (w.setRow g cs').heap[g]? = some (.cells cs' t fr) := by
 simp [World.setRow, Array.getElem?_modify, h]
theorem NI (R : Wk) : (gB R).length = 34 := rfl
theorem bJ.FQ (h : bJ w b R) (x : Ry) : Sem.run Tryz.prog (storeCells ⟨b, 24, none⟩ (bV x) 0) w = .ok () (w.setRow b (gB { R with rep := x }).toArray) ∧ bJ (w.setRow b (gB { R with rep := x }).toArray) b { R with rep := x } := by
 have hst := run_storeCells_at Tryz.prog b 24 94 (bV x) 0 (gB R).toArray w h (by simp [NI, jD]) (yx x)
 refine ⟨hst.trans ?_, xm h _⟩
 congr 3
theorem bJ.uf (h : bJ w b R) (x : Jb) : Sem.run Tryz.prog (storeCells ⟨b, 12, none⟩ (ai x) 0) w = .ok () (w.setRow b (gB { R with aB := x }).toArray) ∧ bJ (w.setRow b (gB { R with aB := x }).toArray) b { R with aB := x } := by
 have hst := run_storeCells_at Tryz.prog b 12 94 (ai x) 0 (gB R).toArray w h (by simp [NI, au]) (dH x)
 refine ⟨hst.trans ?_, xm h _⟩
 congr 3
theorem xn {w : World} {g off k : Nat} {all cs : List Value} {t : TypeId} (h : w.heap[g]? = some (.cells all.toArray t (0, 0))) (hk : cs.length = k) (hc : ∀ j u, cs[j]? = some u → all[off + j]? = some u) :
 Sem.run Tryz.prog (loadCellsFrom ⟨g, off, none⟩ 0 k #[]) w = .ok cs.toArray w :=
 run_loadCellsFrom_list Tryz.prog w _ _ k hk fun j u hj => by
  rw [Go.WideShapes.add_plain]
  have := hc j u hj
  simp [World.cell?, h, this]
theorem bJ.nA (h : bJ w b R) {k : Nat} (hk : (encR R.ag).length = k) : Sem.run Tryz.prog (loadCellsFrom ⟨b, 0, none⟩ 0 k #[]) w = .ok (encR R.ag).toArray w :=
 xn h hk fun j u hj => by
  obtain ⟨hlt, _⟩ := List.getElem?_eq_some_iff.1 hj
  rw [Nat.zero_add]; unfold gB; rw [List.getElem?_append_left hlt]; exact hj
theorem bJ.nC (h : bJ w b R) {k : Nat} (hk : (ai R.aB).length = k) : Sem.run Tryz.prog (loadCellsFrom ⟨b, 12, none⟩ 0 k #[]) w = .ok (ai R.aB).toArray w :=
 xn h hk fun j u hj => by
  have hlt : j < 10 := (List.getElem?_eq_some_iff.1 hj).1
  show (encR R.ag ++ ([_, _, _] ++ (ai R.aB ++ _)))[12 + j]? = _
  rw [List.getElem?_append_right (by show 9 ≤ _; omega), List.getElem?_append_right (by show 3 ≤ 12 + j - 9; omega), List.getElem?_append_left (by show 12 + j - 9 - 3 < 10; omega)]
  have e : 12 + j - (encR R.ag).length - [Value.int .i64 R.kX, .int .i64 R.dQ, R.left].length = j := by show 12 + j - 9 - 3 = j; omega
  rw [e]; exact hj
def jk (b c t d p : Nat) (v : Value) (g : Nat) (k : Nat) : Prop := k = b ∨ dP c t d p v g k
structure SW (w : World) (b c t d p : Nat) (v : Value) (g a : Nat) (m : Int) (R : Wk) (P : Pg) : Prop where
 wk : bJ w b R
 cw : CW w c t d p v g a m P
structure WS (w w' : World) (b c t d p : Nat) (v : Value) (g : Nat) (v' : Value) (g' : Nat) : Prop where
 off : bA (jk b c t d p v g) w w'
 grew : kP w (jk b c t d p v g) (jk b c t d p v' g')
theorem SW.apart (h : SW w b c t d p v g a m R P) : ¬ dP c t d p v g b := h.cw.other h.wk (by decide)
theorem SW.lt (h : SW w b c t d p v g a m R P) {k : Nat} (hk : jk b c t d p v g k) : k < w.heap.size := hk.elim (fun e => e ▸ h.wk.lt) (fun hf => h.cw.lt hf)
theorem WS.refl (w : World) : WS w w b c t d p v g v g := ⟨bA.refl _ _, kP.refl _ _⟩
theorem WS.of_below (h : Below w.heap.size w w1) : WS w w1 b c t d p v g v g := ⟨bA.of_below h, kP.refl _ _⟩
theorem WS.trans (h : WS w w1 b c t d p v g v1 g1) (h' : WS w1 w2 b c t d p v1 g1 v2 g2) : WS w w2 b c t d p v g v2 g2 :=
 ⟨h.off.trans h'.off h.grew, h.grew.trans h'.grew h.off.size⟩
theorem WS.dA (h : CS w w1 c t d p v g v1 g1) : WS w w1 b c t d p v g v1 g1 :=
 ⟨⟨h.off.os, h.off.tape, h.off.output, h.off.size, fun k hk hf => h.off.block k hk fun h2 => hf (.inr h2)⟩, fun k hk => hk.elim (fun e => .inl (.inl e)) fun hf => (h.grew k hf).elim (fun h2 => .inl (.inr h2)) .inr⟩
theorem WS.heap (h : WS w w1 b c t d p v g v1 g1) {k : Nat} (hk : k < w.heap.size) (hn : ¬ jk b c t d p v g k) : w1.heap[k]? = w.heap[k]? := h.off.block k hk hn
theorem WS.below {B : Nat} (h : WS w w1 b c t d p v g v1 g1) (hS : ∀ k, jk b c t d p v g k → B ≤ k) (hB : B ≤ w.heap.size) : Below B w w1 := h.off.below hS hB
theorem WS.lo {B : Nat} (h : WS w w1 b c t d p v g v1 g1) (hS : ∀ k, jk b c t d p v g k → B ≤ k) (hB : B ≤ w.heap.size) : ∀ k, jk b c t d p v1 g1 k → B ≤ k := fun k hk => (h.grew k hk).elim (hS k) (fun hle => Nat.le_trans hB hle)
theorem WS.bD (ho : bA (fun k => k = b) w w1) : WS w w1 b c t d p v g v g := ⟨⟨ho.os, ho.tape, ho.output, ho.size, fun k hk hf => ho.block k hk fun e => hf (.inl e)⟩, kP.refl _ _⟩
theorem SW.kept (h : SW w b c t d p v g a m R P) (hb : Below w.heap.size w w1) : SW w1 b c t d p v g a m R P := ⟨(hb.block b h.wk.lt).trans h.wk, h.cw.kept hb⟩
theorem SW.core (h : SW w b c t d p v g a m R P) (hc : CW w1 c t d p v1 g1 a' m' P') (hs : CS w w1 c t d p v g v1 g1) : SW w1 b c t d p v1 g1 a' m' R P' := ⟨(hs.heap h.wk.lt h.apart).trans h.wk, hc⟩
theorem CW.QJ (h : CW w c t d p v g a m P) (ho : bA (fun k => k = b) w w1) (hb : ¬ dP c t d p v g b) : CW w1 c t d p v g a m P := by
 have blk : ∀ k, dP c t d p v g k → w1.heap[k]? = w.heap[k]? := fun k hk => ho.block k (h.lt hk) (fun e => hb (e ▸ hk))
 obtain ⟨S, aK, ⟨cap, hp1, hp2⟩, hrest⟩ := h.lW
 refine ⟨(blk c (.inl rfl)).trans h.cell, ⟨(blk t (.inr (.inl rfl))).trans h.eQ.cell, bz h.eQ.own fun k hk => blk k (.inr (.inr (.inr (.inr (.inl hk)))))⟩, (blk d (.inr (.inr (.inl rfl)))).trans h.nodes, S, aK, ⟨cap, (blk p (.inr (.inr (.inr (.inl rfl))))).trans hp1, bz hp2 fun k hk => ?_⟩, hrest⟩
 have e : k = g := by simpa [Value.ownBlock] using hk.symm
 exact blk k (.inr (.inr (.inr (.inr (.inr e)))))
theorem SW.work (h : SW w b c t d p v g a m R P) (hw : bJ w1 b R') (ho : bA (fun k => k = b) w w1) : SW w1 b c t d p v g a m R' P := ⟨hw, h.cw.QJ ho h.apart⟩
theorem dh (w : World) (j : Nat) (u : Value) : bA (fun k => k = b) w (w.setCell ⟨b, j, none⟩ u) := ⟨rfl, rfl, rfl, by simp, fun k _ hk => Below.heap_setCell w ⟨b, j, none⟩ u k hk⟩
theorem cz (w : World) (cs : Array Value) : bA (fun k => k = b) w (w.setRow b cs) := ⟨rfl, rfl, rfl, by simp, fun k _ hk => setRow_other w b k _ hk⟩
theorem fU (h : bA (fun k => k = b) w w1) (h' : bA (fun k => k = b) w1 w2) : bA (fun k => k = b) w w2 := h.trans h' (kP.refl _ _)
def ay (w : World) (b c t d p : Nat) (v : Value) (g a : Nat) (m : Int) (L : Value) (R' : Wk) (P' : Pg) (e : Ending) (w' : World) : Prop :=
 e = .returned L ∧ ∃ v' g', SW w' b c t d p v' g' a m R' P' ∧ WS w w' b c t d p v g v' g'
end
end Go.Proofs.YtelnhablglomjaaGreat

namespace Go.Proofs.YtelnhablglomjaaGreat
open Go.RowKit Go.Lib Go.Sort
def fE (k : Nat) : Value := .func (.func k) #[] #[]
section
variable {w w' w1 w2 : World} {b c t d p g a : Nat} {v : Value} {m : Int} {P P' : Pg} {R R' : Wk}
theorem lX (h : CW w c t d p v g a m P) : Calls Tryz.prog 41 #[.pointer (some ⟨c, 0, none⟩)] w fun e w' => e = .returned (.bool false) ∧ w = w' := by
 have c3 := h.c3
 clear h
 go_enter Tryz.func41, Tryz.ntmps41
 go_wp2_with fail
 go_ret
 exact ⟨rfl, rfl⟩
theorem jl (h : CW w c t d p v g a m P) : Calls Tryz.prog 68 #[.pointer (some ⟨c, 0, none⟩)] w fun e w' => e = .returned (.bool P.cl) ∧ w = w' := by
 have c4 := h.c4
 have hno := lX h
 clear h
 go_enter Tryz.func68, Tryz.ntmps68
 go_wp2_with (go_at_call 41; go_must (refine hno.mono ?_); rintro e w' ⟨rfl, rfl⟩)
 go_ret
 exact ⟨rfl, rfl⟩
theorem Ir (h : bJ w b R) (l : Bool) (hl : R.left = .nilFunc ∧ l = true ∨ (∃ k, R.left = fE k) ∧ l = false) : Calls Tryz.prog 11 #[.pointer (some ⟨b, 0, none⟩)] w fun e w' => e = .returned (.bool l) ∧ w = w' := by
 have c11 := h.at 11 R.left rfl
 clear h
 have e1 : ∀ w, Sem.run Tryz.prog (binOp .eql 89 .nilFunc .nilFunc) w = .ok (.bool true) w := fun w => rfl
 have e2 : ∀ k w, Sem.run Tryz.prog (binOp .eql 89 (.func (.func k) #[] #[]) .nilFunc) w = .ok (.bool false) w := fun k w => rfl
 rcases hl with ⟨hl, rfl⟩ | ⟨⟨k, hl⟩, rfl⟩
 ·rw [hl] at c11
  go_enter Tryz.func11, Tryz.ntmps11
  go_wp2_with fail
  go_ret
  exact ⟨rfl, rfl⟩
 ·rw [hl] at c11
  unfold fE at *
  go_enter Tryz.func11, Tryz.ntmps11
  go_wp2_with fail
  go_ret
  exact ⟨rfl, rfl⟩
theorem iD (h : bJ w b R) (q : Int) : Calls Tryz.prog 42 #[.pointer (some ⟨b, 0, none⟩), .int .i64 q] w fun e w' => e = .returned .nilFunc ∧ bJ w' b { R with rep := ⟨q, 0, 0, 0, 0, 0, 0, 0, 0⟩, ok := false } ∧ bA (fun k => k = b) w w' := by
 have hf := Ip q w
 generalize hx : (⟨q, 0, 0, 0, 0, 0, 0, 0, 0⟩ : Ry) = x at *
 have zY := vR
 obtain ⟨k9, bO⟩ : ∃ k, k = 9 := ⟨_, rfl⟩
 rw [← bO] at zY
 have lY := jD x
 rw [← bO] at lY
 have hk0 : ¬ k9 = 0 := by omega
 replace bO := Lib.hid bO
 clear hx
 go_enter Tryz.func42, Tryz.ntmps42
 go_wp2_with fail
 go_at_call 59
 refine hf.mono ?_
 clear hf
 rintro e w1 ⟨rfl, hb1⟩
 have hW1 : bJ w1 b R := (hb1.block b h.lt).trans h
 obtain ⟨st, hW2⟩ := hW1.FQ x
 have hW3 := hW2.Uh false
 have Y9 := hW2.free 33
 have ho : bA (fun k => k = b) w ((w1.setRow b (gB { R with rep := x }).toArray).setCell ⟨b, 33, none⟩ (.bool false)) := fU (bA.of_below hb1) (fU (cz w1 _) (dh _ 33 _))
 have X8 := hW2.at 33 (.bool R.ok) rfl
 generalize gB { R with rep := x } = W2 at *
 go_wp2_with fail
 go_ret
 exact ⟨rfl, hW3, ho⟩
end
end Go.Proofs.YtelnhablglomjaaGreat

namespace Go.Proofs.YtelnhablglomjaaGreat
open Go.RowKit Go.Lib Go.Sort
section
variable {w w' w1 w2 : World} {b c t d p g a : Nat} {v : Value} {m : Int} {P P' : Pg} {R R' : Wk}
theorem BO {k a' : Nat} {m' : Int} {L : Value} {l : Bool} (h : SW w b c t d p v g a m R P) (hl : R.left = fE k) (hl' : R'.left = fE k) (hL : L = .nilFunc ∧ l = true ∨ (∃ k, L = fE k) ∧ l = false)
 (hk : ∀ args w, Sem.run Tryz.prog (callFunc k args) w = .ok (.enter k args) w)
 (hp : Calls Tryz.prog k #[.pointer (some ⟨b, 0, none⟩), .pointer (some ⟨c, 0, none⟩)] w (ay w b c t d p v g a' m' L R' P')) :
 Calls Tryz.prog 12 #[.pointer (some ⟨b, 0, none⟩), .pointer (some ⟨c, 0, none⟩)] w fun e w' => e = .returned (.bool l) ∧ ∃ v' g', SW w' b c t d p v' g' a' m' { R' with left := L } P' ∧ WS w w' b c t d p v g v' g' := by
 have hd := Ir h.wk false (.inr ⟨⟨k, hl⟩, rfl⟩)
 have hn := lX h.cw
 have c11 := h.wk.at 11 R.left rfl
 rw [hl] at c11
 unfold fE at c11
 go_enter Tryz.func12, Tryz.ntmps12
 go_wp2_with (first | (go_at_call 11; go_must (refine hd.mono ?_); rintro e w' ⟨rfl, rfl⟩) | (go_at_call 41; go_must (refine hn.mono ?_); rintro e w' ⟨rfl, rfl⟩))
 refine hp.mono ?_
 clear hp
 rintro e w1 ⟨rfl, v1, g1, hS, hW⟩
 have hW2 := hS.wk.left L
 have c11' := hS.wk.at 11 R'.left rfl
 rw [hl'] at c11'
 unfold fE at c11'
 have f11 := hS.wk.free 11
 have hd2 := Ir hW2 l hL
 have hS2 := hS.work hW2 (dh w1 11 L)
 have fin := hW.trans (WS.bD (dh w1 11 L))
 clear hW hW2 hS hd hn h c11
 rcases hL with ⟨rfl, rfl⟩ | ⟨⟨k2, rfl⟩, rfl⟩
 ·go_wp2_with (go_at_call 11; go_must (refine hd2.mono ?_); rintro e w' ⟨rfl, rfl⟩)
  go_ret
  exact ⟨rfl, v1, g1, hS2, fin⟩
 ·unfold fE at *
  go_wp2_with (go_at_call 11; go_must (refine hd2.mono ?_); rintro e w' ⟨rfl, rfl⟩)
  go_ret
  exact ⟨rfl, v1, g1, hS2, fin⟩
theorem FR : ∀ args w, Sem.run Tryz.prog (callFunc 40 args) w = .ok (.enter 40 args) w := fun _ _ => rfl
end
end Go.Proofs.YtelnhablglomjaaGreat

namespace Go.Proofs.YtelnhablglomjaaGreat
open Go.RowKit
def hd (v : Int) : Int := max 0 (min v 1152921504606846976)
theorem uM (v : Int) : 0 ≤ hd v ∧ hd v ≤ 1152921504606846976 := by unfold hd; omega
theorem u6 (v : Int) (w : World) :
 Calls Tryz.prog 136 #[.int .i64 v] w fun e w' => e = .returned (.int .i64 (hd v)) ∧ w = w' := by
 go_enter Tryz.func136, Tryz.ntmps136
 go_wp2
 go_ret
 exact ⟨rfl, rfl⟩
theorem BP (a b : Int) (w : World) :
 Calls Tryz.prog 109 #[.int .i64 a, .int .i64 b] w fun e w' => e = .returned (.int .i64 (hd (hd a - hd b))) ∧ w = w' := by
 have ha := uM a
 have hb := uM b
 go_enter Tryz.func109, Tryz.ntmps109
 go_wp2_with (go_at_call 136; go_must (refine (u6 _ _).mono ?_); rintro e w' ⟨rfl, rfl⟩)
 go_ret
 exact ⟨rfl, rfl⟩
end Go.Proofs.YtelnhablglomjaaGreat

namespace Go.Proofs.YtelnhablglomjaaGreat
open Go.RowKit
theorem TA (a : Int) (w : World) (ha : -9223372036854775808 ≤ a ∧ a ≤ 9223372036854775807) :
 Calls Tryz.prog 111 #[.int .i64 a] w fun e w' => e = .returned (.bool (decide (0 ≤ a ∧ a ≤ 1099511627776))) ∧ w = w' := by
 by_cases h0 : 0 ≤ a
 ·go_enter Tryz.func111, Tryz.ntmps111
  go_wp2
  go_ret
  exact ⟨by simp [h0], rfl⟩
 ·go_enter Tryz.func111, Tryz.ntmps111
  go_wp2
  go_ret
  exact ⟨by simp; omega, rfl⟩
end Go.Proofs.YtelnhablglomjaaGreat

namespace Go.Proofs.YtelnhablglomjaaGreat
open Go.RowKit
def u7 (l : List Int) : Int := l.foldl (fun s v => hd (s + hd v)) 0
def kK (l : List Int) : Int := l.foldl min 1152921504606846976
theorem BQ (l : List Int) (z : Int) : u7 (l ++ [z]) = hd (u7 l + hd z) := by unfold u7; rw [List.foldl_append]; rfl
theorem FT (l : List Int) (z : Int) : kK (l ++ [z]) = min (kK l) z := by unfold kK; rw [List.foldl_append]; rfl
theorem Iu (l : List Int) : 0 ≤ u7 l ∧ u7 l ≤ 1152921504606846976 := by
 rcases List.eq_nil_or_concat l with rfl | ⟨m, z, rfl⟩
 ·decide
 ·rw [List.concat_eq_append, BQ]; exact uM _
theorem QK (v : Value) (zs : List Int) (w : World) (h : pR w v zs) :
 Calls Tryz.prog 141 #[v] w fun e w' => e = .returned (.int .i64 (u7 zs)) ∧ w = w' := by
 obtain ⟨⟨ao, cap, rfl, hlc, hcm, hcells⟩, hfit⟩ := h
 have EA : cap ≤ 9223372036854775807 := by unfold maxLen at hcm; omega
 clear hfit hcm
 go_enter Tryz.func141, Tryz.ntmps141
 go_wp2_with fail
 go_loopw [3, 8] (fun s i wr => ∃ (k : Nat), k ≤ zs.length ∧ i = .int .i64 k ∧ s = .int .i64 (u7 (zs.take k)) ∧ wr = w) (fun _ i _ => zs.length - (intOf i).toNat)
 case atStart => exact ⟨0, Nat.zero_le _, rfl, rfl, rfl⟩
 case round =>
  obtain ⟨k, hk, rfl, rfl, rfl⟩ := hrel
  by_cases hlt : k < zs.length
  ·obtain ⟨b, off, rfl, hbw, hcell⟩ := hcells (by rintro rfl; simp at hlt)
   obtain ⟨z, hz⟩ : ∃ z, z = zs.getD k 0 := ⟨_, rfl⟩
   have hcw : wr.cell? ⟨b, off + k, none⟩ = some (.int .i64 z) := by rw [hz]; exact hcell k hlt
   have hs := Iu (zs.take k)
   have hh := uM z
   have hn : Hid (hd (u7 (zs.take k) + hd z) = u7 (zs.take (k + 1))) := by show _ = _; rw [Bo hlt, BQ, hz]
   clear hz hcell hcells
   go_wp2_with (go_at_call 136; go_must (refine (u6 _ _).mono ?_); rintro e w' ⟨rfl, rfl⟩)
   go_roundw
   case rel => exact ⟨k + 1, by omega, by go_num, congrArg (Value.int .i64) hn.out, trivial⟩
   case measure => simp [intOf]; omega
  ·obtain rfl : k = zs.length := by omega
   rw [List.take_of_length_le (Nat.le_refl _)]
   go_wp2_with fail
   go_ret
   exact ⟨rfl, rfl⟩
theorem KH (v : Value) (zs : List Int) (w : World) (h : pR w v zs) :
 Calls Tryz.prog 157 #[v] w fun e w' => e = .returned (.int .i64 (kK zs)) ∧ w = w' := by
 obtain ⟨⟨ao, cap, rfl, hlc, hcm, hcells⟩, hfit⟩ := h
 have EA : cap ≤ 9223372036854775807 := by unfold maxLen at hcm; omega
 clear hfit hcm
 go_enter Tryz.func157, Tryz.ntmps157
 go_wp2_with fail
 go_loopw [3, 8] (fun s i wr => ∃ (k : Nat), k ≤ zs.length ∧ i = .int .i64 k ∧ s = .int .i64 (kK (zs.take k)) ∧ wr = w) (fun _ i _ => zs.length - (intOf i).toNat)
 case atStart => exact ⟨0, Nat.zero_le _, rfl, rfl, rfl⟩
 case round =>
  obtain ⟨k, hk, rfl, rfl, rfl⟩ := hrel
  by_cases hlt : k < zs.length
  ·obtain ⟨b, off, rfl, hbw, hcell⟩ := hcells (by rintro rfl; simp at hlt)
   obtain ⟨z, hz⟩ : ∃ z, z = zs.getD k 0 := ⟨_, rfl⟩
   have hcw : wr.cell? ⟨b, off + k, none⟩ = some (.int .i64 z) := by rw [hz]; exact hcell k hlt
   have hn : Hid (min (kK (zs.take k)) z = kK (zs.take (k + 1))) := by show _ = _; rw [Bo hlt, FT, hz]
   clear hz hcell hcells
   go_wp2_with fail
   go_roundw
   case rel => exact ⟨k + 1, by omega, by go_num, congrArg (Value.int .i64) hn.out, trivial⟩
   case measure => simp [intOf]; omega
  ·obtain rfl : k = zs.length := by omega
   rw [List.take_of_length_le (Nat.le_refl _)]
   go_wp2_with fail
   go_ret
   exact ⟨rfl, rfl⟩
theorem QL (w : World) (x y : Int) (e : TypeId) (hx : -9223372036854775808 ≤ x ∧ x ≤ 9223372036854775807) (hy : -9223372036854775808 ≤ y ∧ y ≤ 9223372036854775807) :
 pR (w.alloc (.cells #[.int .i64 x, .int .i64 y] e)) (.slice (some ⟨w.heap.size, 0, none⟩) 2 2) [x, y] := by
 refine ⟨⟨_, _, rfl, by simp, by decide, fun _ => ⟨w.heap.size, 0, rfl, by simp, fun i hi => ?_⟩⟩, fun z hz => ?_⟩
 ·have hi : i = 0 ∨ i = 1 := by simp at hi; omega
  rcases hi with rfl | rfl <;> go_simp
 ·simp at hz
  rcases hz with rfl | rfl
  ·exact hx
  ·exact hy
end Go.Proofs.YtelnhablglomjaaGreat

namespace Go.Proofs.YtelnhablglomjaaGreat
open Go.RowKit Go.Lib Go.Sort
theorem kG : ∀ w, Sem.run Tryz.prog (Go.sizeOf 148) w = .ok 3 w := Tryz.sizeOf148
theorem QM : ∀ w, Sem.run Tryz.prog (isAgg 148) w = .ok true w := Tryz.isAgg148
theorem eZ {w : World} {b k : Nat} {cs : List Value} {t : TypeId} (h : w.heap[b]? = some (.cells cs.toArray t (0, 0))) (hk : cs.length = k) : Sem.run Tryz.prog (loadCellsFrom ⟨b, 0, none⟩ 0 k #[]) w = .ok cs.toArray w :=
 xn h hk fun j u hj => by rw [Nat.zero_add]; exact hj
theorem yA {fn : Func} {q u : Tmp} {b : Nat} {tmps : Array Value} {w : World} {cs : List Value} (h : fn.results = #[.cell q 148, .tmp u]) (ha : tmps.getD q undef = .pointer (some ⟨b, 0, none⟩)) (hb : w.heap[b]? = some (.cells cs.toArray 148 (0, 0))) (hl : cs.length = 3) :
 (results fn tmps).run Tryz.prog w = .ok (.tuple #[.agg cs.toArray, tmps.getD u undef]) w := by
 have h1 : Sem.run Tryz.prog (loadCells ⟨b, 0, none⟩ 3) w = .ok cs.toArray w := eZ hb hl
 rw [results_cell_tmp h, ha]
 simp only [loadVar, asAddr, Sem.run_bind, Sem.run_pure, Result.andThen_ok, QM, kG, h1, if_true]
def aM (j : Jb) : List Value := if aj j = true then [.int .i64 j.aN, .int .i64 (j.aN + j.lim), .int .i64 j.wid] else [.int .i64 0, .int .i64 0, .int .i64 0]
section
variable {w : World}
theorem NJ (j : Jb) (h : aj j = false) : Calls Tryz.prog 112 #[.agg (ai j).toArray] w fun e w' => e = .returned (.tuple #[.agg (aM j).toArray, .bool (aj j)]) ∧ Below w.heap.size w w' := by
 unfold aM
 rw [h, if_neg (by decide)]
 obtain ⟨x1, x2, x3, x4, x5, x6, x7, x8, x9, x0⟩ := j
 have hk : x6 ≠ 1 ∨ (x6 = 1 ∧ x9 < 0) := by
  by_cases e : x6 = 1
  ·refine .inr ⟨e, ?_⟩
   rcases Int.lt_or_le x9 0 with h1 | h1
   ·exact h1
   ·have : aj (x1, x2, x3, x4, x5, x6, x7, x8, x9, x0) = true := bq.2 ⟨e, h1⟩
    rw [this] at h; cases h
  ·exact .inl e
 clear h
 rw [uw]
 have hb2 : Below w.heap.size w ((w.alloc (.cells #[.int .i64 x1, .int .i64 x2, .int .i64 x3, .int .i64 x4, .int .i64 x5, .int .i64 x6, .int .i64 x7, .int .i64 x8, .int .i64 x9, .int .u64 x0] 92)).alloc (.cells #[.int .i64 0, .int .i64 0, .int .i64 0] 148)) := ((Below.refl _ _).alloc (Nat.le_refl _) _).alloc (by simp) _
 rcases hk with h1 | ⟨rfl, h2⟩
 ·have d1 : (x6 != 1) = true := by simp [h1]
  go_enter Tryz.func112, Tryz.ntmps112
  go_wp2_with fail
  refine bodyPost_ret (yA rfl rfl (heap_alloc2_new w _ _) rfl) rfl ⟨rfl, hb2⟩
 ·go_enter Tryz.func112, Tryz.ntmps112
  go_wp2_with fail
  refine bodyPost_ret (yA rfl rfl (heap_alloc2_new w _ _) rfl) rfl ⟨rfl, hb2⟩
theorem zu {w w' : World} {v : Value} {zs : List Int} (h : pR w v zs) (hb : Below w.heap.size w w') : pR w' v zs := by
 obtain ⟨⟨ao, cap, e, h1, h2, h3⟩, hf⟩ := h
 refine ⟨⟨ao, cap, e, h1, h2, fun hz => ?_⟩, hf⟩
 obtain ⟨b, off, e2, h4, h5⟩ := h3 hz
 exact ⟨b, off, e2, Nat.lt_of_lt_of_le h4 hb.size, fun i hi => by rw [← h5 i hi]; simp only [World.cell?, hb.block b h4]⟩
theorem KI (j : Jb) (h : aj j = true) (hp : j.aN ≤ 1099511627776) (hl : 0 ≤ j.lim ∧ j.lim ≤ 1048576) : Calls Tryz.prog 112 #[.agg (ai j).toArray] w fun e w' => e = .returned (.tuple #[.agg (aM j).toArray, .bool (aj j)]) ∧ Below w.heap.size w w' := by
 unfold aM
 rw [h, if_pos rfl]
 obtain ⟨hs, hp0⟩ := bq.1 h
 obtain ⟨x1, x2, x3, x4, x5, x6, x7, x8, x9, x0⟩ := j
 obtain rfl : x6 = 1 := hs
 replace hp0 : 0 ≤ x9 := hp0
 replace hp : x9 ≤ 1099511627776 := hp
 replace hl : 0 ≤ x4 ∧ x4 ≤ 1048576 := hl
 have hsum : u7 [x9, x4] = x9 + x4 := by show hd (hd (0 + hd x9) + hd x4) = _; unfold hd; omega
 show Calls _ _ _ _ fun e w' => e = .returned (.tuple #[.agg #[.int .i64 x9, .int .i64 (x9 + x4), .int .i64 x3], .bool true]) ∧ Below w.heap.size w w'
 clear h
 rw [uw]
 obtain ⟨wA, aJ⟩ : ∃ wA, wA = ((w.alloc (.cells #[.int .i64 x1, .int .i64 x2, .int .i64 x3, .int .i64 x4, .int .i64 x5, .int .i64 1, .int .i64 x7, .int .i64 x8, .int .i64 x9, .int .u64 x0] 92)).alloc (.cells #[.int .i64 0, .int .i64 0, .int .i64 0] 148)) := ⟨_, rfl⟩
 have bR : Below w.heap.size w wA := by rw [aJ]; exact ((Below.refl _ _).alloc (Nat.le_refl _) _).alloc (by simp) _
 have hsA : wA.heap.size = w.heap.size + 2 := by rw [aJ]; simp
 have hJ : Hid (wA.heap[w.heap.size]? = some (.cells #[.int .i64 x1, .int .i64 x2, .int .i64 x3, .int .i64 x4, .int .i64 x5, .int .i64 1, .int .i64 x7, .int .i64 x8, .int .i64 x9, .int .u64 x0] 92 (0, 0))) := by show _ = _; rw [aJ]; exact dV (heap_alloc_new w _)
 have hS : wA.heap[w.heap.size + 1]? = some (.cells #[.int .i64 0, .int .i64 0, .int .i64 0] 148 (0, 0)) := by rw [aJ]; exact heap_alloc2_new w _ _
 have LD : Hid (∀ W, Below wA.heap.size wA W → W.heap[w.heap.size]? = some (.cells #[.int .i64 x1, .int .i64 x2, .int .i64 x3, .int .i64 x4, .int .i64 x5, .int .i64 1, .int .i64 x7, .int .i64 x8, .int .i64 x9, .int .u64 x0] 92 (0, 0))) := fun W hW => (hW.block _ (by omega)).trans hJ.out
 have hAdd := fun (v : Value) (W : World) (hv : pR W v [x9, x4]) => QK v [x9, x4] W hv
 rw [hsum] at hAdd
 replace hsum := Lib.hid hsum
 replace aJ := Lib.hid aJ
 replace bR := Lib.hid bR
 go_enter Tryz.func112, Tryz.ntmps112
 go_wp2_with fail
 rw [← aJ.out]
 refine Reg2.rd wA 10 24 [[],[ae],[af,af],[af,af,ae],[af,af,af,af],[af,af,af,af,ae],[af,af,ae,ae,ae,ae],[af,af,ae,ae,ae,ae,ae],[af,af,af,af,af,af,af,af],[af,af,af,af,af,af,af,af,ae]] [0, 1, 0, 1, 0, 1, 1, 1, 0, 1] [.pure, .mU (.int .i64 x9), .pure, .mU (.int .i64 x9), .pure, .mU (.int .i64 x4), .minor Nat 0 (fun k => .slice (some ⟨k, 0, none⟩) 2 2) (fun k W => pR W (.slice (some ⟨k, 0, none⟩) 2 2) [x9, x4]), .mU (.int .i64 (x9 + x4)), .pure, .mU (.int .i64 x3)] (by kernel_rfl) (by kernel_rfl) rfl rfl ⟨trivial, Reg2.tt, trivial, Reg2.tt, trivial, Reg2.tt, ⟨fun k a b he hp => zu hp he, fun k a b he hp => zu hp he⟩, Reg2.tt, trivial, Reg2.tt, trivial⟩ ⟨rfl, rfl, rfl, Nat.le_refl _, fun _ _ => rfl⟩ ?_
 dsimp only [Reg2.mk, List.zip, List.zipWith, List.take]
 repeat ((first
  | (refine' Reg2.ak _ (by rfl) (fun wz => ?_) ?_; rotate_left; (go_simp; first | rfl | rw [if_neg (by omega)]))
  | (refine Reg2.az (by rfl) (fun wz hI hF => ?_) (fun _ => ?_)
     ·unfold Reg2.One
      have q0 : wz.cell? ⟨w.heap.size, 8, none⟩ = some (.int .i64 x9) := by simp [World.cell?, LD.out wz hI]
      have D9 : wz.cell? ⟨w.heap.size, 3, none⟩ = some (.int .i64 x4) := by simp [World.cell?, LD.out wz hI]
      go_wp2_with fail
      first | exact ⟨_, rfl, rfl, Reg2.Ext.refl _⟩ | exact ⟨_, rfl, ⟨(), rfl, trivial⟩, Reg2.Ext.refl _⟩)); simp only [Act.put, xA, xB, xC, xD, xE, id])
 refine Reg2.pm (fun wz hI hF => ?_) (fun r6 => ?_) (by rfl)
 ·have pa := QL wz x9 x4 2 (by omega) (by omega)
  go_wp2_with fail
  exact ⟨_, rfl, ⟨_, rfl, pa⟩, (Reg2.Ext.refl _).alloc (Nat.le_refl _) _⟩
 simp only [Act.put, xA, xB, xC, xD, xE, id]
 refine Reg2.pm (fun wz hI hF => ?_) (fun r7 => ?_) (by rfl)
 ·have hv := hF.2.2.2.2.1
  go_wp2_with (go_at_call 141; go_must (refine (hAdd _ wz hv).mono ?_); rintro e w' ⟨rfl, rfl⟩)
  first | exact ⟨_, rfl, rfl, Reg2.Ext.refl _⟩ | exact ⟨_, rfl, ⟨(), rfl, trivial⟩, Reg2.Ext.refl _⟩
 simp only [Act.put, xA, xB, xC, xD, xE, id]
 repeat ((first
  | (refine' Reg2.ak _ (by rfl) (fun wz => ?_) ?_; rotate_left; (go_simp; first | rfl | rw [if_neg (by omega)]))
  | (refine Reg2.az (by rfl) (fun wz hI hF => ?_) (fun _ => ?_)
     ·unfold Reg2.One
      have q0 : wz.cell? ⟨w.heap.size, 2, none⟩ = some (.int .i64 x3) := by simp [World.cell?, LD.out wz hI]
      go_wp2_with fail
      first | exact ⟨_, rfl, rfl, Reg2.Ext.refl _⟩ | exact ⟨_, rfl, ⟨(), rfl, trivial⟩, Reg2.Ext.refl _⟩)); simp only [Act.put, xA, xB, xC, xD, xE, id])
 refine Reg2.aA ?_
 intro w7 kr _ kH
 clear kH
 dsimp only [List.drop]
 have gG : w7.heap[w.heap.size + 1]? = some (.cells #[.int .i64 0, .int .i64 0, .int .i64 0] 148 (0, 0)) := (kr.block _ (by omega)).trans hS
 have jZ := bR.out.trans (kr.mono bR.out.size)
 have c0 : w7.cell? ⟨w.heap.size + 1, 0, none⟩ = some (.int .i64 0) := by simp [World.cell?, gG]
 have c1 : w7.cell? ⟨w.heap.size + 1, 1, none⟩ = some (.int .i64 0) := by simp [World.cell?, gG]
 have c2 : w7.cell? ⟨w.heap.size + 1, 2, none⟩ = some (.int .i64 0) := by simp [World.cell?, gG]
 have f0 : w7.frozen? ⟨w.heap.size + 1, 0, none⟩ = false := by simp [World.frozen?, gG]
 have f1 : w7.frozen? ⟨w.heap.size + 1, 1, none⟩ = false := by simp [World.frozen?, gG]
 have f2 : w7.frozen? ⟨w.heap.size + 1, 2, none⟩ = false := by simp [World.frozen?, gG]
 have gF := heap_put (i := 2) (heap_put (i := 1) (heap_put (i := 0) gG (.int .i64 x9)) (.int .i64 (x9 + x4))) (.int .i64 x3)
 have pE : Below w.heap.size w (((w7.setCell ⟨w.heap.size + 1, 0, none⟩ (.int .i64 x9)).setCell ⟨w.heap.size + 1, 1, none⟩ (.int .i64 (x9 + x4))).setCell ⟨w.heap.size + 1, 2, none⟩ (.int .i64 x3)) := ((jZ.setCell (by show _ ≤ w.heap.size + 1; omega) _).setCell (by show _ ≤ w.heap.size + 1; omega) _).setCell (by show _ ≤ w.heap.size + 1; omega) _
 go_wp2_with fail
 refine bodyPost_ret (yA rfl rfl gF rfl) rfl ⟨rfl, pE⟩
theorem kV (j : Jb) (hp : j.aN ≤ 1099511627776) (hl : 0 ≤ j.lim ∧ j.lim ≤ 1048576) : Calls Tryz.prog 112 #[.agg (ai j).toArray] w fun e w' => e = .returned (.tuple #[.agg (aM j).toArray, .bool (aj j)]) ∧ Below w.heap.size w w' := by
 cases h : aj j with
 | false => have := NJ (w := w) j h; rw [h] at this; exact this
 | true => have := KI (w := w) j h hp hl; rw [h] at this; exact this
end
end Go.Proofs.YtelnhablglomjaaGreat

namespace Go.Proofs.YtelnhablglomjaaGreat
open Go.RowKit Go.Lib Go.Sort
section
variable {w : World} {b c t d p g a : Nat} {v : Value} {m : Int} {P : Pg} {R : Wk}
theorem om (h : SW w b c t d p v g a m R P) (id : Int) : Calls Tryz.prog 78 #[.pointer (some ⟨b, 0, none⟩), .pointer (some ⟨c, 0, none⟩), .int .i64 id] w fun e w' =>
 e = .returned (.agg (ai (bN P.J id)).toArray) ∧ bJ w' b { R with rep := iV (bN P.J id) } ∧ bA (fun k => k = b) w w' := by
 have zE := bI
 have zY := vR
 obtain ⟨k, hk⟩ : ∃ k, k = 10 := ⟨_, rfl⟩
 obtain ⟨k9, bO⟩ : ∃ k, k = 9 := ⟨_, rfl⟩
 rw [← hk] at zE
 rw [← bO] at zY
 have hk0 : ¬ k9 = 0 := by omega
 have hk1 : ¬ k = 0 := by omega
 obtain ⟨wA, aJ⟩ : ∃ wA, wA = w.alloc (.cells #[.int .i64 0, .int .i64 0, .int .i64 0, .int .i64 0, .int .i64 0, .int .i64 0, .int .i64 0, .int .i64 0, .int .i64 0, .int .u64 0] 92) := ⟨_, rfl⟩
 have bR : Below w.heap.size w wA := by rw [aJ]; exact (Below.refl _ _).alloc (Nat.le_refl _) _
 have hsA : wA.heap.size = w.heap.size + 1 := by rw [aJ]; simp
 have Vh : wA.heap[w.heap.size]? = some (.cells (ai il).toArray 92 (0, 0)) := by rw [aJ]; exact heap_alloc_new w _
 have hA := h.kept bR
 have c0 := hA.cw.c0
 have hget := gQ hA.cw.eQ id
 obtain ⟨y, hy⟩ : ∃ y, y = bN P.J id := ⟨_, rfl⟩
 rw [← hy]
 unfold iM at hget
 rw [← hy] at hget
 replace hy := Lib.hid hy
 have lY := au y
 rw [← hk] at lY
 replace hk := Lib.hid hk
 rw [aJ] at c0 hget
 have Ui := fun W => Tz y W
 have lR := jD (iV y)
 rw [← bO] at lR
 replace bO := Lib.hid bO
 have ST : Hid (∀ W : World, Sem.run Tryz.prog (storeCells ⟨W.heap.size, 0, none⟩ (ai y) 0) (W.alloc (.cells #[.int .i64 0, .int .i64 0, .int .i64 0, .int .i64 0, .int .i64 0, .int .i64 0, .int .i64 0, .int .i64 0, .int .i64 0, .int .u64 0] 92)) = .ok () (W.alloc (.cells (ai y).toArray 92))) := fun W => dB W W.heap.size (ai y) (ai il) 92 rfl rfl (dH y)
 have JS : Hid (∀ {q : Nat} {W : World}, W.heap[q]? = some (.cells (ai il).toArray 92 (0, 0)) → Sem.run Tryz.prog (storeCells ⟨q, 0, none⟩ (ai y) 0) W = .ok () (W.setRow q (ai y).toArray)) := fun hq => oz hq
 have Vi : Hid ((ai y).toArray.size = 10) := Lib.hid rfl
 generalize ai y = cY at *
 go_enter Tryz.func78, Tryz.ntmps78
 go_wp2_with fail
 go_at_call 77
 refine hget.mono ?_
 clear hget
 rw [← aJ]
 rintro e w1 ⟨rfl, hg1⟩
 replace aJ := Lib.hid aJ
 have hb1 := hg1.below
 have st1 := ST.out w1
 obtain ⟨w2, hw2⟩ : ∃ w2, w2 = w1.alloc (.cells cY.toArray 92) := ⟨_, rfl⟩
 rw [← hw2] at st1
 have hb2 : Below wA.heap.size wA w2 := by rw [hw2]; exact hb1.alloc hb1.size _
 have h2 := hA.kept hb2
 have hx2 : w2.heap[w.heap.size]? = some (.cells (ai il).toArray 92 (0, 0)) := (hb2.block _ (by omega)).trans Vh
 have hz2 : w2.heap[w1.heap.size]? = some (.cells cY.toArray 92 (0, 0)) := by rw [hw2]; exact heap_alloc_new w1 _
 have X9 := eZ hz2 lY
 have hs1 := hb1.size
 have hs2 : w2.heap.size = w1.heap.size + 1 := by rw [hw2]; simp
 replace hw2 := Lib.hid hw2
 go_wp2_with fail
 go_at_call 92
 refine (Ui w2).mono ?_
 clear Ui
 rintro e w3 ⟨rfl, hb3⟩
 have h3 := h2.kept hb3
 obtain ⟨Ya, WM⟩ := h3.wk.FQ (iV y)
 have hbb := h.wk.lt
 have hx3 : w3.heap[w.heap.size]? = some (.cells (ai il).toArray 92 (0, 0)) := (hb3.block _ (by omega)).trans hx2
 have hz3 : w3.heap[w1.heap.size]? = some (.cells cY.toArray 92 (0, 0)) := (hb3.block _ (by omega)).trans hz2
 obtain ⟨w4, hw4⟩ : ∃ w4, w4 = w3.setRow b (gB { R with rep := iV y }).toArray := ⟨_, rfl⟩
 rw [← hw4] at Ya WM
 have hx4 : w4.heap[w.heap.size]? = some (.cells (ai il).toArray 92 (0, 0)) := by rw [hw4, setRow_other w3 b _ _ (by omega)]; exact hx3
 have zT : w4.heap[w1.heap.size]? = some (.cells cY.toArray 92 (0, 0)) := by rw [hw4, setRow_other w3 b _ _ (by omega)]; exact hz3
 have tT : bA (fun k => k = b) w w4 := by rw [hw4]; exact fU (bA.of_below (bR.trans ((hb2.trans (hb3.mono hb2.size)).mono bR.size))) (cz w3 _)
 have Yb := eZ zT lY
 have Za := JS.out hx4
 have Yc : bJ (w4.setRow w.heap.size cY.toArray) b { R with rep := iV y } := (setRow_other w4 w.heap.size b _ (by omega)).trans WM
 have BJ : bA (fun k => k = b) w (w4.setRow w.heap.size cY.toArray) := ⟨tT.os, tT.tape, tT.output, by simpa using tT.size, fun k hk2 hn => by rw [setRow_other w4 w.heap.size k _ (by omega)]; exact tT.block k hk2 hn⟩
 have hx5 := xm hx4 cY.toArray
 replace hw4 := Lib.hid hw4
 go_wp2_with fail
 refine bH rfl rfl rfl hx5 Tryz.underlying92 rfl (by rw [Vi.out]; kernel_rfl) ⟨rfl, Yc, BJ⟩
end
end Go.Proofs.YtelnhablglomjaaGreat

namespace Go.Proofs.YtelnhablglomjaaGreat
open Go.RowKit Go.Lib Go.Sort
theorem Ea {q p : Jb → Bool} : ∀ {L : List Jb} {i : Nat}, i < (L.filter q).length → (∀ k, k < i → p ((L.filter q)[k]!) = false) → p ((L.filter q)[i]!) = true → ∃ n, L.findIdx? (fun j => q j && p j) = some n ∧ n < L.length ∧ L.getD n default = (L.filter q)[i]! := by
 intro L
 induction L with
 | nil => intro i hi; simp at hi
 | cons x L ih =>
   intro i hi hno hp
   cases hq : q x with
   | false =>
     have e : (x :: L).filter q = L.filter q := by simp [hq]
     rw [e] at hi hp hno ⊢
     obtain ⟨n, h1, h2, h3⟩ := ih hi hno hp
     refine ⟨n + 1, ?_, by simp; omega, by simpa using h3⟩
     rw [List.findIdx?_cons]
     simp [hq, h1]
   | true =>
     have e : (x :: L).filter q = x :: L.filter q := by simp [hq]
     rw [e] at hi hp hno ⊢
     cases i with
     | zero =>
       have hx : p x = true := by simpa using hp
       refine ⟨0, ?_, by simp, by simp⟩
       rw [List.findIdx?_cons]
       simp [hq, hx]
     | succ i =>
       have hx : p x = false := by simpa using hno 0 (by omega)
       obtain ⟨n, h1, h2, h3⟩ := ih (i := i) (by simpa using hi) (fun k hk => by simpa using hno (k + 1) (by omega)) (by simpa using hp)
       refine ⟨n + 1, ?_, by simp; omega, by simpa using h3⟩
       rw [List.findIdx?_cons]
       simp [hx, h1]
theorem Iw {q p : Jb → Bool} {L : List Jb} (hno : ∀ k, k < (L.filter q).length → p ((L.filter q)[k]!) = false) : L.findIdx? (fun j => q j && p j) = none := by
 rw [List.findIdx?_eq_none_iff]
 intro x hx
 cases hq : q x with
 | false => rfl
 | true =>
   obtain ⟨k, hk, e⟩ := List.mem_iff_getElem.1 (List.mem_filter.2 ⟨hx, hq⟩)
   have := hno k hk
   rw [getElem!_pos _ k hk, e] at this
   simpa using this
section
variable {M : Md}
theorem rM (h : aF M) {i : Nat} (hi : i < M.L.length) (hp : aj (M.L.getD i default) = true) (t : Int) :
 ax { M with L := M.L.set i ((M.L.getD i default).aG (-1)) } t 0 = ax M t 0 + had (max (M.L.getD i default).aN M.now) ((M.L.getD i default).aN + (M.L.getD i default).lim) (M.L.getD i default).wid t := by
 have hm := aY hi
 have hid := h.ids i hi
 have hpl := h.plan _ hm
 have h1 := h.mb.aN _ hm
 have h2 := h.mb.lim _ hm
 have h0 := (bq.1 hp).2
 rw [iR hi, dN (j := (M.L.getD i default).aG (-1)) (by unfold aj; simp [Jb.aG, Jb.aN]), mF hp (by omega)]
 generalize M.L.getD i default = x at *
 have e : max x.aN M.now = x.aN := by omega
 rw [e]
 unfold had
 have e2 : ¬ (x.aN + x.lim = 1152921504606846976) := by omega
 simp only [e2, or_false]
 omega
theorem FU {i : Nat} (hi : i < M.L.length) : cZ { M with L := M.L.set i ((M.L.getD i default).aG (-1)) } = cZ M := by
 refine pq (by rw [bC, bC]) fun n hn => ?_
 rw [df, df, pK (y := (M.L.getD i default).aG (-1)) hi Iff.rfl rfl]
theorem vS (h : aF M) (t : Int) (ht : M.now ≤ t) : 0 ≤ ax M t 0 ∧ ax M t 0 ≤ 64 := ⟨h.free t ht, by have := AR h t; have := h.mb.nn; omega⟩
end
def NK (w : World) (c t d p : Nat) (v : Value) (g a : Nat) (m : Int) (M : Md) (o : Option Nat) (e : Ending) (w' : World) : Prop :=
 (o = none ∧ e = .returned (.bool false) ∧ Below w.heap.size w w') ∨
 ∃ i, o = some i ∧ fe w c t d p v g (a + 2) (m + 1) (.bool true) (ah { M with L := M.L.set i ((M.L.getD i default).aG (-1)) }) e w'
section
variable {w : World} {c t d p g a : Nat} {v : Value} {m : Int} {M : Md}
theorem vT (h : CW w c t d p v g a m (ah M)) (hI : aF M) (h1 : 1 ≤ M.dr.length) (hll : M.L.length ≤ 900) (ha : a ≤ 800) (hm : m ≤ 1000000) (lv : Value) (l : List Jb) (q : Jb → Bool) (hr : aD ai 10 w lv l) (hl : l = M.L.filter q) :
 Calls Tryz.prog 123 #[.pointer (some ⟨c, 0, none⟩), lv] w (NK w c t d p v g a m M (M.L.findIdx? fun j => q j && aj j)) := by
 have zE := bI
 have zS := kG
 obtain ⟨k, hk⟩ : ∃ k, k = 10 := ⟨_, rfl⟩
 obtain ⟨k3, hk3⟩ : ∃ k, k = 3 := ⟨_, rfl⟩
 rw [← hk] at zE
 rw [← hk3] at zS
 have hk0 : ¬ k = 0 := by omega
 have zw : ¬ k3 = 0 := by omega
 replace hk := Lib.hid hk
 replace hk3 := Lib.hid hk3
 have hC := Lib.hid h
 have hlt : Hid (∀ k, dP c t d p v g k → k < w.heap.size) := fun k hk => h.lt hk
 have sG := Lib.hid (fB hI h1 hll)
 have hmem : Hid (∀ i, i < l.length → l[i]! ∈ M.L) := fun i hi => by
  have : l[i]! ∈ l := by rw [getElem!_pos l i hi]; exact List.getElem_mem _
  have h2 : l[i]! ∈ M.L.filter q := hl ▸ this
  exact (List.mem_filter.1 h2).1
 obtain ⟨ao, cap, rfl, q1, q2, q3⟩ := hr
 obtain ⟨n, hn⟩ : ∃ n, l.length = n := ⟨_, rfl⟩
 have hnl : n ≤ 900 := by rw [← hn, hl]; exact Nat.le_trans (List.length_filter_le _ _) hll
 rw [hn] at q1 q3 ⊢
 have HQ : Hid (0 < n → ∃ b off, ao = some ⟨b, off, none⟩ ∧ nz w b off l) := fun hp => by
  obtain ⟨b, off, e1, e2, e3⟩ := q3 hp
  exact ⟨b, off, e1, e2, e3⟩
 have EA : cap ≤ 9223372036854775807 := by unfold maxLen at q2; omega
 replace hn := Lib.hid hn
 replace hl := Lib.hid hl
 clear q2 q3 h
 go_enter Tryz.func123, Tryz.ntmps123
 go_wp2_with fail
 go_loopw [11] (fun ii wr => ∃ (i : Nat), i ≤ n ∧ ii = .int .i64 i ∧ Below w.heap.size w wr ∧ Hid (∀ j, j < i → aj l[j]! = false)) (fun ii _ => n - (intOf ii).toNat)
 case atStart => exact ⟨0, Nat.zero_le _, rfl, Below.refl _ _, Lib.hid fun j hj => absurd hj (Nat.not_lt_zero _)⟩
 case round =>
  obtain ⟨i, hin, rfl, hbr, hno⟩ := hrel
  by_cases hlt2 : i < n
  ·have b2 : (i : Int) < (n : Int) := by omega
   have wi : IntKind.i64.wrap ((i : Int) + 1) = (i : Int) + 1 := by rw [IntKind.wrap_i64]; omega
   obtain ⟨gb, off, rfl, hJ⟩ := HQ.out (by omega)
   have sD := hJ.below hbr
   have iF : i < l.length := by have := hn.out; omega
   have LI := sD.load hk.out iF
   have hxm := hmem.out i iF
   obtain ⟨x, hx⟩ : ∃ x, x = l[i]! := ⟨_, rfl⟩
   rw [← hx] at LI hxm
   replace hx := Lib.hid hx
   have lI := au x
   rw [← hk.out] at lI
   have hpx := hI.mb.aN x hxm
   have hlx := hI.mb.lim x hxm
   have st : Sem.run Tryz.prog (storeCells ⟨wr.heap.size, 0, none⟩ (ai x) 0) (wr.alloc (.cells #[.int .i64 0, .int .i64 0, .int .i64 0, .int .i64 0, .int .i64 0, .int .i64 0, .int .i64 0, .int .i64 0, .int .i64 0, .int .u64 0] 92)) = .ok () (wr.alloc (.cells (ai x).toArray 92)) := dB wr wr.heap.size (ai x) (ai il) 92 rfl rfl (dH x)
   obtain ⟨w1, hw1⟩ : ∃ w1, w1 = wr.alloc (.cells (ai x).toArray 92) := ⟨_, rfl⟩
   have hb1 : Below w.heap.size w w1 := by rw [hw1]; exact hbr.alloc hbr.size _
   have hs1 : w1.heap.size = wr.heap.size + 1 := by rw [hw1]; simp
   have hz1 : w1.heap[wr.heap.size]? = some (.cells (ai x).toArray 92 (0, 0)) := by rw [hw1]; exact heap_alloc_new wr _
   have ld1 := eZ hz1 lI
   have WN : (ai x)[0]? = some (.int .i64 x.id) := rfl
   have hpl := kV (w := w1) x hpx.2 ⟨hlx.1, hlx.2⟩
   generalize hcI : ai x = cI at *
   replace hcI := Lib.hid hcI
   rw [← hw1] at st
   replace hw1 := Lib.hid hw1
   go_wp2_with fail
   go_at_call 112
   refine hpl.mono ?_
   clear hpl st LI ld1
   rintro e w2 ⟨rfl, hb2⟩
   have Uj : Below w.heap.size w w2 := hb1.trans (hb2.mono hb1.size)
   have hz2 : w2.heap[wr.heap.size]? = some (.cells cI.toArray 92 (0, 0)) := (hb2.block _ (by omega)).trans hz1
   have lS : (aM x).length = 3 := by unfold aM; split <;> rfl
   have oS : ∀ u ∈ aM x, u.oneCell' = true := by unfold aM; split <;> (intro u hu; simp at hu; rcases hu with rfl | rfl | rfl <;> rfl)
   have st2 : Sem.run Tryz.prog (storeCells ⟨w2.heap.size, 0, none⟩ (aM x) 0) (w2.alloc (.cells #[.int .i64 0, .int .i64 0, .int .i64 0] 148)) = .ok () (w2.alloc (.cells (aM x).toArray 148)) := dB w2 w2.heap.size (aM x) [.int .i64 0, .int .i64 0, .int .i64 0] 148 rfl lS oS
   rw [← hk3.out] at lS
   have hsp := Lib.hid (rfl : aM x = aM x)
   generalize kY : aM x = cS at lS st2 ⊢
   replace kY := Lib.hid kY
   obtain ⟨w3, hw3⟩ : ∃ w3, w3 = w2.alloc (.cells cS.toArray 148) := ⟨_, rfl⟩
   have hb3 : Below w2.heap.size w2 w3 := by rw [hw3]; exact (Below.refl _ _).alloc (Nat.le_refl _) _
   have Eb : Below w.heap.size w w3 := Uj.trans (hb3.mono Uj.size)
   have hs2 := hb2.size
   have hs3 : w3.heap.size = w2.heap.size + 1 := by rw [hw3]; simp
   have hz3 : Hid (w3.heap[wr.heap.size]? = some (.cells cI.toArray 92 (0, 0))) := (hb3.block _ (by omega)).trans hz2
   have hy3 : Hid (w3.heap[w2.heap.size]? = some (.cells cS.toArray 148 (0, 0))) := by show _ = _; rw [hw3]; exact heap_alloc_new w2 _
   rw [← hw3] at st2
   replace hw3 := Lib.hid hw3
   cases hP : aj x with
   | false =>
     go_wp2_with fail
     go_roundw
     case rel => exact ⟨i + 1, by omega, by go_num, Eb, Lib.hid fun j hj => by
      rcases Nat.lt_succ_iff_lt_or_eq.1 hj with h5 | h5
      ·exact hno.out j h5
      ·subst h5; rw [← hx.out]; exact hP⟩
     case measure => simp [intOf]; omega
   | true =>
     have hkey := Ea (q := q) (p := aj) (L := M.L) (i := i) (by rw [← hl.out]; exact iF) (fun j hj => by rw [← hl.out]; exact hno.out j hj) (by rw [← hl.out, ← hx.out]; exact hP)
     obtain ⟨f, hf1, hf2, hf3⟩ := hkey
     rw [← hl.out, ← hx.out] at hf3
     have hfree := Lib.hid (rM hI hf2 (by rw [hf3]; exact hP))
     have hinv := Lib.hid (hI.wU hf2)
     have hcore := Lib.hid (FU (M := M) hf2)
     have Iy := Lib.hid (hI.ids f hf2)
     rw [hf3] at hfree hinv hcore Iy
     have hf1 := Lib.hid hf1
     have Uk := Lib.hid (hC.out.kept Eb)
     go_wp2_with fail
     refine Reg2.ro w3 5 35 [.p 0, .p 1, .p 3, .m 7, .m 0] [.pointer (some ⟨p, 0, none⟩), .agg cS.toArray] (by kernel_rfl) (by kernel_rfl) rfl rfl ⟨rfl, rfl, rfl, Nat.le_refl _, fun _ _ => rfl⟩ ?_
     dsimp only [Reg2.gM]
     repeat ((first
      | (refine' Reg2.ak _ (by rfl) (fun wz => ?_) ?_; rotate_left; (go_simp; first | rfl | rw [if_neg (by omega)]))
      | (refine Reg2.az (by rfl) (fun wz hI hF => ?_) (fun _ => ?_)
         ·unfold Reg2.One
          have c0 := (Uk.out.kept hI).c2
          have d0 := eZ ((hI.block _ (aC hy3.out)).trans hy3.out) lS
          go_wp2_with fail
          first | exact ⟨_, rfl, rfl, Reg2.Ext.refl _⟩ | exact ⟨_, rfl, ⟨(), rfl, trivial⟩, Reg2.Ext.refl _⟩)); simp only [Act.put, xA, xB, xC, xD, xE, id])
     refine Reg2.aA ?_
     intro w4 HI4 _ dW
     clear dW
     dsimp only [List.drop]
     have pF := Uk.out.kept HI4
     have hb4 := Eb.trans (HI4.mono Eb.size)
     have zT : w4.heap[wr.heap.size]? = some (.cells cI.toArray 92 (0, 0)) := (HI4.block _ (by omega)).trans hz3.out
     have hrel := tX pF sG.out ha hm x.aN (x.aN + x.lim) x.wid (fun t => ax { M with L := M.L.set f (x.aG (-1)) } t 0) (by have := hI.one x hxm; have : 1 ≤ x.lim := this.2.2.1; omega) (by omega) (by have := hI.mb.wid x hxm; omega) (fun t _ => hfree.out t) (fun t ht => vS hinv.out t ht)
     have mr : cS = [.int .i64 x.aN, .int .i64 (x.aN + x.lim), .int .i64 x.wid] := by rw [← kY.out]; unfold aM; rw [if_pos hP]
     clear kY
     subst mr
     go_wp2_with fail
     go_at_call 114
     refine hrel.mono ?_
     clear hrel
     rintro e w5 ⟨rfl, v5, g5, gy, hS5⟩
     have Hm : Hid (w5.heap[wr.heap.size]? = some (.cells cI.toArray 92 (0, 0))) := (hS5.heap (aC zT) (fun hf => by have := hlt.out _ hf; have := hbr.size; omega)).trans zT
     replace gy := Lib.hid gy
     go_wp2_with fail
     refine Reg2.ro w5 6 35 [.p 0, .p 1, .p 3, .m 7, .p 0, .m 16] [.pointer (some ⟨t, 0, none⟩), .int .i64 x.id] (by kernel_rfl) (by kernel_rfl) rfl rfl ⟨rfl, rfl, rfl, Nat.le_refl _, fun _ _ => rfl⟩ ?_
     dsimp only [Reg2.gM]
     repeat ((first
      | (refine' Reg2.ak _ (by rfl) (fun wz => ?_) ?_; rotate_left; (go_simp; first | rfl | rw [if_neg (by omega)]))
      | (refine Reg2.az (by rfl) (fun wz hI hF => ?_) (fun _ => ?_)
         ·unfold Reg2.One
          have c0 := (gy.out.kept hI).c0
          have q0 : wz.cell? ⟨wr.heap.size, 0, none⟩ = some (.int .i64 x.id) := by simp [World.cell?, (hI.block _ (aC Hm.out)).trans Hm.out, WN]
          go_wp2_with fail
          first | exact ⟨_, rfl, rfl, Reg2.Ext.refl _⟩ | exact ⟨_, rfl, ⟨(), rfl, trivial⟩, Reg2.Ext.refl _⟩)); simp only [Act.put, xA, xB, xC, xD, xE, id])
     refine Reg2.aA ?_
     intro w6 Iz _ dW
     clear dW
     dsimp only [List.drop]
     have IA := gy.out.kept Iz
     have QN := D6 IA x.id (-1)
     go_wp2_with fail
     go_at_call 149
     refine QN.mono ?_
     clear QN
     rintro e w7 ⟨rfl, v7, g7, zU, gG⟩
     have hst := bq.1 hP
     have hpe : gT (-1) = 0 := by decide
     have Fq : bM M.L (gT (-1)) x.id (fun j : Jb => decide (j.state = 1)) = 0 := by
      unfold bM
      rw [Iy.out, if_neg (by rw [hpe]; decide), if_neg (by omega), if_neg (by omega), show ((f : Int) + 1 - 1).toNat = f by omega, if_pos]
      rw [getElem!_pos M.L f hf2]
      have : M.L[f] = x := by rw [← hf3]; simp [List.getD, hf2]
      rw [this]
      exact decide_eq_true hst.1
     have Yd : ({ ({ ah M with f := fun t => ax { M with L := M.L.set f (x.aG (-1)) } t 0 } : Pg) with J := cu M.L (gT (-1)) x.id (fun j : Jb => decide (j.state = 1)) (kM (-1)) } : Pg) = ah { M with L := M.L.set f (x.aG (-1)) } := by
      have e1 : cu M.L (gT (-1)) x.id (fun j : Jb => decide (j.state = 1)) (kM (-1)) = M.L.set f (x.aG (-1)) := by
       unfold cu
       rw [if_pos Fq, Iy.out, show ((f : Int) + 1 - 1).toNat = f by omega, getElem!_pos M.L f hf2]
       have : M.L[f] = x := by rw [← hf3]; simp [List.getD, hf2]
       rw [this]
       rfl
      rw [e1]
      unfold ah
      rw [hcore.out]
     have hfin : CW w7 c t d p v7 g7 (a + 2) (m + 1) (ah { M with L := M.L.set f (x.aG (-1)) }) := Yd ▸ zU
     have hSS : CS w w7 c t d p v g v7 g7 := ((CS.of_below (Eb.trans (HI4.mono Eb.size))).trans hS5).trans ((CS.of_below Iz).trans gG)
     go_wp2_with fail
     go_ret
     exact .inr ⟨f, hf1.out, rfl, v7, g7, by rw [hf3]; exact hfin, hSS⟩
  ·have e : i = n := by omega
   subst e
   have hfi := hid (Iw (q := q) (p := aj) (L := M.L) (fun j hj => by rw [← hl.out]; exact hno.out j (by rw [← hn.out, hl.out]; exact hj)))
   go_wp2_with fail
   go_ret
   exact .inl ⟨hfi.out, rfl, hbr⟩
end
end Go.Proofs.YtelnhablglomjaaGreat

namespace Go.Proofs.YtelnhablglomjaaGreat
open Go.RowKit Go.Lib Go.Sort
theorem KJ {j : Jb} (h : j.id ≠ 0) : (fun x : Jb => (aV j x && decide (x.state ∈ [(1 : Int)])) && aj x) = qB j := by
 funext x
 unfold qB
 cases hp : aj x with
 | false => simp
 | true =>
   have : x.state = 1 := (bq.1 hp).1
   simp [h, this]
theorem IB : (fun x : Jb => decide (x.state ∈ [(1 : Int)]) && aj x) = qB lq := by
 funext x
 unfold qB
 cases hp : aj x with
 | false => simp
 | true =>
   have h1 : x.state = 1 := (bq.1 hp).1
   have h2 : lq.id = 0 := rfl
   simp [h1, h2]
section
variable {w : World} {b c t d p g a : Nat} {v : Value} {m : Int} {M : Md} {R : Wk}
def NL (w : World) (b c t d p : Nat) (v : Value) (g a : Nat) (m : Int) (R : Wk) (M : Md) (k : Nat) (o : Option Nat) (e : Ending) (w' : World) : Prop :=
 (o = none ∧ ay w b c t d p v g a m .nilFunc R (ah M) e w') ∨
 ∃ i, o = some i ∧ ay w b c t d p v g (a + 2) (m + 1) (fE k) R (ah { M with L := M.L.set i ((M.L.getD i default).aG (-1)) }) e w'
theorem rO (h : SW w b c t d p v g a m R (ah M)) (hI : aF M) (h1 : 1 ≤ M.dr.length) (hll : M.L.length ≤ 900) (ha : a ≤ 800) (hm : m ≤ 1000000) (hid : R.aB.id ≠ 0) :
 Calls Tryz.prog 99 #[.pointer (some ⟨b, 0, none⟩), .pointer (some ⟨c, 0, none⟩)] w (NL w b c t d p v g a m R M 99 (dS R.aB M.L)) := by
 have zE := bI
 obtain ⟨k, hk⟩ : ∃ k, k = 10 := ⟨_, rfl⟩
 rw [← hk] at zE
 have hk0 : ¬ k = 0 := by omega
 have lJ := au R.aB
 rw [← hk] at lJ
 replace hk := Lib.hid hk
 have hS := Lib.hid h
 have hin := fun (W : World) (hW : Below w.heap.size w W) (u : Value) (hu : aD enc1 1 W u [1]) => vM (h.kept hW).cw.eQ (by show M.L.length ≤ 1000; omega) hu
 have hlen : (M.L.filter fun j : Jb => decide (j.state ∈ [(1 : Int)])).length ≤ 900 := Nat.le_trans (List.length_filter_le _ _) hll
 have hbe := fun (W : World) (u : Value) (hu : aD ai 10 W u (M.L.filter fun j : Jb => decide (j.state ∈ [(1 : Int)]))) => Ha R.aB u _ W hu hlen
 have hint : Hid (∀ W : World, aD enc1 1 (W.alloc (.cells #[.int .i64 1] 3)) (.slice (some ⟨W.heap.size, 0, none⟩) 1 1) [1]) := fun W => gp W W.heap.size [1] rfl (by decide)
 have Vj : Hid (∀ W, Below w.heap.size w W → Sem.run Tryz.prog (loadCellsFrom ⟨b, 12, none⟩ 0 k #[]) W = .ok (ai R.aB).toArray W) := fun W hW => (h.kept hW).wk.nC lJ
 have Vk := List.filter_filter (p := aV R.aB) (q := fun j : Jb => decide (j.state ∈ [(1 : Int)])) (l := M.L)
 have hhit := KJ hid
 generalize hL1 : (M.L.filter fun j : Jb => decide (j.state ∈ [(1 : Int)])) = L1 at *
 generalize hL2 : L1.filter (aV R.aB) = L2 at *
 have hdr := fun (W : World) (u : Value) (hC : CW W c t d p v g a m (ah M)) (hu : aD ai 10 W u L2) => vT hC hI h1 hll ha hm u L2 _ hu Vk
 have hin' := fun (W : World) (hW : Below w.heap.size w W) (u : Value) (hu : aD enc1 1 W u [1]) => (hin W hW u hu)
 rw [show (ah M).J = M.L from rfl, hL1] at hin
 generalize ai R.aB = cJ at *
 replace hL1 := Lib.hid hL1
 replace hL2 := Lib.hid hL2
 replace Vk := Lib.hid Vk
 replace hhit := Lib.hid hhit
 clear h hin' hlen
 go_enter Tryz.func99, Tryz.ntmps99
 go_wp2_with fail
 refine Reg2.rd w 12 18 [[],[af],[af,ae],[af,ae,ae],[af,ae,ae,ae],[af,af,af,af,af],[af,af,af,af,af,ae],[af,af,af,af,af,ae,ae],[af,af,af,af,af,ae,ae,ae],[af,af,af,af,af,af,af,af,af],[af,af,af,af,af,ae,ae,ae,ae,ae],[af,ae,ae,ae,ae,ae,ae,ae,ae,ae,ae]] [0, 0, 0, 0, 1, 0, 0, 0, 1, 1, 1, 1] [.pure, .pure, .pure, .pure, .mU (.agg cJ.toArray), .pure, .pure, .pure, .mU (.pointer (some ⟨t, 0, none⟩)), .minor Nat 0 (fun k => .slice (some ⟨k, 0, none⟩) 1 1) (fun k W => aD enc1 1 W (.slice (some ⟨k, 0, none⟩) 1 1) [1]), .minor Value (.bool false) (fun x => x) (fun x W => aD ai 10 W x L1), .minor Value (.bool false) (fun x => x) (fun x W => aD ai 10 W x L2)] (by kernel_rfl) (by kernel_rfl) rfl rfl ⟨trivial, trivial, trivial, trivial, Reg2.tt, trivial, trivial, trivial, Reg2.tt, ⟨fun k a b he hp => hp.below he, fun k a b he hp => hp.below he⟩, ⟨fun k a b he hp => hp.below he, fun k a b he hp => hp.below he⟩, ⟨fun k a b he hp => hp.below he, fun k a b he hp => hp.below he⟩, trivial⟩ ⟨rfl, rfl, rfl, Nat.le_refl _, fun _ _ => rfl⟩ ?_
 dsimp only [Reg2.mk, List.zip, List.zipWith, List.take]
 repeat ((first
  | (refine' Reg2.ak _ (by rfl) (fun wz => ?_) ?_; rotate_left; (go_simp; first | rfl | rw [if_neg (by omega)]))
  | (refine Reg2.az (by rfl) (fun wz hI hF => ?_) (fun _ => ?_)
     ·unfold Reg2.One
      have d0 := Vj.out wz hI
      have c0 := (hS.out.cw.kept hI).c0
      go_wp2_with fail
      first | exact ⟨_, rfl, rfl, Reg2.Ext.refl _⟩ | exact ⟨_, rfl, ⟨(), rfl, trivial⟩, Reg2.Ext.refl _⟩)); simp only [Act.put, xA, xB, xC, xD, xE, id])
 refine Reg2.pm (fun wz hI hF => ?_) (fun r9 => ?_) (by rfl)
 ·have pa := hint.out wz
  go_wp2_with fail
  exact ⟨_, rfl, ⟨_, rfl, pa⟩, (Reg2.Ext.refl _).alloc (Nat.le_refl _) _⟩
 simp only [Act.put, xA, xB, xC, xD, xE, id]
 refine Reg2.pm (fun wz hI hF => ?_) (fun Bh => ?_) (by rfl)
 ·have hv := hF.2.2.2.2.1
  go_wp2_with (go_at_call 125; go_must (refine (hin wz hI _ hv).mono ?_); rintro e w' ⟨u, rfl, ho, hb5⟩)
  exact ⟨_, rfl, ⟨_, rfl, aD.iW ho au rfl rfl⟩, hb5⟩
 simp only [Act.put, xA, xB, xC, xD, xE, id]
 refine Reg2.pm (fun wz hI hF => ?_) (fun Vl => ?_) (by rfl)
 ·have hv := hF.2.2.2.2.2.2.2.2.2.1
  go_wp2_with (go_at_call 124; go_must (refine (hbe wz _ hv).mono ?_); rintro e w' ⟨u, rfl, ho, hb5⟩)
  exact ⟨_, rfl, ⟨_, rfl, ho⟩, hb5⟩
 simp only [Act.put, xA, xB, xC, xD, xE, id]
 refine Reg2.aA ?_
 intro w7 kr _ kH
 have hv7 := kH.2.2.2.2.2.2.2.2.2.2.2.1
 clear kH
 dsimp only [List.drop]
 have gG := hS.out.kept kr
 have hd7 := hdr w7 _ gG.cw hv7
 go_wp2_with fail
 go_at_call 123
 refine hd7.mono ?_
 clear hd7
 rintro e w8 (⟨ho, rfl, pE⟩ | ⟨i, ho, rfl, v8, g8, Vm, gF⟩)
 ·have hfin := gG.kept pE
  go_wp2_with fail
  go_ret
  exact .inl ⟨by unfold dS; rw [← hhit.out]; exact ho, rfl, v, g, hfin, WS.of_below (kr.trans (pE.mono kr.size))⟩
 ·have hfin := gG.core Vm gF
  go_wp2_with fail
  go_ret
  exact .inr ⟨i, by unfold dS; rw [← hhit.out]; exact ho, rfl, v8, g8, hfin, (WS.of_below kr).trans (WS.dA gF)⟩
end
end Go.Proofs.YtelnhablglomjaaGreat

namespace Go.Proofs.YtelnhablglomjaaGreat
open Go.RowKit Go.Lib
def gW (r : Rq) : Rq :=
 if r.kind = 1 then ⟨r.kind, 0, r.user, r.width, r.limit, r.prio, r.held, 0, 0⟩
 else if r.kind = 2 ∨ r.kind = 3 ∨ r.kind = 4 ∨ r.kind = 5 ∨ r.kind = 6 then ⟨r.kind, r.id, 0, 0, 0, 0, false, 0, 0⟩
 else if r.kind = 7 ∨ r.kind = 8 then ⟨r.kind, 0, 0, 0, 0, 0, false, r.node, 0⟩
 else if r.kind = 9 then ⟨r.kind, 0, 0, 0, 0, 0, false, 0, r.till⟩
 else ⟨r.kind, 0, 0, 0, 0, 0, false, 0, 0⟩
theorem QO (x2 x3 x4 x5 x6 : Int) (x7 : Bool) (x8 x9 : Int) (w : World) : Calls Tryz.prog 22 #[.agg #[.int .i64 1, .int .i64 x2, .int .i64 x3, .int .i64 x4, .int .i64 x5, .int .i64 x6, .bool x7, .int .i64 x8, .int .i64 x9]] w fun e w' => e = .returned (.agg #[.int .i64 1, .int .i64 0, .int .i64 x3, .int .i64 x4, .int .i64 x5, .int .i64 x6, .bool x7, .int .i64 0, .int .i64 0]) ∧ Below w.heap.size w w' := by
 go_enter Tryz.func22, Tryz.ntmps22
 go_wp2_with fail
 go_region
 all_goals (try go_wp2_with fail)
 refine bH rfl rfl rfl (show (World.drew _).heap[_]? = _ from dV (heap_alloc2_new w _ _)) Tryz.underlying24 rfl (by kernel_rfl) ⟨rfl, ?_⟩
 exact ((((Below.refl _ _).alloc (Nat.le_refl _) _).alloc (by simp) _).alloc (by simp; omega) _).drew
theorem QP (x2 x3 x4 x5 x6 : Int) (x7 : Bool) (x8 x9 : Int) (w : World) : Calls Tryz.prog 22 #[.agg #[.int .i64 2, .int .i64 x2, .int .i64 x3, .int .i64 x4, .int .i64 x5, .int .i64 x6, .bool x7, .int .i64 x8, .int .i64 x9]] w fun e w' => e = .returned (.agg #[.int .i64 2, .int .i64 x2, .int .i64 0, .int .i64 0, .int .i64 0, .int .i64 0, .bool false, .int .i64 0, .int .i64 0]) ∧ Below w.heap.size w w' := by
 go_enter Tryz.func22, Tryz.ntmps22
 go_wp2_with fail
 refine bH rfl rfl rfl (dV (heap_alloc2_new w _ _)) Tryz.underlying24 rfl (by kernel_rfl) ⟨rfl, ?_⟩
 exact ((((Below.refl _ _).alloc (Nat.le_refl _) _).alloc (by simp) _).alloc (by simp; omega) _)
theorem QQ (x2 x3 x4 x5 x6 : Int) (x7 : Bool) (x8 x9 : Int) (w : World) : Calls Tryz.prog 22 #[.agg #[.int .i64 3, .int .i64 x2, .int .i64 x3, .int .i64 x4, .int .i64 x5, .int .i64 x6, .bool x7, .int .i64 x8, .int .i64 x9]] w fun e w' => e = .returned (.agg #[.int .i64 3, .int .i64 x2, .int .i64 0, .int .i64 0, .int .i64 0, .int .i64 0, .bool false, .int .i64 0, .int .i64 0]) ∧ Below w.heap.size w w' := by
 go_enter Tryz.func22, Tryz.ntmps22
 go_wp2_with fail
 refine bH rfl rfl rfl (dV (heap_alloc2_new w _ _)) Tryz.underlying24 rfl (by kernel_rfl) ⟨rfl, ?_⟩
 exact ((((Below.refl _ _).alloc (Nat.le_refl _) _).alloc (by simp) _).alloc (by simp; omega) _)
theorem QR (x2 x3 x4 x5 x6 : Int) (x7 : Bool) (x8 x9 : Int) (w : World) : Calls Tryz.prog 22 #[.agg #[.int .i64 4, .int .i64 x2, .int .i64 x3, .int .i64 x4, .int .i64 x5, .int .i64 x6, .bool x7, .int .i64 x8, .int .i64 x9]] w fun e w' => e = .returned (.agg #[.int .i64 4, .int .i64 x2, .int .i64 0, .int .i64 0, .int .i64 0, .int .i64 0, .bool false, .int .i64 0, .int .i64 0]) ∧ Below w.heap.size w w' := by
 go_enter Tryz.func22, Tryz.ntmps22
 go_wp2_with fail
 refine bH rfl rfl rfl (dV (heap_alloc2_new w _ _)) Tryz.underlying24 rfl (by kernel_rfl) ⟨rfl, ?_⟩
 exact ((((Below.refl _ _).alloc (Nat.le_refl _) _).alloc (by simp) _).alloc (by simp; omega) _)
theorem QS (x2 x3 x4 x5 x6 : Int) (x7 : Bool) (x8 x9 : Int) (w : World) : Calls Tryz.prog 22 #[.agg #[.int .i64 5, .int .i64 x2, .int .i64 x3, .int .i64 x4, .int .i64 x5, .int .i64 x6, .bool x7, .int .i64 x8, .int .i64 x9]] w fun e w' => e = .returned (.agg #[.int .i64 5, .int .i64 x2, .int .i64 0, .int .i64 0, .int .i64 0, .int .i64 0, .bool false, .int .i64 0, .int .i64 0]) ∧ Below w.heap.size w w' := by
 go_enter Tryz.func22, Tryz.ntmps22
 go_wp2_with fail
 refine bH rfl rfl rfl (dV (heap_alloc2_new w _ _)) Tryz.underlying24 rfl (by kernel_rfl) ⟨rfl, ?_⟩
 exact ((((Below.refl _ _).alloc (Nat.le_refl _) _).alloc (by simp) _).alloc (by simp; omega) _)
theorem QT (x2 x3 x4 x5 x6 : Int) (x7 : Bool) (x8 x9 : Int) (w : World) : Calls Tryz.prog 22 #[.agg #[.int .i64 6, .int .i64 x2, .int .i64 x3, .int .i64 x4, .int .i64 x5, .int .i64 x6, .bool x7, .int .i64 x8, .int .i64 x9]] w fun e w' => e = .returned (.agg #[.int .i64 6, .int .i64 x2, .int .i64 0, .int .i64 0, .int .i64 0, .int .i64 0, .bool false, .int .i64 0, .int .i64 0]) ∧ Below w.heap.size w w' := by
 go_enter Tryz.func22, Tryz.ntmps22
 go_wp2_with fail
 refine bH rfl rfl rfl (dV (heap_alloc2_new w _ _)) Tryz.underlying24 rfl (by kernel_rfl) ⟨rfl, ?_⟩
 exact ((((Below.refl _ _).alloc (Nat.le_refl _) _).alloc (by simp) _).alloc (by simp; omega) _)
theorem QU (x2 x3 x4 x5 x6 : Int) (x7 : Bool) (x8 x9 : Int) (w : World) : Calls Tryz.prog 22 #[.agg #[.int .i64 7, .int .i64 x2, .int .i64 x3, .int .i64 x4, .int .i64 x5, .int .i64 x6, .bool x7, .int .i64 x8, .int .i64 x9]] w fun e w' => e = .returned (.agg #[.int .i64 7, .int .i64 0, .int .i64 0, .int .i64 0, .int .i64 0, .int .i64 0, .bool false, .int .i64 x8, .int .i64 0]) ∧ Below w.heap.size w w' := by
 go_enter Tryz.func22, Tryz.ntmps22
 go_wp2_with fail
 refine bH rfl rfl rfl (dV (heap_alloc2_new w _ _)) Tryz.underlying24 rfl (by kernel_rfl) ⟨rfl, ?_⟩
 exact ((((Below.refl _ _).alloc (Nat.le_refl _) _).alloc (by simp) _).alloc (by simp; omega) _)
theorem QV (x2 x3 x4 x5 x6 : Int) (x7 : Bool) (x8 x9 : Int) (w : World) : Calls Tryz.prog 22 #[.agg #[.int .i64 8, .int .i64 x2, .int .i64 x3, .int .i64 x4, .int .i64 x5, .int .i64 x6, .bool x7, .int .i64 x8, .int .i64 x9]] w fun e w' => e = .returned (.agg #[.int .i64 8, .int .i64 0, .int .i64 0, .int .i64 0, .int .i64 0, .int .i64 0, .bool false, .int .i64 x8, .int .i64 0]) ∧ Below w.heap.size w w' := by
 go_enter Tryz.func22, Tryz.ntmps22
 go_wp2_with fail
 refine bH rfl rfl rfl (dV (heap_alloc2_new w _ _)) Tryz.underlying24 rfl (by kernel_rfl) ⟨rfl, ?_⟩
 exact ((((Below.refl _ _).alloc (Nat.le_refl _) _).alloc (by simp) _).alloc (by simp; omega) _)
theorem QW (x2 x3 x4 x5 x6 : Int) (x7 : Bool) (x8 x9 : Int) (w : World) : Calls Tryz.prog 22 #[.agg #[.int .i64 9, .int .i64 x2, .int .i64 x3, .int .i64 x4, .int .i64 x5, .int .i64 x6, .bool x7, .int .i64 x8, .int .i64 x9]] w fun e w' => e = .returned (.agg #[.int .i64 9, .int .i64 0, .int .i64 0, .int .i64 0, .int .i64 0, .int .i64 0, .bool false, .int .i64 0, .int .i64 x9]) ∧ Below w.heap.size w w' := by
 go_enter Tryz.func22, Tryz.ntmps22
 go_wp2_with fail
 refine bH rfl rfl rfl (dV (heap_alloc2_new w _ _)) Tryz.underlying24 rfl (by kernel_rfl) ⟨rfl, ?_⟩
 exact ((((Below.refl _ _).alloc (Nat.le_refl _) _).alloc (by simp) _).alloc (by simp; omega) _)
theorem NM (x1 : Int) (x2 x3 x4 x5 x6 : Int) (x7 : Bool) (x8 x9 : Int) (w : World) (h1 : x1 ≠ 1) (h2 : x1 ≠ 2) (h3 : x1 ≠ 3) (h4 : x1 ≠ 4) (h5 : x1 ≠ 5) (h6 : x1 ≠ 6) (h7 : x1 ≠ 7) (h8 : x1 ≠ 8) (h9 : x1 ≠ 9) : Calls Tryz.prog 22 #[.agg #[.int .i64 x1, .int .i64 x2, .int .i64 x3, .int .i64 x4, .int .i64 x5, .int .i64 x6, .bool x7, .int .i64 x8, .int .i64 x9]] w fun e w' => e = .returned (.agg #[.int .i64 x1, .int .i64 0, .int .i64 0, .int .i64 0, .int .i64 0, .int .i64 0, .bool false, .int .i64 0, .int .i64 0]) ∧ Below w.heap.size w w' := by
 have t1 : (x1 == 1) = false := beq_eq_false_iff_ne.2 h1
 have t2 : (x1 == 2) = false := beq_eq_false_iff_ne.2 h2
 have t3 : (x1 == 3) = false := beq_eq_false_iff_ne.2 h3
 have t4 : (x1 == 4) = false := beq_eq_false_iff_ne.2 h4
 have t5 : (x1 == 5) = false := beq_eq_false_iff_ne.2 h5
 have t6 : (x1 == 6) = false := beq_eq_false_iff_ne.2 h6
 have t7 : (x1 == 7) = false := beq_eq_false_iff_ne.2 h7
 have t8 : (x1 == 8) = false := beq_eq_false_iff_ne.2 h8
 have t9 : (x1 == 9) = false := beq_eq_false_iff_ne.2 h9
 clear h1 h2 h3 h4 h5 h6 h7 h8 h9
 go_enter Tryz.func22, Tryz.ntmps22
 go_wp2_with fail
 refine bH rfl rfl rfl (dV (heap_alloc2_new w _ _)) Tryz.underlying24 rfl (by kernel_rfl) ⟨rfl, ?_⟩
 exact ((((Below.refl _ _).alloc (Nat.le_refl _) _).alloc (by simp) _).alloc (by simp; omega) _)
theorem Ec (r : Rq) (w : World) : Calls Tryz.prog 22 #[.agg (encR r).toArray] w fun e w' => e = .returned (.agg (encR (gW r)).toArray) ∧ Below w.heap.size w w' := by
 obtain ⟨x1, x2, x3, x4, x5, x6, x7, x8, x9⟩ := r
 by_cases h1 : x1 = 1
 ·subst h1
  exact QO x2 x3 x4 x5 x6 x7 x8 x9 w
 by_cases h2 : x1 = 2
 ·subst h2
  exact QP x2 x3 x4 x5 x6 x7 x8 x9 w
 by_cases h3 : x1 = 3
 ·subst h3
  exact QQ x2 x3 x4 x5 x6 x7 x8 x9 w
 by_cases h4 : x1 = 4
 ·subst h4
  exact QR x2 x3 x4 x5 x6 x7 x8 x9 w
 by_cases h5 : x1 = 5
 ·subst h5
  exact QS x2 x3 x4 x5 x6 x7 x8 x9 w
 by_cases h6 : x1 = 6
 ·subst h6
  exact QT x2 x3 x4 x5 x6 x7 x8 x9 w
 by_cases h7 : x1 = 7
 ·subst h7
  exact QU x2 x3 x4 x5 x6 x7 x8 x9 w
 by_cases h8 : x1 = 8
 ·subst h8
  exact QV x2 x3 x4 x5 x6 x7 x8 x9 w
 by_cases h9 : x1 = 9
 ·subst h9
  exact QW x2 x3 x4 x5 x6 x7 x8 x9 w
 have e : gW ⟨x1, x2, x3, x4, x5, x6, x7, x8, x9⟩ = ⟨x1, 0, 0, 0, 0, 0, false, 0, 0⟩ := by simp [gW, h1, h2, h3, h4, h5, h6, h7, h8, h9]
 rw [e]
 exact NM x1 x2 x3 x4 x5 x6 x7 x8 x9 w h1 h2 h3 h4 h5 h6 h7 h8 h9
end Go.Proofs.YtelnhablglomjaaGreat

namespace Go.Proofs.YtelnhablglomjaaGreat
open Go.RowKit Go.Lib Go.Sort
def ng (n : Int) (r : Rq) : Int := if r.kind = 1 ∧ n < r.width ∧ r.width ≤ 64 ∧ aQ r ≠ 1 then 9 else 0
section
variable {w : World} {c t d p g a : Nat} {v : Value} {m : Int} {P : Pg}
theorem IC (h : CW w c t d p v g a m P) (hl : iC P.T) (r : Rq) (hk : r.kind ≠ 1) : Calls Tryz.prog 97 #[.pointer (some ⟨c, 0, none⟩), .agg (encR r).toArray] w fun e w' => e = .returned (.int .i64 0) ∧ Below w.heap.size w w' := by
 have zR := jY
 obtain ⟨k9, bO⟩ : ∃ k, k = 9 := ⟨_, rfl⟩
 rw [← bO] at zR
 have hk0 : ¬ k9 = 0 := by omega
 have lR := gI r
 rw [← bO] at lR
 replace bO := Lib.hid bO
 obtain ⟨wA, aJ⟩ : ∃ wA, wA = w.alloc (.cells (encR r).toArray 24) := ⟨_, rfl⟩
 have bR : Hid (Below w.heap.size w wA) := by show Below _ _ _; rw [aJ]; exact (Below.refl _ _).alloc (Nat.le_refl _) _
 have jq : Hid (wA.heap[w.heap.size]? = some (.cells (encR r).toArray 24 (0, 0))) := by show _ = _; rw [aJ]; exact heap_alloc_new w _
 have iP := Lib.hid (h.kept bR.out)
 have hno := fun (W : World) (hW : Below wA.heap.size wA W) => lX (iP.out.kept hW)
 have hsz := fun (W : World) (hW : Below wA.heap.size wA W) => qL (iP.out.kept hW).nodes hl
 have NN := fun (W : World) => nX r W
 have e0 : (encR r)[0]? = some (.int .i64 r.kind) := rfl
 have e3 : (encR r)[3]? = some (.int .i64 r.width) := rfl
 generalize r.kind = rk at *
 generalize r.width = rw at *
 generalize aQ r = rf at *
 generalize encR r = cR at *
 generalize (P.T.length : Int) = nl at *
 have d1 : (rk != 1) = true := by simp [hk]
 clear h
 go_enter Tryz.func97, Tryz.ntmps97
 go_wp2_with fail
 rw [← aJ]
 replace aJ := Lib.hid aJ
 refine Reg2.ro wA 20 30 [.p 0, .m 1, .p 3, .p 7, .m 15, .p 31, .p 63, .p 127, .p 255, .m 511, .p 1023, .p 2047, .p 4095, .p 8191, .m 16383, .p 8191, .p 40959, .p 106495, .m 237567, .m 499711] [.bool false, .int .i64 rk, .int .i64 rw, .int .i64 rw, .pointer (some ⟨d, 0, none⟩), .int .i64 nl] (by kernel_rfl) (by kernel_rfl) rfl rfl ⟨rfl, rfl, rfl, Nat.le_refl _, fun _ _ => rfl⟩ ?_
 dsimp only [Reg2.gM]
 repeat (refine' Reg2.ak _ (by rfl) (fun wz => ?_) ?_; rotate_left; (go_simp; first | rfl | rw [if_neg (by omega)]); simp only [Act.put, xA, xB, xC, xD, xE, id])
 refine Reg2.pm (fun wz hI hF => ?_) (fun r1 => ?_) (by rfl)
 ·go_wp2_with (go_at_call 41; go_must (refine (hno wz hI).mono ?_); rintro e w' ⟨rfl, rfl⟩)
  first | exact ⟨_, rfl, rfl, Reg2.Ext.refl _⟩ | exact ⟨_, rfl, ⟨(), rfl, trivial⟩, Reg2.Ext.refl _⟩
 simp only [Act.put, xA, xB, xC, xD, xE, id]
 repeat ((first
  | (refine' Reg2.ak _ (by rfl) (fun wz => ?_) ?_; rotate_left; (go_simp; first | rfl | rw [if_neg (by omega)]))
  | refine Reg2.uA (by rfl) ?_
  | refine Reg2.lD (by rfl) ?_
  | (refine Reg2.az (by rfl) (fun wz hI hF => ?_) (fun _ => ?_)
     ·unfold Reg2.One
      have q0 : wz.cell? ⟨w.heap.size, 0, none⟩ = some (.int .i64 rk) := by simp [World.cell?, (hI.block _ (aC jq.out)).trans jq.out, e0]
      go_wp2_with fail
      first | exact ⟨_, rfl, rfl, Reg2.Ext.refl _⟩ | exact ⟨_, rfl, ⟨(), rfl, trivial⟩, Reg2.Ext.refl _⟩)); simp only [Act.put, xA, xB, xC, xD, xE, id])
 refine Reg2.aA ?_
 intro w7 kr _ kH
 clear kH
 dsimp only [List.drop]
 have jZ := bR.out.trans (kr.mono bR.out.size)
 go_wp2_with fail
 go_ret
 exact ⟨rfl, jZ⟩
theorem IE (h : CW w c t d p v g a m P) (hl : iC P.T) (r : Rq) (hk : r.kind = 1) (hw : 64 < r.width) : Calls Tryz.prog 97 #[.pointer (some ⟨c, 0, none⟩), .agg (encR r).toArray] w fun e w' => e = .returned (.int .i64 0) ∧ Below w.heap.size w w' := by
 have zR := jY
 obtain ⟨k9, bO⟩ : ∃ k, k = 9 := ⟨_, rfl⟩
 rw [← bO] at zR
 have hk0 : ¬ k9 = 0 := by omega
 have lR := gI r
 rw [← bO] at lR
 replace bO := Lib.hid bO
 obtain ⟨wA, aJ⟩ : ∃ wA, wA = w.alloc (.cells (encR r).toArray 24) := ⟨_, rfl⟩
 have bR : Hid (Below w.heap.size w wA) := by show Below _ _ _; rw [aJ]; exact (Below.refl _ _).alloc (Nat.le_refl _) _
 have jq : Hid (wA.heap[w.heap.size]? = some (.cells (encR r).toArray 24 (0, 0))) := by show _ = _; rw [aJ]; exact heap_alloc_new w _
 have iP := Lib.hid (h.kept bR.out)
 have hno := fun (W : World) (hW : Below wA.heap.size wA W) => lX (iP.out.kept hW)
 have hsz := fun (W : World) (hW : Below wA.heap.size wA W) => qL (iP.out.kept hW).nodes hl
 have NN := fun (W : World) => nX r W
 have e0 : (encR r)[0]? = some (.int .i64 r.kind) := rfl
 have e3 : (encR r)[3]? = some (.int .i64 r.width) := rfl
 generalize r.kind = rk at *
 generalize r.width = rw at *
 generalize aQ r = rf at *
 generalize encR r = cR at *
 generalize (P.T.length : Int) = nl at *
 have d1 : (rk != 1) = false := by simp [hk]
 replace hk := Lib.hid hk
 have d2 : decide (rw > 64) = true := decide_eq_true hw
 clear h
 go_enter Tryz.func97, Tryz.ntmps97
 go_wp2_with fail
 rw [← aJ]
 replace aJ := Lib.hid aJ
 refine Reg2.ro wA 20 30 [.p 0, .m 1, .p 3, .p 7, .m 15, .p 31, .p 63, .p 127, .p 255, .m 511, .p 1023, .p 2047, .p 4095, .p 8191, .m 16383, .p 8191, .p 40959, .p 106495, .m 237567, .m 499711] [.bool false, .int .i64 rk, .int .i64 rw, .int .i64 rw, .pointer (some ⟨d, 0, none⟩), .int .i64 nl] (by kernel_rfl) (by kernel_rfl) rfl rfl ⟨rfl, rfl, rfl, Nat.le_refl _, fun _ _ => rfl⟩ ?_
 dsimp only [Reg2.gM]
 repeat (refine' Reg2.ak _ (by rfl) (fun wz => ?_) ?_; rotate_left; (go_simp; first | rfl | rw [if_neg (by omega)]); simp only [Act.put, xA, xB, xC, xD, xE, id])
 refine Reg2.pm (fun wz hI hF => ?_) (fun r1 => ?_) (by rfl)
 ·go_wp2_with (go_at_call 41; go_must (refine (hno wz hI).mono ?_); rintro e w' ⟨rfl, rfl⟩)
  first | exact ⟨_, rfl, rfl, Reg2.Ext.refl _⟩ | exact ⟨_, rfl, ⟨(), rfl, trivial⟩, Reg2.Ext.refl _⟩
 simp only [Act.put, xA, xB, xC, xD, xE, id]
 repeat ((first
  | (refine' Reg2.ak _ (by rfl) (fun wz => ?_) ?_; rotate_left; (go_simp; first | rfl | rw [if_neg (by omega)]))
  | refine Reg2.uA (by rfl) ?_
  | refine Reg2.lD (by rfl) ?_
  | (refine Reg2.az (by rfl) (fun wz hI hF => ?_) (fun _ => ?_)
     ·unfold Reg2.One
      have q0 : wz.cell? ⟨w.heap.size, 0, none⟩ = some (.int .i64 rk) := by simp [World.cell?, (hI.block _ (aC jq.out)).trans jq.out, e0]
      have D9 : wz.cell? ⟨w.heap.size, 3, none⟩ = some (.int .i64 rw) := by simp [World.cell?, (hI.block _ (aC jq.out)).trans jq.out, e3]
      go_wp2_with fail
      first | exact ⟨_, rfl, rfl, Reg2.Ext.refl _⟩ | exact ⟨_, rfl, ⟨(), rfl, trivial⟩, Reg2.Ext.refl _⟩)); simp only [Act.put, xA, xB, xC, xD, xE, id])
 refine Reg2.aA ?_
 intro w7 kr _ kH
 clear kH
 dsimp only [List.drop]
 have jZ := bR.out.trans (kr.mono bR.out.size)
 go_wp2_with fail
 go_ret
 exact ⟨rfl, jZ⟩
theorem IG (h : CW w c t d p v g a m P) (hl : iC P.T) (r : Rq) (hk : r.kind = 1) (hw : r.width ≤ 64) (hn : r.width ≤ P.T.length) : Calls Tryz.prog 97 #[.pointer (some ⟨c, 0, none⟩), .agg (encR r).toArray] w fun e w' => e = .returned (.int .i64 0) ∧ Below w.heap.size w w' := by
 have zR := jY
 obtain ⟨k9, bO⟩ : ∃ k, k = 9 := ⟨_, rfl⟩
 rw [← bO] at zR
 have hk0 : ¬ k9 = 0 := by omega
 have lR := gI r
 rw [← bO] at lR
 replace bO := Lib.hid bO
 obtain ⟨wA, aJ⟩ : ∃ wA, wA = w.alloc (.cells (encR r).toArray 24) := ⟨_, rfl⟩
 have bR : Hid (Below w.heap.size w wA) := by show Below _ _ _; rw [aJ]; exact (Below.refl _ _).alloc (Nat.le_refl _) _
 have jq : Hid (wA.heap[w.heap.size]? = some (.cells (encR r).toArray 24 (0, 0))) := by show _ = _; rw [aJ]; exact heap_alloc_new w _
 have iP := Lib.hid (h.kept bR.out)
 have hno := fun (W : World) (hW : Below wA.heap.size wA W) => lX (iP.out.kept hW)
 have hsz := fun (W : World) (hW : Below wA.heap.size wA W) => qL (iP.out.kept hW).nodes hl
 have NN := fun (W : World) => nX r W
 have e0 : (encR r)[0]? = some (.int .i64 r.kind) := rfl
 have e3 : (encR r)[3]? = some (.int .i64 r.width) := rfl
 generalize r.kind = rk at *
 generalize r.width = rw at *
 generalize aQ r = rf at *
 generalize encR r = cR at *
 generalize (P.T.length : Int) = nl at *
 have d1 : (rk != 1) = false := by simp [hk]
 replace hk := Lib.hid hk
 have d2 : decide (rw > 64) = false := decide_eq_false (by omega)
 have d3 : decide (rw ≤ nl) = true := decide_eq_true hn
 clear h
 go_enter Tryz.func97, Tryz.ntmps97
 go_wp2_with fail
 rw [← aJ]
 replace aJ := Lib.hid aJ
 refine Reg2.ro wA 20 30 [.p 0, .m 1, .p 3, .p 7, .m 15, .p 31, .p 63, .p 127, .p 255, .m 511, .p 1023, .p 2047, .p 4095, .p 8191, .m 16383, .p 8191, .p 40959, .p 106495, .m 237567, .m 499711] [.bool false, .int .i64 rk, .int .i64 rw, .int .i64 rw, .pointer (some ⟨d, 0, none⟩), .int .i64 nl] (by kernel_rfl) (by kernel_rfl) rfl rfl ⟨rfl, rfl, rfl, Nat.le_refl _, fun _ _ => rfl⟩ ?_
 dsimp only [Reg2.gM]
 repeat (refine' Reg2.ak _ (by rfl) (fun wz => ?_) ?_; rotate_left; (go_simp; first | rfl | rw [if_neg (by omega)]); simp only [Act.put, xA, xB, xC, xD, xE, id])
 refine Reg2.pm (fun wz hI hF => ?_) (fun r1 => ?_) (by rfl)
 ·go_wp2_with (go_at_call 41; go_must (refine (hno wz hI).mono ?_); rintro e w' ⟨rfl, rfl⟩)
  first | exact ⟨_, rfl, rfl, Reg2.Ext.refl _⟩ | exact ⟨_, rfl, ⟨(), rfl, trivial⟩, Reg2.Ext.refl _⟩
 simp only [Act.put, xA, xB, xC, xD, xE, id]
 repeat ((first
  | (refine' Reg2.ak _ (by rfl) (fun wz => ?_) ?_; rotate_left; (go_simp; first | rfl | rw [if_neg (by omega)]))
  | (refine Reg2.az (by rfl) (fun wz hI hF => ?_) (fun _ => ?_)
     ·unfold Reg2.One
      have q0 : wz.cell? ⟨w.heap.size, 0, none⟩ = some (.int .i64 rk) := by simp [World.cell?, (hI.block _ (aC jq.out)).trans jq.out, e0]
      have D9 : wz.cell? ⟨w.heap.size, 3, none⟩ = some (.int .i64 rw) := by simp [World.cell?, (hI.block _ (aC jq.out)).trans jq.out, e3]
      have c0 := (iP.out.kept hI).c1
      go_wp2_with fail
      first | exact ⟨_, rfl, rfl, Reg2.Ext.refl _⟩ | exact ⟨_, rfl, ⟨(), rfl, trivial⟩, Reg2.Ext.refl _⟩)); simp only [Act.put, xA, xB, xC, xD, xE, id])
 refine Reg2.pm (fun wz hI hF => ?_) (fun WO => ?_) (by rfl)
 ·go_wp2_with (go_at_call 119; go_must (refine (hsz wz hI).mono ?_); rintro e w' ⟨rfl, rfl⟩)
  first | exact ⟨_, rfl, rfl, Reg2.Ext.refl _⟩ | exact ⟨_, rfl, ⟨(), rfl, trivial⟩, Reg2.Ext.refl _⟩
 simp only [Act.put, xA, xB, xC, xD, xE, id]
 refine Reg2.aA ?_
 intro w7 kr _ kH
 clear kH
 dsimp only [List.drop]
 have jZ := bR.out.trans (kr.mono bR.out.size)
 go_wp2_with fail
 go_ret
 exact ⟨rfl, jZ⟩
theorem KL (h : CW w c t d p v g a m P) (hl : iC P.T) (r : Rq) (hk : r.kind = 1) (hw : r.width ≤ 64) (hn : ¬ r.width ≤ P.T.length) (hrf : aQ r = 1) : Calls Tryz.prog 97 #[.pointer (some ⟨c, 0, none⟩), .agg (encR r).toArray] w fun e w' => e = .returned (.int .i64 0) ∧ Below w.heap.size w w' := by
 have zR := jY
 obtain ⟨k9, bO⟩ : ∃ k, k = 9 := ⟨_, rfl⟩
 rw [← bO] at zR
 have hk0 : ¬ k9 = 0 := by omega
 have lR := gI r
 rw [← bO] at lR
 replace bO := Lib.hid bO
 obtain ⟨wA, aJ⟩ : ∃ wA, wA = w.alloc (.cells (encR r).toArray 24) := ⟨_, rfl⟩
 have bR : Hid (Below w.heap.size w wA) := by show Below _ _ _; rw [aJ]; exact (Below.refl _ _).alloc (Nat.le_refl _) _
 have jq : Hid (wA.heap[w.heap.size]? = some (.cells (encR r).toArray 24 (0, 0))) := by show _ = _; rw [aJ]; exact heap_alloc_new w _
 have iP := Lib.hid (h.kept bR.out)
 have hno := fun (W : World) (hW : Below wA.heap.size wA W) => lX (iP.out.kept hW)
 have hsz := fun (W : World) (hW : Below wA.heap.size wA W) => qL (iP.out.kept hW).nodes hl
 have NN := fun (W : World) => nX r W
 have e0 : (encR r)[0]? = some (.int .i64 r.kind) := rfl
 have e3 : (encR r)[3]? = some (.int .i64 r.width) := rfl
 generalize r.kind = rk at *
 generalize r.width = rw at *
 generalize aQ r = rf at *
 generalize encR r = cR at *
 generalize (P.T.length : Int) = nl at *
 have d1 : (rk != 1) = false := by simp [hk]
 replace hk := Lib.hid hk
 have d2 : decide (rw > 64) = false := decide_eq_false (by omega)
 have d3 : decide (rw ≤ nl) = false := decide_eq_false hn
 subst hrf
 clear h
 go_enter Tryz.func97, Tryz.ntmps97
 go_wp2_with fail
 rw [← aJ]
 replace aJ := Lib.hid aJ
 refine Reg2.ro wA 20 30 [.p 0, .m 1, .p 3, .p 7, .m 15, .p 31, .p 63, .p 127, .p 255, .m 511, .p 1023, .p 2047, .p 4095, .p 8191, .m 16383, .p 8191, .p 40959, .p 106495, .m 237567, .m 499711] [.bool false, .int .i64 rk, .int .i64 rw, .int .i64 rw, .pointer (some ⟨d, 0, none⟩), .int .i64 nl] (by kernel_rfl) (by kernel_rfl) rfl rfl ⟨rfl, rfl, rfl, Nat.le_refl _, fun _ _ => rfl⟩ ?_
 dsimp only [Reg2.gM]
 repeat (refine' Reg2.ak _ (by rfl) (fun wz => ?_) ?_; rotate_left; (go_simp; first | rfl | rw [if_neg (by omega)]); simp only [Act.put, xA, xB, xC, xD, xE, id])
 refine Reg2.pm (fun wz hI hF => ?_) (fun r1 => ?_) (by rfl)
 ·go_wp2_with (go_at_call 41; go_must (refine (hno wz hI).mono ?_); rintro e w' ⟨rfl, rfl⟩)
  first | exact ⟨_, rfl, rfl, Reg2.Ext.refl _⟩ | exact ⟨_, rfl, ⟨(), rfl, trivial⟩, Reg2.Ext.refl _⟩
 simp only [Act.put, xA, xB, xC, xD, xE, id]
 repeat ((first
  | (refine' Reg2.ak _ (by rfl) (fun wz => ?_) ?_; rotate_left; (go_simp; first | rfl | rw [if_neg (by omega)]))
  | (refine Reg2.az (by rfl) (fun wz hI hF => ?_) (fun _ => ?_)
     ·unfold Reg2.One
      have q0 : wz.cell? ⟨w.heap.size, 0, none⟩ = some (.int .i64 rk) := by simp [World.cell?, (hI.block _ (aC jq.out)).trans jq.out, e0]
      have D9 : wz.cell? ⟨w.heap.size, 3, none⟩ = some (.int .i64 rw) := by simp [World.cell?, (hI.block _ (aC jq.out)).trans jq.out, e3]
      have c0 := (iP.out.kept hI).c1
      go_wp2_with fail
      first | exact ⟨_, rfl, rfl, Reg2.Ext.refl _⟩ | exact ⟨_, rfl, ⟨(), rfl, trivial⟩, Reg2.Ext.refl _⟩)); simp only [Act.put, xA, xB, xC, xD, xE, id])
 refine Reg2.pm (fun wz hI hF => ?_) (fun WO => ?_) (by rfl)
 ·go_wp2_with (go_at_call 119; go_must (refine (hsz wz hI).mono ?_); rintro e w' ⟨rfl, rfl⟩)
  first | exact ⟨_, rfl, rfl, Reg2.Ext.refl _⟩ | exact ⟨_, rfl, ⟨(), rfl, trivial⟩, Reg2.Ext.refl _⟩
 simp only [Act.put, xA, xB, xC, xD, xE, id]
 refine Reg2.aA ?_
 intro w7 kr _ kH
 clear kH
 dsimp only [List.drop]
 have jZ := bR.out.trans (kr.mono bR.out.size)
 have zV : w7.heap[w.heap.size]? = some (.cells cR.toArray 24 (0, 0)) := (kr.block _ (aC jq.out)).trans jq.out
 have TB := eZ zV lR
 have Vn := NN w7
 go_wp2_with (go_at_call 120; go_must (refine Vn.mono ?_); rintro e w8 ⟨rfl, ob, rfl⟩)
 go_ret
 exact ⟨rfl, jZ.alloc jZ.size _⟩
theorem II (h : CW w c t d p v g a m P) (hl : iC P.T) (r : Rq) (hk : r.kind = 1) (hw : r.width ≤ 64) (hn : ¬ r.width ≤ P.T.length) (hrf : ¬ aQ r = 1) : Calls Tryz.prog 97 #[.pointer (some ⟨c, 0, none⟩), .agg (encR r).toArray] w fun e w' => e = .returned (.int .i64 9) ∧ Below w.heap.size w w' := by
 have zR := jY
 obtain ⟨k9, bO⟩ : ∃ k, k = 9 := ⟨_, rfl⟩
 rw [← bO] at zR
 have hk0 : ¬ k9 = 0 := by omega
 have lR := gI r
 rw [← bO] at lR
 replace bO := Lib.hid bO
 obtain ⟨wA, aJ⟩ : ∃ wA, wA = w.alloc (.cells (encR r).toArray 24) := ⟨_, rfl⟩
 have bR : Hid (Below w.heap.size w wA) := by show Below _ _ _; rw [aJ]; exact (Below.refl _ _).alloc (Nat.le_refl _) _
 have jq : Hid (wA.heap[w.heap.size]? = some (.cells (encR r).toArray 24 (0, 0))) := by show _ = _; rw [aJ]; exact heap_alloc_new w _
 have iP := Lib.hid (h.kept bR.out)
 have hno := fun (W : World) (hW : Below wA.heap.size wA W) => lX (iP.out.kept hW)
 have hsz := fun (W : World) (hW : Below wA.heap.size wA W) => qL (iP.out.kept hW).nodes hl
 have NN := fun (W : World) => nX r W
 have e0 : (encR r)[0]? = some (.int .i64 r.kind) := rfl
 have e3 : (encR r)[3]? = some (.int .i64 r.width) := rfl
 generalize r.kind = rk at *
 generalize r.width = rw at *
 generalize aQ r = rf at *
 generalize encR r = cR at *
 generalize (P.T.length : Int) = nl at *
 have d1 : (rk != 1) = false := by simp [hk]
 replace hk := Lib.hid hk
 have d2 : decide (rw > 64) = false := decide_eq_false (by omega)
 have d3 : decide (rw ≤ nl) = false := decide_eq_false hn
 have d5 : (rf == 1) = false := by simp [hrf]
 clear h
 go_enter Tryz.func97, Tryz.ntmps97
 go_wp2_with fail
 rw [← aJ]
 replace aJ := Lib.hid aJ
 refine Reg2.ro wA 20 30 [.p 0, .m 1, .p 3, .p 7, .m 15, .p 31, .p 63, .p 127, .p 255, .m 511, .p 1023, .p 2047, .p 4095, .p 8191, .m 16383, .p 8191, .p 40959, .p 106495, .m 237567, .m 499711] [.bool false, .int .i64 rk, .int .i64 rw, .int .i64 rw, .pointer (some ⟨d, 0, none⟩), .int .i64 nl] (by kernel_rfl) (by kernel_rfl) rfl rfl ⟨rfl, rfl, rfl, Nat.le_refl _, fun _ _ => rfl⟩ ?_
 dsimp only [Reg2.gM]
 repeat (refine' Reg2.ak _ (by rfl) (fun wz => ?_) ?_; rotate_left; (go_simp; first | rfl | rw [if_neg (by omega)]); simp only [Act.put, xA, xB, xC, xD, xE, id])
 refine Reg2.pm (fun wz hI hF => ?_) (fun r1 => ?_) (by rfl)
 ·go_wp2_with (go_at_call 41; go_must (refine (hno wz hI).mono ?_); rintro e w' ⟨rfl, rfl⟩)
  first | exact ⟨_, rfl, rfl, Reg2.Ext.refl _⟩ | exact ⟨_, rfl, ⟨(), rfl, trivial⟩, Reg2.Ext.refl _⟩
 simp only [Act.put, xA, xB, xC, xD, xE, id]
 repeat ((first
  | (refine' Reg2.ak _ (by rfl) (fun wz => ?_) ?_; rotate_left; (go_simp; first | rfl | rw [if_neg (by omega)]))
  | (refine Reg2.az (by rfl) (fun wz hI hF => ?_) (fun _ => ?_)
     ·unfold Reg2.One
      have q0 : wz.cell? ⟨w.heap.size, 0, none⟩ = some (.int .i64 rk) := by simp [World.cell?, (hI.block _ (aC jq.out)).trans jq.out, e0]
      have D9 : wz.cell? ⟨w.heap.size, 3, none⟩ = some (.int .i64 rw) := by simp [World.cell?, (hI.block _ (aC jq.out)).trans jq.out, e3]
      have c0 := (iP.out.kept hI).c1
      go_wp2_with fail
      first | exact ⟨_, rfl, rfl, Reg2.Ext.refl _⟩ | exact ⟨_, rfl, ⟨(), rfl, trivial⟩, Reg2.Ext.refl _⟩)); simp only [Act.put, xA, xB, xC, xD, xE, id])
 refine Reg2.pm (fun wz hI hF => ?_) (fun WO => ?_) (by rfl)
 ·go_wp2_with (go_at_call 119; go_must (refine (hsz wz hI).mono ?_); rintro e w' ⟨rfl, rfl⟩)
  first | exact ⟨_, rfl, rfl, Reg2.Ext.refl _⟩ | exact ⟨_, rfl, ⟨(), rfl, trivial⟩, Reg2.Ext.refl _⟩
 simp only [Act.put, xA, xB, xC, xD, xE, id]
 refine Reg2.aA ?_
 intro w7 kr _ kH
 clear kH
 dsimp only [List.drop]
 have jZ := bR.out.trans (kr.mono bR.out.size)
 have zV : w7.heap[w.heap.size]? = some (.cells cR.toArray 24 (0, 0)) := (kr.block _ (aC jq.out)).trans jq.out
 have TB := eZ zV lR
 have Vn := NN w7
 go_wp2_with (go_at_call 120; go_must (refine Vn.mono ?_); rintro e w8 ⟨rfl, ob, rfl⟩)
 go_ret
 exact ⟨rfl, jZ.alloc jZ.size _⟩
theorem uN (h : CW w c t d p v g a m P) (hl : iC P.T) (r : Rq) : Calls Tryz.prog 97 #[.pointer (some ⟨c, 0, none⟩), .agg (encR r).toArray] w fun e w' => e = .returned (.int .i64 (ng P.T.length r)) ∧ Below w.heap.size w w' := by
 unfold ng
 by_cases h1 : r.kind = 1
 ·by_cases h2 : r.width ≤ 64
  ·by_cases h3 : r.width ≤ P.T.length
   ·rw [if_neg (by omega)]; exact IG h hl r h1 h2 h3
   ·by_cases h4 : aQ r = 1
    ·rw [if_neg (by simp [h4])]; exact KL h hl r h1 h2 h3 h4
    ·rw [if_pos ⟨h1, by omega, h2, h4⟩]; exact II h hl r h1 h2 h3 h4
  ·rw [if_neg (by omega)]; exact IE h hl r h1 (by omega)
 ·rw [if_neg (by simp [h1])]; exact IC h hl r h1
end
end Go.Proofs.YtelnhablglomjaaGreat

namespace Go.Proofs.YtelnhablglomjaaGreat
open Go.RowKit Go.Lib Go.Sort
def gV (w : World) (b c t d p : Nat) (v : Value) (g a : Nat) (m : Int) (R : Wk) (P : Pg) (W : World) : Prop := ∃ v' g', SW W b c t d p v' g' a m R P ∧ WS w W b c t d p v g v' g'
theorem gV.ext {w : World} {b c t d p g a : Nat} {v : Value} {m : Int} {R : Wk} {P : Pg} : ∀ (x y : World), Reg2.Ext x y → gV w b c t d p v g a m R P x → gV w b c t d p v g a m R P y := by
 rintro x y h ⟨v', g', h1, h2⟩
 exact ⟨v', g', h1.kept h, h2.trans (WS.of_below h)⟩
def kz (e : Int) : Ry := ⟨e, 0, 0, 0, 0, 0, 0, 0, 0⟩
def toW (r : Rq) : Rw := ⟨r.kind, r.id, r.user, r.width, r.limit, r.prio, r.held, r.node, r.till⟩
theorem Ed {M : Md} (x : Jb) (h1 : x.st ≠ 3) (h2 : aj x = false) : ah { M with L := M.L ++ [x] } = { ah M with J := M.L ++ [x] } := by
 have e1 : cZ { M with L := M.L ++ [x] } = cZ M := by
  refine pq (by rw [bC, bC]) fun n hn => ?_
  rw [df, df]
  unfold aR
  rw [show ({ M with L := M.L ++ [x] } : Md).L = M.L ++ [x] from rfl, wV M.L x _ (by unfold aH; simp [h1])]
 have e2 : (fun t => ax { M with L := M.L ++ [x] } t 0) = fun t => ax M t 0 := funext fun t => AJ x h1 h2 t 0
 unfold ah
 rw [e1, e2]
section
variable {w : World} {b c t d p g a : Nat} {v : Value} {m : Int} {M : Md} {R : Wk}
theorem CQ (h : SW w b c t d p v g a m R (ah M)) (hk : PK (ah M)) (hw : ng M.dr.length R.ag = 9) :
 Calls Tryz.prog 83 #[.pointer (some ⟨b, 0, none⟩), .pointer (some ⟨c, 0, none⟩)] w (ay w b c t d p v g a m .nilFunc { R with rep := kz 9, ok := false } (ah M)) := by
 have zR := jY
 have zJ := bI
 obtain ⟨k9, bO⟩ : ∃ k, k = 9 := ⟨_, rfl⟩
 obtain ⟨k, hkk⟩ : ∃ k, k = 10 := ⟨_, rfl⟩
 rw [← bO] at zR
 rw [← hkk] at zJ
 have hk0 : ¬ k9 = 0 := by omega
 have hk1 : ¬ k = 0 := by omega
 have lR := gI R.ag
 rw [← bO] at lR
 replace bO := Lib.hid bO
 replace hkk := Lib.hid hkk
 have hS := Lib.hid h
 have qO := h.wk.nA lR
 have NP : Hid (∀ W, Below w.heap.size w W → Sem.run Tryz.prog (loadCellsFrom ⟨b, 0, none⟩ 0 k9 #[]) W = .ok (encR R.ag).toArray W) := fun W hW => (h.kept hW).wk.nA lR
 have rP := uN h.cw hk.rH R.ag
 have hsub := fun (W : World) (hW : Below w.heap.size w W) => pU (h.kept hW).cw hk R.ag
 have hn : (ah M).T.length = M.dr.length := bC
 rw [hn] at rP
 replace hn := Lib.hid hn
 generalize encR R.ag = cR at *
 rw [hw] at rP
 clear h hsub
 go_enter Tryz.func83, Tryz.ntmps83
 go_wp2_with fail
 go_at_call 97
 refine rP.mono ?_
 clear rP qO
 rintro e w1 ⟨rfl, hb1⟩
 have hS1 := hS.out.kept hb1
 have hf := iD hS1.wk 9
 go_wp2_with (go_at_call 42; go_must (refine hf.mono ?_); rintro e w9 ⟨rfl, kC, QX⟩)
 go_ret
 exact ⟨rfl, v, g, hS1.work kC QX, (WS.of_below hb1).trans (WS.bD QX)⟩
theorem submit_bad (h : SW w b c t d p v g a m R (ah M)) (hk : PK (ah M)) (hw : ng M.dr.length R.ag = 0) (e0 : Int) (he0 : e0 ≠ 0) (hE : iT M.L R.ag = e0) :
 Calls Tryz.prog 83 #[.pointer (some ⟨b, 0, none⟩), .pointer (some ⟨c, 0, none⟩)] w (ay w b c t d p v g a m .nilFunc { R with rep := kz e0, ok := false } (ah M)) := by
 have zR := jY
 have zJ := bI
 obtain ⟨k9, bO⟩ : ∃ k, k = 9 := ⟨_, rfl⟩
 obtain ⟨k, hkk⟩ : ∃ k, k = 10 := ⟨_, rfl⟩
 rw [← bO] at zR
 rw [← hkk] at zJ
 have hk0 : ¬ k9 = 0 := by omega
 have hk1 : ¬ k = 0 := by omega
 have lR := gI R.ag
 rw [← bO] at lR
 replace bO := Lib.hid bO
 replace hkk := Lib.hid hkk
 have hS := Lib.hid h
 have qO := h.wk.nA lR
 have NP : Hid (∀ W, Below w.heap.size w W → Sem.run Tryz.prog (loadCellsFrom ⟨b, 0, none⟩ 0 k9 #[]) W = .ok (encR R.ag).toArray W) := fun W hW => (h.kept hW).wk.nA lR
 have rP := uN h.cw hk.rH R.ag
 have hsub := fun (W : World) (hW : Below w.heap.size w W) => pU (h.kept hW).cw hk R.ag
 have hn : (ah M).T.length = M.dr.length := bC
 rw [hn] at rP
 replace hn := Lib.hid hn
 generalize encR R.ag = cR at *
 rw [hw] at rP
 unfold fe at hsub
 obtain ⟨QY, qP⟩ : ∃ x, x = lH (ah M).J R.ag := ⟨_, rfl⟩
 obtain ⟨se, hse⟩ : ∃ x, x = iT (ah M).J R.ag := ⟨_, rfl⟩
 rw [← qP, ← hse] at hsub
 have hL : pQ (ah M).J R.ag = M.L := by
  have hE2 := hE
  unfold iT at hE2
  show pQ M.L R.ag = M.L
  unfold pQ
  split
  ·rfl
  ·rename_i h1
   rw [if_neg h1] at hE2
   split
   ·rfl
   ·rename_i h2
    rw [if_neg h2] at hE2
    omega
 rw [hL, show ({ ah M with J := M.L } : Pg) = ah M from rfl] at hsub
 have IJ : se = e0 := hse.trans hE
 subst IJ
 replace qP := Lib.hid qP
 replace hse := Lib.hid hse
 replace hL := Lib.hid hL
 have d0 : (se != 0) = true := by simp [he0]
 clear h
 go_enter Tryz.func83, Tryz.ntmps83
 go_wp2_with fail
 go_at_call 97
 refine rP.mono ?_
 clear rP qO
 rintro e w1 ⟨rfl, hb1⟩
 have hS1 := Lib.hid (hS.out.kept hb1)
 go_wp2_with fail
 refine Reg2.sO 13 49 [[],[ae],[ae,ae],[ae,ae,ae],[af,af,af,af],[af,af,af,af,ae],[af,af,af,af,ae,ae],[af,af,af,af,ae,ae,ae],[ae,ae,ae,ae,ae,ae,ae,ae],[ae,ae,ae,ae,ae,ae,ae,ae,ae],[ae,ae,ae,ae,ae,ae,ae,ae,ae,ae],[ae,ae,ae,ae,ae,ae,ae,ae,ae,ae,af],[ae,ae,ae,ae,ae,ae,ae,ae,ae,ae,ae,af]] [0, 0, 0, 2, 0, 0, 0, 2, 3, 0, 0, 0, 0]
  [.pure, .pure, .pure, .pinned Unit () (fun _ => .pointer (some ⟨t, 0, none⟩)) (fun _ _ => True), .pure, .pure, .pure, .pinned Unit () (fun _ => .agg cR.toArray) (fun _ _ => True), .major Unit () (fun _ => .tuple #[.int .i64 QY, .int .i64 se]), .pure, .pure, .pure, .pure]
  (fun _ => True) (fun vs W => match vs with | [] => Below w1.heap.size w1 W | _ :: _ => (gV w b c t d p v g a m R (ah M)) W) (fun _ _ => True) (by kernel_rfl) (by kernel_rfl) rfl rfl (fun vs a b h hs => by cases vs with | nil => exact Below.trans hs (h.mono (Below.size hs)) | cons v vs => exact gV.ext a b h hs) ?_ ?_ ?_ ?_ ?_ ?_
 ·intro a b he hb; trivial
 ·intro a b he hb; trivial
 ·exact ⟨trivial, trivial, trivial, ⟨fun _ _ _ _ _ => trivial, fun _ _ _ _ _ => trivial⟩, trivial, trivial, trivial, ⟨fun _ _ _ _ _ => trivial, fun _ _ _ _ _ => trivial⟩, trivial, trivial, trivial, trivial, trivial, trivial⟩
 ·trivial
 ·exact ⟨rfl, rfl, rfl, Nat.le_refl _, fun _ _ => rfl⟩
 dsimp only [Reg2.mk, List.zip, List.zipWith, List.take]
 repeat (refine' Reg2.ak _ (by rfl) (fun wz => ?_) ?_; rotate_left; (go_simp; first | rfl | rw [if_neg (by omega)]); simp only [Act.put, xA, xB, xC, xD, xE, id])
 refine Reg2.pp (fun wz _ hI hF => ?_) (fun r3 => ?_) (by rfl)
 ·have c0 := (hS1.out.cw.kept hI).c0
  go_wp2_with fail
  first | exact ⟨_, rfl, rfl, Reg2.Ext.refl _⟩ | exact ⟨_, rfl, ⟨(), rfl, trivial⟩, Reg2.Ext.refl _⟩
 simp only [Act.put, xA, xB, xC, xD, xE, id]
 repeat (refine' Reg2.ak _ (by rfl) (fun wz => ?_) ?_; rotate_left; (go_simp; first | rfl | rw [if_neg (by omega)]); simp only [Act.put, xA, xB, xC, xD, xE, id])
 refine Reg2.pp (fun wz _ hI hF => ?_) (fun r7 => ?_) (by rfl)
 ·have d0 := NP.out wz (hb1.trans (Below.mono hI hb1.size))
  go_wp2_with fail
  first | exact ⟨_, rfl, rfl, Reg2.Ext.refl _⟩ | exact ⟨_, rfl, ⟨(), rfl, trivial⟩, Reg2.Ext.refl _⟩
 simp only [Act.put, xA, xB, xC, xD, xE, id]
 refine Reg2.pj (fun wz _ hI hF => ?_) (fun r8 => ?_) (by rfl)
 ·go_wp2_with (go_at_call 98; go_must (refine (hsub wz (hb1.trans (Below.mono hI hb1.size))).mono ?_); rintro e w' ⟨rfl, v4, g4, pF, bL⟩)
  have hpost : gV w b c t d p v g a m R (ah M) w' := ⟨v4, g4, (hS1.out.kept hI).core pF bL, (WS.of_below (hb1.trans (Below.mono hI hb1.size))).trans (WS.dA bL)⟩
  exact ⟨_, rfl, ⟨⟨(), rfl⟩, hpost⟩, trivial⟩
 simp only [Act.put, xA, xB, xC, xD, xE, id]
 repeat (refine' Reg2.ak _ (by rfl) (fun wz => ?_) ?_; rotate_left; (go_simp; first | rfl | rw [if_neg (by omega)]); simp only [Act.put, xA, xB, xC, xD, xE, id])
 refine Reg2.aA ?_
 intro w7 _ sH kH
 clear kH
 dsimp only [List.drop]
 obtain ⟨v7, g7, gG, yB⟩ : gV w b c t d p v g a m R (ah M) w7 := sH
 have hf := iD gG.wk se
 go_wp2_with (go_at_call 42; go_must (refine hf.mono ?_); rintro e w9 ⟨rfl, kC, QX⟩)
 go_ret
 exact ⟨rfl, v7, g7, gG.work kC QX, yB.trans (WS.bD QX)⟩
theorem BR (h : SW w b c t d p v g a m R (ah M)) (hk : PK (ah M)) (hw : ng M.dr.length R.ag = 0) (hE : iT M.L R.ag = 0) (hh : R.ag.held = true) :
 Calls Tryz.prog 83 #[.pointer (some ⟨b, 0, none⟩), .pointer (some ⟨c, 0, none⟩)] w (ay w b c t d p v g a m .nilFunc { R with rep := iV (dw M (toW R.ag)), aB := dw M (toW R.ag) } (ah { M with L := M.L ++ [dw M (toW R.ag)] })) := by
 have zR := jY
 have zJ := bI
 obtain ⟨k9, bO⟩ : ∃ k, k = 9 := ⟨_, rfl⟩
 obtain ⟨k, hkk⟩ : ∃ k, k = 10 := ⟨_, rfl⟩
 rw [← bO] at zR
 rw [← hkk] at zJ
 have hk0 : ¬ k9 = 0 := by omega
 have hk1 : ¬ k = 0 := by omega
 have lR := gI R.ag
 rw [← bO] at lR
 replace bO := Lib.hid bO
 replace hkk := Lib.hid hkk
 have hS := Lib.hid h
 have qO := h.wk.nA lR
 have NP : Hid (∀ W, Below w.heap.size w W → Sem.run Tryz.prog (loadCellsFrom ⟨b, 0, none⟩ 0 k9 #[]) W = .ok (encR R.ag).toArray W) := fun W hW => (h.kept hW).wk.nA lR
 have rP := uN h.cw hk.rH R.ag
 have hsub := fun (W : World) (hW : Below w.heap.size w W) => pU (h.kept hW).cw hk R.ag
 have hn : (ah M).T.length = M.dr.length := bC
 rw [hn] at rP
 replace hn := Lib.hid hn
 generalize encR R.ag = cR at *
 rw [hw] at rP
 unfold fe at hsub
 obtain ⟨QY, qP⟩ : ∃ x, x = lH (ah M).J R.ag := ⟨_, rfl⟩
 obtain ⟨se, hse⟩ : ∃ x, x = iT (ah M).J R.ag := ⟨_, rfl⟩
 rw [← qP, ← hse] at hsub
 have hL : pQ (ah M).J R.ag = M.L ++ [dw M (toW R.ag)] := by
  have hE2 := hE
  unfold iT at hE2
  show pQ M.L R.ag = _
  unfold pQ
  split
  ·rename_i h1; rw [if_pos h1] at hE2; omega
  ·rename_i h1
   rw [if_neg h1] at hE2
   split
   ·rename_i h2; rw [if_pos h2] at hE2; omega
   ·rfl
 have hI0 : lH (ah M).J R.ag = (M.L.length : Int) + 1 := by
  have hE2 := hE
  unfold iT at hE2
  show lH M.L R.ag = _
  unfold lH
  split
  ·rename_i h1; rw [if_pos h1] at hE2; omega
  ·rename_i h1
   rw [if_neg h1] at hE2
   split
   ·rename_i h2; rw [if_pos h2] at hE2; omega
   ·rfl
 obtain ⟨x, hx⟩ : ∃ x, x = dw M (toW R.ag) := ⟨_, rfl⟩
 have hxs : x.st = if R.ag.held then 2 else 1 := by rw [hx]; rfl
 have hxp : x.aN = -1 := by rw [hx]; rfl
 have hcore := Ed (M := M) x (by rw [hxs]; split <;> decide) (by unfold aj; rw [hxp]; simp)
 rw [hL, ← hx, show ({ ah M with J := M.L ++ [x] } : Pg) = ah { M with L := M.L ++ [x] } from hcore.symm] at hsub
 rw [← hx]
 have hget : bN (M.L ++ [x]) ((M.L.length : Int) + 1) = x := by
  unfold bN
  rw [if_neg (by omega), if_neg (by simp), show ((M.L.length : Int) + 1 - 1).toNat = M.L.length by omega]
  simp
 have IJ : se = 0 := hse.trans hE
 have KM : QY = (M.L.length : Int) + 1 := qP.trans hI0
 subst IJ
 subst KM
 replace qP := Lib.hid qP
 replace hse := Lib.hid hse
 replace hL := Lib.hid hL
 replace hx := Lib.hid hx
 replace hcore := Lib.hid hcore
 replace hI0 := Lib.hid hI0
 clear h
 rw [hh] at hxs
 replace hxs : x.st = 2 := hxs
 go_enter Tryz.func83, Tryz.ntmps83
 go_wp2_with fail
 go_at_call 97
 refine rP.mono ?_
 clear rP qO
 rintro e w1 ⟨rfl, hb1⟩
 have hS1 := Lib.hid (hS.out.kept hb1)
 go_wp2_with fail
 refine Reg2.sO 13 49 [[],[ae],[ae,ae],[ae,ae,ae],[af,af,af,af],[af,af,af,af,ae],[af,af,af,af,ae,ae],[af,af,af,af,ae,ae,ae],[ae,ae,ae,ae,ae,ae,ae,ae],[ae,ae,ae,ae,ae,ae,ae,ae,ae],[ae,ae,ae,ae,ae,ae,ae,ae,ae,ae],[ae,ae,ae,ae,ae,ae,ae,ae,ae,ae,af],[ae,ae,ae,ae,ae,ae,ae,ae,ae,ae,ae,af]] [0, 0, 0, 2, 0, 0, 0, 2, 3, 0, 0, 0, 0]
  [.pure, .pure, .pure, .pinned Unit () (fun _ => .pointer (some ⟨t, 0, none⟩)) (fun _ _ => True), .pure, .pure, .pure, .pinned Unit () (fun _ => .agg cR.toArray) (fun _ _ => True), .major Unit () (fun _ => .tuple #[.int .i64 ((M.L.length : Int) + 1), .int .i64 0]), .pure, .pure, .pure, .pure]
  (fun _ => True) (fun vs W => match vs with | [] => Below w1.heap.size w1 W | _ :: _ => (gV w b c t d p v g a m R (ah { M with L := M.L ++ [x] })) W) (fun _ _ => True) (by kernel_rfl) (by kernel_rfl) rfl rfl (fun vs a b h hs => by cases vs with | nil => exact Below.trans hs (h.mono (Below.size hs)) | cons v vs => exact gV.ext a b h hs) ?_ ?_ ?_ ?_ ?_ ?_
 ·intro a b he hb; trivial
 ·intro a b he hb; trivial
 ·exact ⟨trivial, trivial, trivial, ⟨fun _ _ _ _ _ => trivial, fun _ _ _ _ _ => trivial⟩, trivial, trivial, trivial, ⟨fun _ _ _ _ _ => trivial, fun _ _ _ _ _ => trivial⟩, trivial, trivial, trivial, trivial, trivial, trivial⟩
 ·trivial
 ·exact ⟨rfl, rfl, rfl, Nat.le_refl _, fun _ _ => rfl⟩
 dsimp only [Reg2.mk, List.zip, List.zipWith, List.take]
 repeat (refine' Reg2.ak _ (by rfl) (fun wz => ?_) ?_; rotate_left; (go_simp; first | rfl | rw [if_neg (by omega)]); simp only [Act.put, xA, xB, xC, xD, xE, id])
 refine Reg2.pp (fun wz _ hI hF => ?_) (fun r3 => ?_) (by rfl)
 ·have c0 := (hS1.out.cw.kept hI).c0
  go_wp2_with fail
  first | exact ⟨_, rfl, rfl, Reg2.Ext.refl _⟩ | exact ⟨_, rfl, ⟨(), rfl, trivial⟩, Reg2.Ext.refl _⟩
 simp only [Act.put, xA, xB, xC, xD, xE, id]
 repeat (refine' Reg2.ak _ (by rfl) (fun wz => ?_) ?_; rotate_left; (go_simp; first | rfl | rw [if_neg (by omega)]); simp only [Act.put, xA, xB, xC, xD, xE, id])
 refine Reg2.pp (fun wz _ hI hF => ?_) (fun r7 => ?_) (by rfl)
 ·have d0 := NP.out wz (hb1.trans (Below.mono hI hb1.size))
  go_wp2_with fail
  first | exact ⟨_, rfl, rfl, Reg2.Ext.refl _⟩ | exact ⟨_, rfl, ⟨(), rfl, trivial⟩, Reg2.Ext.refl _⟩
 simp only [Act.put, xA, xB, xC, xD, xE, id]
 refine Reg2.pj (fun wz _ hI hF => ?_) (fun r8 => ?_) (by rfl)
 ·go_wp2_with (go_at_call 98; go_must (refine (hsub wz (hb1.trans (Below.mono hI hb1.size))).mono ?_); rintro e w' ⟨rfl, v4, g4, pF, bL⟩)
  have hpost : gV w b c t d p v g a m R (ah { M with L := M.L ++ [x] }) w' := ⟨v4, g4, (hS1.out.kept hI).core pF bL, (WS.of_below (hb1.trans (Below.mono hI hb1.size))).trans (WS.dA bL)⟩
  exact ⟨_, rfl, ⟨⟨(), rfl⟩, hpost⟩, trivial⟩
 simp only [Act.put, xA, xB, xC, xD, xE, id]
 repeat (refine' Reg2.ak _ (by rfl) (fun wz => ?_) ?_; rotate_left; (go_simp; first | rfl | rw [if_neg (by omega)]); simp only [Act.put, xA, xB, xC, xD, xE, id])
 refine Reg2.aA ?_
 intro w7 _ sH kH
 clear kH
 dsimp only [List.drop]
 obtain ⟨v7, g7, gG, yB⟩ : gV w b c t d p v g a m R (ah { M with L := M.L ++ [x] }) w7 := sH
 have kD := om gG ((M.L.length : Int) + 1)
 rw [show (ah { M with L := M.L ++ [x] }).J = M.L ++ [x] from rfl, hget] at kD
 go_wp2_with fail
 go_at_call 78
 refine kD.mono ?_
 clear kD
 rintro e w8 ⟨rfl, dR, fV⟩
 have gF := gG.work dR fV
 have QZ := yB.trans (WS.bD fV)
 obtain ⟨WQ, kC⟩ := dR.uf x
 have lJ := au x
 rw [← hkk.out] at lJ
 have fZ := gF.work kC (cz w8 _)
 have hfin := QZ.trans (WS.bD (cz w8 (gB { ({ R with rep := iV x } : Wk) with aB := x }).toArray))
 have c17 := kC.at 17 (.int .i64 2) (by rw [← hxs]; rfl)
 generalize gB { ({ R with rep := iV x } : Wk) with aB := x } = W9 at *
 generalize ai x = cJ at *
 go_wp2_with fail
 go_ret
 exact ⟨rfl, v7, g7, fZ, hfin⟩
theorem IK (h : SW w b c t d p v g a m R (ah M)) (hk : PK (ah M)) (hw : ng M.dr.length R.ag = 0) (hE : iT M.L R.ag = 0) (hh : R.ag.held = false) :
 Calls Tryz.prog 83 #[.pointer (some ⟨b, 0, none⟩), .pointer (some ⟨c, 0, none⟩)] w (ay w b c t d p v g a m (fE 99) { R with rep := iV (dw M (toW R.ag)), aB := dw M (toW R.ag) } (ah { M with L := M.L ++ [dw M (toW R.ag)] })) := by
 have zR := jY
 have zJ := bI
 obtain ⟨k9, bO⟩ : ∃ k, k = 9 := ⟨_, rfl⟩
 obtain ⟨k, hkk⟩ : ∃ k, k = 10 := ⟨_, rfl⟩
 rw [← bO] at zR
 rw [← hkk] at zJ
 have hk0 : ¬ k9 = 0 := by omega
 have hk1 : ¬ k = 0 := by omega
 have lR := gI R.ag
 rw [← bO] at lR
 replace bO := Lib.hid bO
 replace hkk := Lib.hid hkk
 have hS := Lib.hid h
 have qO := h.wk.nA lR
 have NP : Hid (∀ W, Below w.heap.size w W → Sem.run Tryz.prog (loadCellsFrom ⟨b, 0, none⟩ 0 k9 #[]) W = .ok (encR R.ag).toArray W) := fun W hW => (h.kept hW).wk.nA lR
 have rP := uN h.cw hk.rH R.ag
 have hsub := fun (W : World) (hW : Below w.heap.size w W) => pU (h.kept hW).cw hk R.ag
 have hn : (ah M).T.length = M.dr.length := bC
 rw [hn] at rP
 replace hn := Lib.hid hn
 generalize encR R.ag = cR at *
 rw [hw] at rP
 unfold fe at hsub
 obtain ⟨QY, qP⟩ : ∃ x, x = lH (ah M).J R.ag := ⟨_, rfl⟩
 obtain ⟨se, hse⟩ : ∃ x, x = iT (ah M).J R.ag := ⟨_, rfl⟩
 rw [← qP, ← hse] at hsub
 have hL : pQ (ah M).J R.ag = M.L ++ [dw M (toW R.ag)] := by
  have hE2 := hE
  unfold iT at hE2
  show pQ M.L R.ag = _
  unfold pQ
  split
  ·rename_i h1; rw [if_pos h1] at hE2; omega
  ·rename_i h1
   rw [if_neg h1] at hE2
   split
   ·rename_i h2; rw [if_pos h2] at hE2; omega
   ·rfl
 have hI0 : lH (ah M).J R.ag = (M.L.length : Int) + 1 := by
  have hE2 := hE
  unfold iT at hE2
  show lH M.L R.ag = _
  unfold lH
  split
  ·rename_i h1; rw [if_pos h1] at hE2; omega
  ·rename_i h1
   rw [if_neg h1] at hE2
   split
   ·rename_i h2; rw [if_pos h2] at hE2; omega
   ·rfl
 obtain ⟨x, hx⟩ : ∃ x, x = dw M (toW R.ag) := ⟨_, rfl⟩
 have hxs : x.st = if R.ag.held then 2 else 1 := by rw [hx]; rfl
 have hxp : x.aN = -1 := by rw [hx]; rfl
 have hcore := Ed (M := M) x (by rw [hxs]; split <;> decide) (by unfold aj; rw [hxp]; simp)
 rw [hL, ← hx, show ({ ah M with J := M.L ++ [x] } : Pg) = ah { M with L := M.L ++ [x] } from hcore.symm] at hsub
 rw [← hx]
 have hget : bN (M.L ++ [x]) ((M.L.length : Int) + 1) = x := by
  unfold bN
  rw [if_neg (by omega), if_neg (by simp), show ((M.L.length : Int) + 1 - 1).toNat = M.L.length by omega]
  simp
 have IJ : se = 0 := hse.trans hE
 have KM : QY = (M.L.length : Int) + 1 := qP.trans hI0
 subst IJ
 subst KM
 replace qP := Lib.hid qP
 replace hse := Lib.hid hse
 replace hL := Lib.hid hL
 replace hx := Lib.hid hx
 replace hcore := Lib.hid hcore
 replace hI0 := Lib.hid hI0
 clear h
 rw [hh] at hxs
 replace hxs : x.st = 1 := hxs
 go_enter Tryz.func83, Tryz.ntmps83
 go_wp2_with fail
 go_at_call 97
 refine rP.mono ?_
 clear rP qO
 rintro e w1 ⟨rfl, hb1⟩
 have hS1 := Lib.hid (hS.out.kept hb1)
 go_wp2_with fail
 refine Reg2.sO 13 49 [[],[ae],[ae,ae],[ae,ae,ae],[af,af,af,af],[af,af,af,af,ae],[af,af,af,af,ae,ae],[af,af,af,af,ae,ae,ae],[ae,ae,ae,ae,ae,ae,ae,ae],[ae,ae,ae,ae,ae,ae,ae,ae,ae],[ae,ae,ae,ae,ae,ae,ae,ae,ae,ae],[ae,ae,ae,ae,ae,ae,ae,ae,ae,ae,af],[ae,ae,ae,ae,ae,ae,ae,ae,ae,ae,ae,af]] [0, 0, 0, 2, 0, 0, 0, 2, 3, 0, 0, 0, 0]
  [.pure, .pure, .pure, .pinned Unit () (fun _ => .pointer (some ⟨t, 0, none⟩)) (fun _ _ => True), .pure, .pure, .pure, .pinned Unit () (fun _ => .agg cR.toArray) (fun _ _ => True), .major Unit () (fun _ => .tuple #[.int .i64 ((M.L.length : Int) + 1), .int .i64 0]), .pure, .pure, .pure, .pure]
  (fun _ => True) (fun vs W => match vs with | [] => Below w1.heap.size w1 W | _ :: _ => (gV w b c t d p v g a m R (ah { M with L := M.L ++ [x] })) W) (fun _ _ => True) (by kernel_rfl) (by kernel_rfl) rfl rfl (fun vs a b h hs => by cases vs with | nil => exact Below.trans hs (h.mono (Below.size hs)) | cons v vs => exact gV.ext a b h hs) ?_ ?_ ?_ ?_ ?_ ?_
 ·intro a b he hb; trivial
 ·intro a b he hb; trivial
 ·exact ⟨trivial, trivial, trivial, ⟨fun _ _ _ _ _ => trivial, fun _ _ _ _ _ => trivial⟩, trivial, trivial, trivial, ⟨fun _ _ _ _ _ => trivial, fun _ _ _ _ _ => trivial⟩, trivial, trivial, trivial, trivial, trivial, trivial⟩
 ·trivial
 ·exact ⟨rfl, rfl, rfl, Nat.le_refl _, fun _ _ => rfl⟩
 dsimp only [Reg2.mk, List.zip, List.zipWith, List.take]
 repeat (refine' Reg2.ak _ (by rfl) (fun wz => ?_) ?_; rotate_left; (go_simp; first | rfl | rw [if_neg (by omega)]); simp only [Act.put, xA, xB, xC, xD, xE, id])
 refine Reg2.pp (fun wz _ hI hF => ?_) (fun r3 => ?_) (by rfl)
 ·have c0 := (hS1.out.cw.kept hI).c0
  go_wp2_with fail
  first | exact ⟨_, rfl, rfl, Reg2.Ext.refl _⟩ | exact ⟨_, rfl, ⟨(), rfl, trivial⟩, Reg2.Ext.refl _⟩
 simp only [Act.put, xA, xB, xC, xD, xE, id]
 repeat (refine' Reg2.ak _ (by rfl) (fun wz => ?_) ?_; rotate_left; (go_simp; first | rfl | rw [if_neg (by omega)]); simp only [Act.put, xA, xB, xC, xD, xE, id])
 refine Reg2.pp (fun wz _ hI hF => ?_) (fun r7 => ?_) (by rfl)
 ·have d0 := NP.out wz (hb1.trans (Below.mono hI hb1.size))
  go_wp2_with fail
  first | exact ⟨_, rfl, rfl, Reg2.Ext.refl _⟩ | exact ⟨_, rfl, ⟨(), rfl, trivial⟩, Reg2.Ext.refl _⟩
 simp only [Act.put, xA, xB, xC, xD, xE, id]
 refine Reg2.pj (fun wz _ hI hF => ?_) (fun r8 => ?_) (by rfl)
 ·go_wp2_with (go_at_call 98; go_must (refine (hsub wz (hb1.trans (Below.mono hI hb1.size))).mono ?_); rintro e w' ⟨rfl, v4, g4, pF, bL⟩)
  have hpost : gV w b c t d p v g a m R (ah { M with L := M.L ++ [x] }) w' := ⟨v4, g4, (hS1.out.kept hI).core pF bL, (WS.of_below (hb1.trans (Below.mono hI hb1.size))).trans (WS.dA bL)⟩
  exact ⟨_, rfl, ⟨⟨(), rfl⟩, hpost⟩, trivial⟩
 simp only [Act.put, xA, xB, xC, xD, xE, id]
 repeat (refine' Reg2.ak _ (by rfl) (fun wz => ?_) ?_; rotate_left; (go_simp; first | rfl | rw [if_neg (by omega)]); simp only [Act.put, xA, xB, xC, xD, xE, id])
 refine Reg2.aA ?_
 intro w7 _ sH kH
 clear kH
 dsimp only [List.drop]
 obtain ⟨v7, g7, gG, yB⟩ : gV w b c t d p v g a m R (ah { M with L := M.L ++ [x] }) w7 := sH
 have kD := om gG ((M.L.length : Int) + 1)
 rw [show (ah { M with L := M.L ++ [x] }).J = M.L ++ [x] from rfl, hget] at kD
 go_wp2_with fail
 go_at_call 78
 refine kD.mono ?_
 clear kD
 rintro e w8 ⟨rfl, dR, fV⟩
 have gF := gG.work dR fV
 have QZ := yB.trans (WS.bD fV)
 obtain ⟨WQ, kC⟩ := dR.uf x
 have lJ := au x
 rw [← hkk.out] at lJ
 have fZ := gF.work kC (cz w8 _)
 have hfin := QZ.trans (WS.bD (cz w8 (gB { ({ R with rep := iV x } : Wk) with aB := x }).toArray))
 have c17 := kC.at 17 (.int .i64 1) (by rw [← hxs]; rfl)
 generalize gB { ({ R with rep := iV x } : Wk) with aB := x } = W9 at *
 generalize ai x = cJ at *
 go_wp2_with fail
 go_ret
 exact ⟨rfl, v7, g7, fZ, hfin⟩
end
end Go.Proofs.YtelnhablglomjaaGreat

namespace Go.Proofs.YtelnhablglomjaaGreat
open Go.RowKit Go.Lib Go.Sort
section
variable {w : World} {b c t d p g a : Nat} {v : Value} {m : Int} {P : Pg} {R : Wk}
theorem SW.drew (h : SW w b c t d p v g a m R P) : SW w.drew b c t d p v g a m R P := h.kept (Below.refl _ _).drew
theorem WS.yC {w1 : World} {v1 : Value} {g1 : Nat} (h : WS w.drew w1 b c t d p v g v1 g1) : WS w w1 b c t d p v g v1 g1 := (WS.of_below (Below.refl _ _).drew).trans h
theorem CW.Vo (h : CW w c t d p v g a m P) (F : Int → Int) (hf : ∀ t, P.now ≤ t → P.f t = F t) : CW w c t d p v g a m { P with f := F } := by
 obtain ⟨S, aK, hp, hC, hrest⟩ := h.lW
 exact ⟨h.cell, h.eQ, h.nodes, S, aK, hp, hC.congr hf, hrest⟩
theorem NQ (h : SW w b c t d p v g a m R P) (hk : PK P) (hr : R.aB.st = 3) (hn : 0 ≤ R.aB.bP ∧ R.aB.bP ≤ 18446744073709551615) :
 Calls Tryz.prog 101 #[.pointer (some ⟨b, 0, none⟩), .pointer (some ⟨c, 0, none⟩)] w fun e w' => ∃ (n x : Int) (T' : List Int), Bu P.T R.aB.bP.toNat n x T' ∧ ay w b c t d p v g a m (fE 103) { R with idle := n } { P with T := T' } e w' := by
 have hS := Lib.hid h
 have hg := D7 h.drew.cw hk R.aB.bP.toNat (by omega)
 rw [show ((R.aB.bP.toNat : Nat) : Int) = R.aB.bP by omega] at hg
 have c17 := h.wk.at 17 (.int .i64 R.aB.st) rfl
 have c21 := h.wk.at 21 (.int .u64 R.aB.bP) rfl
 have c1 := h.cw.c1
 rw [hr] at c17
 replace hn := Lib.hid hn
 clear h
 go_enter Tryz.func101, Tryz.ntmps101
 go_wp2_with fail
 go_region_with (go_at_call 129; go_must (refine hg.mono ?_); rintro e w' ⟨n, x, T', hG, hL, rfl, v4, g4, pF, bL⟩; have gF := hS.out.drew.core pF bL; have a22 := gF.wk.at 22 (.int .i64 R.idle) rfl; have f22 := gF.wk.free 22)
 all_goals
  have kC := gF.wk.idle n
  have fZ := gF.work kC (dh w' 22 (.int .i64 n))
  have hfin := ((WS.dA bL : WS w.drew w' b c t d p v g v4 g4).trans (WS.bD (dh w' 22 (.int .i64 n)))).yC
  go_wp2_with fail
  go_ret
  exact ⟨n, x, T', hG, rfl, v4, g4, fZ, hfin⟩
theorem Q0 (h : SW w b c t d p v g a m R P) (hr : R.aB.st ≠ 3) :
 Calls Tryz.prog 101 #[.pointer (some ⟨b, 0, none⟩), .pointer (some ⟨c, 0, none⟩)] w (ay w b c t d p v g a m (fE 103) R P) := by
 have c17 := h.wk.at 17 (.int .i64 R.aB.st) rfl
 have d0 : (R.aB.st == 3) = false := by simp [hr]
 generalize R.aB.st = s at *
 go_enter Tryz.func101, Tryz.ntmps101
 go_wp2_with fail
 go_ret
 exact ⟨rfl, v, g, h, WS.refl _⟩
theorem FV (h : SW w b c t d p v g a m R P) (hk : PK P) (ha : a ≤ 800) (hm : m ≤ 1000000) (hP : aj R.aB = true) (hb1 : R.aB.aN ≤ 1099511627776) (hb2 : 0 ≤ R.aB.lim ∧ R.aB.lim ≤ 1048576) (hb3 : 1 ≤ R.aB.lim) (hb4 : 0 ≤ R.aB.wid ∧ R.aB.wid ≤ 64) (F : Int → Int)
 (hF : ∀ t, P.now ≤ t → F t = P.f t + had (max R.aB.aN P.now) (R.aB.aN + R.aB.lim) R.aB.wid t) (hr : ∀ t, P.now ≤ t → 0 ≤ F t ∧ F t ≤ 64) :
 Calls Tryz.prog 103 #[.pointer (some ⟨b, 0, none⟩), .pointer (some ⟨c, 0, none⟩)] w (ay w b c t d p v g (a + 2) (m + 1) .nilFunc R { P with f := F }) := by
 have zJ := bI
 have zS := kG
 obtain ⟨k, hk1⟩ : ∃ k, k = 10 := ⟨_, rfl⟩
 obtain ⟨k3, hk3⟩ : ∃ k, k = 3 := ⟨_, rfl⟩
 rw [← hk1] at zJ
 rw [← hk3] at zS
 have hk0 : ¬ k = 0 := by omega
 have zw : ¬ k3 = 0 := by omega
 have lJ := au R.aB
 rw [← hk1] at lJ
 replace hk1 := Lib.hid hk1
 have hS := Lib.hid h
 have qO := h.wk.nC lJ
 have hpl := kV (w := w) R.aB hb1 hb2
 have lS : (aM R.aB).length = 3 := by unfold aM; split <;> rfl
 have oS : ∀ u ∈ aM R.aB, u.oneCell' = true := by unfold aM; split <;> (intro u hu; simp at hu; rcases hu with rfl | rfl | rfl <;> rfl)
 have ST : Hid (∀ W : World, Sem.run Tryz.prog (storeCells ⟨W.heap.size, 0, none⟩ (aM R.aB) 0) (W.alloc (.cells #[.int .i64 0, .int .i64 0, .int .i64 0] 148)) = .ok () (W.alloc (.cells (aM R.aB).toArray 148))) := fun W => dB W W.heap.size (aM R.aB) [.int .i64 0, .int .i64 0, .int .i64 0] 148 rfl lS oS
 rw [← hk3] at lS
 replace hk3 := Lib.hid hk3
 have hst : ∀ W, SW W b c t d p v g a m R P → W.cell? ⟨b, 17, none⟩ = some (.int .i64 R.aB.st) := fun W hW => hW.wk.at 17 (.int .i64 R.aB.st) rfl
 generalize kY : aM R.aB = cS at *
 replace kY := Lib.hid kY
 generalize ai R.aB = cJ at *
 clear h
 have Dv : R.aB.st = 1 := (bq.1 hP).1
 rw [Dv] at hst
 have mr : cS = [.int .i64 R.aB.aN, .int .i64 (R.aB.aN + R.aB.lim), .int .i64 R.aB.wid] := by rw [← kY.out]; unfold aM; rw [if_pos hP]
 rw [hP] at hpl
 replace hP := Lib.hid hP
 replace Dv := Lib.hid Dv
 replace mr := Lib.hid mr
 replace hst := Lib.hid hst
 go_enter Tryz.func103, Tryz.ntmps103
 go_wp2_with fail
 go_at_call 112
 refine hpl.mono ?_
 clear hpl qO
 rintro e w1 ⟨rfl, hb⟩
 have st1 := ST.out w1
 obtain ⟨w2, hw2⟩ : ∃ w2, w2 = w1.alloc (.cells cS.toArray 148) := ⟨_, rfl⟩
 rw [← hw2] at st1
 have hb2' : Below w.heap.size w w2 := by rw [hw2]; exact hb.alloc hb.size _
 have hy2 : Hid (w2.heap[w1.heap.size]? = some (.cells cS.toArray 148 (0, 0))) := by show _ = _; rw [hw2]; exact heap_alloc_new w1 _
 have hs2 : w2.heap.size = w1.heap.size + 1 := by rw [hw2]; simp
 replace hw2 := Lib.hid hw2
 have hS2 := Lib.hid (hS.out.kept hb2')
 go_wp2_with fail
 refine Reg2.ro w2 5 47 [.p 0, .p 1, .p 3, .m 7, .m 0] [.pointer (some ⟨p, 0, none⟩), .agg cS.toArray] (by kernel_rfl) (by kernel_rfl) rfl rfl ⟨rfl, rfl, rfl, Nat.le_refl _, fun _ _ => rfl⟩ ?_
 dsimp only [Reg2.gM]
 repeat ((first
  | (refine' Reg2.ak _ (by rfl) (fun wz => ?_) ?_; rotate_left; (go_simp; first | rfl | rw [if_neg (by omega)]))
  | (refine Reg2.az (by rfl) (fun wz hI hF => ?_) (fun _ => ?_)
     ·unfold Reg2.One
      have c0 := (hS2.out.cw.kept hI).c2
      have d0 := eZ ((hI.block _ (aC hy2.out)).trans hy2.out) lS
      go_wp2_with fail
      first | exact ⟨_, rfl, rfl, Reg2.Ext.refl _⟩ | exact ⟨_, rfl, ⟨(), rfl, trivial⟩, Reg2.Ext.refl _⟩)); simp only [Act.put, xA, xB, xC, xD, xE, id])
 refine Reg2.aA ?_
 intro w4 HI4 _ dW
 clear dW
 dsimp only [List.drop]
 have bL := hS2.out.kept HI4
 have hrel := tX bL.cw hk ha hm R.aB.aN (R.aB.aN + R.aB.lim) R.aB.wid F (by omega) (by omega) hb4 hF hr
 have IL := mr.out
 clear kY mr
 subst IL
 go_wp2_with fail
 go_at_call 114
 refine hrel.mono ?_
 clear hrel
 rintro e w5 ⟨rfl, v5, g5, gy, hS5⟩
 have eO := bL.core gy hS5
 have hfin := (WS.of_below (hb2'.trans (HI4.mono hb2'.size)) : WS w w4 b c t d p v g v g).trans (WS.dA hS5)
 have c17 := eO.wk.at 17 (.int .i64 R.aB.st) rfl
 rw [Dv.out] at c17
 go_wp2_with fail
 go_ret
 exact ⟨rfl, v5, g5, eO, hfin⟩
theorem IM (h : SW w b c t d p v g a m R P) (hk : PK P) (ha : a ≤ 800) (hm : m ≤ 1000000) (hP : R.aB.st = 3) (hb1 : R.aB.aN ≤ 1099511627776) (hb2 : 0 ≤ R.aB.lim ∧ R.aB.lim ≤ 1048576) (hb3 : P.now < R.aB.fin ∧ R.aB.fin ≤ 1099512676352) (hb4 : -64 ≤ R.idle ∧ R.idle ≤ 64) (F : Int → Int)
 (hF : ∀ t, P.now ≤ t → F t = P.f t + had (max P.now P.now) R.aB.fin R.idle t) (hr : ∀ t, P.now ≤ t → 0 ≤ F t ∧ F t ≤ 64) :
 Calls Tryz.prog 103 #[.pointer (some ⟨b, 0, none⟩), .pointer (some ⟨c, 0, none⟩)] w (ay w b c t d p v g (a + 2) (m + 1) .nilFunc R { P with f := F }) := by
 have zJ := bI
 have zS := kG
 obtain ⟨k, hk1⟩ : ∃ k, k = 10 := ⟨_, rfl⟩
 obtain ⟨k3, hk3⟩ : ∃ k, k = 3 := ⟨_, rfl⟩
 rw [← hk1] at zJ
 rw [← hk3] at zS
 have hk0 : ¬ k = 0 := by omega
 have zw : ¬ k3 = 0 := by omega
 have lJ := au R.aB
 rw [← hk1] at lJ
 replace hk1 := Lib.hid hk1
 have hS := Lib.hid h
 have qO := h.wk.nC lJ
 have hpl := kV (w := w) R.aB hb1 hb2
 have lS : (aM R.aB).length = 3 := by unfold aM; split <;> rfl
 have oS : ∀ u ∈ aM R.aB, u.oneCell' = true := by unfold aM; split <;> (intro u hu; simp at hu; rcases hu with rfl | rfl | rfl <;> rfl)
 have ST : Hid (∀ W : World, Sem.run Tryz.prog (storeCells ⟨W.heap.size, 0, none⟩ (aM R.aB) 0) (W.alloc (.cells #[.int .i64 0, .int .i64 0, .int .i64 0] 148)) = .ok () (W.alloc (.cells (aM R.aB).toArray 148))) := fun W => dB W W.heap.size (aM R.aB) [.int .i64 0, .int .i64 0, .int .i64 0] 148 rfl lS oS
 rw [← hk3] at lS
 replace hk3 := Lib.hid hk3
 have hst : ∀ W, SW W b c t d p v g a m R P → W.cell? ⟨b, 17, none⟩ = some (.int .i64 R.aB.st) := fun W hW => hW.wk.at 17 (.int .i64 R.aB.st) rfl
 generalize kY : aM R.aB = cS at *
 replace kY := Lib.hid kY
 generalize ai R.aB = cJ at *
 clear h
 have hno : aj R.aB = false := by unfold aj; rw [hP]; rfl
 rw [hP] at hst
 rw [hno] at hpl
 replace hP := Lib.hid hP
 replace hno := Lib.hid hno
 go_enter Tryz.func103, Tryz.ntmps103
 go_wp2_with fail
 go_at_call 112
 refine hpl.mono ?_
 clear hpl qO
 rintro e w1 ⟨rfl, hb⟩
 have st1 := ST.out w1
 obtain ⟨w2, hw2⟩ : ∃ w2, w2 = w1.alloc (.cells cS.toArray 148) := ⟨_, rfl⟩
 rw [← hw2] at st1
 have hb2' : Below w.heap.size w w2 := by rw [hw2]; exact hb.alloc hb.size _
 have hy2 : Hid (w2.heap[w1.heap.size]? = some (.cells cS.toArray 148 (0, 0))) := by show _ = _; rw [hw2]; exact heap_alloc_new w1 _
 have hs2 : w2.heap.size = w1.heap.size + 1 := by rw [hw2]; simp
 replace hw2 := Lib.hid hw2
 have hS2 := Lib.hid (hS.out.kept hb2')
 have c17 := hst w2 hS2.out
 replace hst := Lib.hid hst
 go_wp2_with fail
 refine Reg2.ro w2 18 47 [.p 0, .p 1, .p 3, .m 7, .p 0, .p 16, .p 48, .m 112, .m 240, .p 0, .p 512, .p 1536, .p 3584, .m 7680, .p 0, .p 16384, .p 49152, .m 114688] [.pointer (some ⟨p, 0, none⟩), .pointer (some ⟨p, 0, none⟩), .int .i64 P.now, .int .i64 R.aB.fin, .int .i64 R.idle] (by kernel_rfl) (by kernel_rfl) rfl rfl ⟨rfl, rfl, rfl, Nat.le_refl _, fun _ _ => rfl⟩ ?_
 dsimp only [Reg2.gM]
 repeat ((first
  | (refine' Reg2.ak _ (by rfl) (fun wz => ?_) ?_; rotate_left; (go_simp; first | rfl | rw [if_neg (by omega)]))
  | (refine Reg2.az (by rfl) (fun wz hI hF => ?_) (fun _ => ?_)
     ·unfold Reg2.One
      have c0 := (hS2.out.cw.kept hI).c2
      go_wp2_with fail
      first | exact ⟨_, rfl, rfl, Reg2.Ext.refl _⟩ | exact ⟨_, rfl, ⟨(), rfl, trivial⟩, Reg2.Ext.refl _⟩)); simp only [Act.put, xA, xB, xC, xD, xE, id])
 refine Reg2.pm (fun wz hI hF => ?_) (fun r8 => ?_) (by rfl)
 ·go_wp2_with (go_at_call 95; go_must (refine (gz (hS2.out.kept hI).cw).mono ?_); rintro e w' ⟨rfl, rfl⟩)
  first | exact ⟨_, rfl, rfl, Reg2.Ext.refl _⟩ | exact ⟨_, rfl, ⟨(), rfl, trivial⟩, Reg2.Ext.refl _⟩
 simp only [Act.put, xA, xB, xC, xD, xE, id]
 repeat ((first
  | (refine' Reg2.ak _ (by rfl) (fun wz => ?_) ?_; rotate_left; (go_simp; first | rfl | rw [if_neg (by omega)]))
  | (refine Reg2.az (by rfl) (fun wz hI hF => ?_) (fun _ => ?_)
     ·unfold Reg2.One
      have q0 := (hS2.out.kept hI).wk.at 19 (.int .i64 R.aB.fin) rfl
      have D9 := (hS2.out.kept hI).wk.at 22 (.int .i64 R.idle) rfl
      go_wp2_with fail
      first | exact ⟨_, rfl, rfl, Reg2.Ext.refl _⟩ | exact ⟨_, rfl, ⟨(), rfl, trivial⟩, Reg2.Ext.refl _⟩)); simp only [Act.put, xA, xB, xC, xD, xE, id])
 refine Reg2.aA ?_
 intro w4 HI4 _ dW
 clear dW
 dsimp only [List.drop]
 have bL := hS2.out.kept HI4
 have hadd := L9 bL.cw hk ha hm P.now R.aB.fin R.idle F hb3.1 (by omega) hb4 hF hr
 go_wp2_with fail
 go_at_call 130
 refine hadd.mono ?_
 clear hadd
 rintro e w5 ⟨rfl, v5, g5, gy, hS5⟩
 have eO := bL.core gy hS5
 have hfin := (WS.of_below (hb2'.trans (HI4.mono hb2'.size)) : WS w w4 b c t d p v g v g).trans (WS.dA hS5)
 go_wp2_with fail
 go_ret
 exact ⟨rfl, v5, g5, eO, hfin⟩
theorem FW (h : SW w b c t d p v g a m R P) (hk : PK P) (ha : a ≤ 800) (hm : m ≤ 1000000) (hP : aj R.aB = false) (hP2 : R.aB.st ≠ 3) (hb1 : R.aB.aN ≤ 1099511627776) (hb2 : 0 ≤ R.aB.lim ∧ R.aB.lim ≤ 1048576) :
 Calls Tryz.prog 103 #[.pointer (some ⟨b, 0, none⟩), .pointer (some ⟨c, 0, none⟩)] w (ay w b c t d p v g a m .nilFunc R P) := by
 have zJ := bI
 have zS := kG
 obtain ⟨k, hk1⟩ : ∃ k, k = 10 := ⟨_, rfl⟩
 obtain ⟨k3, hk3⟩ : ∃ k, k = 3 := ⟨_, rfl⟩
 rw [← hk1] at zJ
 rw [← hk3] at zS
 have hk0 : ¬ k = 0 := by omega
 have zw : ¬ k3 = 0 := by omega
 have lJ := au R.aB
 rw [← hk1] at lJ
 replace hk1 := Lib.hid hk1
 have hS := Lib.hid h
 have qO := h.wk.nC lJ
 have hpl := kV (w := w) R.aB hb1 hb2
 have lS : (aM R.aB).length = 3 := by unfold aM; split <;> rfl
 have oS : ∀ u ∈ aM R.aB, u.oneCell' = true := by unfold aM; split <;> (intro u hu; simp at hu; rcases hu with rfl | rfl | rfl <;> rfl)
 have ST : Hid (∀ W : World, Sem.run Tryz.prog (storeCells ⟨W.heap.size, 0, none⟩ (aM R.aB) 0) (W.alloc (.cells #[.int .i64 0, .int .i64 0, .int .i64 0] 148)) = .ok () (W.alloc (.cells (aM R.aB).toArray 148))) := fun W => dB W W.heap.size (aM R.aB) [.int .i64 0, .int .i64 0, .int .i64 0] 148 rfl lS oS
 rw [← hk3] at lS
 replace hk3 := Lib.hid hk3
 have hst : ∀ W, SW W b c t d p v g a m R P → W.cell? ⟨b, 17, none⟩ = some (.int .i64 R.aB.st) := fun W hW => hW.wk.at 17 (.int .i64 R.aB.st) rfl
 generalize kY : aM R.aB = cS at *
 replace kY := Lib.hid kY
 generalize ai R.aB = cJ at *
 clear h
 have d0 : (R.aB.st == 3) = false := by simp [hP2]
 rw [hP] at hpl
 generalize R.aB.st = s at *
 go_enter Tryz.func103, Tryz.ntmps103
 go_wp2_with fail
 go_at_call 112
 refine hpl.mono ?_
 clear hpl qO
 rintro e w1 ⟨rfl, hb⟩
 have st1 := ST.out w1
 obtain ⟨w2, hw2⟩ : ∃ w2, w2 = w1.alloc (.cells cS.toArray 148) := ⟨_, rfl⟩
 rw [← hw2] at st1
 have hb2' : Below w.heap.size w w2 := by rw [hw2]; exact hb.alloc hb.size _
 have hy2 : Hid (w2.heap[w1.heap.size]? = some (.cells cS.toArray 148 (0, 0))) := by show _ = _; rw [hw2]; exact heap_alloc_new w1 _
 have hs2 : w2.heap.size = w1.heap.size + 1 := by rw [hw2]; simp
 replace hw2 := Lib.hid hw2
 have hS2 := Lib.hid (hS.out.kept hb2')
 have c17 := hst w2 hS2.out
 replace hst := Lib.hid hst
 go_wp2_with fail
 go_ret
 exact ⟨rfl, v, g, hS2.out, WS.of_below hb2'⟩
end
end Go.Proofs.YtelnhablglomjaaGreat

namespace Go.Proofs.YtelnhablglomjaaGreat
open Go.RowKit Go.Lib
theorem FX {p : Jb → Bool} : ∀ {X : List Jb} {x : Jb} {r : List Jb}, X.filter p = x :: r → ∃ q, q < X.length ∧ X.getD q default = x ∧ (∀ k, k < q → p (X.getD k default) = false) ∧ (X.drop (q + 1)).filter p = r ∧ p x = true := by
 intro X
 induction X with
 | nil => intro x r h; cases h
 | cons y X ih =>
   intro x r h
   cases hp : p y with
   | true =>
     rw [List.filter_cons_of_pos hp] at h
     obtain ⟨rfl, rfl⟩ := List.cons.inj h
     exact ⟨0, by simp, rfl, fun k hk => absurd hk (Nat.not_lt_zero _), rfl, hp⟩
   | false =>
     rw [List.filter_cons_of_neg (by simp [hp])] at h
     obtain ⟨q, h1, h2, h3, h4, h5⟩ := ih h
     refine ⟨q + 1, by simp; omega, by simpa using h2, fun k hk => ?_, by simpa using h4, h5⟩
     cases k with
     | zero => simpa using hp
     | succ k => simpa using h3 k (by omega)
theorem filter_none {p : Jb → Bool} {X : List Jb} (h : X.filter p = []) (k : Nat) (hk : k < X.length) : p (X.getD k default) = false := by
 have h1 := List.filter_eq_nil_iff.1 h (X.getD k default) (aY hk)
 simpa using h1
theorem getD_drop {L : List Jb} {k q : Nat} : (L.drop k).getD q default = L.getD (k + q) default := by simp [List.getD]
theorem zx {f : Jb → Jb} {L : List Jb} {k : Nat} : ∀ {k' : Nat}, k ≤ k' → k' ≤ L.length → (∀ m, k ≤ m → m < k' → f (L.getD m default) = L.getD m default) → eH f L k = eH f L k' := by
 intro k'
 induction k' with
 | zero =>
   intro h _ _
   obtain rfl : k = 0 := by omega
   rfl
 | succ k' ih =>
   intro h1 h2 h3
   rcases Nat.lt_or_ge k' k with h4 | h4
   ·obtain rfl : k = k' + 1 := by omega
    rfl
   ·rw [ih h4 (by omega) fun m a b => h3 m a (by omega)]
    exact nk (by omega) (h3 k' h4 (by omega))
theorem vU {t : Int} {j : Jb} (h : ¬ (j.st = 3 ∧ j.fin = t)) : aT t j = j := if_neg h
theorem BS {t : Int} {j : Jb} (h : j.st = 3 ∧ j.fin = t) : aT t j = j.setSt 6 := if_pos h
def jr (M : Md) (k : Nat) : Md := { M with L := eH (aT M.now) M.L k }
section
variable {M : Md}
theorem xq (k : Nat) : (jr M k).L.length = M.L.length := oC M.L k
theorem Q3 : jr M M.L.length = { M with L := M.L.map (aT M.now) } := by unfold jr; rw [qV]
theorem NR : jr M 0 = M := by unfold jr eH; simp
theorem Q4 (h : aF M) (h1 : 1 ≤ M.dr.length) (h2 : M.L.length ≤ 900) {f0 : Int → Int} (hf : ∀ t, M.now ≤ t → 0 ≤ f0 t ∧ f0 t ≤ 64) : PK { ah M with f := f0 } := by
 have := fB h h1 h2
 exact ⟨this.now, this.few, this.st, this.lim, this.rH, hf⟩
theorem FY {x y : Jb} (h : x.id ≠ y.id) (hn : aV y x = false) : aV x y = true := by
 unfold aV at *
 simp only [Bool.or_eq_false_iff, Bool.and_eq_false_iff, decide_eq_false_iff_not, Bool.or_eq_true, Bool.and_eq_true, decide_eq_true_eq] at *
 omega
theorem IP {L : List Jb} {now : Int} {f : Nat} (hd : dm now (L.getD f default) = true) (hf : ∀ q, q < L.length → q ≠ f → dm now (L.getD q default) = true → aV (L.getD f default) (L.getD q default) = true) :
 ∀ k, k ≤ L.length → f < k → iy L now k = f := by
 have sp : ∀ q, dm now (L.getD q default) = true ↔ (aj (L.getD q default) = true ∧ (L.getD q default).aN = now) := fun q => by unfold dm; simp
 intro k
 induction k with
 | zero => intro _ h; omega
 | succ k ih =>
   intro hk Zb
   unfold iy
   rcases Nat.lt_or_ge f k with h1 | h1
   ·rw [ih (by omega) h1, if_neg]
    rintro ⟨h2, h3, h4⟩
    have h5 := hf k (by omega) (by omega) ((sp k).2 ⟨h2, h3⟩)
    rcases h4 with h4 | h4
    ·omega
    ·rw [Int.toNat_natCast] at h4
     have := Gp h5
     rw [this] at h4
     cases h4
   ·obtain rfl : f = k := by omega
    obtain ⟨h2, h3⟩ := (sp f).1 hd
    rw [if_pos]
    refine ⟨h2, h3, ?_⟩
    rcases mY L now f with ⟨h4, _⟩ | ⟨q, h4, h5, h6⟩
    ·exact .inl h4
    ·refine .inr ?_
     rw [h4, Int.toNat_natCast]
     exact hf q (by omega) (by omega) h6
theorem KN {f : Nat} (hfl : f < M.L.length) (hd : dm M.now (M.L.getD f default) = true) (hf : ∀ q, q < M.L.length → q ≠ f → dm M.now (M.L.getD q default) = true → aV (M.L.getD f default) (M.L.getD q default) = true) : firstM M = f :=
 IP hd hf _ (Nat.le_refl _) hfl
theorem CR (n : Nat) (h : ∀ q, q < M.L.length → dm M.now (M.L.getD q default) = false) : startGo n M = M := by
 have hf : ¬ 0 ≤ firstM M := by
  unfold firstM
  rcases mY M.L M.now M.L.length with ⟨h4, _⟩ | ⟨q, h4, h5, h6⟩
  ·omega
  ·rw [h q h5] at h6; cases h6
 induction n with
 | zero => rfl
 | succ n ih => unfold startGo; rw [if_neg hf]; exact ih
structure Going (M F : Md) (r : List Jb) : Prop where
 inv : aF M
 run : ∀ j ∈ M.L, j.st = 3 → M.now < j.fin
 goes : ∃ n, startGo n M = F ∧ mo M ≤ n
 still : ∀ x ∈ r, 1 ≤ x.id ∧ x.id ≤ M.L.length ∧ M.L.getD (x.id - 1).toNat default = x
 due : ∀ q, q < M.L.length → dm M.now (M.L.getD q default) = true → M.L.getD q default ∈ r
 sorted : r.Pairwise (fun x y => aV y x = false)
 nodup : r.Pairwise (fun x y => x.id ≠ y.id)
 pend : ∀ x ∈ r, x.st = 1
theorem Going.skip {F : Md} {x : Jb} {r : List Jb} (h : Going M F (x :: r)) (hx : dm M.now x = false) : Going M F r :=
 ⟨h.inv, h.run, h.goes, fun y hy => h.still y (List.mem_cons_of_mem _ hy), fun q hq hd => by
  rcases List.mem_cons.1 (h.due q hq hd) with e | e
  ·rw [e, hx] at hd; cases hd
  ·exact e, (List.pairwise_cons.1 h.sorted).2, (List.pairwise_cons.1 h.nodup).2, fun y hy => h.pend y (List.mem_cons_of_mem _ hy)⟩
theorem Going.last {F : Md} (h : Going M F []) : F = M := by
 obtain ⟨n, h1, _⟩ := h.goes
 rw [← h1]
 refine CR n fun q hq => ?_
 cases hd : dm M.now (M.L.getD q default) with
 | false => rfl
 | true => exact absurd (h.due q hq hd) (by simp)
theorem Going.next {F : Md} {x : Jb} {r : List Jb} (h : Going M F (x :: r)) (hx : dm M.now x = true) : (x.id - 1).toNat < M.L.length ∧ M.L.getD (x.id - 1).toNat default = x ∧ Going (aW M (x.id - 1).toNat) F r := by
 obtain ⟨i1, i2, i3⟩ := h.still x (List.mem_cons_self ..)
 obtain ⟨f, hf⟩ : ∃ f, f = (x.id - 1).toNat := ⟨_, rfl⟩
 have hfl : f < M.L.length := by omega
 rw [← hf] at i3 ⊢
 have hs := List.pairwise_cons.1 h.sorted
 have hn := List.pairwise_cons.1 h.nodup
 have hdf : dm M.now (M.L.getD f default) = true := by rw [i3]; exact hx
 have uD : firstM M = f := KN hfl hdf fun q hq hne hd => by
  have hmem := h.due q hq hd
  have Q5 := h.inv.ids q hq
  have Iy := h.inv.ids f hfl
  rcases List.mem_cons.1 hmem with e | e
  ·rw [e] at Q5; rw [i3] at Iy; omega
  ·rw [i3]
   exact FY (hn.1 _ e) (hs.1 _ e)
 obtain ⟨n, h1, h2⟩ := h.goes
 obtain ⟨s1, s2, s3, _⟩ := h.inv.start h.run hfl hdf
 have hpos : 1 ≤ mo M := by
  have h5 := AL (fun j => if dm M.now j = true then (1 : Int) else 0) M.L (fun j _ => by split <;> omega) (aY hfl)
  rw [if_pos hdf] at h5
  exact h5
 have hlen : (aW M f).L.length = M.L.length := by unfold aW; exact List.length_set
 have hget : ∀ q, (aW M f).L.getD q default = if f = q ∧ f < M.L.length then fM M (M.L.getD f default) else M.L.getD q default := fun q => gm
 refine ⟨hfl, i3, s1, s2, ?_, ?_, ?_, hs.2, hn.2, fun y hy => h.pend y (List.mem_cons_of_mem _ hy)⟩
 ·cases n with
  | zero => omega
  | succ n =>
    refine ⟨n, ?_, by omega⟩
    unfold startGo at h1
    rw [uD, if_pos (by omega), Int.toNat_natCast] at h1
    exact h1
 ·intro y hy
  obtain ⟨a1, a2, a3⟩ := h.still y (List.mem_cons_of_mem _ hy)
  refine ⟨a1, by rw [hlen]; exact a2, ?_⟩
  rw [hget, if_neg, a3]
  rintro ⟨e, _⟩
  exact hn.1 y hy (by omega)
 ·intro q hq hd
  rw [hlen] at hq
  rw [hget] at hd ⊢
  by_cases e : f = q ∧ f < M.L.length
  ·rw [if_pos e] at hd
   have : dm (aW M f).now (fM M (M.L.getD f default)) = false := by unfold dm aj; rfl
   rw [this] at hd; cases hd
  ·rw [if_neg e] at hd ⊢
   rcases List.mem_cons.1 (h.due q hq hd) with e2 | e2
   ·exfalso
    have Q5 := h.inv.ids q hq
    rw [e2] at Q5
    exact e ⟨by omega, hfl⟩
   ·exact e2
end
end Go.Proofs.YtelnhablglomjaaGreat

namespace Go.Proofs.YtelnhablglomjaaGreat
open Go.RowKit Go.Lib Go.Sort
def yD (w : World) (c t d p : Nat) (v : Value) (g a : Nat) (m : Int) (P : Pg) (W : World) : Prop := ∃ v' g', CW W c t d p v' g' a m P ∧ CS w W c t d p v g v' g'
theorem yD.ext {w : World} {c t d p g a : Nat} {v : Value} {m : Int} {P : Pg} : ∀ (x y : World), Reg2.Ext x y → yD w c t d p v g a m P x → yD w c t d p v g a m P y := by
 rintro x y h ⟨v', g', h1, h2⟩
 exact ⟨v', g', h1.kept h, h2.trans (CS.of_below h)⟩
def uO (w : World) (c t d p : Nat) (v : Value) (g a : Nat) (m : Int) (P : Pg) (T : List Int) (W : World) : Prop := yD w c t d p v g a m P W ∧ iC T
theorem uO.ext {w : World} {c t d p g a : Nat} {v : Value} {m : Int} {P : Pg} {T : List Int} : ∀ (x y : World), Reg2.Ext x y → uO w c t d p v g a m P T x → uO w c t d p v g a m P T y := fun x y h hs => ⟨yD.ext x y h hs.1, hs.2⟩
section
variable {w : World} {c t d p g a : Nat} {v : Value} {m : Int} {P : Pg} {M : Md}
theorem launch_fn (h : CW w c t d p v g a m P) (hk : PK P) (j : Jb) (hj : -9223372036854775808 ≤ j.wid ∧ j.wid ≤ 9223372036854775807) {s : Nat} {T0 : List Int} (hT0 : p9 P.T j.wid s 0 T0) :
 Calls Tryz.prog 160 #[.pointer (some ⟨c, 0, none⟩), .agg (ai j).toArray] w (fe w c t d p v g a m (.tuple #[]) { P with T := T0, J := cu P.J (gq P.now) j.id (fun j : Jb => decide (j.state = 1)) (lL P.now s) }) := by
 obtain ⟨wA, aJ⟩ : ∃ wA, wA = w.alloc (.cells (ai j).toArray 92) := ⟨_, rfl⟩
 have bR : Below w.heap.size w wA := by rw [aJ]; exact (Below.refl _ _).alloc (Nat.le_refl _) _
 have hsA : wA.heap.size = w.heap.size + 1 := by rw [aJ]; simp
 have nR : Hid (wA.heap[w.heap.size]? = some (.cells (ai j).toArray 92 (0, 0))) := by show _ = _; rw [aJ]; exact heap_alloc_new w _
 have iP := Lib.hid (h.kept bR)
 have hft : Hid (¬ dP c t d p v g w.heap.size) := fun hf => absurd (h.lt hf) (Nat.lt_irrefl _)
 have e0 : (ai j)[0]? = some (.int .i64 j.id) := rfl
 have e2 : (ai j)[2]? = some (.int .i64 j.wid) := rfl
 have zE := bI
 obtain ⟨k, hk1⟩ : ∃ k, k = 10 := ⟨_, rfl⟩
 rw [← hk1] at zE
 have hk0 : ¬ k = 0 := by omega
 replace hk1 := Lib.hid hk1
 have Q6 := fun (W : World) (hW : CW W c t d p v g a m P) => NF hW hk j.wid hj
 have hbe := fun (W : World) (v1 : Value) (g1 : Nat) (hL : iC T0) (hW : CW W c t d p v1 g1 a m { P with T := T0 }) => KD hW ⟨hk.now, hk.few, hk.st, hk.lim, hL, hk.f⟩ j.id P.now s
 rw [show ({ P with T := T0 } : Pg).J = P.J from rfl] at hbe
 have Zc : Hid (∀ {T' : List Int}, iC T' → T0 = T' → iC T0) := fun h1 h2 => h2 ▸ h1
 generalize ai j = cJ at *
 generalize j.wid = jw at *
 generalize j.id = ji at *
 replace hT0 := Lib.hid hT0
 clear h
 go_enter Tryz.func160, Tryz.ntmps160
 go_wp2_with fail
 rw [← aJ]
 replace aJ := Lib.hid aJ
 refine Reg2.sO 11 31 [[],[ae],[ae,ae],[ae,ae,ae],[af,af,af,af],[af,af,af,af,ae],[ae,ae,ae,ae,ae,ae],[ae,ae,ae,ae,ae,ae,ae],[ae,ae,ae,ae,ae,ae,ae,ae],[ae,ae,ae,ae,ae,ae,ae,ae,af],[ae,ae,ae,ae,ae,ae,ae,ae,ae,af]] [0, 0, 0, 2, 0, 2, 3, 0, 0, 0, 0]
  [.pure, .pure, .pure, .pinned Unit () (fun _ => .pointer (some ⟨d, 0, none⟩)) (fun _ _ => True), .pure, .pinned Unit () (fun _ => .int .i64 jw) (fun _ _ => True), .major Unit () (fun _ => .tuple #[.int .u64 s, .int .i64 0]), .pure, .pure, .pure, .pure]
  (fun _ => True) (fun vs W => match vs with | [] => Below wA.heap.size wA W | _ :: _ => (uO wA c t d p v g a m { P with T := T0 } T0) W) (fun _ _ => True) (by kernel_rfl) (by kernel_rfl) rfl rfl (fun vs a b h hs => by cases vs with | nil => exact Below.trans hs (h.mono (Below.size hs)) | cons v vs => exact uO.ext a b h hs) ?_ ?_ ?_ ?_ ?_ ?_
 ·intro a b he hb; trivial
 ·intro a b he hb; trivial
 ·exact ⟨trivial, trivial, trivial, ⟨fun _ _ _ _ _ => trivial, fun _ _ _ _ _ => trivial⟩, trivial, ⟨fun _ _ _ _ _ => trivial, fun _ _ _ _ _ => trivial⟩, trivial, trivial, trivial, trivial, trivial, trivial⟩
 ·trivial
 ·exact ⟨rfl, rfl, rfl, Nat.le_refl _, fun _ _ => rfl⟩
 dsimp only [Reg2.mk, List.zip, List.zipWith, List.take]
 repeat (refine' Reg2.ak _ (by rfl) (fun wz => ?_) ?_; rotate_left; (go_simp; first | rfl | rw [if_neg (by omega)]); simp only [Act.put, xA, xB, xC, xD, xE, id])
 refine Reg2.pp (fun wz _ hI hF => ?_) (fun r3 => ?_) (by rfl)
 ·have c0 := (iP.out.kept hI).c1
  go_wp2_with fail
  first | exact ⟨_, rfl, rfl, Reg2.Ext.refl _⟩ | exact ⟨_, rfl, ⟨(), rfl, trivial⟩, Reg2.Ext.refl _⟩
 simp only [Act.put, xA, xB, xC, xD, xE, id]
 repeat (refine' Reg2.ak _ (by rfl) (fun wz => ?_) ?_; rotate_left; (go_simp; first | rfl | rw [if_neg (by omega)]); simp only [Act.put, xA, xB, xC, xD, xE, id])
 refine Reg2.pp (fun wz _ hI hF => ?_) (fun r5 => ?_) (by rfl)
 ·have q0 : wz.cell? ⟨w.heap.size, 2, none⟩ = some (.int .i64 jw) := by simp [World.cell?, (hI.block _ (aC nR.out)).trans nR.out, e2]
  go_wp2_with fail
  first | exact ⟨_, rfl, rfl, Reg2.Ext.refl _⟩ | exact ⟨_, rfl, ⟨(), rfl, trivial⟩, Reg2.Ext.refl _⟩
 simp only [Act.put, xA, xB, xC, xD, xE, id]
 refine Reg2.pj (fun wz _ hI hF => ?_) (fun r6 => ?_) (by rfl)
 ·go_wp2_with (go_at_call 167; go_must (refine (Q6 wz (iP.out.kept hI)).mono ?_); rintro e w' ⟨s1, x1, T', hT, hL, rfl, v4, g4, pF, bL⟩)
  obtain ⟨rfl, rfl, rfl⟩ := hT0.out.uniq hT
  have hpost : uO wA c t d p v g a m { P with T := T0 } T0 w' := ⟨⟨v4, g4, pF, (CS.of_below hI).trans bL⟩, hL⟩
  exact ⟨_, rfl, ⟨⟨(), rfl⟩, hpost⟩, trivial⟩
 simp only [Act.put, xA, xB, xC, xD, xE, id]
 repeat (refine' Reg2.ak _ (by rfl) (fun wz => ?_) ?_; rotate_left; (go_simp; first | rfl | rw [if_neg (by omega)]); simp only [Act.put, xA, xB, xC, xD, xE, id])
 refine Reg2.aA ?_
 intro w7 _ sH kH
 clear kH
 dsimp only [List.drop]
 obtain ⟨⟨v7, g7, zU, gG⟩, hL7⟩ : yD wA c t d p v g a m { P with T := T0 } w7 ∧ iC T0 := sH
 have zV : Hid (w7.heap[w.heap.size]? = some (.cells cJ.toArray 92 (0, 0))) := (gG.heap (aC nR.out) hft.out).trans nR.out
 replace zU := Lib.hid zU
 go_wp2_with fail
 refine Reg2.ro w7 12 31 [.p 0, .p 1, .p 3, .m 7, .p 0, .m 16, .p 0, .p 64, .p 192, .m 448, .m 960, .p 0] [.pointer (some ⟨t, 0, none⟩), .int .i64 ji, .pointer (some ⟨p, 0, none⟩), .int .i64 P.now] (by kernel_rfl) (by kernel_rfl) rfl rfl ⟨rfl, rfl, rfl, Nat.le_refl _, fun _ _ => rfl⟩ ?_
 dsimp only [Reg2.gM]
 repeat ((first
  | (refine' Reg2.ak _ (by rfl) (fun wz => ?_) ?_; rotate_left; (go_simp; first | rfl | rw [if_neg (by omega)]))
  | (refine Reg2.az (by rfl) (fun wz hI hF => ?_) (fun _ => ?_)
     ·unfold Reg2.One
      have c0 := (zU.out.kept hI).c0
      have q0 : wz.cell? ⟨w.heap.size, 0, none⟩ = some (.int .i64 ji) := by simp [World.cell?, (hI.block _ (aC zV.out)).trans zV.out, e0]
      have Ul := (zU.out.kept hI).c2
      go_wp2_with fail
      first | exact ⟨_, rfl, rfl, Reg2.Ext.refl _⟩ | exact ⟨_, rfl, ⟨(), rfl, trivial⟩, Reg2.Ext.refl _⟩)); simp only [Act.put, xA, xB, xC, xD, xE, id])
 refine Reg2.pm (fun wz hI hF => ?_) (fun Bh => ?_) (by rfl)
 ·go_wp2_with (go_at_call 95; go_must (refine (gz (zU.out.kept hI)).mono ?_); rintro e w' ⟨rfl, rfl⟩)
  first | exact ⟨_, rfl, rfl, Reg2.Ext.refl _⟩ | exact ⟨_, rfl, ⟨(), rfl, trivial⟩, Reg2.Ext.refl _⟩
 simp only [Act.put, xA, xB, xC, xD, xE, id]
 repeat (refine' Reg2.ak _ (by rfl) (fun wz => ?_) ?_; rotate_left; (go_simp; first | rfl | rw [if_neg (by omega)]); simp only [Act.put, xA, xB, xC, xD, xE, id])
 refine Reg2.aA ?_
 intro w8 WR _ dW
 clear dW
 dsimp only [List.drop]
 have Vm := zU.out.kept WR
 have pE := hbe w8 v7 g7 hL7 Vm
 go_wp2_with fail
 go_at_call 168
 refine pE.mono ?_
 clear pE
 rintro e w9 ⟨rfl, v9, g9, IQ, fZ⟩
 have hfin := (((CS.of_below bR : CS w wA c t d p v g v g).trans gG).trans (CS.of_below WR)).trans fZ
 go_wp2_with fail
 go_end0
 exact ⟨rfl, v9, g9, IQ, hfin⟩
theorem boxed (wr : World) (x : Jb) : Sem.run Tryz.prog (storeCells ⟨wr.heap.size, 0, none⟩ (ai x) 0) (wr.alloc (.cells #[.int .i64 0, .int .i64 0, .int .i64 0, .int .i64 0, .int .i64 0, .int .i64 0, .int .i64 0, .int .i64 0, .int .i64 0, .int .u64 0] 92)) = .ok () (wr.alloc (.cells (ai x).toArray 92)) :=
 dB wr wr.heap.size (ai x) (ai il) 92 rfl rfl (dH x)
theorem nz.off {w w1 : World} {gb off : Nat} {l : List Jb} {v1 : Value} {g1 : Nat} (hJ : nz w gb off l) (hs : CS w w1 c t d p v g v1 g1) (hg : ¬ dP c t d p v g gb) : nz w1 gb off l := by
 have hb : w1.heap[gb]? = w.heap[gb]? := hs.heap hJ.1 hg
 exact ⟨Nat.lt_of_lt_of_le hJ.1 hs.off.size, fun i s j u hi hj => by
  have := hJ.2 i s j u hi hj
  simp only [World.cell?, World.frozen?, hb] at this ⊢
  exact this⟩
theorem KO (f0 : Int → Int) (h : CW w c t d p v g a m { ah M with f := f0 }) (hI : aF M) (h1 : 1 ≤ M.dr.length) (hll : M.L.length ≤ 900) (hf0 : ∀ u, M.now ≤ u → 0 ≤ f0 u ∧ f0 u ≤ 64) :
 Calls Tryz.prog 139 #[.pointer (some ⟨c, 0, none⟩), .int .i64 M.now] w (fe w c t d p v g a m (.tuple #[]) { ah ({ M with L := M.L.map (aT M.now) } : Md) with f := f0 }) := by
 have zE := bI
 obtain ⟨k, hk⟩ : ∃ k, k = 10 := ⟨_, rfl⟩
 rw [← hk] at zE
 have hk0 : ¬ k = 0 := by omega
 replace hk := Lib.hid hk
 obtain ⟨wA, aJ⟩ : ∃ wA, wA = w.alloc (.cells #[.int .i64 3] 3) := ⟨_, rfl⟩
 have bR : Below w.heap.size w wA := by rw [aJ]; exact (Below.refl _ _).alloc (Nat.le_refl _) _
 have KP : aD enc1 1 wA (.slice (some ⟨w.heap.size, 0, none⟩) 1 1) [3] := by rw [aJ]; exact gp w w.heap.size [3] rfl (by decide)
 have iP := h.kept bR
 have hin := vM iP.eQ (by show M.L.length ≤ 1000; omega) KP
 rw [show ({ ah M with f := f0 } : Pg).J = M.L from rfl] at hin
 have c0 := h.c0
 have hlt : Hid (∀ k, dP c t d p v g k → k < w.heap.size) := fun k hk => h.lt hk
 have Q7 : Hid (∀ {W : World}, CW W c t d p v g a m { ah M with f := f0 } → CW W c t d p v g a m { ah (jr M 0) with f := f0 }) := fun hW => by rw [NR]; exact hW
 generalize hL1 : (M.L.filter fun j : Jb => decide (j.state ∈ [(3 : Int)])) = l at *
 have hn1 : l.length ≤ 900 := by rw [← hL1]; exact Nat.le_trans (List.length_filter_le _ _) hll
 obtain ⟨tn, htn⟩ : ∃ tn, tn = M.now := ⟨_, rfl⟩
 rw [← htn]
 have htb := hI.mb.now
 rw [← htn] at htb
 replace htn := Lib.hid htn
 replace hL1 := Lib.hid hL1
 rw [aJ] at hin
 clear h
 go_enter Tryz.func139, Tryz.ntmps139
 go_wp2_with fail
 go_at_call 125
 refine hin.mono ?_
 clear hin c0
 rw [← aJ]
 rintro e w0 ⟨u, rfl, ho, hb0⟩
 have hbw0 : Below w.heap.size w w0 := bR.trans (hb0.mono bR.size)
 have hC0 := Q7.out (iP.kept hb0)
 replace aJ := Lib.hid aJ
 have hsh : Hid (∀ {ao : Option Addr} {n cap : Nat}, u = .slice ao n cap → 0 < l.length → ∃ g0, ao = some ⟨g0, 0, none⟩ ∧ wA.heap.size ≤ g0) := fun {ao n cap} e hp => by
  obtain ⟨Mr, cap', e0, hp'⟩ := gJ ho
  obtain ⟨g0, e4⟩ := hp' hp
  subst e4
  rw [e] at e0
  injection e0 with e0 _ _
  exact ⟨g0, e0, (ho.lt g0 (by rw [e, e0]; rfl)).1⟩
 have hr := aD.iW ho au rfl rfl
 obtain ⟨ao, cap, rfl, q1, q2, q3⟩ := hr
 obtain ⟨n, hn⟩ : ∃ n, l.length = n := ⟨_, rfl⟩
 rw [hn] at q1 q3 hn1 ho ⊢
 have HQ : Hid (0 < n → ∃ b, ao = some ⟨b, 0, none⟩ ∧ nz w0 b 0 l ∧ w.heap.size ≤ b) := fun hp => by
  obtain ⟨b, off, e1, e2, e3⟩ := q3 hp
  obtain ⟨g0, e4, e5⟩ := hsh.out rfl (by have := hn; omega)
  rw [e4] at e1
  injection e1 with e1
  injection e1 with e6 e7
  subst e6; subst e7
  exact ⟨g0, e4, ⟨e2, e3⟩, by have := bR.size; omega⟩
 have EA : cap ≤ 9223372036854775807 := by unfold maxLen at q2; omega
 replace hn := Lib.hid hn
 clear q2 q3 ho hb0 iP
 go_wp2_with fail
 go_loopw [13] (fun ii wr => ∃ (i kk : Nat) (vr : Value) (gr : Nat), i ≤ n ∧ ii = .int .i64 i ∧ CW wr c t d p vr gr a m { ah (jr M kk) with f := f0 } ∧ CS w0 wr c t d p v g vr gr ∧ Hid (kk ≤ M.L.length ∧ (M.L.drop kk).filter (fun j : Jb => decide (j.state ∈ [(3 : Int)])) = l.drop i)) (fun ii _ => n - (intOf ii).toNat)
 case atStart => exact ⟨0, 0, v, g, Nat.zero_le _, rfl, hC0, CS.refl _, Lib.hid ⟨Nat.zero_le _, by rw [List.drop_zero, List.drop_zero, hL1.out]⟩⟩
 case round =>
  obtain ⟨i, kk, vr, gr, hin, rfl, FZ, hSr, hpos⟩ := hrel
  by_cases hlt2 : i < n
  ·have b2 : (i : Int) < (n : Int) := by omega
   have wi : IntKind.i64.wrap ((i : Int) + 1) = (i : Int) + 1 := by rw [IntKind.wrap_i64]; omega
   obtain ⟨gb, rfl, hJ, hgb⟩ := HQ.out (by omega)
   have hgf : ¬ dP c t d p v g gb := fun hf => absurd (hlt.out gb hf) (by omega)
   have sD := hJ.off hSr hgf
   have iF : i < l.length := by have := hn.out; omega
   have LI := sD.load hk.out iF
   obtain ⟨x, hx⟩ : ∃ x, x = l[i]! := ⟨_, rfl⟩
   rw [← hx, Nat.zero_add] at LI
   replace hx := Lib.hid hx
   have hdrop : l.drop i = x :: l.drop (i + 1) := by rw [hx.out, getElem!_pos l i iF]; exact List.drop_eq_getElem_cons iF
   obtain ⟨hkk, hfil⟩ := hpos.out
   rw [hdrop] at hfil
   obtain ⟨q, a1, a2, a3, a4, a5⟩ := FX hfil
   have hq : kk + q < M.L.length := by rw [List.length_drop] at a1; omega
   rw [getD_drop] at a2
   have Q8 : eH (aT M.now) M.L kk = eH (aT M.now) M.L (kk + q) := zx (by omega) (by omega) fun mm b1 b2 => vU fun hh => by
    have := a3 (mm - kk) (by omega)
    rw [getD_drop, show kk + (mm - kk) = mm by omega] at this
    exact absurd this (by show ¬ (decide ((M.L.getD mm default).state ∈ [(3 : Int)]) = false); rw [show (M.L.getD mm default).state = 3 from hh.1]; decide)
   have hov : jr M kk = jr M (kk + q) := by unfold jr; rw [Q8]
   rw [hov] at FZ
   have hx3 : x.st = 3 := (show x.state = 3 by simpa using a5)
   have F3 : (M.L.drop (kk + q + 1)).filter (fun j : Jb => decide (j.state ∈ [(3 : Int)])) = l.drop (i + 1) := by rw [← a4, List.drop_drop]; rfl
   have Q9 := hI.Ad (kk + q) (by omega)
   have Um := hI.Ad (kk + q + 1) (by omega)
   have yE : (jr M (kk + q)).L.getD (kk + q) default = x := (qA hq).trans a2
   have hxm := aY hq
   rw [a2] at hxm
   have IU := hI.ids (kk + q) hq
   rw [a2] at IU
   have LC := hI.mb.bP x hxm
   have WT := Lib.hid (Q4 Q9 h1 (by show (jr M (kk + q)).L.length ≤ 900; rw [xq]; exact hll) hf0)
   have Vp := Lib.hid (Q4 Um h1 (by show (jr M (kk + q + 1)).L.length ≤ 900; rw [xq]; exact hll) hf0)
   have WU := Lib.hid (Im (M := jr M (kk + q)) Q9 h1)
   replace F3 := Lib.hid F3
   replace yE := Lib.hid yE
   replace a2 := Lib.hid a2
   replace IU := Lib.hid IU
   replace Q9 := Lib.hid Q9
   clear hfil hdrop a3 a4 a5 a1 Q8 hpos hov Um
   have lI := au x
   rw [← hk.out] at lI
   have e0 : (ai x)[0]? = some (.int .i64 x.id) := rfl
   have e7 : (ai x)[7]? = some (.int .i64 x.fin) := rfl
   have e9 : (ai x)[9]? = some (.int .u64 x.bP) := rfl
   have st := boxed wr x
   obtain ⟨w1, hw1⟩ : ∃ w1, w1 = wr.alloc (.cells (ai x).toArray 92) := ⟨_, rfl⟩
   have hb1 : Below wr.heap.size wr w1 := by rw [hw1]; exact (Below.refl _ _).alloc (Nat.le_refl _) _
   have hz1 : w1.heap[wr.heap.size]? = some (.cells (ai x).toArray 92 (0, 0)) := by rw [hw1]; exact heap_alloc_new wr _
   have hft : ¬ dP c t d p vr gr wr.heap.size := fun hf => absurd (FZ.lt hf) (Nat.lt_irrefl _)
   have c7 : w1.cell? ⟨wr.heap.size, 7, none⟩ = some (.int .i64 x.fin) := by simp [World.cell?, hz1, e7]
   replace hz1 := Lib.hid hz1
   have sF := Lib.hid (FZ.kept hb1)
   have hS1 := hSr.trans (CS.of_below hb1)
   generalize hcI : ai x = cI at *
   replace hcI := Lib.hid hcI
   rw [← hw1] at st
   replace hw1 := Lib.hid hw1
   by_cases hfin : x.fin = tn
   ·have DI : x.st = 3 ∧ x.fin = M.now := ⟨hx3, hfin.trans htn.out⟩
    have d1 : (x.fin == tn) = true := by simp [hfin]
    have hset : Hid (cu (jr M (kk + q)).L (bB 6 tn) x.id (eX 6) (bQ 6 tn) = (jr M (kk + q + 1)).L) := by
     have hle := xq (M := M) (kk + q)
     have Fq : bM (jr M (kk + q)).L (bB 6 tn) x.id (eX 6) = 0 := by
      have e1 : bB 6 tn = 0 := by unfold bB; rw [if_neg (by decide), if_neg (by decide), if_neg (by omega), if_neg (by omega)]
      unfold bM
      rw [IU.out, e1, if_neg (by decide), if_neg (by omega), if_neg (by omega), show ((((kk + q : Nat) : Int)) + 1 - 1).toNat = kk + q by omega, if_pos]
      rw [getElem!_pos _ _ (by omega)]
      have : (jr M (kk + q)).L[kk + q]'(by omega) = x := by rw [← yE.out]; simp [List.getD, show kk + q < (jr M (kk + q)).L.length by omega]
      rw [this]
      unfold eX
      rw [show x.state = 3 from hx3]
      rfl
     show cu _ _ _ _ _ = _
     unfold cu
     rw [if_pos Fq, IU.out, show ((((kk + q : Nat) : Int)) + 1 - 1).toNat = kk + q by omega, getElem!_pos _ _ (by omega)]
     have e2 : (jr M (kk + q)).L[kk + q]'(by omega) = x := by rw [← yE.out]; simp [List.getD, show kk + q < (jr M (kk + q)).L.length by omega]
     rw [e2]
     have e3 : bQ 6 tn x = aT M.now (M.L.getD (kk + q) default) := by
      rw [a2.out, BS DI]
      have h8 := hI.rest x hxm (by omega)
      obtain ⟨x1, x2, x3, x4, x5, x6, x7, x8, x9, x0⟩ := x
      obtain rfl : x6 = 3 := hx3
      obtain rfl : x8 = tn := hfin
      obtain rfl : x9 = -1 := h8
      rfl
     rw [e3]
     exact iZ hq
    have hfi := fun (W : World) (hW : CW W c t d p vr gr a m { ah (jr M (kk + q)) with f := f0 }) => tY hW WT.out x.id 6 tn
    rw [show ({ ah (jr M (kk + q)) with f := f0 } : Pg).J = (jr M (kk + q)).L from rfl, hset.out] at hfi
    have hgi := fun (W : World) (v1 : Value) (g1 : Nat) (hW : CW W c t d p v1 g1 a m { ({ ah (jr M (kk + q)) with f := f0 } : Pg) with J := (jr M (kk + q + 1)).L }) => D7 hW (by
     have h9 := Vp.out
     exact ⟨h9.now, h9.few, h9.st, h9.lim, WU.out, h9.f⟩) x.bP.toNat (by omega)
    rw [show ((x.bP.toNat : Nat) : Int) = x.bP by omega] at hgi
    have hge : Hid (∀ {n1 x1 : Int} {T' : List Int}, Bu (cZ (jr M (kk + q))) x.bP.toNat n1 x1 T' → T' = cZ (jr M (kk + q + 1))) := fun {n1 x1 T'} hG => by
     have h8 := D8 (M := jr M (kk + q)) Q9.out (i := kk + q) (y := aT M.now (M.L.getD (kk + q) default)) (by rw [xq]; exact hq) (by rw [yE.out]; exact hx3) (by rw [a2.out, BS DI]; show (6 : Int) ≠ 3; decide) (n := n1) (x := x1) (T' := T') (by rw [yE.out]; exact hG)
     rw [h8.2.2]
     have e4 : ({ jr M (kk + q) with L := (jr M (kk + q)).L.set (kk + q) (aT M.now (M.L.getD (kk + q) default)) } : Md) = jr M (kk + q + 1) := by unfold jr; rw [iZ hq]
     rw [e4]
    replace hfin := Lib.hid hfin
    go_wp2_with fail
    refine Reg2.ro w1 7 37 [.p 0, .p 1, .p 3, .m 7, .p 0, .m 16, .p 0] [.pointer (some ⟨t, 0, none⟩), .int .i64 x.id] (by kernel_rfl) (by kernel_rfl) rfl rfl ⟨rfl, rfl, rfl, Nat.le_refl _, fun _ _ => rfl⟩ ?_
    dsimp only [Reg2.gM]
    repeat ((first
     | (refine' Reg2.ak _ (by rfl) (fun wz => ?_) ?_; rotate_left; (go_simp; first | rfl | rw [if_neg (by omega)]))
     | (refine Reg2.az (by rfl) (fun wz hI hF => ?_) (fun _ => ?_)
        ·unfold Reg2.One
         have c0 := (sF.out.kept hI).c0
         have q0 : wz.cell? ⟨wr.heap.size, 0, none⟩ = some (.int .i64 x.id) := by simp [World.cell?, (hI.block _ (aC hz1.out)).trans hz1.out, e0]
         go_wp2_with fail
         first | exact ⟨_, rfl, rfl, Reg2.Ext.refl _⟩ | exact ⟨_, rfl, ⟨(), rfl, trivial⟩, Reg2.Ext.refl _⟩)); simp only [Act.put, xA, xB, xC, xD, xE, id])
    refine Reg2.aA ?_
    intro w4 HI4 _ dW
    clear dW
    dsimp only [List.drop]
    have pF := sF.out.kept HI4
    have WV := hfi w4 pF
    have zT : w4.heap[wr.heap.size]? = some (.cells cI.toArray 92 (0, 0)) := (HI4.block _ (aC hz1.out)).trans hz1.out
    go_wp2_with fail
    go_at_call 100
    refine WV.mono ?_
    clear WV
    rintro e w5 ⟨rfl, v5, g5, gy, hS5⟩
    have Hm : Hid (w5.heap[wr.heap.size]? = some (.cells cI.toArray 92 (0, 0))) := (hS5.heap (aC zT) hft).trans zT
    replace gy := Lib.hid gy
    go_wp2_with fail
    refine Reg2.ro w5 6 37 [.p 0, .p 1, .p 3, .m 7, .p 0, .m 16] [.pointer (some ⟨d, 0, none⟩), .int .u64 x.bP] (by kernel_rfl) (by kernel_rfl) rfl rfl ⟨rfl, rfl, rfl, Nat.le_refl _, fun _ _ => rfl⟩ ?_
    dsimp only [Reg2.gM]
    repeat ((first
     | (refine' Reg2.ak _ (by rfl) (fun wz => ?_) ?_; rotate_left; (go_simp; first | rfl | rw [if_neg (by omega)]))
     | (refine Reg2.az (by rfl) (fun wz hI hF => ?_) (fun _ => ?_)
        ·unfold Reg2.One
         have c0 := (gy.out.kept hI).c1
         have q0 : wz.cell? ⟨wr.heap.size, 9, none⟩ = some (.int .u64 x.bP) := by simp [World.cell?, (hI.block _ (aC Hm.out)).trans Hm.out, e9]
         go_wp2_with fail
         first | exact ⟨_, rfl, rfl, Reg2.Ext.refl _⟩ | exact ⟨_, rfl, ⟨(), rfl, trivial⟩, Reg2.Ext.refl _⟩)); simp only [Act.put, xA, xB, xC, xD, xE, id])
    refine Reg2.aA ?_
    intro w6 Iz _ dW
    clear dW
    dsimp only [List.drop]
    have IA := gy.out.kept Iz
    have WW := hgi w6 v5 g5 IA
    go_wp2_with fail
    go_at_call 129
    refine WW.mono ?_
    clear WW
    rintro e w7 ⟨n1, x1, T', hG, _, rfl, v7, g7, zU, gG⟩
    obtain rfl := hge.out hG
    have fZ := (hS1.trans (CS.of_below HI4)).trans (hS5.trans ((CS.of_below Iz).trans gG))
    go_wp2_with fail
    go_roundw
    case rel => exact ⟨i + 1, kk + q + 1, v7, g7, by omega, by go_num, zU, fZ, Lib.hid ⟨by omega, F3.out⟩⟩
    case measure => simp [intOf]; omega
   ·have d1 : (x.fin == tn) = false := by simp [hfin]
    have hsame : jr M (kk + q) = jr M (kk + q + 1) := by
     unfold jr
     rw [nk hq (vU fun hh => hfin (by rw [← a2.out]; exact hh.2.trans htn.out.symm))]
    have IQ := sF.out
    rw [hsame] at IQ
    go_wp2_with fail
    go_roundw
    case rel => exact ⟨i + 1, kk + q + 1, vr, gr, by omega, by go_num, IQ, hS1, Lib.hid ⟨by omega, F3.out⟩⟩
    case measure => simp [intOf]; omega
  ·have e : i = n := by omega
   subst e
   obtain ⟨hkk, hfil⟩ := hpos.out
   have hend : l.drop i = [] := List.drop_eq_nil_of_le (by have := hn.out; omega)
   rw [hend] at hfil
   have hall : jr M kk = { M with L := M.L.map (aT M.now) } := by
    rw [← Q3]
    unfold jr
    rw [zx (k' := M.L.length) hkk (Nat.le_refl _) fun mm b1 b2 => vU fun hh => by
     have := filter_none hfil (mm - kk) (by rw [List.length_drop]; omega)
     rw [getD_drop, show kk + (mm - kk) = mm by omega] at this
     exact absurd this (by show ¬ (decide ((M.L.getD mm default).state ∈ [(3 : Int)]) = false); rw [show (M.L.getD mm default).state = 3 from hh.1]; decide)]
   rw [hall] at FZ
   have hfin := (CS.of_below hbw0 : CS w w0 c t d p v g v g).trans hSr
   go_wp2_with fail
   go_end0
   have e9 := htn.out
   clear htn
   subst e9
   exact ⟨rfl, vr, gr, FZ, hfin⟩
end
end Go.Proofs.YtelnhablglomjaaGreat

namespace Go.Proofs.YtelnhablglomjaaGreat
open Go.RowKit Go.Lib Go.Sort
theorem NS {w : World} {base base' : Nat} {e : TypeId} {sz n : Nat} {v : Value} {xs : List Value} (h : w.ownsRow base e sz v n xs) (hb : base' ≤ base) : w.ownsRow base' e sz v n xs := by
 obtain ⟨h0, h1⟩ := h
 refine ⟨h0, ?_⟩
 rcases h1 with h1 | ⟨g, cap, cur, e0, h2, h3, h4⟩
 ·exact .inl h1
 ·exact .inr ⟨g, cap, cur, e0, by omega, h3, h4⟩
theorem NT (v : Value) (l : List Jb) (w : World) (hr : aD ai 10 w v l) (hl : l.length ≤ 1000) : Calls Tryz.prog 166 #[v] w fun e w' => ∃ (v' : Value) (r : List Jb), e = .returned v' ∧ w'.ownsRow w.heap.size 92 10 v' r.length (r.flatMap ai) ∧ r.length = l.length ∧ r.Perm l ∧ r.Pairwise (fun x y => aV y x = false) ∧ Below w.heap.size w w' := by
 have hc := DK hr (by omega)
 have hso := fun (v : Value) (w1 : World) (h : w1.ownsRow w.heap.size 92 10 v l.length (l.flatMap ai)) (hb : w.heap.size ≤ w1.heap.size) => MZ v l w1 h (by omega) hb
 clear hr
 replace hso := Lib.hid hso
 go_enter Tryz.func166, Tryz.ntmps166
 go_wp2_with fail
 go_at_call 50
 refine hc.mono ?_
 clear hc
 rintro e w1 ⟨v1, rfl, ho, hb⟩
 have hs := hso.out v1 w1 ho hb.size
 clear hso ho
 go_wp2_with fail
 go_at_call 172
 refine hs.mono ?_
 clear hs
 rintro e w2 ⟨rfl, r, ⟨h1, _, h2, h5⟩, h3, h4⟩
 have hfin : Hid (∃ (v' : Value) (r : List Jb), Ending.returned v1 = .returned v' ∧ w2.ownsRow w.heap.size 92 10 v' r.length (r.flatMap ai) ∧ r.length = l.length ∧ r.Perm l ∧ r.Pairwise (fun x y => aV y x = false) ∧ Below w.heap.size w w2) :=
  ⟨v1, r, rfl, h3, h1, h2, h5, hb.trans h4⟩
 clear h1 h2 h3 h4 h5 hb
 go_wp2_with fail
 go_ret
 exact hfin.out
section
variable {w w' : World} {p : Nat} {v : Value} {L : List Jb}
theorem F6 (h : TV w p v L) (hL : L.length ≤ 1000) : Calls Tryz.prog 159 #[.pointer (some ⟨p, 0, none⟩)] w fun e w' => ∃ (v' : Value) (r : List Jb), e = .returned v' ∧ w'.ownsRow w.heap.size 92 10 v' r.length (r.flatMap ai) ∧ r.Perm (L.filter fun j => decide (j.state = 1)) ∧ r.Pairwise (fun x y => aV y x = false) ∧ Below w.heap.size w w' := by
 have hb1 := (Below.refl w.heap.size w).alloc (Nat.le_refl _) (.cells #[.int .i64 1] 3)
 have hr : aD enc1 1 (w.alloc (.cells #[.int .i64 1] 3)) (.slice (some ⟨w.heap.size, 0, none⟩) 1 1) [1] := gp w w.heap.size [1] rfl (by decide)
 have hI := vM (h.kept hb1) hL hr
 have ef : (L.filter fun j => decide (j.state ∈ ([1] : List Int))) = L.filter fun j => decide (j.state = 1) := by
  congr 1
  funext j
  simp
 rw [ef] at hI
 have hF : (L.filter fun j => decide (j.state = 1)).length ≤ 1000 := Nat.le_trans (List.length_filter_le _ _) hL
 clear ef h hr
 generalize (L.filter fun j => decide (j.state = 1)) = F at *
 replace hb1 := Lib.hid hb1
 go_enter Tryz.func159, Tryz.ntmps159
 go_wp2_with fail
 go_at_call 125
 refine hI.mono ?_
 clear hI
 rintro e w2 ⟨v2, rfl, ho, hb⟩
 have hs := NT v2 F w2 (aD.iW ho au rfl rfl) hF
 have hb2 := hb1.out.trans (hb.mono hb1.out.size)
 replace hb2 := Lib.hid hb2
 clear ho hb hb1
 go_wp2_with fail
 go_at_call 166
 refine hs.mono ?_
 clear hs
 rintro e w3 ⟨v3, r, rfl, h1, _, h2, h3, h4⟩
 have hfin : Hid (∃ (v' : Value) (r : List Jb), Ending.returned v3 = .returned v' ∧ w3.ownsRow w.heap.size 92 10 v' r.length (r.flatMap ai) ∧ r.Perm F ∧ r.Pairwise (fun x y => aV y x = false) ∧ Below w.heap.size w w3) := ⟨v3, r, rfl, NS h1 hb2.out.size, h2, h3, hb2.out.trans (h4.mono hb2.out.size)⟩
 clear h1 h2 h3 h4 hb2
 go_wp2_with fail
 go_ret
 exact hfin.out
end
section
variable {w : World} {c t d p g a : Nat} {v : Value} {m : Int} {M : Md}
theorem IV (hrun : ∀ j ∈ M.L, j.st = 3 → M.now < j.fin) : aL M M.now M.dr.length = (((List.range M.dr.length).countP fun n : Nat => decide (aR M n = 1) : Nat) : Int) := by
 unfold aL
 congr 1
 refine List.countP_congr fun n hn => ?_
 have hn := List.mem_range.1 hn
 have hs := jM (M := M) hn
 unfold bS
 rcases fC M.L n with g | ⟨q, g, hq, g2⟩
 ·rw [decide_eq_true_iff, hs]
  simp [g]
 ·have hr : (M.L.getD q default).st = 3 := by unfold aH at g2; simp at g2; exact g2.1
  have := hrun _ (aY hq) hr
  rw [decide_eq_true_iff, hs, g, Int.toNat_natCast]
  have e1 : ¬ ((q : Int) < 0) := by omega
  have e2 : decide ((M.L.getD q default).fin ≤ M.now) = false := decide_eq_false (by omega)
  rw [e2, decide_eq_false e1, Bool.or_false, Bool.and_false]
  exact ⟨fun e => (nomatch e), fun e => absurd e.1 e1⟩
theorem NU (hI : aF M) (hrun : ∀ j ∈ M.L, j.st = 3 → M.now < j.fin) {f : Nat} (hf : f < M.L.length) (hd : dm M.now (M.L.getD f default) = true) : (M.L.getD f default).wid ≤ ((List.range M.dr.length).countP fun n : Nat => decide (aR M n = 1) : Nat) := by
 have hm := aY hf
 have bo := hI.one _ hm
 unfold dm at hd
 rw [Bool.and_eq_true, decide_eq_true_iff, bq] at hd
 have hpl : aj (M.L.getD f default) = true := bq.2 hd.1
 have hid := hI.ids f hf
 have hc := fun t => mF (t := t) (but := 0) hpl (by rw [hid]; omega)
 have h0 := hI.free M.now (Int.le_refl _)
 have hge := vE (L := M.L) (fun j hj => (hI.mb.wid j hj).1) M.now 0 hm
 rw [hc, if_pos (by omega)] at hge
 rw [← IV hrun]
 unfold ax at h0
 omega
theorem IW (hI : aF M) {f : Nat} (hf : f < M.L.length) (hs : (M.L.getD f default).st ≠ 3) (hidle : (M.L.getD f default).wid ≤ ((List.range M.dr.length).countP fun n : Nat => decide (aR M n = 1) : Nat)) : p9 (cZ M) (M.L.getD f default).wid (iI M (M.L.getD f default).wid) 0 (cZ (aW M f)) := by
 have hw := (hI.one _ (aY hf)).1
 have hc : (M.L.getD f default).wid ≤ aO (gZ (cZ M)) (cZ M).length := by
  rw [rJ, bC]
  have e : gZ (cZ M) = fun n : Nat => decide (aR M n = 1) := funext uL
  rw [e]; exact hidle
 have hT : p9 (cZ M) (M.L.getD f default).wid (aP (ik (cZ M) (M.L.getD f default).wid)) 0 (eY (cZ M) (M.L.getD f default).wid) := ⟨fun h => by omega, fun _ h => by omega, fun _ _ => ⟨rfl, rfl, rfl⟩⟩
 obtain ⟨e1, _, e3⟩ := KG hf hs hI.mb.nn hw hidle hT
 rw [e1, e3] at hT
 exact hT
theorem zy (hI : aF M) {f : Nat} (hf : f < M.L.length) (hs : (M.L.getD f default).st = 1) : cu M.L (gq M.now) (M.L.getD f default).id (fun j : Jb => decide (j.state = 1)) (lL M.now (iI M (M.L.getD f default).wid : Int)) = (aW M f).L := by
 have hid := hI.ids f hf
 have ku := hI.mb.now
 have e2 : M.L[f]! = M.L.getD f default := by rw [getElem!_pos M.L f hf]; simp [List.getD, hf]
 have Fq : bM M.L (gq M.now) (M.L.getD f default).id (fun j : Jb => decide (j.state = 1)) = 0 := by
  have e1 : gq M.now = 0 := by unfold gq; rw [if_neg (by omega), if_neg (by omega)]
  unfold bM
  rw [hid, e1, if_neg (by decide), if_neg (by omega), if_neg (by omega), show ((f : Int) + 1 - 1).toNat = f by omega, e2]
  exact if_pos (decide_eq_true hs)
 unfold cu
 rw [if_pos Fq, hid, show ((f : Int) + 1 - 1).toNat = f by omega, e2]
 rfl
theorem NV (f0 : Int → Int) (h : CW w c t d p v g a m { ah M with f := f0 }) (hI : aF M) (hrun : ∀ j ∈ M.L, j.st = 3 → M.now < j.fin) (n0 : Nat) (GR : mo M ≤ n0) (h1 : 1 ≤ M.dr.length) (hll : M.L.length ≤ 900) (hf0 : ∀ u, M.now ≤ u → 0 ≤ f0 u ∧ f0 u ≤ 64) :
 Calls Tryz.prog 140 #[.pointer (some ⟨c, 0, none⟩), .int .i64 M.now] w (fe w c t d p v g a m (.tuple #[]) { ah (startGo n0 M) with f := f0 }) := by
 have zE := bI
 obtain ⟨k, hk⟩ : ∃ k, k = 10 := ⟨_, rfl⟩
 rw [← hk] at zE
 have hk0 : ¬ k = 0 := by omega
 replace hk := Lib.hid hk
 have hwt := F6 h.eQ (by show M.L.length ≤ 1000; omega)
 rw [show ({ ah M with f := f0 } : Pg).J = M.L from rfl] at hwt
 have c0 := h.c0
 have hlt : Hid (∀ k, dP c t d p v g k → k < w.heap.size) := fun k hk => h.lt hk
 have hC := Lib.hid h
 obtain ⟨tn, htn⟩ : ∃ tn, tn = M.now := ⟨_, rfl⟩
 obtain ⟨F, hF⟩ : ∃ F, F = startGo n0 M := ⟨_, rfl⟩
 rw [← hF]
 have hg0 : Hid (∀ {r : List Jb}, r.Perm (M.L.filter fun j => decide (j.state = 1)) → r.Pairwise (fun x y => aV y x = false) → Going M F r) := fun {r} hp hs => by
  have hin : ∀ x ∈ r, x ∈ M.L := fun x hx => (List.mem_filter.1 (hp.mem_iff.1 hx)).1
  refine ⟨hI, hrun, ⟨n0, hF.symm, GR⟩, fun x hx => ?_, fun q hq hd => ?_, hs, ?_, fun x hx => by have := (List.mem_filter.1 (hp.mem_iff.1 hx)).2; exact of_decide_eq_true this⟩
  ·obtain ⟨q, hq, e⟩ := List.getElem_of_mem (hin x hx)
   have e2 : M.L.getD q default = x := by simp [List.getD, hq, e]
   have := hI.ids q hq
   rw [e2] at this
   refine ⟨by omega, by omega, ?_⟩
   rw [show (x.id - 1).toNat = q by omega]
   exact e2
  ·refine hp.mem_iff.2 (List.mem_filter.2 ⟨aY hq, ?_⟩)
   unfold dm at hd
   rw [Bool.and_eq_true] at hd
   exact decide_eq_true (bq.1 hd.1).1
  ·refine (hp.pairwise_iff (fun {x y} hxy => Ne.symm hxy)).2 (List.Pairwise.filter _ ?_)
   refine List.pairwise_iff_getElem.2 fun i q hi hq hlt2 e => ?_
   have e1 := hI.ids i hi
   have e2 := hI.ids q hq
   rw [show M.L.getD i default = M.L[i] by simp [List.getD, hi]] at e1
   rw [show M.L.getD q default = M.L[q] by simp [List.getD, hq]] at e2
   omega
 have hM : Hid (∃ N : Md, N = M) := ⟨M, rfl⟩
 have hdl : Hid (1 ≤ M.dr.length ∧ M.dr.length ≤ 64) := ⟨h1, hI.mb.nn⟩
 have hlen : (M.L.filter fun j : Jb => decide (j.state = 1)).length ≤ 900 := Nat.le_trans (List.length_filter_le _ _) hll
 rw [← htn] at hf0 ⊢
 have htb := hI.mb.now
 rw [← htn] at htb
 clear h hrun GR
 replace hF := Lib.hid hF
 replace htn := Lib.hid htn
 go_enter Tryz.func140, Tryz.ntmps140
 go_wp2_with fail
 go_at_call 159
 refine hwt.mono ?_
 clear hwt c0
 rintro e w0 ⟨u, l, rfl, ho, hp, hs, hb0⟩
 have hG0 := hg0.out hp hs
 have hC0 := hC.out.kept hb0
 have hn1 : l.length ≤ 900 := by rw [hp.length_eq]; exact hlen
 clear hp hs hlen hg0
 have hsh : Hid (∀ {ao : Option Addr} {n cap : Nat}, u = .slice ao n cap → 0 < l.length → ∃ g0, ao = some ⟨g0, 0, none⟩ ∧ w.heap.size ≤ g0) := fun {ao n cap} e hp => by
  obtain ⟨Mr, cap', e0, hp'⟩ := gJ ho
  obtain ⟨g0, e4⟩ := hp' hp
  subst e4
  rw [e] at e0
  injection e0 with e0 _ _
  exact ⟨g0, e0, (ho.lt g0 (by rw [e, e0]; rfl)).1⟩
 have hr := aD.iW ho au rfl rfl
 obtain ⟨ao, cap, rfl, q1, q2, q3⟩ := hr
 obtain ⟨n, hn⟩ : ∃ n, l.length = n := ⟨_, rfl⟩
 rw [hn] at q1 q3 hn1 ho ⊢
 have HQ : Hid (0 < n → ∃ b, ao = some ⟨b, 0, none⟩ ∧ nz w0 b 0 l ∧ w.heap.size ≤ b) := fun hp => by
  obtain ⟨b, off, e1, e2, e3⟩ := q3 hp
  obtain ⟨g0, e4, e5⟩ := hsh.out rfl (by have := hn; omega)
  rw [e4] at e1
  injection e1 with e1
  injection e1 with e6 e7
  subst e6; subst e7
  exact ⟨g0, e4, ⟨e2, e3⟩, e5⟩
 have EA : cap ≤ 9223372036854775807 := by unfold maxLen at q2; omega
 replace hn := Lib.hid hn
 clear q2 q3 ho
 go_wp2_with fail
 go_loopw [12] (fun ii wr => ∃ (i : Nat) (N : Md) (vr : Value) (gr : Nat), i ≤ n ∧ ii = .int .i64 i ∧ CW wr c t d p vr gr a m { ah N with f := f0 } ∧ CS w0 wr c t d p v g vr gr ∧ Hid (Going N F (l.drop i) ∧ N.now = tn ∧ N.dr.length = M.dr.length ∧ N.L.length = M.L.length)) (fun ii _ => n - (intOf ii).toNat)
 case atStart => exact ⟨0, M, v, g, Nat.zero_le _, rfl, hC0, CS.refl _, Lib.hid ⟨by rw [List.drop_zero]; exact hG0, htn.out.symm, rfl, rfl⟩⟩
 case round =>
  obtain ⟨i, N, vr, gr, hin, rfl, FZ, hSr, hgo⟩ := hrel
  by_cases hlt2 : i < n
  ·have b2 : (i : Int) < (n : Int) := by omega
   have wi : IntKind.i64.wrap ((i : Int) + 1) = (i : Int) + 1 := by rw [IntKind.wrap_i64]; omega
   obtain ⟨gb, rfl, hJ, hgb⟩ := HQ.out (by omega)
   have hgf : ¬ dP c t d p v g gb := fun hf => absurd (hlt.out gb hf) (by omega)
   have sD := hJ.off hSr hgf
   have iF : i < l.length := by have := hn.out; omega
   have LI := sD.load hk.out iF
   obtain ⟨x, hx⟩ : ∃ x, x = l[i]! := ⟨_, rfl⟩
   rw [← hx, Nat.zero_add] at LI
   replace hx := Lib.hid hx
   have hdrop : l.drop i = x :: l.drop (i + 1) := by rw [hx.out, getElem!_pos l i iF]; exact List.drop_eq_getElem_cons iF
   obtain ⟨ug, ku, hdr, TC⟩ := hgo.out
   rw [hdrop] at ug
   replace ug := Lib.hid ug
   clear hgo
   have lI := au x
   rw [← hk.out] at lI
   have e8 : (ai x)[8]? = some (.int .i64 x.aN) := rfl
   have st := boxed wr x
   obtain ⟨w1, hw1⟩ : ∃ w1, w1 = wr.alloc (.cells (ai x).toArray 92) := ⟨_, rfl⟩
   have hb1 : Below wr.heap.size wr w1 := by rw [hw1]; exact (Below.refl _ _).alloc (Nat.le_refl _) _
   have hz1 : w1.heap[wr.heap.size]? = some (.cells (ai x).toArray 92 (0, 0)) := by rw [hw1]; exact heap_alloc_new wr _
   have c8 : w1.cell? ⟨wr.heap.size, 8, none⟩ = some (.int .i64 x.aN) := by simp [World.cell?, hz1, e8]
   have ld1 := eZ hz1 lI
   replace hz1 := Lib.hid hz1
   have sF := FZ.kept hb1
   have hS1 := hSr.trans (CS.of_below hb1)
   rw [← hw1] at st
   replace hw1 := Lib.hid hw1
   by_cases hpl : x.aN = tn
   ·have d1 : (x.aN == tn) = true := by simp [hpl]
    have Un := ug.out.pend x (List.mem_cons_self ..)
    have hxd : dm N.now x = true := by
     unfold dm
     rw [bq.2 ⟨Un, by omega⟩, ku, decide_eq_true hpl]
     rfl
    obtain ⟨a1, a2, a3⟩ := ug.out.next hxd
    obtain ⟨f, hf⟩ : ∃ f, f = (x.id - 1).toNat := ⟨_, rfl⟩
    rw [← hf] at a1 a2 a3
    have NW := ug.out.inv
    have WX := ug.out.run
    have Q6 := IW NW a1 (by rw [a2]; omega) (NU NW WX a1 (by rw [a2]; exact hxd))
    have hbs := zy NW a1 (by rw [a2]; exact Un)
    rw [a2] at Q6 hbs
    have hla := launch_fn sF (Q4 NW (by rw [hdr]; exact h1) (by rw [TC]; exact hll) (by rw [ku]; exact hf0)) x (by have := NW.mb.wid x (by rw [← a2]; exact aY a1); omega) Q6
    rw [show ({ ah N with f := f0 } : Pg).J = N.L from rfl, show ({ ah N with f := f0 } : Pg).now = N.now from rfl, hbs] at hla
    have Ra : (aW N f).L.length = M.L.length := by unfold aW; rw [List.length_set]; exact TC
    have Rb := Lib.hid (show Going (aW N f) F (l.drop (i + 1)) ∧ (aW N f).now = tn ∧ (aW N f).dr.length = M.dr.length ∧ (aW N f).L.length = M.L.length from ⟨a3, ku, hdr, Ra⟩)
    replace hpl := Lib.hid hpl
    replace hf := Lib.hid hf
    clear a1 a2 a3 Q6 hbs NW WX hxd Ra
    generalize ai x = cI at *
    go_wp2_with fail
    go_at_call 160
    refine hla.mono ?_
    clear hla
    rintro e w5 ⟨rfl, v5, g5, gy, hS5⟩
    have fZ := hS1.trans hS5
    go_wp2_with fail
    go_roundw
    case rel => exact ⟨i + 1, aW N f, v5, g5, by omega, by go_num, (show CW _ _ _ _ _ _ _ _ _ { ah (aW N f) with f := f0 } from gy), fZ, Rb⟩
    case measure => simp [intOf]; omega
   ·have d1 : (x.aN == tn) = false := by simp [hpl]
    have Rb := Lib.hid (show Going N F (l.drop (i + 1)) ∧ N.now = tn ∧ N.dr.length = M.dr.length ∧ N.L.length = M.L.length from ⟨ug.out.skip (by unfold dm; rw [ku, decide_eq_false hpl, Bool.and_false]), ku, hdr, TC⟩)
    generalize ai x = cI at *
    go_wp2_with fail
    go_roundw
    case rel => exact ⟨i + 1, N, vr, gr, by omega, by go_num, sF, hS1, Rb⟩
    case measure => simp [intOf]; omega
  ·have e : i = n := by omega
   subst e
   obtain ⟨ug, ku, hdr, TC⟩ := hgo.out
   have hend : l.drop i = [] := List.drop_eq_nil_of_le (by have := hn.out; omega)
   rw [hend] at ug
   have Vq := ug.last
   have hfin := (CS.of_below hb0 : CS w w0 c t d p v g v g).trans hSr
   rw [← Vq] at FZ
   replace Vq := Lib.hid Vq
   go_wp2_with fail
   go_end0
   have e9 := htn.out
   clear htn
   exact ⟨rfl, vr, gr, FZ, hfin⟩
end
end Go.Proofs.YtelnhablglomjaaGreat

namespace Go.Proofs.YtelnhablglomjaaGreat
open Go.RowKit Go.Lib Go.Sort
def KQ (now : Int) (j : Jb) : List Int := [j.fin, j.aN].filter fun t => decide (now < t)
def rQ (now : Int) (l : List Jb) : List Int := l.flatMap (KQ now)
theorem Rc (now : Int) (j : Jb) : (KQ now j).length ≤ 2 := Nat.le_trans (List.length_filter_le _ _) (by simp)
theorem Re (now : Int) (l : List Jb) : (rQ now l).length ≤ 2 * l.length := by
 unfold rQ
 induction l with
 | nil => simp
 | cons a l ih => rw [List.flatMap_cons, List.length_append, List.length_cons]; have := Rc now a; omega
theorem Rf : (Tryz.prog.info? 2).map (fun i => (i.zero, i.size, i.bytes)) = some (some (.int .i64 0), 1, 8) := by kernel_rfl
theorem NY (now : Int) {l : List Jb} {i : Nat} (hi : i < l.length) : rQ now (l.take (i + 1)) = rQ now (l.take i) ++ KQ now l[i]! := by
 unfold rQ
 rw [List.take_succ_eq_append_getElem hi, List.flatMap_append, getElem!_pos l i hi]
 simp
theorem BU (a b : List Int) : nV (a ++ b) = nV a ++ nV b := by simp [nV]
theorem Rh (l : List Int) : nV l = l.flatMap fun x : Int => [Value.int .i64 x] := by
 induction l with
 | nil => rfl
 | cons a l ih => rw [List.flatMap_cons, ← ih]; rfl
theorem NZ {w : World} {base : Nat} {v : Value} {n : Nat} {l : List Int} {e : TypeId} (h : w.ownsRow base e 1 v n (nV l)) (hn : n = l.length) (hf : ∀ z ∈ l, -9223372036854775808 ≤ z ∧ z ≤ 9223372036854775807) : pR w v l := by
 subst hn
 refine ⟨?_, hf⟩
 obtain ⟨ao, cap, rfl, hg⟩ := gJ h
 have hr : aD (fun x : Int => [Value.int .i64 x]) 1 w (.slice ao l.length cap) l := aD.iW h (fun _ => rfl) (Rh l) rfl
 obtain ⟨Mr, cap', e0, q1, q2, q3⟩ := hr
 injection e0 with e1 _ e2
 subst e1; subst e2
 refine ⟨ao, cap, rfl, q1, q2, fun hz => ?_⟩
 obtain ⟨b, off, e3, e4, e5⟩ := q3 (List.length_pos_iff.2 hz)
 refine ⟨b, off, e3, e4, fun i hi => ?_⟩
 have := (e5 i (l.getD i 0) 0 (.int .i64 (l.getD i 0)) (by simp [List.getD, hi]) rfl)
 simpa using this
section
variable {w : World} {c t d p g a : Nat} {v : Value} {m : Int} {P : Pg}
theorem Ee (h : CW w c t d p v g a m P) (hk : PK P) (hfn : ∀ j ∈ P.J, -1 ≤ j.fin ∧ j.fin ≤ 1099512676352) (hpn : ∀ j ∈ P.J, -1 ≤ j.aN ∧ j.aN ≤ 1099511627776) :
 Calls Tryz.prog 137 #[.pointer (some ⟨c, 0, none⟩)] w fun e w' => e = .returned (.int .i64 (kK (rQ P.now (P.J.filter fun j : Jb => decide (j.state ∈ [(1 : Int), 3]))))) ∧ Below w.heap.size w w' := by
 have zE := bI
 obtain ⟨k, hk1⟩ : ∃ k, k = 10 := ⟨_, rfl⟩
 rw [← hk1] at zE
 have hk0 : ¬ k = 0 := by omega
 replace hk1 := Lib.hid hk1
 obtain ⟨i0, hi0, hz0, hz1, hz2⟩ := info_parts Rf
 obtain ⟨wA, aJ⟩ : ∃ wA, wA = w.alloc (.cells #[.int .i64 1, .int .i64 3] 3) := ⟨_, rfl⟩
 have bR : Below w.heap.size w wA := by rw [aJ]; exact (Below.refl _ _).alloc (Nat.le_refl _) _
 have KP : aD enc1 1 wA (.slice (some ⟨w.heap.size, 0, none⟩) 2 2) [1, 3] := by rw [aJ]; exact gp w w.heap.size [1, 3] rfl (by decide)
 have hin := vM (h.kept bR).eQ (by have := hk.few; omega) KP
 have c0 := h.c0
 generalize hL1 : (P.J.filter fun j : Jb => decide (j.state ∈ [(1 : Int), 3])) = l at *
 have hn1 : l.length ≤ 900 := by rw [← hL1]; exact Nat.le_trans (List.length_filter_le _ _) hk.few
 have hmem : Hid (∀ i, i < l.length → l[i]! ∈ P.J) := fun i hi => by
  have h1 : l[i]! ∈ l := by rw [getElem!_pos l i hi]; exact List.getElem_mem _
  have h2 : l[i]! ∈ P.J.filter fun j : Jb => decide (j.state ∈ [(1 : Int), 3]) := hL1 ▸ h1
  exact (List.mem_filter.1 h2).1
 have hfit : Hid (∀ z ∈ rQ P.now l, -9223372036854775808 ≤ z ∧ z ≤ 9223372036854775807) := fun z hz => by
  unfold rQ at hz
  obtain ⟨j, hj, hz⟩ := List.mem_flatMap.1 hz
  rw [← hL1] at hj
  have hj := (List.mem_filter.1 hj).1
  have h1 := hfn j hj
  have h2 := hpn j hj
  have hz := (List.mem_filter.1 hz).1
  simp at hz
  rcases hz with rfl | rfl <;> omega
 have hC := Lib.hid (fun (W : World) (hW : Below w.heap.size w W) => h.kept hW)
 replace hL1 := Lib.hid hL1
 rw [aJ] at hin
 clear h
 go_enter Tryz.func137, Tryz.ntmps137
 go_wp2_with fail
 go_at_call 125
 refine hin.mono ?_
 clear hin c0
 rw [← aJ]
 rintro e w0 ⟨u, rfl, ho, hb0⟩
 have hbw0 : Below w.heap.size w w0 := bR.trans (hb0.mono bR.size)
 replace aJ := Lib.hid aJ
 have hr := aD.iW ho au rfl rfl
 obtain ⟨ao, cap, rfl, q1, q2, q3⟩ := hr
 obtain ⟨n, hn⟩ : ∃ n, l.length = n := ⟨_, rfl⟩
 rw [hn] at q1 q3 hn1 ho ⊢
 have HQ : Hid (0 < n → ∃ b off, ao = some ⟨b, off, none⟩ ∧ nz w0 b off l) := fun hp => by
  obtain ⟨b, off, e1, e2, e3⟩ := q3 hp
  exact ⟨b, off, e1, e2, e3⟩
 have EA : cap ≤ 9223372036854775807 := by unfold maxLen at q2; omega
 replace hn := Lib.hid hn
 clear q2 q3 ho hb0
 go_wp2_with fail
 go_loopw [3, 15] (fun tt ii wr => ∃ (i : Nat), i ≤ n ∧ ii = .int .i64 i ∧ wr.ownsRow w0.heap.size 2 1 tt (rQ P.now (l.take i)).length (nV (rQ P.now (l.take i))) ∧ Below w0.heap.size w0 wr) (fun _ ii _ => n - (intOf ii).toNat)
 case atStart => exact ⟨0, Nat.zero_le _, rfl, World.ownsRow_nil w0 w0.heap.size 2 1, Below.refl _ _⟩
 case round =>
  obtain ⟨i, hin, rfl, hown, hbr⟩ := hrel
  by_cases hlt2 : i < n
  ·have b2 : (i : Int) < (n : Int) := by omega
   have wi : IntKind.i64.wrap ((i : Int) + 1) = (i : Int) + 1 := by rw [IntKind.wrap_i64]; omega
   obtain ⟨gb, off, rfl, hJ⟩ := HQ.out (by omega)
   have sD := hJ.below hbr
   have iF : i < l.length := by have := hn.out; omega
   have LI := sD.load hk1.out iF
   have hsn := Lib.hid (NY P.now iF)
   have WY := Re P.now (l.take i)
   rw [List.length_take] at WY
   have hxm := hmem.out i iF
   obtain ⟨x, hx⟩ : ∃ x, x = l[i]! := ⟨_, rfl⟩
   rw [← hx] at LI hsn hxm
   replace hx := Lib.hid hx
   obtain ⟨T, hT⟩ : ∃ T, T = rQ P.now (l.take i) := ⟨_, rfl⟩
   rw [← hT] at hsn hown WY
   replace hT := Lib.hid hT
   have lI := au x
   rw [← hk1.out] at lI
   have e7 : (ai x)[7]? = some (.int .i64 x.fin) := rfl
   have e8 : (ai x)[8]? = some (.int .i64 x.aN) := rfl
   have st := boxed wr x
   obtain ⟨w1, hw1⟩ : ∃ w1, w1 = wr.alloc (.cells (ai x).toArray 92) := ⟨_, rfl⟩
   have hb1 : Below w0.heap.size w0 w1 := by rw [hw1]; exact hbr.alloc hbr.size _
   have hown1 := hown.alloc (.cells (ai x).toArray 92)
   rw [← hw1] at hown1
   have hz1 : w1.heap[wr.heap.size]? = some (.cells (ai x).toArray 92 (0, 0)) := by rw [hw1]; exact heap_alloc_new wr _
   have c7 : w1.cell? ⟨wr.heap.size, 7, none⟩ = some (.int .i64 x.fin) := by simp [World.cell?, hz1, e7]
   have c8 : w1.cell? ⟨wr.heap.size, 8, none⟩ = some (.int .i64 x.aN) := by simp [World.cell?, hz1, e8]
   clear hz1 hown
   rw [← hw1] at st
   replace hw1 := Lib.hid hw1
   have Ye : Hid (KQ P.now x = [x.fin, x.aN].filter fun t => decide (P.now < t)) := rfl
   generalize x.fin = xf at *
   generalize x.aN = xp at *
   generalize ai x = cI at *
   have YE : ∀ W, Sem.run Tryz.prog (Instr.index 185 (.agg #[.int .i64 xf, .int .i64 xp]) (.int .i64 0)) W = .ok (.int .i64 xf) W := fun W => rfl
   have YF : ∀ W, Sem.run Tryz.prog (Instr.index 185 (.agg #[.int .i64 xf, .int .i64 xp]) (.int .i64 1)) W = .ok (.int .i64 xp) W := fun W => rfl
   go_wp2_with fail
   go_loopw [3, 24] (fun tt mm ws => ∃ (q : Nat), q ≤ 2 ∧ mm = .int .i64 q ∧ ws.ownsRow w0.heap.size 2 1 tt (T ++ ([xf, xp].take q).filter fun t => decide (P.now < t)).length (nV (T ++ ([xf, xp].take q).filter fun t => decide (P.now < t))) ∧ Below w0.heap.size w0 ws) (fun _ mm _ => 2 - (intOf mm).toNat)
   case atStart => exact ⟨0, Nat.zero_le _, rfl, by simpa using hown1, hb1⟩
   case round =>
    obtain ⟨q, hq, rfl, hoq, hbq⟩ := hrel
    by_cases hq2 : q < 2
    ·have WZ := hC.out wr (hbw0.trans (hbq.mono hbw0.size))
     have c2 := WZ.c2
     have ku := gz WZ
     obtain ⟨X, hX⟩ : ∃ X, X = T ++ ([xf, xp].take q).filter fun t => decide (P.now < t) := ⟨_, rfl⟩
     have V9 : X.length ≤ 2000 := by
      rw [hX, List.length_append]
      have := List.length_filter_le (fun t => decide (P.now < t)) ([xf, xp].take q)
      have h9 : ([xf, xp].take q).length ≤ 2 := by rw [List.length_take]; exact Nat.min_le_right _ _
      omega
     obtain ⟨y, hy⟩ : ∃ y, y = if q = 0 then xf else xp := ⟨_, rfl⟩
     have htk : Hid ((T ++ ([xf, xp].take (q + 1)).filter fun t => decide (P.now < t)) = X ++ [y].filter fun t => decide (P.now < t)) := by
      show _ = _
      rw [hX, hy]
      rcases (show q = 0 ∨ q = 1 by omega) with rfl | rfl
      ·rw [if_pos rfl, List.append_assoc, ← List.filter_append]; rfl
      ·rw [if_neg (by decide), List.append_assoc, ← List.filter_append]; rfl
     rw [← hX] at hoq
     replace hX := Lib.hid hX
     have Xa : Hid (y = if q = 0 then xf else xp) := hy
     rcases (show q = 0 ∨ q = 1 by omega) with rfl | rfl
     ·clear hy
      have hyv := Xa.out
      rw [if_pos rfl] at hyv
      subst hyv
      by_cases hgt : P.now < y
      ·have d1 : decide (y > P.now) = true := decide_eq_true hgt
       have hF : Hid ([y].filter (fun t => decide (P.now < t)) = [y]) := by show _ = _; simp [hgt]
       replace hgt := Lib.hid hgt
       go_wp2_with (first | (go_at_call 95; go_must (refine ku.mono ?_); rintro e w' ⟨rfl, rfl⟩) | (at_builtin; go_must (refine wpList_append_own _ rfl (.tmp 34) (.tmp 36) 184 rfl w0.heap.size 2 i0 (.int .i64 0) 1 8 Tryz.underlying184 hi0 hz0 hz1 hz2 rfl (by decide) u3 X.length (nV X) rfl (hoq.alloc _) ⟨wr.heap.size, 0, none⟩ 1 1 [.int .i64 y] rfl rfl ?_ ?_ ?_ ?_ ?_ ?_)))
       ·exact vk (vs := [.int .i64 y]) rfl
       ·simp [Value.oneCell']
       ·unfold maxLen; omega
       ·omega
       ·have hh : ∀ o, (wr.alloc o).heap.size = wr.heap.size + 1 := fun o => by simp
        have hsz := hbq.size
        first | omega | (rw [hh]; omega)
       ·intro v' w2 hown3 hgrow _
        have hb2 : Below w0.heap.size w0 w2 := (hbq.alloc hbq.size _).grown hgrow (by
         have hh : ∀ o, (wr.alloc o).heap.size = wr.heap.size + 1 := fun o => by simp
         have hsz := hbq.size
         first | omega | (rw [hh]; omega)) (fun z hz => (hoq.lt z hz).1)
        have hfin : Hid (w2.ownsRow w0.heap.size 2 1 v' (T ++ ([y, xp].take (0 + 1)).filter fun t => decide (P.now < t)).length (nV (T ++ ([y, xp].take (0 + 1)).filter fun t => decide (P.now < t)))) := by
         show World.ownsRow _ _ _ _ _ _ _
         rw [htk.out, hF.out, BU, List.length_append]
         exact hown3
        clear hown3 hgrow hoq hbq
        go_wp2_with fail
        go_roundw
        case rel => exact ⟨1, by omega, by go_num, hfin.out, hb2⟩
        case measure => simp [intOf]
      ·have d1 : decide (y > P.now) = false := decide_eq_false hgt
       have hF : Hid ([y].filter (fun t => decide (P.now < t)) = []) := by show _ = _; simp [hgt]
       have hfin : Hid (wr.ownsRow w0.heap.size 2 1 u3 (T ++ ([y, xp].take (0 + 1)).filter fun t => decide (P.now < t)).length (nV (T ++ ([y, xp].take (0 + 1)).filter fun t => decide (P.now < t)))) := by
        show World.ownsRow _ _ _ _ _ _ _
        rw [htk.out, hF.out, List.append_nil]
        exact hoq
       replace hgt := Lib.hid hgt
       go_wp2_with (first | (go_at_call 95; go_must (refine ku.mono ?_); rintro e w' ⟨rfl, rfl⟩))
       go_roundw
       case rel => exact ⟨1, by omega, by go_num, hfin.out, hbq⟩
       case measure => simp [intOf]
     ·clear hy
      have hyv := Xa.out
      rw [if_neg (by decide)] at hyv
      subst hyv
      by_cases hgt : P.now < y
      ·have d1 : decide (y > P.now) = true := decide_eq_true hgt
       have hF : Hid ([y].filter (fun t => decide (P.now < t)) = [y]) := by show _ = _; simp [hgt]
       replace hgt := Lib.hid hgt
       go_wp2_with (first | (go_at_call 95; go_must (refine ku.mono ?_); rintro e w' ⟨rfl, rfl⟩) | (at_builtin; go_must (refine wpList_append_own _ rfl (.tmp 34) (.tmp 36) 184 rfl w0.heap.size 2 i0 (.int .i64 0) 1 8 Tryz.underlying184 hi0 hz0 hz1 hz2 rfl (by decide) u3 X.length (nV X) rfl (hoq.alloc _) ⟨wr.heap.size, 0, none⟩ 1 1 [.int .i64 y] rfl rfl ?_ ?_ ?_ ?_ ?_ ?_)))
       ·exact vk (vs := [.int .i64 y]) rfl
       ·simp [Value.oneCell']
       ·unfold maxLen; omega
       ·omega
       ·have hh : ∀ o, (wr.alloc o).heap.size = wr.heap.size + 1 := fun o => by simp
        have hsz := hbq.size
        first | omega | (rw [hh]; omega)
       ·intro v' w2 hown3 hgrow _
        have hb2 : Below w0.heap.size w0 w2 := (hbq.alloc hbq.size _).grown hgrow (by
         have hh : ∀ o, (wr.alloc o).heap.size = wr.heap.size + 1 := fun o => by simp
         have hsz := hbq.size
         first | omega | (rw [hh]; omega)) (fun z hz => (hoq.lt z hz).1)
        have hfin : Hid (w2.ownsRow w0.heap.size 2 1 v' (T ++ ([xf, y].take (1 + 1)).filter fun t => decide (P.now < t)).length (nV (T ++ ([xf, y].take (1 + 1)).filter fun t => decide (P.now < t)))) := by
         show World.ownsRow _ _ _ _ _ _ _
         rw [htk.out, hF.out, BU, List.length_append]
         exact hown3
        clear hown3 hgrow hoq hbq
        go_wp2_with fail
        go_roundw
        case rel => exact ⟨2, by omega, by go_num, hfin.out, hb2⟩
        case measure => simp [intOf]
      ·have d1 : decide (y > P.now) = false := decide_eq_false hgt
       have hF : Hid ([y].filter (fun t => decide (P.now < t)) = []) := by show _ = _; simp [hgt]
       have hfin : Hid (wr.ownsRow w0.heap.size 2 1 u3 (T ++ ([xf, y].take (1 + 1)).filter fun t => decide (P.now < t)).length (nV (T ++ ([xf, y].take (1 + 1)).filter fun t => decide (P.now < t)))) := by
        show World.ownsRow _ _ _ _ _ _ _
        rw [htk.out, hF.out, List.append_nil]
        exact hoq
       replace hgt := Lib.hid hgt
       go_wp2_with (first | (go_at_call 95; go_must (refine ku.mono ?_); rintro e w' ⟨rfl, rfl⟩))
       go_roundw
       case rel => exact ⟨2, by omega, by go_num, hfin.out, hbq⟩
       case measure => simp [intOf]
    ·obtain rfl : q = 2 := by omega
     have hfin : Hid (wr.ownsRow w0.heap.size 2 1 u3 (rQ P.now (l.take (i + 1))).length (nV (rQ P.now (l.take (i + 1))))) := by
      show World.ownsRow _ _ _ _ _ _ _
      rw [hsn.out, Ye.out]
      exact hoq
     go_wp2_with fail
     go_roundw
     case rel => exact ⟨i + 1, by omega, by go_num, hfin.out, hbq⟩
     case measure => simp [intOf]; omega
  ·have e : i = n := by omega
   subst e
   have e1 : l.take i = l := List.take_of_length_le (by rw [hn.out]; exact Nat.le_refl _)
   rw [e1] at hown
   have hle := KH u3 (rQ P.now l) wr (NZ hown rfl hfit.out)
   have hfin := hbw0.trans (hbr.mono hbw0.size)
   replace e1 := Lib.hid e1
   go_wp2_with (go_at_call 157; go_must (refine hle.mono ?_); rintro e w' ⟨rfl, rfl⟩)
   go_ret
   exact ⟨rfl, hfin⟩
end
end Go.Proofs.YtelnhablglomjaaGreat
