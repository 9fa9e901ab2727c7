/-
  Own walks: one call of both sets of locks.
-/
import Derived.Test.YtlenhkmddmlknaaLkC
import Derived.Test.YtlenhkmddmlknaaReg
namespace Go.Proofs.Ytlenhkmddmlknaa
set_option maxRecDepth 8000
open Go.RowKit Go.Lib

/-- Both sets in memory, and as they are. -/
structure Two (B : Nat) (w : World) (s p : Nat) (l : Lk) : Prop where
  x : LkAt 26 w s l
  y : LkAt 29 w p l
  bs : B ≤ s
  bp : B ≤ p
theorem Two.apart {B : Nat} {w : World} {s p : Nat} {l : Lk} (h : Two B w s p l) : s ≠ p := Put.apart_types h.x h.y (by decide)
theorem Two.below {B : Nat} {w w' : World} {s p : Nat} {l : Lk} (h : Two B w s p l) (hb : Below w.heap.size w w') : Two B w' s p l := ⟨h.x.below hb h.x.lt, h.y.below hb h.y.lt, h.bs, h.bp⟩
def OpAt (w : World) (g : Nat) (kd k who : Int) : Prop := w.heap[g]? = some (.cells #[.int .i64 kd, .int .i64 k, .int .i64 who] 32 (0, 0))
theorem OpAt.cells {w : World} {g : Nat} {kd k who : Int} (h : OpAt w g kd k who) : w.cell? ⟨g, 0, none⟩ = some (.int .i64 kd) ∧ w.cell? ⟨g, 1, none⟩ = some (.int .i64 k) ∧ w.cell? ⟨g, 2, none⟩ = some (.int .i64 who) := by
  have h' : w.heap[g]? = _ := h
  exact ⟨by simp [World.cell?, h'], by simp [World.cell?, h'], by simp [World.cell?, h']⟩
/-- The program's set within a region: before its call, behind it. -/
def SK (w1 : World) (T : TypeId) (s : Nat) (l' : Lk) : List Value → World → Prop
  | [], W => Below w1.heap.size w1 W
  | _ :: _, W => Put.Off s s w1 W ∧ LkAt T W s l'
theorem SK.ext {w1 : World} {T : TypeId} {s : Nat} {l' : Lk} : ∀ (vs : List Value) (W W' : World), Reg.Ext W W' → SK w1 T s l' vs W → SK w1 T s l' vs W'
  | [], _, _, he, h => Below.trans h (Below.mono he (Below.size h))
  | _ :: _, _, _, he, h => ⟨h.1.then_below he, h.2.below he h.2.lt⟩

/-- What a step makes of both. -/
def StepPost (B : Nat) (w : World) (s p : Nat) (l' : Lk) (e : Ending) (w' : World) : Prop := e = .returned (.bool true) ∧ Two B w' s p l' ∧ Below B w w'
theorem both_end {B : Nat} {w w1 w2 w3 : World} {s p : Nat} {l l' : Lk} (h : Two B w s p l) (hb : Below w.heap.size w w1) (o1 : Put.Off s s w1 w2) (x2 : LkAt 26 w2 s l') (o2 : Put.Off p p w2 w3) (y3 : LkAt 29 w3 p l') : StepPost B w s p l' (.returned (.bool true)) w3 := by
  have hB : B ≤ w.heap.size := Nat.le_trans h.bs (Nat.le_of_lt h.x.lt)
  refine ⟨rfl, ⟨x2.off o2 h.apart, y3, h.bs, h.bp⟩, ?_⟩
  have b1 : Below B w w1 := hb.mono hB
  have b2 : Below B w1 w2 := o1.below h.bs h.bs (Nat.le_trans hB hb.size)
  have b3 : Below B w2 w3 := o2.below h.bp h.bp (Nat.le_trans (Nat.le_trans hB hb.size) o1.size)
  exact (b1.trans b2).trans b3

section
variable {B : Nat} {w : World} {s p : Nat} {l : Lk}
set_option maxRecDepth 100000 in
set_option maxHeartbeats 4000000 in
theorem step_try (k who : Int) (h : Two B w s p l) (hn : 0 ≤ l.n ∧ l.n ≤ 1000000) :
    Calls Try.prog 6 #[.pointer (some ⟨s, 0, none⟩), .pointer (some ⟨p, 0, none⟩), .agg #[.int .i64 0, .int .i64 k, .int .i64 who]] w (StepPost B w s p (l.tryL k who)) := by
  obtain ⟨w1, hw1⟩ : ∃ w1, w1 = w.alloc (.cells #[.int .i64 0, .int .i64 k, .int .i64 who] 32) := ⟨_, rfl⟩
  have hb1 : Below w.heap.size w w1 := by rw [hw1]; exact (Below.refl _ _).alloc (Nat.le_refl _) _
  have ho1 : OpAt w1 w.heap.size 0 k who := by rw [hw1]; exact heap_alloc_new w _
  obtain ⟨g0, g1, g2⟩ := ho1.cells
  have h1 := h.below hb1
  have hso : w.heap.size ≠ s := by have := h.x.lt; omega
  have hmix : Try.prog.follows .mixedOrders = true := by kernel_rfl
  replace hso := Lib.hid hso
  replace h := Lib.hid h
  obtain ⟨rv, hrv⟩ : ∃ rv, rv = l.tryE k who := ⟨_, rfl⟩
  obtain ⟨L', hL'⟩ : ∃ L', L' = l.tryL k who := ⟨_, rfl⟩
  rw [← hL']
  go_enter Try.func6, Try.ntmps6
  go_wp2_with fail
  rw [← hw1]
  clear hw1 g0 g1 g2
  refine Reg.region_mk 11 49 [[], [false], [false, true], [false, false, false], [false, false, false, true], [true, true, true, true, true], [false, false, false, false, false, false], [false, false, false, false, false, false, false], [false, false, false, false, false, false, false, true], [false, false, false, false, false, false, false, false, false], [false, false, false, false, false, false, false, false, false, true]] [0, 0, 1, 0, 1, 3, 0, 0, 1, 0, 1]
    [.pure, .pure, .minor Unit () (fun _ => .int .i64 k) (fun _ _ => True), .pure, .minor Unit () (fun _ => .int .i64 who) (fun _ _ => True), .major Unit () (fun _ => .int .i64 rv), .pure, .pure, .minor Unit () (fun _ => .int .i64 k) (fun _ _ => True), .pure, .minor Unit () (fun _ => .int .i64 who) (fun _ _ => True)]
    (fun W => OpAt W w.heap.size 0 k who) (SK w1 26 s L') (fun a b => Put.Off s s a b) (by kernel_rfl) (by kernel_rfl) rfl rfl (SK.ext) ?_ ?_ ?_ ?_ ?_ ?_
  · intro x y hb he; exact ((show Below _ _ _ from hb).block _ (lt_of_at (show OpAt x w.heap.size 0 k who from he))).trans he
  · intro x y hb he; exact ((show Put.Off s s x y from hb).block _ (lt_of_at (show OpAt x w.heap.size 0 k who from he)) hso.out hso.out).trans he
  · exact ⟨trivial, trivial, ⟨fun _ _ _ _ _ => trivial, fun _ _ _ _ _ => trivial⟩, trivial, ⟨fun _ _ _ _ _ => trivial, fun _ _ _ _ _ => trivial⟩, trivial, trivial, trivial, ⟨fun _ _ _ _ _ => trivial, fun _ _ _ _ _ => trivial⟩, trivial, ⟨fun _ _ _ _ _ => trivial, fun _ _ _ _ _ => trivial⟩, trivial⟩
  · exact ho1
  · exact (Below.refl _ _).drew
  dsimp only [Reg.mk, List.zip, List.zipWith, List.take]
  repeat (refine' Reg.pass_is _ (by rfl) (fun wz => ?_) ?_; rotate_left; (go_simp; first | rfl | rw [if_neg (by omega)]); simp only [Act.put, List.setIfInBounds_toArray, List.set_cons_zero, List.set_cons_succ]; (try simp only [List.nil_append]); (try simp only [List.cons_append]); (try simp only [id]))
  refine Reg.pass_minor (by rfl) (fun wz hI hF => ?_) (fun r2 => ?_)
  · unfold Reg.One
    obtain ⟨r0, r1, r2⟩ := OpAt.cells (show OpAt wz w.heap.size (0) k who from hI)
    go_wp2_with fail
    exact ⟨_, rfl, ⟨(), rfl, trivial⟩, Reg.Ext.refl _⟩
  simp only [Act.put, List.setIfInBounds_toArray, List.set_cons_zero, List.set_cons_succ]; (try simp only [List.nil_append]); (try simp only [List.cons_append]); (try simp only [id])
  repeat (refine' Reg.pass_is _ (by rfl) (fun wz => ?_) ?_; rotate_left; (go_simp; first | rfl | rw [if_neg (by omega)]); simp only [Act.put, List.setIfInBounds_toArray, List.set_cons_zero, List.set_cons_succ]; (try simp only [List.nil_append]); (try simp only [List.cons_append]); (try simp only [id]))
  refine Reg.pass_minor (by rfl) (fun wz hI hF => ?_) (fun r4 => ?_)
  · unfold Reg.One
    obtain ⟨r0, r1, r2⟩ := OpAt.cells (show OpAt wz w.heap.size (0) k who from hI)
    go_wp2_with fail
    exact ⟨_, rfl, ⟨(), rfl, trivial⟩, Reg.Ext.refl _⟩
  simp only [Act.put, List.setIfInBounds_toArray, List.set_cons_zero, List.set_cons_succ]; (try simp only [List.nil_append]); (try simp only [List.cons_append]); (try simp only [id])
  refine Reg.pass_major (by rfl) (fun wz hI hS hF => ?_) (fun r5 => ?_)
  · unfold Reg.One
    have hS1 : Below w1.heap.size w1 wz := hS
    have hx := h1.x.below hS1 h1.x.lt
    go_wp2_with (go_at_call 13; go_must (refine (Try_fn k who hx hn).mono ?_); rintro e w5 ⟨rfl, hL5, hO5⟩)
    rw [← hL'] at hL5
    try rw [← hrv]
    exact ⟨_, rfl, ⟨⟨(), rfl⟩, (Put.Off.of_below hS1).trans hO5 (.inl rfl), hL5⟩, hO5⟩
  simp only [Act.put, List.setIfInBounds_toArray, List.set_cons_zero, List.set_cons_succ]; (try simp only [List.nil_append]); (try simp only [List.cons_append]); (try simp only [id])
  repeat (refine' Reg.pass_is _ (by rfl) (fun wz => ?_) ?_; rotate_left; (go_simp; first | rfl | rw [if_neg (by omega)]); simp only [Act.put, List.setIfInBounds_toArray, List.set_cons_zero, List.set_cons_succ]; (try simp only [List.nil_append]); (try simp only [List.cons_append]); (try simp only [id]))
  refine Reg.pass_minor (by rfl) (fun wz hI hF => ?_) (fun r8 => ?_)
  · unfold Reg.One
    obtain ⟨r0, r1, r2⟩ := OpAt.cells (show OpAt wz w.heap.size (0) k who from hI)
    go_wp2_with fail
    exact ⟨_, rfl, ⟨(), rfl, trivial⟩, Reg.Ext.refl _⟩
  simp only [Act.put, List.setIfInBounds_toArray, List.set_cons_zero, List.set_cons_succ]; (try simp only [List.nil_append]); (try simp only [List.cons_append]); (try simp only [id])
  repeat (refine' Reg.pass_is _ (by rfl) (fun wz => ?_) ?_; rotate_left; (go_simp; first | rfl | rw [if_neg (by omega)]); simp only [Act.put, List.setIfInBounds_toArray, List.set_cons_zero, List.set_cons_succ]; (try simp only [List.nil_append]); (try simp only [List.cons_append]); (try simp only [id]))
  refine Reg.pass_minor (by rfl) (fun wz hI hF => ?_) (fun r10 => ?_)
  · unfold Reg.One
    obtain ⟨r0, r1, r2⟩ := OpAt.cells (show OpAt wz w.heap.size (0) k who from hI)
    go_wp2_with fail
    exact ⟨_, rfl, ⟨(), rfl, trivial⟩, Reg.Ext.refl _⟩
  simp only [Act.put, List.setIfInBounds_toArray, List.set_cons_zero, List.set_cons_succ]; (try simp only [List.nil_append]); (try simp only [List.cons_append]); (try simp only [id])
  refine Reg.pass_end ?_
  intro w3 HI3 HS3 _
  obtain ⟨o3, x3⟩ := HS3
  have hd := try_fn k who (h1.y.off o3 h1.apart.symm) hn
  clear HI3
  dsimp only [List.drop]
  go_wp2_with fail
  go_at_call 16
  refine hd.mono ?_
  clear hd
  rintro e w6 ⟨rfl, y6, o6⟩
  rw [← hL'] at y6
  rw [← hrv]
  have z1 : (rv == rv) = true := by simp
  have hfin := Lib.hid (both_end h.out hb1 o3 x3 o6 y6)
  clear hb1 h1 o3 x3 o6 y6 ho1
  go_wp2_with fail
  go_ret
  exact hfin.out

set_option maxRecDepth 100000 in
set_option maxHeartbeats 4000000 in
theorem step_try1 (k who : Int) (h : Two B w s p l) (hn : 0 ≤ l.n ∧ l.n ≤ 1000000) :
    Calls Try.prog 6 #[.pointer (some ⟨s, 0, none⟩), .pointer (some ⟨p, 0, none⟩), .agg #[.int .i64 1, .int .i64 k, .int .i64 who]] w (StepPost B w s p (l.tryL k who)) := by
  obtain ⟨w1, hw1⟩ : ∃ w1, w1 = w.alloc (.cells #[.int .i64 1, .int .i64 k, .int .i64 who] 32) := ⟨_, rfl⟩
  have hb1 : Below w.heap.size w w1 := by rw [hw1]; exact (Below.refl _ _).alloc (Nat.le_refl _) _
  have ho1 : OpAt w1 w.heap.size 1 k who := by rw [hw1]; exact heap_alloc_new w _
  obtain ⟨g0, g1, g2⟩ := ho1.cells
  have h1 := h.below hb1
  have hso : w.heap.size ≠ s := by have := h.x.lt; omega
  have hmix : Try.prog.follows .mixedOrders = true := by kernel_rfl
  replace hso := Lib.hid hso
  replace h := Lib.hid h
  obtain ⟨rv, hrv⟩ : ∃ rv, rv = l.tryE k who := ⟨_, rfl⟩
  obtain ⟨L', hL'⟩ : ∃ L', L' = l.tryL k who := ⟨_, rfl⟩
  rw [← hL']
  go_enter Try.func6, Try.ntmps6
  go_wp2_with fail
  rw [← hw1]
  clear hw1 g0 g1 g2
  refine Reg.region_mk 11 49 [[], [false], [false, true], [false, false, false], [false, false, false, true], [true, true, true, true, true], [false, false, false, false, false, false], [false, false, false, false, false, false, false], [false, false, false, false, false, false, false, true], [false, false, false, false, false, false, false, false, false], [false, false, false, false, false, false, false, false, false, true]] [0, 0, 1, 0, 1, 3, 0, 0, 1, 0, 1]
    [.pure, .pure, .minor Unit () (fun _ => .int .i64 k) (fun _ _ => True), .pure, .minor Unit () (fun _ => .int .i64 who) (fun _ _ => True), .major Unit () (fun _ => .int .i64 rv), .pure, .pure, .minor Unit () (fun _ => .int .i64 k) (fun _ _ => True), .pure, .minor Unit () (fun _ => .int .i64 who) (fun _ _ => True)]
    (fun W => OpAt W w.heap.size 1 k who) (SK w1 26 s L') (fun a b => Put.Off s s a b) (by kernel_rfl) (by kernel_rfl) rfl rfl (SK.ext) ?_ ?_ ?_ ?_ ?_ ?_
  · intro x y hb he; exact ((show Below _ _ _ from hb).block _ (lt_of_at (show OpAt x w.heap.size 1 k who from he))).trans he
  · intro x y hb he; exact ((show Put.Off s s x y from hb).block _ (lt_of_at (show OpAt x w.heap.size 1 k who from he)) hso.out hso.out).trans he
  · exact ⟨trivial, trivial, ⟨fun _ _ _ _ _ => trivial, fun _ _ _ _ _ => trivial⟩, trivial, ⟨fun _ _ _ _ _ => trivial, fun _ _ _ _ _ => trivial⟩, trivial, trivial, trivial, ⟨fun _ _ _ _ _ => trivial, fun _ _ _ _ _ => trivial⟩, trivial, ⟨fun _ _ _ _ _ => trivial, fun _ _ _ _ _ => trivial⟩, trivial⟩
  · exact ho1
  · exact (Below.refl _ _).drew
  dsimp only [Reg.mk, List.zip, List.zipWith, List.take]
  repeat (refine' Reg.pass_is _ (by rfl) (fun wz => ?_) ?_; rotate_left; (go_simp; first | rfl | rw [if_neg (by omega)]); simp only [Act.put, List.setIfInBounds_toArray, List.set_cons_zero, List.set_cons_succ]; (try simp only [List.nil_append]); (try simp only [List.cons_append]); (try simp only [id]))
  refine Reg.pass_minor (by rfl) (fun wz hI hF => ?_) (fun r2 => ?_)
  · unfold Reg.One
    obtain ⟨r0, r1, r2⟩ := OpAt.cells (show OpAt wz w.heap.size (1) k who from hI)
    go_wp2_with fail
    exact ⟨_, rfl, ⟨(), rfl, trivial⟩, Reg.Ext.refl _⟩
  simp only [Act.put, List.setIfInBounds_toArray, List.set_cons_zero, List.set_cons_succ]; (try simp only [List.nil_append]); (try simp only [List.cons_append]); (try simp only [id])
  repeat (refine' Reg.pass_is _ (by rfl) (fun wz => ?_) ?_; rotate_left; (go_simp; first | rfl | rw [if_neg (by omega)]); simp only [Act.put, List.setIfInBounds_toArray, List.set_cons_zero, List.set_cons_succ]; (try simp only [List.nil_append]); (try simp only [List.cons_append]); (try simp only [id]))
  refine Reg.pass_minor (by rfl) (fun wz hI hF => ?_) (fun r4 => ?_)
  · unfold Reg.One
    obtain ⟨r0, r1, r2⟩ := OpAt.cells (show OpAt wz w.heap.size (1) k who from hI)
    go_wp2_with fail
    exact ⟨_, rfl, ⟨(), rfl, trivial⟩, Reg.Ext.refl _⟩
  simp only [Act.put, List.setIfInBounds_toArray, List.set_cons_zero, List.set_cons_succ]; (try simp only [List.nil_append]); (try simp only [List.cons_append]); (try simp only [id])
  refine Reg.pass_major (by rfl) (fun wz hI hS hF => ?_) (fun r5 => ?_)
  · unfold Reg.One
    have hS1 : Below w1.heap.size w1 wz := hS
    have hx := h1.x.below hS1 h1.x.lt
    go_wp2_with (go_at_call 13; go_must (refine (Try_fn k who hx hn).mono ?_); rintro e w5 ⟨rfl, hL5, hO5⟩)
    rw [← hL'] at hL5
    try rw [← hrv]
    exact ⟨_, rfl, ⟨⟨(), rfl⟩, (Put.Off.of_below hS1).trans hO5 (.inl rfl), hL5⟩, hO5⟩
  simp only [Act.put, List.setIfInBounds_toArray, List.set_cons_zero, List.set_cons_succ]; (try simp only [List.nil_append]); (try simp only [List.cons_append]); (try simp only [id])
  repeat (refine' Reg.pass_is _ (by rfl) (fun wz => ?_) ?_; rotate_left; (go_simp; first | rfl | rw [if_neg (by omega)]); simp only [Act.put, List.setIfInBounds_toArray, List.set_cons_zero, List.set_cons_succ]; (try simp only [List.nil_append]); (try simp only [List.cons_append]); (try simp only [id]))
  refine Reg.pass_minor (by rfl) (fun wz hI hF => ?_) (fun r8 => ?_)
  · unfold Reg.One
    obtain ⟨r0, r1, r2⟩ := OpAt.cells (show OpAt wz w.heap.size (1) k who from hI)
    go_wp2_with fail
    exact ⟨_, rfl, ⟨(), rfl, trivial⟩, Reg.Ext.refl _⟩
  simp only [Act.put, List.setIfInBounds_toArray, List.set_cons_zero, List.set_cons_succ]; (try simp only [List.nil_append]); (try simp only [List.cons_append]); (try simp only [id])
  repeat (refine' Reg.pass_is _ (by rfl) (fun wz => ?_) ?_; rotate_left; (go_simp; first | rfl | rw [if_neg (by omega)]); simp only [Act.put, List.setIfInBounds_toArray, List.set_cons_zero, List.set_cons_succ]; (try simp only [List.nil_append]); (try simp only [List.cons_append]); (try simp only [id]))
  refine Reg.pass_minor (by rfl) (fun wz hI hF => ?_) (fun r10 => ?_)
  · unfold Reg.One
    obtain ⟨r0, r1, r2⟩ := OpAt.cells (show OpAt wz w.heap.size (1) k who from hI)
    go_wp2_with fail
    exact ⟨_, rfl, ⟨(), rfl, trivial⟩, Reg.Ext.refl _⟩
  simp only [Act.put, List.setIfInBounds_toArray, List.set_cons_zero, List.set_cons_succ]; (try simp only [List.nil_append]); (try simp only [List.cons_append]); (try simp only [id])
  refine Reg.pass_end ?_
  intro w3 HI3 HS3 _
  obtain ⟨o3, x3⟩ := HS3
  have hd := try_fn k who (h1.y.off o3 h1.apart.symm) hn
  clear HI3
  dsimp only [List.drop]
  go_wp2_with fail
  go_at_call 16
  refine hd.mono ?_
  clear hd
  rintro e w6 ⟨rfl, y6, o6⟩
  rw [← hL'] at y6
  rw [← hrv]
  have z1 : (rv == rv) = true := by simp
  have hfin := Lib.hid (both_end h.out hb1 o3 x3 o6 y6)
  clear hb1 h1 o3 x3 o6 y6 ho1
  go_wp2_with fail
  go_ret
  exact hfin.out

set_option maxRecDepth 100000 in
set_option maxHeartbeats 4000000 in
theorem step_free (k who : Int) (h : Two B w s p l) :
    Calls Try.prog 6 #[.pointer (some ⟨s, 0, none⟩), .pointer (some ⟨p, 0, none⟩), .agg #[.int .i64 2, .int .i64 k, .int .i64 who]] w (StepPost B w s p (l.freeL k who)) := by
  obtain ⟨w1, hw1⟩ : ∃ w1, w1 = w.alloc (.cells #[.int .i64 2, .int .i64 k, .int .i64 who] 32) := ⟨_, rfl⟩
  have hb1 : Below w.heap.size w w1 := by rw [hw1]; exact (Below.refl _ _).alloc (Nat.le_refl _) _
  have ho1 : OpAt w1 w.heap.size 2 k who := by rw [hw1]; exact heap_alloc_new w _
  obtain ⟨g0, g1, g2⟩ := ho1.cells
  have h1 := h.below hb1
  have hso : w.heap.size ≠ s := by have := h.x.lt; omega
  have hmix : Try.prog.follows .mixedOrders = true := by kernel_rfl
  replace hso := Lib.hid hso
  replace h := Lib.hid h
  obtain ⟨rv, hrv⟩ : ∃ rv, rv = l.freeE k who := ⟨_, rfl⟩
  obtain ⟨L', hL'⟩ : ∃ L', L' = l.freeL k who := ⟨_, rfl⟩
  rw [← hL']
  go_enter Try.func6, Try.ntmps6
  go_wp2_with fail
  rw [← hw1]
  clear hw1 g0 g1 g2
  refine Reg.region_mk 11 49 [[], [false], [false, true], [false, false, false], [false, false, false, true], [true, true, true, true, true], [false, false, false, false, false, false], [false, false, false, false, false, false, false], [false, false, false, false, false, false, false, true], [false, false, false, false, false, false, false, false, false], [false, false, false, false, false, false, false, false, false, true]] [0, 0, 1, 0, 1, 3, 0, 0, 1, 0, 1]
    [.pure, .pure, .minor Unit () (fun _ => .int .i64 k) (fun _ _ => True), .pure, .minor Unit () (fun _ => .int .i64 who) (fun _ _ => True), .major Unit () (fun _ => .int .i64 rv), .pure, .pure, .minor Unit () (fun _ => .int .i64 k) (fun _ _ => True), .pure, .minor Unit () (fun _ => .int .i64 who) (fun _ _ => True)]
    (fun W => OpAt W w.heap.size 2 k who) (SK w1 26 s L') (fun a b => Put.Off s s a b) (by kernel_rfl) (by kernel_rfl) rfl rfl (SK.ext) ?_ ?_ ?_ ?_ ?_ ?_
  · intro x y hb he; exact ((show Below _ _ _ from hb).block _ (lt_of_at (show OpAt x w.heap.size 2 k who from he))).trans he
  · intro x y hb he; exact ((show Put.Off s s x y from hb).block _ (lt_of_at (show OpAt x w.heap.size 2 k who from he)) hso.out hso.out).trans he
  · exact ⟨trivial, trivial, ⟨fun _ _ _ _ _ => trivial, fun _ _ _ _ _ => trivial⟩, trivial, ⟨fun _ _ _ _ _ => trivial, fun _ _ _ _ _ => trivial⟩, trivial, trivial, trivial, ⟨fun _ _ _ _ _ => trivial, fun _ _ _ _ _ => trivial⟩, trivial, ⟨fun _ _ _ _ _ => trivial, fun _ _ _ _ _ => trivial⟩, trivial⟩
  · exact ho1
  · exact (Below.refl _ _).drew
  dsimp only [Reg.mk, List.zip, List.zipWith, List.take]
  repeat (refine' Reg.pass_is _ (by rfl) (fun wz => ?_) ?_; rotate_left; (go_simp; first | rfl | rw [if_neg (by omega)]); simp only [Act.put, List.setIfInBounds_toArray, List.set_cons_zero, List.set_cons_succ]; (try simp only [List.nil_append]); (try simp only [List.cons_append]); (try simp only [id]))
  refine Reg.pass_minor (by rfl) (fun wz hI hF => ?_) (fun r2 => ?_)
  · unfold Reg.One
    obtain ⟨r0, r1, r2⟩ := OpAt.cells (show OpAt wz w.heap.size (2) k who from hI)
    go_wp2_with fail
    exact ⟨_, rfl, ⟨(), rfl, trivial⟩, Reg.Ext.refl _⟩
  simp only [Act.put, List.setIfInBounds_toArray, List.set_cons_zero, List.set_cons_succ]; (try simp only [List.nil_append]); (try simp only [List.cons_append]); (try simp only [id])
  repeat (refine' Reg.pass_is _ (by rfl) (fun wz => ?_) ?_; rotate_left; (go_simp; first | rfl | rw [if_neg (by omega)]); simp only [Act.put, List.setIfInBounds_toArray, List.set_cons_zero, List.set_cons_succ]; (try simp only [List.nil_append]); (try simp only [List.cons_append]); (try simp only [id]))
  refine Reg.pass_minor (by rfl) (fun wz hI hF => ?_) (fun r4 => ?_)
  · unfold Reg.One
    obtain ⟨r0, r1, r2⟩ := OpAt.cells (show OpAt wz w.heap.size (2) k who from hI)
    go_wp2_with fail
    exact ⟨_, rfl, ⟨(), rfl, trivial⟩, Reg.Ext.refl _⟩
  simp only [Act.put, List.setIfInBounds_toArray, List.set_cons_zero, List.set_cons_succ]; (try simp only [List.nil_append]); (try simp only [List.cons_append]); (try simp only [id])
  refine Reg.pass_major (by rfl) (fun wz hI hS hF => ?_) (fun r5 => ?_)
  · unfold Reg.One
    have hS1 : Below w1.heap.size w1 wz := hS
    have hx := h1.x.below hS1 h1.x.lt
    go_wp2_with (go_at_call 14; go_must (refine (Free_fn k who hx).mono ?_); rintro e w5 ⟨rfl, hL5, hO5⟩)
    rw [← hL'] at hL5
    try rw [← hrv]
    exact ⟨_, rfl, ⟨⟨(), rfl⟩, (Put.Off.of_below hS1).trans hO5 (.inl rfl), hL5⟩, hO5⟩
  simp only [Act.put, List.setIfInBounds_toArray, List.set_cons_zero, List.set_cons_succ]; (try simp only [List.nil_append]); (try simp only [List.cons_append]); (try simp only [id])
  repeat (refine' Reg.pass_is _ (by rfl) (fun wz => ?_) ?_; rotate_left; (go_simp; first | rfl | rw [if_neg (by omega)]); simp only [Act.put, List.setIfInBounds_toArray, List.set_cons_zero, List.set_cons_succ]; (try simp only [List.nil_append]); (try simp only [List.cons_append]); (try simp only [id]))
  refine Reg.pass_minor (by rfl) (fun wz hI hF => ?_) (fun r8 => ?_)
  · unfold Reg.One
    obtain ⟨r0, r1, r2⟩ := OpAt.cells (show OpAt wz w.heap.size (2) k who from hI)
    go_wp2_with fail
    exact ⟨_, rfl, ⟨(), rfl, trivial⟩, Reg.Ext.refl _⟩
  simp only [Act.put, List.setIfInBounds_toArray, List.set_cons_zero, List.set_cons_succ]; (try simp only [List.nil_append]); (try simp only [List.cons_append]); (try simp only [id])
  repeat (refine' Reg.pass_is _ (by rfl) (fun wz => ?_) ?_; rotate_left; (go_simp; first | rfl | rw [if_neg (by omega)]); simp only [Act.put, List.setIfInBounds_toArray, List.set_cons_zero, List.set_cons_succ]; (try simp only [List.nil_append]); (try simp only [List.cons_append]); (try simp only [id]))
  refine Reg.pass_minor (by rfl) (fun wz hI hF => ?_) (fun r10 => ?_)
  · unfold Reg.One
    obtain ⟨r0, r1, r2⟩ := OpAt.cells (show OpAt wz w.heap.size (2) k who from hI)
    go_wp2_with fail
    exact ⟨_, rfl, ⟨(), rfl, trivial⟩, Reg.Ext.refl _⟩
  simp only [Act.put, List.setIfInBounds_toArray, List.set_cons_zero, List.set_cons_succ]; (try simp only [List.nil_append]); (try simp only [List.cons_append]); (try simp only [id])
  refine Reg.pass_end ?_
  intro w3 HI3 HS3 _
  obtain ⟨o3, x3⟩ := HS3
  have hd := free_fn k who (h1.y.off o3 h1.apart.symm)
  clear HI3
  dsimp only [List.drop]
  go_wp2_with fail
  go_at_call 17
  refine hd.mono ?_
  clear hd
  rintro e w6 ⟨rfl, y6, o6⟩
  rw [← hL'] at y6
  rw [← hrv]
  have z1 : (rv == rv) = true := by simp
  have hfin := Lib.hid (both_end h.out hb1 o3 x3 o6 y6)
  clear hb1 h1 o3 x3 o6 y6 ho1
  go_wp2_with fail
  go_ret
  exact hfin.out

set_option maxRecDepth 100000 in
set_option maxHeartbeats 4000000 in
theorem step_all (k who : Int) (kd : Int) (hkd : kd ≠ 0 ∧ kd ≠ 1 ∧ kd ≠ 2) (h : Two B w s p l) :
    Calls Try.prog 6 #[.pointer (some ⟨s, 0, none⟩), .pointer (some ⟨p, 0, none⟩), .agg #[.int .i64 kd, .int .i64 k, .int .i64 who]] w (StepPost B w s p (l.allL who)) := by
  obtain ⟨w1, hw1⟩ : ∃ w1, w1 = w.alloc (.cells #[.int .i64 kd, .int .i64 k, .int .i64 who] 32) := ⟨_, rfl⟩
  have hb1 : Below w.heap.size w w1 := by rw [hw1]; exact (Below.refl _ _).alloc (Nat.le_refl _) _
  have ho1 : OpAt w1 w.heap.size kd k who := by rw [hw1]; exact heap_alloc_new w _
  obtain ⟨g0, g1, g2⟩ := ho1.cells
  have h1 := h.below hb1
  have hso : w.heap.size ≠ s := by have := h.x.lt; omega
  have hmix : Try.prog.follows .mixedOrders = true := by kernel_rfl
  replace hso := Lib.hid hso
  replace h := Lib.hid h
  obtain ⟨rv, hrv⟩ : ∃ rv, rv = l.allN who := ⟨_, rfl⟩
  obtain ⟨L', hL'⟩ : ∃ L', L' = l.allL who := ⟨_, rfl⟩
  rw [← hL']
  obtain ⟨k0, k1, k2⟩ := hkd
  have t0 : (kd == 0) = false := beq_eq_false_iff_ne.2 k0
  have t1 : (kd == 1) = false := beq_eq_false_iff_ne.2 k1
  have t2 : (kd == 2) = false := beq_eq_false_iff_ne.2 k2
  clear k0 k1 k2
  go_enter Try.func6, Try.ntmps6
  go_wp2_with fail
  rw [← hw1]
  clear hw1 g0 g1 g2
  refine Reg.region_mk 7 49 [[], [false], [false, true], [true, true, true], [false, false, false, false], [false, false, false, false, false], [false, false, false, false, false, true]] [0, 0, 1, 3, 0, 0, 1]
    [.pure, .pure, .minor Unit () (fun _ => .int .i64 who) (fun _ _ => True), .major Unit () (fun _ => .int .i64 rv), .pure, .pure, .minor Unit () (fun _ => .int .i64 who) (fun _ _ => True)]
    (fun W => OpAt W w.heap.size kd k who) (SK w1 26 s L') (fun a b => Put.Off s s a b) (by kernel_rfl) (by kernel_rfl) rfl rfl (SK.ext) ?_ ?_ ?_ ?_ ?_ ?_
  · intro x y hb he; exact ((show Below _ _ _ from hb).block _ (lt_of_at (show OpAt x w.heap.size kd k who from he))).trans he
  · intro x y hb he; exact ((show Put.Off s s x y from hb).block _ (lt_of_at (show OpAt x w.heap.size kd k who from he)) hso.out hso.out).trans he
  · exact ⟨trivial, trivial, ⟨fun _ _ _ _ _ => trivial, fun _ _ _ _ _ => trivial⟩, trivial, trivial, trivial, ⟨fun _ _ _ _ _ => trivial, fun _ _ _ _ _ => trivial⟩, trivial⟩
  · exact ho1
  · exact (Below.refl _ _).drew
  dsimp only [Reg.mk, List.zip, List.zipWith, List.take]
  repeat (refine' Reg.pass_is _ (by rfl) (fun wz => ?_) ?_; rotate_left; (go_simp; first | rfl | rw [if_neg (by omega)]); simp only [Act.put, List.setIfInBounds_toArray, List.set_cons_zero, List.set_cons_succ]; (try simp only [List.nil_append]); (try simp only [List.cons_append]); (try simp only [id]))
  refine Reg.pass_minor (by rfl) (fun wz hI hF => ?_) (fun r2 => ?_)
  · unfold Reg.One
    obtain ⟨r0, r1, r2⟩ := OpAt.cells (show OpAt wz w.heap.size kd k who from hI)
    go_wp2_with fail
    exact ⟨_, rfl, ⟨(), rfl, trivial⟩, Reg.Ext.refl _⟩
  simp only [Act.put, List.setIfInBounds_toArray, List.set_cons_zero, List.set_cons_succ]; (try simp only [List.nil_append]); (try simp only [List.cons_append]); (try simp only [id])
  refine Reg.pass_major (by rfl) (fun wz hI hS hF => ?_) (fun r3 => ?_)
  · unfold Reg.One
    have hS1 : Below w1.heap.size w1 wz := hS
    have hx := h1.x.below hS1 h1.x.lt
    go_wp2_with (go_at_call 15; go_must (refine (All_fn who hx).mono ?_); rintro e w5 ⟨rfl, hL5, hO5⟩)
    rw [← hL'] at hL5
    try rw [← hrv]
    exact ⟨_, rfl, ⟨⟨(), rfl⟩, (Put.Off.of_below hS1).trans hO5 (.inl rfl), hL5⟩, hO5⟩
  simp only [Act.put, List.setIfInBounds_toArray, List.set_cons_zero, List.set_cons_succ]; (try simp only [List.nil_append]); (try simp only [List.cons_append]); (try simp only [id])
  repeat (refine' Reg.pass_is _ (by rfl) (fun wz => ?_) ?_; rotate_left; (go_simp; first | rfl | rw [if_neg (by omega)]); simp only [Act.put, List.setIfInBounds_toArray, List.set_cons_zero, List.set_cons_succ]; (try simp only [List.nil_append]); (try simp only [List.cons_append]); (try simp only [id]))
  refine Reg.pass_minor (by rfl) (fun wz hI hF => ?_) (fun r6 => ?_)
  · unfold Reg.One
    obtain ⟨r0, r1, r2⟩ := OpAt.cells (show OpAt wz w.heap.size kd k who from hI)
    go_wp2_with fail
    exact ⟨_, rfl, ⟨(), rfl, trivial⟩, Reg.Ext.refl _⟩
  simp only [Act.put, List.setIfInBounds_toArray, List.set_cons_zero, List.set_cons_succ]; (try simp only [List.nil_append]); (try simp only [List.cons_append]); (try simp only [id])
  refine Reg.pass_end ?_
  intro w3 HI3 HS3 _
  obtain ⟨o3, x3⟩ := HS3
  have hd := all_fn who (h1.y.off o3 h1.apart.symm)
  clear HI3
  dsimp only [List.drop]
  go_wp2_with fail
  go_at_call 18
  refine hd.mono ?_
  clear hd
  rintro e w6 ⟨rfl, y6, o6⟩
  rw [← hL'] at y6
  rw [← hrv]
  have z1 : (rv == rv) = true := by simp
  have hfin := Lib.hid (both_end h.out hb1 o3 x3 o6 y6)
  clear hb1 h1 o3 x3 o6 y6 ho1
  go_wp2_with fail
  go_ret
  exact hfin.out


/-- What any call makes of the locks. -/
def Lk.step (l : Lk) (kd k who : Int) : Lk := if kd = 0 ∨ kd = 1 then l.tryL k who else if kd = 2 then l.freeL k who else l.allL who
theorem step_fn (kd k who : Int) (h : Two B w s p l) (hn : 0 ≤ l.n ∧ l.n ≤ 1000000) :
    Calls Try.prog 6 #[.pointer (some ⟨s, 0, none⟩), .pointer (some ⟨p, 0, none⟩), .agg #[.int .i64 kd, .int .i64 k, .int .i64 who]] w (StepPost B w s p (l.step kd k who)) := by
  unfold Lk.step
  by_cases h0 : kd = 0
  · subst h0; exact step_try k who h hn
  by_cases h1 : kd = 1
  · subst h1; exact step_try1 k who h hn
  rw [if_neg (by omega)]
  by_cases h2 : kd = 2
  · subst h2; exact step_free k who h
  rw [if_neg h2]
  exact step_all k who kd ⟨h0, h1, h2⟩ h
theorem put_n (l : Lk) (k v : Int) : (l.put k v).n = l.n := rfl
theorem drop_n (l : Lk) (k who : Int) : (l.drop1 k who).n = l.n := by unfold Lk.drop1; split <;> rfl
theorem step_n (l : Lk) (kd k who : Int) : l.n ≤ (l.step kd k who).n ∧ (l.step kd k who).n ≤ l.n + 1 := by
  unfold Lk.step
  split
  · unfold Lk.tryL; split <;> (try dsimp only) <;> omega
  · split
    · unfold Lk.freeL; split <;> (try rw [put_n]) <;> omega
    · unfold Lk.allL; rw [drop_n, drop_n, drop_n]; omega
end

end Go.Proofs.Ytlenhkmddmlknaa

