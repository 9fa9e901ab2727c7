/-
  Own walk: the statement on plays of a set of locks.
-/
import Derived.Test.YtlenhkmddmlknaaLkD
import Derived.Test.YtlenhkmddmlknaaLkE
import Derived.Test.YtlenhkmddmlknaaRow
import Derived.Deep.CutRange
namespace Go.Proofs.Ytlenhkmddmlknaa
set_option maxRecDepth 8000
open Go.RowKit Go.Lib

/-- Owners are numbers from 1 on. -/
def Lk.ok (l : Lk) : Prop := 0 ≤ l.a ∧ 0 ≤ l.b ∧ 0 ≤ l.c
theorem put_ok {l : Lk} (k v : Int) (h : l.ok) (hv : 0 ≤ v) : (l.put k v).ok := by
  obtain ⟨h1, h2, h3⟩ := h
  refine ⟨?_, ?_, ?_⟩ <;> (unfold Lk.put; dsimp only; split <;> assumption)
theorem drop_ok {l : Lk} (k who : Int) (h : l.ok) : (l.drop1 k who).ok := by unfold Lk.drop1; split <;> first | exact put_ok k 0 h (Int.le_refl 0) | exact h
theorem step_ok {l : Lk} (kd k who : Int) (h : l.ok) : (l.step kd k who).ok := by
  unfold Lk.step
  split
  · unfold Lk.tryL
    split
    · rename_i he
      have hw : 0 ≤ who := by
        unfold Lk.tryE at he
        cases hl : lackF k who
        · have := (lack_not hl).2; omega
        · rw [hl, if_pos rfl] at he; exact absurd he (by decide)
      exact put_ok k who h hw
    · exact h
  · split
    · unfold Lk.freeL; split <;> first | exact put_ok k 0 h (Int.le_refl 0) | exact h
    · exact drop_ok _ _ (drop_ok _ _ (drop_ok _ _ h))
theorem has_want {l : Lk} (k who : Int) (h : l.ok) : l.has k who = (who != 0 && l.own k == who) := by
  have hk : 0 ≤ l.own k := by
    obtain ⟨h1, h2, h3⟩ := h
    unfold Lk.own; repeat' split
    all_goals first | assumption | exact Int.le_refl 0
  unfold Lk.has
  by_cases h0 : 0 < who
  · have : (who != 0) = true := by simp; omega
    rw [decide_eq_true h0, this]
    by_cases e : l.own k = who <;> simp [e]
  · rw [decide_eq_false h0]
    by_cases h1 : who = 0
    · subst h1; simp
    · have : ¬ l.own k = who := by omega
      simp [this]

/-- Both sets within the region of a step: before the step, behind it. -/
def SL (B : Nat) (w1 : World) (s p : Nat) (l' : Lk) : List Value → World → Prop
  | [], W => Below w1.heap.size w1 W
  | _ :: _, W => Two B W s p l' ∧ Below B w1 W
theorem SL.ext {B : Nat} {w1 : World} {s p : Nat} {l' : Lk} : ∀ (vs : List Value) (W W' : World), Reg.Ext W W' → SL B w1 s p l' vs W → SL B w1 s p l' vs W'
  | [], _, _, he, h => Below.trans h (Below.mono he (Below.size h))
  | _ :: _, _, _, he, h => ⟨h.1.below he, h.2.trans (Below.mono he (Nat.le_of_lt (Nat.lt_of_le_of_lt h.1.bs h.1.x.lt)))⟩

set_option maxRecDepth 100000 in
set_option maxHeartbeats 8000000 in
theorem lockPlays_walk (v : Value) (l : List Sp) (who : Int) (w : World) (hr : RowAt enc3 3 w v l) (_hl : ∀ s ∈ l, s.fits) (_hw : -9223372036854775808 ≤ who ∧ who ≤ 9223372036854775807) :
    Calls Try.prog 3 #[v, .int .i64 who] w fun e w' => e = .returned (.bool true) ∧ Below w.heap.size w w' := by
  clear _hl _hw
  obtain ⟨ao, cap, rfl, hlc, hcm, hcells⟩ := hr
  have hlm : l.length ≤ 9223372036854775807 := by unfold maxLen at hcm; omega
  clear hcm
  obtain ⟨B, hB⟩ : ∃ B, B = w.heap.size := ⟨_, rfl⟩
  obtain ⟨w1, hw1⟩ : ∃ w1, w1 = (w.alloc (.cells #[.int .i64 0, .int .i64 0, .int .i64 0, .int .i64 0] 26)).alloc (.cells #[.int .i64 0, .int .i64 0, .int .i64 0, .int .i64 0] 29) := ⟨_, rfl⟩
  have hb1 : Below w.heap.size w w1 := by rw [hw1]; exact ((Below.refl _ _).alloc (Nat.le_refl _) _).alloc (by simp) _
  have hT1 : Two B w1 w.heap.size (w.heap.size + 1) ⟨0, 0, 0, 0⟩ := by
    rw [hw1]
    refine ⟨heap_past (heap_alloc_new w _), ?_, by omega, by omega⟩
    have := heap_alloc_new (w.alloc (.cells #[.int .i64 0, .int .i64 0, .int .i64 0, .int .i64 0] 26)) (.cells #[.int .i64 0, .int .i64 0, .int .i64 0, .int .i64 0] 29)
    unfold LkAt
    simpa using this
  rw [← hB] at hb1
  replace hcells := Lib.hid hcells
  replace hb1 := Lib.hid hb1
  replace hT1 := Lib.hid hT1
  have hfin : Hid (∀ W, Below B w W → Below w.heap.size w W) := fun W h => by rw [hB] at h; exact h
  go_enter Try.func3, Try.ntmps3
  go_wp2_with fail
  rw [← hw1]
  replace hw1 := Lib.hid hw1
  obtain ⟨s, hs⟩ : ∃ s, s = w.heap.size := ⟨_, rfl⟩
  obtain ⟨p, hp⟩ : ∃ p, p = w.heap.size + 1 := ⟨_, rfl⟩
  rw [← hp]
  rw [← hs]
  rw [← hp, ← hs] at hT1
  replace hs := Lib.hid hs
  replace hp := Lib.hid hp
  replace hB := Lib.hid hB
  go_loopw [7] (fun ii wr => ∃ (i : Nat) (L : Lk), i ≤ 60 ∧ ii = .int .i64 i ∧ Hid (Two B wr s p L) ∧ Hid L.ok ∧ Hid (0 ≤ L.n ∧ L.n ≤ i) ∧ Hid (Below B w wr)) (fun ii _ => 60 - (intOf ii).toNat)
  case atStart => exact ⟨0, _, Nat.zero_le _, rfl, hT1.out, ⟨Int.le_refl 0, Int.le_refl 0, Int.le_refl 0⟩, ⟨Int.le_refl 0, Int.le_refl 0⟩, hb1.out⟩
  case round =>
    obtain ⟨i, L, hi60, rfl, hT, hok, hn, hb⟩ := hrel
    rename World => wq
    by_cases hgo : i < l.length ∧ i < 60
    · obtain ⟨hlt, hlt6⟩ := hgo
      have e1 : decide ((i : Int) < (l.length : Int)) = true := decide_eq_true (by omega)
      have e2 : decide ((i : Int) < 60) = true := decide_eq_true (by omega)
      obtain ⟨b, off, rfl, hbw, hcell⟩ := hcells.out (by omega)
      obtain ⟨x, hx⟩ : ∃ x, l[i]? = some x := ⟨_, List.getElem?_eq_getElem hlt⟩
      have c0 : w.cell? ⟨b, off + i * 3, none⟩ = some (.int .i64 x.a) := hcell i x 0 _ hx rfl
      have c1 : w.cell? ⟨b, off + i * 3 + 1, none⟩ = some (.int .i64 x.b) := hcell i x 1 _ hx rfl
      have c2 : w.cell? ⟨b, off + i * 3 + 2, none⟩ = some (.int .i64 x.n) := hcell i x 2 _ hx rfl
      rw [hB.out.symm] at hbw
      obtain ⟨kd, hkd⟩ : ∃ kd, kd = x.a := ⟨_, rfl⟩
      obtain ⟨kk, hkk⟩ : ∃ kk, kk = x.b := ⟨_, rfl⟩
      obtain ⟨kw, hkw⟩ : ∃ kw, kw = x.n := ⟨_, rfl⟩
      rw [← hkd] at c0
      rw [← hkk] at c1
      rw [← hkw] at c2
      replace c0 := Lib.hid c0
      replace c1 := Lib.hid c1
      replace c2 := Lib.hid c2
      replace hbw := Lib.hid hbw
      have hb0 : (0 : Int) ≤ i := by omega
      have hb3 : (i : Int) < (l.length : Int) := by omega
      have hwi : IntKind.i64.wrap ((i : Int) + 1) = (i : Int) + 1 := IntWalk.i64_in _ (by omega)
      obtain ⟨L2, hL2⟩ : ∃ L2, L2 = L.step kd kk kw := ⟨_, rfl⟩
      have hok2 : Hid L2.ok := by show Lk.ok _; rw [hL2]; exact step_ok kd kk kw hok.out
      have hn2 : Hid (0 ≤ L2.n ∧ L2.n ≤ i + 1) := by show _ ∧ _; have := step_n L kd kk kw; have := hn.out; rw [hL2]; omega
      clear hcell hx hkd hkk hkw hi60
      replace hL2 := Lib.hid hL2
      obtain ⟨fr, hfr⟩ : ∃ fr, fr = L2.free := ⟨_, rfl⟩
      have hq : ∀ W : World, _ := fun W => zero_eq L2.a L2.b L2.c W
      have hfr' : (L2.a == 0 && L2.b == 0 && L2.c == 0) = fr := hfr.symm
      rw [hfr'] at hq
      replace hfr := Lib.hid hfr
      replace hfr' := Lib.hid hfr'
      have nn : (L2.n != L2.n) = false := by simp
      have nf : (fr != fr) = false := by simp
      go_upto_region 6 with fail
      refine Reg.region_mk 26 97 [[], [false], [false, false], [false, false, false], [false, false, true, true], [false, false, true, true, true], [true, true, true, true, true, true], [true, true, true, true, true, true, true], [true, true, true, true, true, true, true, true], [true, true, true, true, true, true, true, true, true], [true, true, true, true, true, true, true, true, true, true], [true, true, true, true, true, true, true, true, true, false, false], [true, true, true, true, true, true, true, true, true, false, false, true], [true, true, true, true, true, true, true, true, true, false, false, true, true], [true, true, true, true, true, true, true, true, true, false, false, true, true, true], [true, true, true, true, true, true, true, true, true, true, true, true, true, true, true], [true, true, true, true, true, true, true, true, true, true, true, true, true, true, true, true], [true, true, true, true, true, true, true, true, true, true, true, true, true, true, true, true, true], [true, true, true, true, true, true, true, true, true, true, true, true, true, true, true, true, true, true], [true, true, true, true, true, true, true, true, true, true, true, true, true, true, true, true, true, true, true], [true, true, true, true, true, true, true, true, true, true, true, true, true, true, true, true, true, true, false, false], [true, true, true, true, true, true, true, true, true, true, true, true, true, true, true, true, true, true, false, false, true], [true, true, true, true, true, true, true, true, true, true, true, true, true, true, true, true, true, true, false, false, true, true], [true, true, true, true, true, true, true, true, true, true, true, true, true, true, true, true, true, true, false, false, true, true, true], [true, true, true, true, true, true, true, true, true, true, true, true, true, true, true, true, true, true, false, false, false, false, false, false], [true, true, true, true, true, true, true, true, true, true, true, true, true, true, true, true, true, true, false, false, true, true, true, true, true]] [0, 0, 0, 0, 0, 1, 3, 0, 0, 0, 2, 0, 0, 0, 2, 0, 0, 0, 0, 2, 0, 0, 0, 2, 0, 0]
        [.pure, .pure, .pure, .pure, .pure, .minor Unit () (fun _ => .agg #[.int .i64 kd, .int .i64 kk, .int .i64 kw]) (fun _ _ => True), .major Unit () (fun _ => .bool true), .pure, .pure, .pure, .pinned Unit () (fun _ => .int .i64 L2.n) (fun _ _ => True), .pure, .pure, .pure, .pinned Unit () (fun _ => .int .i64 L2.n) (fun _ _ => True), .pure, .pure, .pure, .pure, .pinned Unit () (fun _ => .bool fr) (fun _ _ => True), .pure, .pure, .pure, .pinned Unit () (fun _ => .agg #[.int .i64 L2.a, .int .i64 L2.b, .int .i64 L2.c]) (fun _ _ => True), .pure, .pure]
        (fun W => Below B w W) (SL B wq s p L2) (fun a b => Below B a b) (by kernel_rfl) (by kernel_rfl) rfl rfl (SL.ext) ?_ ?_ ?_ ?_ ?_ ?_
      · intro x y he hx; exact (show Below B w x from hx).trans (Below.mono he (Nat.le_trans (hB.out ▸ Nat.le_refl _) (show Below B w x from hx).size))
      · intro x y he hx; exact (show Below B w x from hx).trans he
      · exact ⟨trivial, trivial, trivial, trivial, trivial, ⟨fun _ _ _ _ _ => trivial, fun _ _ _ _ _ => trivial⟩, trivial, trivial, trivial, trivial, ⟨fun _ _ _ _ _ => trivial, fun _ _ _ _ _ => trivial⟩, trivial, trivial, trivial, ⟨fun _ _ _ _ _ => trivial, fun _ _ _ _ _ => trivial⟩, trivial, trivial, trivial, trivial, ⟨fun _ _ _ _ _ => trivial, fun _ _ _ _ _ => trivial⟩, trivial, trivial, trivial, ⟨fun _ _ _ _ _ => trivial, fun _ _ _ _ _ => trivial⟩, trivial, trivial, trivial⟩
      · exact hb.out.drew
      · exact (Below.refl _ _).drew
      dsimp only [Reg.mk, List.zip, List.zipWith, List.take]
      repeat (refine' Reg.pass_is _ (by rfl) (fun wz => ?_) ?_; rotate_left; (go_simp; first | rfl | rw [if_neg (by omega)]); simp only [Act.put, List.setIfInBounds_toArray, List.set_cons_zero, List.set_cons_succ]; (try simp only [List.nil_append]); (try simp only [List.cons_append]); (try simp only [id]))
      refine Reg.pass_minor (by rfl) (fun wz hI hF => ?_) (fun r5 => ?_)
      · unfold Reg.One
        have hI2 : Below B w wz := hI
        have k0 := (hI2.cell (p := ⟨b, off + i * 3, none⟩) hbw.out).trans c0.out
        have k1 := (hI2.cell (p := ⟨b, off + i * 3 + 1, none⟩) hbw.out).trans c1.out
        have k2 := (hI2.cell (p := ⟨b, off + i * 3 + 2, none⟩) hbw.out).trans c2.out
        go_wp2_with fail
        exact ⟨_, rfl, ⟨(), rfl, trivial⟩, Reg.Ext.refl _⟩
      simp only [Act.put, List.setIfInBounds_toArray, List.set_cons_zero, List.set_cons_succ]; (try simp only [List.nil_append]); (try simp only [List.cons_append]); (try simp only [id])
      refine Reg.pass_major (by rfl) (fun wz hI hS hF => ?_) (fun r6 => ?_)
      · unfold Reg.One
        have hS1 : Below wq.heap.size wq wz := hS
        have hst := step_fn kd kk kw (hT.out.below hS1) (by have := hn.out; omega)
        rw [← hL2.out] at hst
        go_wp2_with (go_at_call 6; go_must (refine hst.mono ?_); rintro e w5 ⟨rfl, hT5, hb5⟩)
        exact ⟨_, rfl, ⟨⟨(), rfl⟩, hT5, (hS1.mono (Nat.le_of_lt (Nat.lt_of_le_of_lt hT.out.bs hT.out.x.lt))).trans hb5⟩, hb5⟩
      simp only [Act.put, List.setIfInBounds_toArray, List.set_cons_zero, List.set_cons_succ]; (try simp only [List.nil_append]); (try simp only [List.cons_append]); (try simp only [id])
      repeat (refine' Reg.pass_is _ (by rfl) (fun wz => ?_) ?_; rotate_left; (go_simp; first | rfl | rw [if_neg (by omega)]); simp only [Act.put, List.setIfInBounds_toArray, List.set_cons_zero, List.set_cons_succ]; (try simp only [List.nil_append]); (try simp only [List.cons_append]); (try simp only [id]))
      refine Reg.pass_pinned (by rfl) (fun wz hI hS hF => ?_) (fun r10 => ?_)
      · unfold Reg.One
        have hS2 : Two B wz s p L2 := hS.1
        go_wp2_with (go_at_call 7; go_must (refine (Taken_fn hS2.x).mono ?_); rintro e w5 ⟨rfl, rfl⟩)
        exact ⟨_, rfl, ⟨(), rfl, trivial⟩, Reg.Ext.refl _⟩
      simp only [Act.put, List.setIfInBounds_toArray, List.set_cons_zero, List.set_cons_succ]; (try simp only [List.nil_append]); (try simp only [List.cons_append]); (try simp only [id])
      repeat (refine' Reg.pass_is _ (by rfl) (fun wz => ?_) ?_; rotate_left; (go_simp; first | rfl | rw [if_neg (by omega)]); simp only [Act.put, List.setIfInBounds_toArray, List.set_cons_zero, List.set_cons_succ]; (try simp only [List.nil_append]); (try simp only [List.cons_append]); (try simp only [id]))
      refine Reg.pass_pinned (by rfl) (fun wz hI hS hF => ?_) (fun r14 => ?_)
      · unfold Reg.One
        have hS2 : Two B wz s p L2 := hS.1
        have k3 := hS2.y.c3
        go_wp2_with fail
        exact ⟨_, rfl, ⟨(), rfl, trivial⟩, Reg.Ext.refl _⟩
      simp only [Act.put, List.setIfInBounds_toArray, List.set_cons_zero, List.set_cons_succ]; (try simp only [List.nil_append]); (try simp only [List.cons_append]); (try simp only [id])
      refine Reg.pass_is (.bool false) (by rfl) (fun wz => ?_) ?_
      · go_simp
        all_goals (first | rfl | (rw [nn]) | (simp) | skip)
      simp only [Act.put, List.setIfInBounds_toArray, List.set_cons_zero, List.set_cons_succ]; (try simp only [List.nil_append]); (try simp only [List.cons_append]); (try simp only [id])
      repeat (refine' Reg.pass_is _ (by rfl) (fun wz => ?_) ?_; rotate_left; (go_simp; first | rfl | rw [if_neg (by omega)]); simp only [Act.put, List.setIfInBounds_toArray, List.set_cons_zero, List.set_cons_succ]; (try simp only [List.nil_append]); (try simp only [List.cons_append]); (try simp only [id]))
      refine Reg.pass_pinned (by rfl) (fun wz hI hS hF => ?_) (fun r19 => ?_)
      · unfold Reg.One
        have hS2 : Two B wz s p L2 := hS.1
        have hId := Idle_fn hS2.x
        rw [← hfr.out] at hId
        go_wp2_with (go_at_call 8; go_must (refine hId.mono ?_); rintro e w5 ⟨rfl, rfl⟩)
        exact ⟨_, rfl, ⟨(), rfl, trivial⟩, Reg.Ext.refl _⟩
      simp only [Act.put, List.setIfInBounds_toArray, List.set_cons_zero, List.set_cons_succ]; (try simp only [List.nil_append]); (try simp only [List.cons_append]); (try simp only [id])
      repeat (refine' Reg.pass_is _ (by rfl) (fun wz => ?_) ?_; rotate_left; (go_simp; first | rfl | rw [if_neg (by omega)]); simp only [Act.put, List.setIfInBounds_toArray, List.set_cons_zero, List.set_cons_succ]; (try simp only [List.nil_append]); (try simp only [List.cons_append]); (try simp only [id]))
      refine Reg.pass_pinned (by rfl) (fun wz hI hS hF => ?_) (fun r23 => ?_)
      · unfold Reg.One
        have hS2 : Two B wz s p L2 := hS.1
        have k0 := hS2.y.c0
        have k1 := hS2.y.c1
        have k2 := hS2.y.c2
        go_wp2_with fail
        exact ⟨_, rfl, ⟨(), rfl, trivial⟩, Reg.Ext.refl _⟩
      simp only [Act.put, List.setIfInBounds_toArray, List.set_cons_zero, List.set_cons_succ]; (try simp only [List.nil_append]); (try simp only [List.cons_append]); (try simp only [id])
      repeat (refine' Reg.pass_is _ (by rfl) (fun wz => ?_) ?_; rotate_left; (go_simp; first | rfl | rw [if_neg (by omega)]); simp only [Act.put, List.setIfInBounds_toArray, List.set_cons_zero, List.set_cons_succ]; (try simp only [List.nil_append]); (try simp only [List.cons_append]); (try simp only [id]))
      refine Reg.pass_end ?_
      intro w3 HI3 HS3 _
      obtain ⟨hT3, hb33⟩ := HS3
      replace hT3 := Lib.hid hT3
      replace HI3 := Lib.hid HI3
      clear hb33 hT hb hn hok
      dsimp only [List.drop]
      obtain ⟨x0, hx0⟩ : ∃ x, x = L2.has 0 who := ⟨_, rfl⟩
      obtain ⟨x1, hx1⟩ : ∃ x, x = L2.has 1 who := ⟨_, rfl⟩
      obtain ⟨x2, hx2⟩ : ∃ x, x = L2.has 2 who := ⟨_, rfl⟩
      replace hx0 := Lib.hid hx0
      replace hx1 := Lib.hid hx1
      replace hx2 := Lib.hid hx2
      have hg3 : Below w3.heap.size w3 (w3.alloc (.cells #[.bool false, .bool false, .bool false] 36)) := (Below.refl _ _).alloc (Nat.le_refl _) _
      have hG3 : Hid ((w3.alloc (.cells #[.bool false, .bool false, .bool false] 36)).heap[w3.heap.size]? = some (.cells #[.bool false, .bool false, .bool false] 36 (0, 0))) := heap_alloc_new w3 _
      replace hg3 := Lib.hid hg3
      obtain ⟨w4, hw4⟩ : ∃ w4, w4 = w3.alloc (.cells #[.bool false, .bool false, .bool false] 36) := ⟨_, rfl⟩
      rw [← hw4] at hg3 hG3
      clear hq nf nn
      go_wp2_with fail
      rw [← hw4]
      clear hw4
      obtain ⟨g, hg⟩ : ∃ g, g = w3.heap.size := ⟨_, rfl⟩
      rw [← hg] at hG3 hg3
      rw [← hg]
      have hBg : Hid (B ≤ g) := by show _ ≤ _; rw [hg]; exact Nat.le_of_lt (Nat.lt_of_le_of_lt hT3.out.bs hT3.out.x.lt)
      have hsg : Hid (s < g ∧ p < g) := by show _ ∧ _; rw [hg]; exact ⟨hT3.out.x.lt, hT3.out.y.lt⟩
      replace hg := Lib.hid hg
      go_loopw [9] (fun ii wr => ∃ (cs : Array Value) (k : Int), ii = .int .i64 k ∧ Hid (wr.heap[g]? = some (.cells cs 36 (0, 0))) ∧ Hid (Below g w3 wr) ∧ Hid ((k = 0 ∧ cs = #[.bool false, .bool false, .bool false]) ∨ (k = 1 ∧ cs = #[.bool x0, .bool false, .bool false]) ∨ (k = 2 ∧ cs = #[.bool x0, .bool x1, .bool false]) ∨ (k = 3 ∧ cs = #[.bool x0, .bool x1, .bool x2]))) (fun ii _ => 3 - (intOf ii).toNat)
      case atStart => exact ⟨_, 0, rfl, hG3.out, hg3.out, .inl ⟨rfl, rfl⟩⟩
      case round =>
        obtain ⟨cs, k, rfl, hG, hB4, hk⟩ := hrel
        have hT4 : Hid (Two B _ s p L2) := ⟨hT3.out.x.below hB4.out hsg.out.1, hT3.out.y.below hB4.out hsg.out.2, hT3.out.bs, hT3.out.bp⟩
        rename World => wa
        rcases hk.out with ⟨rfl, rfl⟩ | ⟨rfl, rfl⟩ | ⟨rfl, rfl⟩ | ⟨rfl, rfl⟩
        · clear hk
          have hOw : Hid (∀ W, Below wa.heap.size wa W → _) := fun W hW => Owner_fn (w := W) 0 (hT4.out.below hW).x
          have hwt := has_want 0 who hok2.out
          rw [← hx0.out] at hwt
          have hown : Hid (L2.own 0 = L2.a) := rfl
          have nn : (L2.a != L2.a) = false := by simp
          obtain ⟨oo, hoo⟩ : ∃ oo, oo = L2.a := ⟨_, rfl⟩
          rw [show L2.own 0 = L2.a from rfl] at hwt
          rw [← hoo] at hwt nn hown
          replace hoo := Lib.hid hoo
          go_upto_region 12 with fail
          refine Reg.region_mk 9 97 [[], [false], [true, true], [false, false, false], [false, false, false, false], [false, false, false, true, false], [false, false, false, true, false, true], [false, false, false, true, true, true, true], [false, false, false, true, true, true, true, true]] [0, 0, 1, 0, 0, 0, 0, 0, 1]
            [.pure, .pure, .minor Unit () (fun _ => .int .i64 oo) (fun _ _ => True), .pure, .pure, .pure, .pure, .pure, .minor Unit () (fun _ => .int .i64 oo) (fun _ _ => True)]
            (fun W => Below wa.heap.size wa W) (fun _ _ => True) (fun a b => Below a.heap.size a b) (by kernel_rfl) (by kernel_rfl) rfl rfl (fun vs a b h hs => trivial) ?_ ?_ ?_ ?_ ?_ ?_
          · intro a b he hb; exact hb.trans (Below.mono he hb.size)
          · intro a b he hb; exact hb.trans (Below.mono he hb.size)
          · exact ⟨trivial, trivial, ⟨fun _ _ _ _ _ => trivial, fun _ _ _ _ _ => trivial⟩, trivial, trivial, trivial, trivial, trivial, ⟨fun _ _ _ _ _ => trivial, fun _ _ _ _ _ => trivial⟩, trivial⟩
          · exact (Below.refl _ _).drew
          · trivial
          dsimp only [Reg.mk, List.zip, List.zipWith, List.take]
          repeat (refine' Reg.pass_is _ (by rfl) (fun wz => ?_) ?_; rotate_left; (go_simp; first | rfl | rw [if_neg (by omega)]); simp only [Act.put, List.setIfInBounds_toArray, List.set_cons_zero, List.set_cons_succ]; (try simp only [List.nil_append]); (try simp only [List.cons_append]); (try simp only [id]))
          refine Reg.pass_minor (by rfl) (fun wz hI hF => ?_) (fun r2 => ?_)
          · unfold Reg.One
            have hO := hOw.out wz hI
            rw [hown.out] at hO
            go_wp2_with (go_at_call 9; go_must (refine hO.mono ?_); rintro e w5 ⟨rfl, rfl⟩)
            exact ⟨_, rfl, ⟨(), rfl, trivial⟩, Reg.Ext.refl _⟩
          simp only [Act.put, List.setIfInBounds_toArray, List.set_cons_zero, List.set_cons_succ]; (try simp only [List.nil_append]); (try simp only [List.cons_append]); (try simp only [id])
          repeat (refine' Reg.pass_is _ (by rfl) (fun wz => ?_) ?_; rotate_left; (go_simp; first | rfl | rw [if_neg (by omega)]); simp only [Act.put, List.setIfInBounds_toArray, List.set_cons_zero, List.set_cons_succ]; (try simp only [List.nil_append]); (try simp only [List.cons_append]); (try simp only [id]))
          refine Reg.pass_minor (by rfl) (fun wz hI hF => ?_) (fun r8 => ?_)
          · unfold Reg.One
            have kc := (hT4.out.below hI).y.c0
            rw [← hoo.out] at kc
            go_wp2_with fail
            exact ⟨_, rfl, ⟨(), rfl, trivial⟩, Reg.Ext.refl _⟩
          simp only [Act.put, List.setIfInBounds_toArray, List.set_cons_zero, List.set_cons_succ]; (try simp only [List.nil_append]); (try simp only [List.cons_append]); (try simp only [id])
          refine Reg.pass_end ?_
          intro wb HIb _ _
          have hGb : wb.heap[g]? = _ := ((show Below _ _ _ from HIb).block g (lt_of_at hG.out)).trans hG.out
          have kg : wb.cell? ⟨g, 0, none⟩ = some (.bool false) := by simp [World.cell?, hGb]
          have kf : wb.frozen? ⟨g, 0, none⟩ = false := by simp [World.frozen?, hGb]
          have kc := (hT4.out.below HIb).y.c0
          rw [← hoo.out] at kc
          have hB5 : Hid (Below g w3 wb) := hB4.out.trans (Below.mono HIb (Nat.le_of_lt (lt_of_at hG.out)))
          replace hGb := Lib.hid hGb
          clear HIb hOw hG hB4
          dsimp only [List.drop]
          by_cases hw0 : who = 0
          · subst hw0
            have hx : Hid (x0 = false) := hwt.trans (by simp)
            clear hwt
            go_wp2_with fail
            go_roundw
            case rel => exact ⟨_, 1, by go_num, heap_put hGb.out _, hB5.out.setCell (Nat.le_refl _) _, by rw [hx.out]; exact .inr (.inl ⟨rfl, rfl⟩)⟩
            case measure => simp [intOf]
          · have hw1 : (who != 0) = true := by simp [hw0]
            rw [hw1, Bool.true_and] at hwt
            replace hwt := hwt.symm
            clear hw0
            go_wp2_with fail
            go_roundw
            case rel => exact ⟨_, 1, by go_num, heap_put hGb.out _, hB5.out.setCell (Nat.le_refl _) _, .inr (.inl ⟨rfl, rfl⟩)⟩
            case measure => simp [intOf]
        · clear hk
          have hOw : Hid (∀ W, Below wa.heap.size wa W → _) := fun W hW => Owner_fn (w := W) 1 (hT4.out.below hW).x
          have hwt := has_want 1 who hok2.out
          rw [← hx1.out] at hwt
          have hown : Hid (L2.own 1 = L2.b) := rfl
          have nn : (L2.b != L2.b) = false := by simp
          obtain ⟨oo, hoo⟩ : ∃ oo, oo = L2.b := ⟨_, rfl⟩
          rw [show L2.own 1 = L2.b from rfl] at hwt
          rw [← hoo] at hwt nn hown
          replace hoo := Lib.hid hoo
          go_upto_region 12 with fail
          refine Reg.region_mk 9 97 [[], [false], [true, true], [false, false, false], [false, false, false, false], [false, false, false, true, false], [false, false, false, true, false, true], [false, false, false, true, true, true, true], [false, false, false, true, true, true, true, true]] [0, 0, 1, 0, 0, 0, 0, 0, 1]
            [.pure, .pure, .minor Unit () (fun _ => .int .i64 oo) (fun _ _ => True), .pure, .pure, .pure, .pure, .pure, .minor Unit () (fun _ => .int .i64 oo) (fun _ _ => True)]
            (fun W => Below wa.heap.size wa W) (fun _ _ => True) (fun a b => Below a.heap.size a b) (by kernel_rfl) (by kernel_rfl) rfl rfl (fun vs a b h hs => trivial) ?_ ?_ ?_ ?_ ?_ ?_
          · intro a b he hb; exact hb.trans (Below.mono he hb.size)
          · intro a b he hb; exact hb.trans (Below.mono he hb.size)
          · exact ⟨trivial, trivial, ⟨fun _ _ _ _ _ => trivial, fun _ _ _ _ _ => trivial⟩, trivial, trivial, trivial, trivial, trivial, ⟨fun _ _ _ _ _ => trivial, fun _ _ _ _ _ => trivial⟩, trivial⟩
          · exact (Below.refl _ _).drew
          · trivial
          dsimp only [Reg.mk, List.zip, List.zipWith, List.take]
          repeat (refine' Reg.pass_is _ (by rfl) (fun wz => ?_) ?_; rotate_left; (go_simp; first | rfl | rw [if_neg (by omega)]); simp only [Act.put, List.setIfInBounds_toArray, List.set_cons_zero, List.set_cons_succ]; (try simp only [List.nil_append]); (try simp only [List.cons_append]); (try simp only [id]))
          refine Reg.pass_minor (by rfl) (fun wz hI hF => ?_) (fun r2 => ?_)
          · unfold Reg.One
            have hO := hOw.out wz hI
            rw [hown.out] at hO
            go_wp2_with (go_at_call 9; go_must (refine hO.mono ?_); rintro e w5 ⟨rfl, rfl⟩)
            exact ⟨_, rfl, ⟨(), rfl, trivial⟩, Reg.Ext.refl _⟩
          simp only [Act.put, List.setIfInBounds_toArray, List.set_cons_zero, List.set_cons_succ]; (try simp only [List.nil_append]); (try simp only [List.cons_append]); (try simp only [id])
          repeat (refine' Reg.pass_is _ (by rfl) (fun wz => ?_) ?_; rotate_left; (go_simp; first | rfl | rw [if_neg (by omega)]); simp only [Act.put, List.setIfInBounds_toArray, List.set_cons_zero, List.set_cons_succ]; (try simp only [List.nil_append]); (try simp only [List.cons_append]); (try simp only [id]))
          refine Reg.pass_minor (by rfl) (fun wz hI hF => ?_) (fun r8 => ?_)
          · unfold Reg.One
            have kc := (hT4.out.below hI).y.c1
            rw [← hoo.out] at kc
            go_wp2_with fail
            exact ⟨_, rfl, ⟨(), rfl, trivial⟩, Reg.Ext.refl _⟩
          simp only [Act.put, List.setIfInBounds_toArray, List.set_cons_zero, List.set_cons_succ]; (try simp only [List.nil_append]); (try simp only [List.cons_append]); (try simp only [id])
          refine Reg.pass_end ?_
          intro wb HIb _ _
          have hGb : wb.heap[g]? = _ := ((show Below _ _ _ from HIb).block g (lt_of_at hG.out)).trans hG.out
          have kg : wb.cell? ⟨g, 1, none⟩ = some (.bool false) := by simp [World.cell?, hGb]
          have kf : wb.frozen? ⟨g, 1, none⟩ = false := by simp [World.frozen?, hGb]
          have kc := (hT4.out.below HIb).y.c1
          rw [← hoo.out] at kc
          have hB5 : Hid (Below g w3 wb) := hB4.out.trans (Below.mono HIb (Nat.le_of_lt (lt_of_at hG.out)))
          replace hGb := Lib.hid hGb
          clear HIb hOw hG hB4
          dsimp only [List.drop]
          by_cases hw0 : who = 0
          · subst hw0
            have hx : Hid (x1 = false) := hwt.trans (by simp)
            clear hwt
            go_wp2_with fail
            go_roundw
            case rel => exact ⟨_, 2, by go_num, heap_put hGb.out _, hB5.out.setCell (Nat.le_refl _) _, by rw [hx.out]; exact .inr (.inr (.inl ⟨rfl, rfl⟩))⟩
            case measure => simp [intOf]
          · have hw1 : (who != 0) = true := by simp [hw0]
            rw [hw1, Bool.true_and] at hwt
            replace hwt := hwt.symm
            clear hw0
            go_wp2_with fail
            go_roundw
            case rel => exact ⟨_, 2, by go_num, heap_put hGb.out _, hB5.out.setCell (Nat.le_refl _) _, .inr (.inr (.inl ⟨rfl, rfl⟩))⟩
            case measure => simp [intOf]
        · clear hk
          have hOw : Hid (∀ W, Below wa.heap.size wa W → _) := fun W hW => Owner_fn (w := W) 2 (hT4.out.below hW).x
          have hwt := has_want 2 who hok2.out
          rw [← hx2.out] at hwt
          have hown : Hid (L2.own 2 = L2.c) := rfl
          have nn : (L2.c != L2.c) = false := by simp
          obtain ⟨oo, hoo⟩ : ∃ oo, oo = L2.c := ⟨_, rfl⟩
          rw [show L2.own 2 = L2.c from rfl] at hwt
          rw [← hoo] at hwt nn hown
          replace hoo := Lib.hid hoo
          go_upto_region 12 with fail
          refine Reg.region_mk 9 97 [[], [false], [true, true], [false, false, false], [false, false, false, false], [false, false, false, true, false], [false, false, false, true, false, true], [false, false, false, true, true, true, true], [false, false, false, true, true, true, true, true]] [0, 0, 1, 0, 0, 0, 0, 0, 1]
            [.pure, .pure, .minor Unit () (fun _ => .int .i64 oo) (fun _ _ => True), .pure, .pure, .pure, .pure, .pure, .minor Unit () (fun _ => .int .i64 oo) (fun _ _ => True)]
            (fun W => Below wa.heap.size wa W) (fun _ _ => True) (fun a b => Below a.heap.size a b) (by kernel_rfl) (by kernel_rfl) rfl rfl (fun vs a b h hs => trivial) ?_ ?_ ?_ ?_ ?_ ?_
          · intro a b he hb; exact hb.trans (Below.mono he hb.size)
          · intro a b he hb; exact hb.trans (Below.mono he hb.size)
          · exact ⟨trivial, trivial, ⟨fun _ _ _ _ _ => trivial, fun _ _ _ _ _ => trivial⟩, trivial, trivial, trivial, trivial, trivial, ⟨fun _ _ _ _ _ => trivial, fun _ _ _ _ _ => trivial⟩, trivial⟩
          · exact (Below.refl _ _).drew
          · trivial
          dsimp only [Reg.mk, List.zip, List.zipWith, List.take]
          repeat (refine' Reg.pass_is _ (by rfl) (fun wz => ?_) ?_; rotate_left; (go_simp; first | rfl | rw [if_neg (by omega)]); simp only [Act.put, List.setIfInBounds_toArray, List.set_cons_zero, List.set_cons_succ]; (try simp only [List.nil_append]); (try simp only [List.cons_append]); (try simp only [id]))
          refine Reg.pass_minor (by rfl) (fun wz hI hF => ?_) (fun r2 => ?_)
          · unfold Reg.One
            have hO := hOw.out wz hI
            rw [hown.out] at hO
            go_wp2_with (go_at_call 9; go_must (refine hO.mono ?_); rintro e w5 ⟨rfl, rfl⟩)
            exact ⟨_, rfl, ⟨(), rfl, trivial⟩, Reg.Ext.refl _⟩
          simp only [Act.put, List.setIfInBounds_toArray, List.set_cons_zero, List.set_cons_succ]; (try simp only [List.nil_append]); (try simp only [List.cons_append]); (try simp only [id])
          repeat (refine' Reg.pass_is _ (by rfl) (fun wz => ?_) ?_; rotate_left; (go_simp; first | rfl | rw [if_neg (by omega)]); simp only [Act.put, List.setIfInBounds_toArray, List.set_cons_zero, List.set_cons_succ]; (try simp only [List.nil_append]); (try simp only [List.cons_append]); (try simp only [id]))
          refine Reg.pass_minor (by rfl) (fun wz hI hF => ?_) (fun r8 => ?_)
          · unfold Reg.One
            have kc := (hT4.out.below hI).y.c2
            rw [← hoo.out] at kc
            go_wp2_with fail
            exact ⟨_, rfl, ⟨(), rfl, trivial⟩, Reg.Ext.refl _⟩
          simp only [Act.put, List.setIfInBounds_toArray, List.set_cons_zero, List.set_cons_succ]; (try simp only [List.nil_append]); (try simp only [List.cons_append]); (try simp only [id])
          refine Reg.pass_end ?_
          intro wb HIb _ _
          have hGb : wb.heap[g]? = _ := ((show Below _ _ _ from HIb).block g (lt_of_at hG.out)).trans hG.out
          have kg : wb.cell? ⟨g, 2, none⟩ = some (.bool false) := by simp [World.cell?, hGb]
          have kf : wb.frozen? ⟨g, 2, none⟩ = false := by simp [World.frozen?, hGb]
          have kc := (hT4.out.below HIb).y.c2
          rw [← hoo.out] at kc
          have hB5 : Hid (Below g w3 wb) := hB4.out.trans (Below.mono HIb (Nat.le_of_lt (lt_of_at hG.out)))
          replace hGb := Lib.hid hGb
          clear HIb hOw hG hB4
          dsimp only [List.drop]
          by_cases hw0 : who = 0
          · subst hw0
            have hx : Hid (x2 = false) := hwt.trans (by simp)
            clear hwt
            go_wp2_with fail
            go_roundw
            case rel => exact ⟨_, 3, by go_num, heap_put hGb.out _, hB5.out.setCell (Nat.le_refl _) _, by rw [hx.out]; exact .inr (.inr (.inr ⟨rfl, rfl⟩))⟩
            case measure => simp [intOf]
          · have hw1 : (who != 0) = true := by simp [hw0]
            rw [hw1, Bool.true_and] at hwt
            replace hwt := hwt.symm
            clear hw0
            go_wp2_with fail
            go_roundw
            case rel => exact ⟨_, 3, by go_num, heap_put hGb.out _, hB5.out.setCell (Nat.le_refl _) _, .inr (.inr (.inr ⟨rfl, rfl⟩))⟩
            case measure => simp [intOf]
        · clear hk
          have hHe : Hid (∀ W, Below wa.heap.size wa W → _) := fun W hW => Held_fn (w := W) who (hT4.out.below hW).x
          have hnq := fun W => lane_neq x0 x1 x2 x0 x1 x2 W
          rw [show (!(x0 == x0 && x1 == x1 && x2 == x2)) = false by simp] at hnq
          go_upto_region 15 with fail
          refine Reg.region_mk 4 97 [[], [false], [true, true], [false, false, false]] [0, 0, 1, 1]
            [.pure, .pure, .minor Unit () (fun _ => .agg #[.bool x0, .bool x1, .bool x2]) (fun _ _ => True), .minor Unit () (fun _ => .agg #[.bool x0, .bool x1, .bool x2]) (fun _ _ => True)]
            (fun W => Below wa.heap.size wa W) (fun _ _ => True) (fun a b => Below a.heap.size a b) (by kernel_rfl) (by kernel_rfl) rfl rfl (fun vs a b h hs => trivial) ?_ ?_ ?_ ?_ ?_ ?_
          · intro a b he hb; exact hb.trans (Below.mono he hb.size)
          · intro a b he hb; exact hb.trans (Below.mono he hb.size)
          · exact ⟨trivial, trivial, ⟨fun _ _ _ _ _ => trivial, fun _ _ _ _ _ => trivial⟩, ⟨fun _ _ _ _ _ => trivial, fun _ _ _ _ _ => trivial⟩, trivial⟩
          · exact (Below.refl _ _).drew
          · trivial
          dsimp only [Reg.mk, List.zip, List.zipWith, List.take]
          repeat (refine' Reg.pass_is _ (by rfl) (fun wz => ?_) ?_; rotate_left; (go_simp; first | rfl | rw [if_neg (by omega)]); simp only [Act.put, List.setIfInBounds_toArray, List.set_cons_zero, List.set_cons_succ]; (try simp only [List.nil_append]); (try simp only [List.cons_append]); (try simp only [id]))
          refine Reg.pass_minor (by rfl) (fun wz hI hF => ?_) (fun r2 => ?_)
          · unfold Reg.One
            have hH := hHe.out wz hI
            unfold heldV laneV at hH
            rw [← hx0.out, ← hx1.out, ← hx2.out] at hH
            go_wp2_with (go_at_call 10; go_must (refine hH.mono ?_); rintro e w5 ⟨rfl, hb5⟩)
            exact ⟨_, rfl, ⟨(), rfl, trivial⟩, hb5⟩
          simp only [Act.put, List.setIfInBounds_toArray, List.set_cons_zero, List.set_cons_succ]; (try simp only [List.nil_append]); (try simp only [List.cons_append]); (try simp only [id])
          refine Reg.pass_minor (by rfl) (fun wz hI hF => ?_) (fun r3 => ?_)
          · unfold Reg.One
            have hGz : wz.heap[g]? = _ := ((show Below _ _ _ from hI).block g (lt_of_at hG.out)).trans hG.out
            have k0 : wz.cell? ⟨g, 0, none⟩ = some (.bool x0) := by simp [World.cell?, hGz]
            have k1 : wz.cell? ⟨g, 1, none⟩ = some (.bool x1) := by simp [World.cell?, hGz]
            have k2 : wz.cell? ⟨g, 2, none⟩ = some (.bool x2) := by simp [World.cell?, hGz]
            clear hGz
            go_wp2_with fail
            exact ⟨_, rfl, ⟨(), rfl, trivial⟩, Reg.Ext.refl _⟩
          simp only [Act.put, List.setIfInBounds_toArray, List.set_cons_zero, List.set_cons_succ]; (try simp only [List.nil_append]); (try simp only [List.cons_append]); (try simp only [id])
          refine Reg.pass_end ?_
          intro wb HIb _ _
          have hT5 : Hid (Two B wb s p L2) := hT4.out.below HIb
          have hb5 : Hid (Below B w wb) := (HI3.out.trans (hB4.out.mono hBg.out)).trans (Below.mono HIb (Nat.le_trans hBg.out (Nat.le_of_lt (lt_of_at hG.out))))
          clear HIb hHe
          dsimp only [List.drop]
          go_wp2_with fail
          go_roundw
          case rel => exact ⟨i + 1, L2, by omega, by go_num, hT5.out, hok2.out, hn2.out, hb5.out⟩
          case measure => simp [intOf]; omega
    · have hOm := Owner_fn (-1) hT.out.x
      have hO3 := Owner_fn 3 hT.out.x
      rw [show L.own (-1) = 0 from rfl] at hOm
      rw [show L.own 3 = 0 from rfl] at hO3
      have hbB : Hid (B ≤ wq.heap.size) := Nat.le_of_lt (Nat.lt_of_le_of_lt hT.out.bs hT.out.x.lt)
      by_cases hlt : i < l.length
      · have e1 : decide ((i : Int) < (l.length : Int)) = true := decide_eq_true (by omega)
        have e2 : decide ((i : Int) < 60) = false := decide_eq_false (by omega)
        clear hcells hgo
        go_wp2_with fail
        go_at_call 9
        refine hOm.mono ?_
        clear hOm
        rintro e w5 ⟨rfl, rfl⟩
        go_wp2_with fail
        go_at_call 9
        refine hO3.mono ?_
        clear hO3
        rintro e w5 ⟨rfl, rfl⟩
        go_wp2_with (go_at_call 11; go_must (refine (awake_fn _).mono ?_); rintro e w5 ⟨rfl, hb5⟩)
        go_ret
        exact ⟨rfl, hfin.out _ (hb.out.trans (hb5.mono hbB.out))⟩
      · have e1 : decide ((i : Int) < (l.length : Int)) = false := decide_eq_false (by omega)
        clear hcells hgo
        go_wp2_with fail
        go_at_call 9
        refine hOm.mono ?_
        clear hOm
        rintro e w5 ⟨rfl, rfl⟩
        go_wp2_with fail
        go_at_call 9
        refine hO3.mono ?_
        clear hO3
        rintro e w5 ⟨rfl, rfl⟩
        go_wp2_with (go_at_call 11; go_must (refine (awake_fn _).mono ?_); rintro e w5 ⟨rfl, hb5⟩)
        go_ret
        exact ⟨rfl, hfin.out _ (hb.out.trans (hb5.mono hbB.out))⟩

end Go.Proofs.Ytlenhkmddmlknaa

