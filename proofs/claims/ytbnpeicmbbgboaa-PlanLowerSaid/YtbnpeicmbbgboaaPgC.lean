/-
  Own walks: a planner in memory; one item is planned.
-/
import Derived.Test.YtbnpeicmbbgboaaPgB
import Derived.Test.YtbnpeicmbbgboaaCel
import Derived.Deep.Cut
import Derived.Deep.CutRange
namespace Go.Proofs.Ytbnpeicmbbgboaa
set_option maxRecDepth 8000
open Go.RowKit Go.Sort Go.Lib

/-- Blocks that hold items stay. -/
structure KeptI (w w' : World) : Prop where
  size : w.heap.size ≤ w'.heap.size
  at_ : ∀ (k : Nat) (cur : Array Value), w.heap[k]? = some (Obj.cells cur 36 (0, 0)) → w'.heap[k]? = some (Obj.cells cur 36 (0, 0))
theorem KeptI.refl (w : World) : KeptI w w := ⟨Nat.le_refl _, fun _ _ h => h⟩
theorem KeptI.trans {w w' w'' : World} (h : KeptI w w') (h' : KeptI w' w'') : KeptI w w'' := ⟨Nat.le_trans h.size h'.size, fun k _ hk => h'.at_ k _ (h.at_ k _ hk)⟩
theorem KeptI.of_below {w w' : World} (h : Below w.heap.size w w') : KeptI w w' := ⟨h.size, fun k c hk => (h.block k (lt_of_at hk)).trans hk⟩
theorem KeptI.of_off {w w' : World} {p g : Nat} {L : List (Int × Int)} {ver : Int} (h : Off p g w w') (hp : PW w p g L ver) : KeptI w w' := by
  obtain ⟨cap, Z⟩ := hp.facts
  obtain ⟨cur, hg, _⟩ := own_heap Z.own
  exact ⟨h.size, fun k c hk => (h.block k (lt_of_at hk) (pf_apart_types hk Z.obj (by decide)) (pf_apart_types hk hg (by decide))).trans hk⟩

/-- A planner of one's own: its profile, its items left, its choices. -/
structure PlW (B : Nat) (w : World) (z p g : Nat) (lv cv : Value) (L : List (Int × Int)) (ver now : Int) (f : Int → Int) (cs : List (Int × Int)) (a : Nat) (m : Int) : Prop where
  bz : B ≤ z
  obj : w.heap[z]? = some (.cells #[.pointer (some ⟨p, 0, none⟩), lv, cv] 71 (0, 0))
  x : PW w p g L ver
  can : Can L now f
  fr : ∀ t, now ≤ t → 0 ≤ f t ∧ f t ≤ 64
  now0 : 0 ≤ now ∧ now ≤ 1099511627776
  ll : L.length ≤ a
  v : 0 ≤ ver ∧ ver ≤ m
  bp : B ≤ p
  bg : B ≤ g
  ch : w.ownsRow B 53 2 cv cs.length (prV cs)

section
variable {B : Nat} {w w' : World} {z p g : Nat} {lv cv : Value} {L : List (Int × Int)} {ver now : Int} {f : Int → Int} {cs : List (Int × Int)} {a : Nat} {m : Int}

theorem PlW.kept (h : PlW B w z p g lv cv L ver now f cs a m) (hb : Below w.heap.size w w') : PlW B w' z p g lv cv L ver now f cs a m :=
  ⟨h.bz, (hb.block _ (lt_of_at h.obj)).trans h.obj, h.x.kept hb, h.can, h.fr, h.now0, h.ll, h.v, h.bp, h.bg, pf_own_kept h.ch hb⟩
theorem PlW.size (h : PlW B w z p g lv cv L ver now f cs a m) : B ≤ w.heap.size := Nat.le_trans h.bz (Nat.le_of_lt (lt_of_at h.obj))
theorem PlW.more (h : PlW B w z p g lv cv L ver now f cs a m) {a' : Nat} {m' : Int} (ha : a ≤ a') (hm : m ≤ m') : PlW B w z p g lv cv L ver now f cs a' m' :=
  ⟨h.bz, h.obj, h.x, h.can, h.fr, h.now0, Nat.le_trans h.ll ha, ⟨h.v.1, Int.le_trans h.v.2 hm⟩, h.bp, h.bg, h.ch⟩
/-- Behind a change of its profile. -/
theorem PlW.added {x y n : Int} {r : Value} (h : PlW B w z p g lv cv L ver now f cs a m) (hA : AddPost w p g L ver now f x y n (.returned r) w') :
    ∃ (r1 dv : Int) (f' : Int → Int) (g' : Nat) (L' : List (Int × Int)), r = .int .i64 r1 ∧ AddR f now x y n r1 f' dv ∧ PlW B w' z p g' lv cv L' (ver + dv) now f' cs (a + 2) (m + 1) ∧ Below B w w' ∧ KeptI w w' := by
  obtain ⟨r1, dv, f', g', L', hr, hR, hP, hC, hg, hO, hl⟩ := hA
  injection hr with hr
  obtain ⟨cap, Z⟩ := h.x.facts
  obtain ⟨cur, hgh, _⟩ := own_heap Z.own
  have hdv : 0 ≤ dv ∧ dv ≤ 1 := by
    rcases hR with ⟨_, _, _, h⟩ | ⟨_, _, _, _, h⟩ | ⟨_, _, _, _, _, h⟩ | ⟨_, _, _, _, _, h⟩ <;> omega
  have hv := h.v
  have hll := h.ll
  have hsz := h.size
  refine ⟨r1, dv, f', g', L', hr, hR, ⟨h.bz, (hO.block z (lt_of_at h.obj) (pf_apart_types h.obj Z.obj (by decide)) (pf_apart_types h.obj hgh (by decide))).trans h.obj, hP, hC, hR.range h.fr (fun t ht => h.can.sm.late t ht), h.now0, by omega, by omega, h.bp, ?_, ?_⟩, hO.below h.bp h.bg hsz, .of_off hO h.x⟩
  · have := h.bg; omega
  · refine hO.own h.ch fun k hk => ?_
    obtain ⟨cur2, hk2⟩ := own_at h.ch hk
    exact ⟨pf_apart_types hk2 Z.obj (by decide), pf_apart_types hk2 hgh (by decide)⟩

/-- An item's block. -/
def ItAt (w : World) (b : Nat) (x : It) : Prop := w.heap[b]? = some (.cells #[.int .i64 x.id, .int .i64 x.wd, .int .i64 x.lim, .int .i64 x.pl] 36 (0, 0))

theorem span_fn {b : Nat} {x : It} (at_ : Int) (hI : ItAt w b x) (h64 : -9223372036854775808 ≤ at_ + x.lim ∧ at_ + x.lim ≤ 9223372036854775807) :
    Calls Try.prog 38 #[.int .i64 at_, .pointer (some ⟨b, 0, none⟩)] w fun e w' => e = .returned (.agg #[.int .i64 at_, .int .i64 (at_ + x.lim), .int .i64 x.wd]) ∧ Below w.heap.size w w' := by
  have hlt := lt_of_at hI
  have hI' : (w.alloc (.cells #[.int .i64 0, .int .i64 0, .int .i64 0] 63)).heap[b]? = some (.cells #[.int .i64 x.id, .int .i64 x.wd, .int .i64 x.lim, .int .i64 x.pl] 36 (0, 0)) := heap_past hI
  have c1 : (w.alloc (.cells #[.int .i64 0, .int .i64 0, .int .i64 0] 63)).cell? ⟨b, 1, none⟩ = some (.int .i64 x.wd) := by simp [World.cell?, hI']
  have c2 : (w.alloc (.cells #[.int .i64 0, .int .i64 0, .int .i64 0] 63)).cell? ⟨b, 2, none⟩ = some (.int .i64 x.lim) := by simp [World.cell?, hI']
  have hw : IntKind.i64.wrap (at_ + x.lim) = at_ + x.lim := IntWalk.i64_in _ h64
  clear hI' hI h64
  go_enter Try.func38, Try.ntmps38
  go_wp2_with fail
  refine ret_row rfl rfl rfl (heap_alloc_new w _) Try.underlying63 rfl (by kernel_rfl) ⟨rfl, (Below.refl _ _).alloc (Nat.le_refl _) _⟩

theorem cells_at {w : World} {b : Nat} {vs : List Value} {T : TypeId} (h : w.heap[b]? = some (.cells vs.toArray T (0, 0))) : ∀ j u, vs[j]? = some u → w.cell? ((⟨b, 0, none⟩ : Addr).add j) = some u := by
  intro j u hj
  rw [Go.WideShapes.add_plain]
  simp [World.cell?, h, hj]

/-- The block that an append may fill. -/
def ownB (v : Value) (w : World) : Nat := v.ownBlock.getD w.heap.size
theorem ownB_ne {w : World} {v : Value} {n : Nat} {xs : List Value} {k : Nat} {cur : Array Value} {T : TypeId} (h : w.ownsRow B 53 2 v n xs) (hk : w.heap[k]? = some (.cells cur T (0, 0))) (hT : T ≠ 53) : k ≠ ownB v w := by
  unfold ownB
  cases ho : v.ownBlock with
  | none => have := lt_of_at hk; simp; omega
  | some q =>
    obtain ⟨cur2, hq⟩ := own_at h ho
    exact pf_apart_types hk hq hT
theorem ownB_ge {w : World} {v : Value} {n : Nat} {xs : List Value} (h : w.ownsRow B 53 2 v n xs) (hB : B ≤ w.heap.size) : B ≤ ownB v w := by
  unfold ownB
  cases ho : v.ownBlock with
  | none => exact hB
  | some q => exact (h.lt q ho).1
/-- New blocks stay. -/
def NewK (w a b : World) : Prop := ∀ k, w.heap.size ≤ k → k < a.heap.size → b.heap[k]? = a.heap[k]?
/-- A choice is appended. -/
def Grew2 (B : Nat) (w : World) (cv : Value) (n : Nat) (xs : List Value) (v : Value) (W : World) : Prop := W.ownsRow B 53 2 v n xs ∧ Off (ownB cv w) (ownB cv w) w W
theorem Grew2.ext {w : World} {n : Nat} {xs : List Value} {v : Value} (a b : World) (he : Below a.heap.size a b) (h : Grew2 B w cv n xs v a) : Grew2 B w cv n xs v b := ⟨pf_own_kept h.1 he, h.2.then_below he⟩
theorem Grew2.of {w wz W : World} {v : Value} {n n' : Nat} {xs ys : List Value} (h : w.ownsRow B 53 2 cv n xs) (hb : Below w.heap.size w wz) (ho : W.ownsRow B 53 2 v n' ys) (hg : wz.grownBy W cv.ownBlock) : Grew2 B w cv n' ys v W ∧ NewK w wz W := by
  refine ⟨⟨ho, ⟨hg.os.trans hb.os, hg.tape.trans hb.tape, hg.output.trans hb.output, Nat.le_trans hb.size hg.size, fun k hk h1 _ => ?_⟩⟩, fun k h1 h2 => hg.block k h2 ?_⟩
  · refine (hg.block k (Nat.lt_of_lt_of_le hk hb.size) ?_).trans (hb.block k hk)
    intro e
    exact h1 (by simp [ownB, ← e])
  · intro e
    have := (h.lt k e.symm).2
    omega
/-- A planner with one choice more. -/
theorem PlW.pushed {W : World} {v : Value} {x y : Int} (h : PlW B w z p g lv cv L ver now f cs a m) (hG : Grew2 B w cv (cs.length + 1) (prV cs ++ [.int .i64 x, .int .i64 y]) v W) :
    PlW B (W.setCell ⟨z, 2, none⟩ v) z p g lv v L ver now f (cs ++ [(x, y)]) a m ∧ Below B w (W.setCell ⟨z, 2, none⟩ v) ∧ KeptI w (W.setCell ⟨z, 2, none⟩ v) ∧ W.heap[z]? = some (.cells #[.pointer (some ⟨p, 0, none⟩), lv, cv] 71 (0, 0)) := by
  obtain ⟨ho, hO⟩ := hG
  obtain ⟨cap, Z⟩ := h.x.facts
  obtain ⟨cur, hgh, _⟩ := own_heap Z.own
  have nz := ownB_ne h.ch h.obj (by decide)
  have np := ownB_ne h.ch Z.obj (by decide)
  have ng := ownB_ne h.ch hgh (by decide)
  have hobj : W.heap[z]? = some (.cells #[.pointer (some ⟨p, 0, none⟩), lv, cv] 71 (0, 0)) := (hO.block z (lt_of_at h.obj) nz nz).trans h.obj
  have hx : PW W p g L ver := h.x.off hO ⟨np, np⟩ ⟨ng, ng⟩
  obtain ⟨cap2, Z2⟩ := hx.facts
  obtain ⟨cur2, hgh2, _⟩ := own_heap Z2.own
  have hS : Off z z W (W.setCell ⟨z, 2, none⟩ v) := (Off.refl z z W).setCell (.inl rfl)
  have hbw : Below B w W := hO.below (ownB_ge h.ch h.size) (ownB_ge h.ch h.size) h.size
  refine ⟨⟨h.bz, by rw [heap_put hobj]; rfl, hx.off hS ⟨pf_apart_types Z2.obj hobj (by decide), pf_apart_types Z2.obj hobj (by decide)⟩ ⟨pf_apart_types hgh2 hobj (by decide), pf_apart_types hgh2 hobj (by decide)⟩, h.can, h.fr, h.now0, h.ll, h.v, h.bp, h.bg, ?_⟩, hbw.setCell h.bz _, ?_, hobj⟩
  · have e1 : prV (cs ++ [(x, y)]) = prV cs ++ [.int .i64 x, .int .i64 y] := by simp [prV, enc2]
    rw [e1, List.length_append, List.length_singleton]
    refine own_far ho (fun k hk => ?_) 2 v
    obtain ⟨cur3, hk3⟩ := own_at ho hk
    exact pf_apart_types hk3 hobj (by decide)
  · refine ⟨by simpa using hO.size, fun k cur3 hk => ?_⟩
    have n1 := ownB_ne h.ch hk (by decide)
    have hk2 := (hO.block k (lt_of_at hk) n1 n1).trans hk
    rw [Below.heap_setCell W ⟨z, 2, none⟩ v k (pf_apart_types hk2 hobj (by decide))]
    exact hk2

/-- What planning an item makes. -/
def PlanPost (B : Nat) (w : World) (z p : Nat) (lv : Value) (now : Int) (f : Int → Int) (cs : List (Int × Int)) (a : Nat) (m : Int) (x : It) (e : Ending) (w' : World) : Prop :=
  e = .returned (.tuple #[]) ∧ ∃ (g' : Nat) (cv' : Value) (L' : List (Int × Int)) (ver' : Int) (f' : Int → Int) (c : List (Int × Int)),
    PlW B w' z p g' lv cv' L' ver' now f' (cs ++ c) (a + 4) (m + 2) ∧ PlanR now x f f' c ∧ Below B w w' ∧ KeptI w w'

set_option maxRecDepth 1000000 in
set_option maxHeartbeats 8000000 in
theorem plan_fn (x : It) (hx : x.ok) (h : PlW B w z p g lv cv L ver now f cs a m) (ha : a ≤ 700) (hm : m ≤ 900000) (hcs : cs.length ≤ 1000) :
    Calls Try.prog 29 #[.pointer (some ⟨z, 0, none⟩), .agg #[.int .i64 x.id, .int .i64 x.wd, .int .i64 x.lim, .int .i64 x.pl]] w (PlanPost B w z p lv now f cs a m x) := by
  have hmf : ∀ (fn : Fn) (first cap : Array Value) (w : World), (Instr.makeFunc fn first cap).run Try.prog w = .ok (.func fn first cap) w := fun _ _ _ _ => rfl
  have hmix := pf_mixed
  obtain ⟨⟨o1, o2⟩, ⟨o3, o4⟩, o5, o6⟩ := hx
  have hsz := h.size
  obtain ⟨wA, hwA⟩ : ∃ wA, wA = w.alloc (.cells #[.int .i64 x.id, .int .i64 x.wd, .int .i64 x.lim, .int .i64 x.pl] 36) := ⟨_, rfl⟩
  have hbA : Below w.heap.size w wA := by rw [hwA]; exact (Below.refl _ _).alloc (Nat.le_refl _) _
  obtain ⟨ib, hib⟩ : ∃ ib, ib = w.heap.size := ⟨_, rfl⟩
  have hIA : Hid (ItAt wA ib x) := by rw [hwA, hib]; exact heap_alloc_new w _
  have hA := Lib.hid (h.kept hbA)
  have hbB := Lib.hid (hbA.mono hsz)
  have hkA := Lib.hid (KeptI.of_below hbA)
  have d3 : wA.cell? ⟨ib, 3, none⟩ = some (.int .i64 x.pl) := by have := hIA.out; unfold ItAt at this; simp [World.cell?, this]
  clear h hbA
  go_enter Try.func29, Try.ntmps29
  go_upto_region 3 with fail
  rw [← hwA, ← hib]
  clear hwA hib
  have hsp : Hid (∀ W, Below wA.heap.size wA W → ∀ t : Int, -1 ≤ t → t ≤ 1099511627776 → Calls Try.prog 38 #[.int .i64 t, .pointer (some ⟨ib, 0, none⟩)] W fun e w' => e = .returned (.agg #[.int .i64 t, .int .i64 (t + x.lim), .int .i64 x.wd]) ∧ Below W.heap.size W w') := fun W hW t h1 h2 => span_fn t ((hW.block _ (lt_of_at hIA.out)).trans hIA.out) (by omega)
  have hOA : Hid (wA.heap[z]? = some (.cells #[.pointer (some ⟨p, 0, none⟩), lv, cv] 71 (0, 0))) := hA.out.obj
  have hIA' : Hid (wA.heap[ib]? = some (.cells #[.int .i64 x.id, .int .i64 x.wd, .int .i64 x.lim, .int .i64 x.pl] 36 (0, 0))) := hIA.out
  clear d3
  obtain ⟨pb, hpb⟩ : ∃ pb : Bool, pb = (x.pl != -1) := ⟨_, rfl⟩
  rw [← hpb]
  replace hpb := Lib.hid hpb
  go_cut [24] from 12 (fun v wc => ∃ (r1 : Int) (g1 : Nat) (L1 : List (Int × Int)) (ver1 : Int) (f1 : Int → Int), v = .bool (r1 != 0) ∧ Hid (PlW B wc z p g1 lv cv L1 ver1 now f1 cs (a + 2) (m + 1)) ∧ Hid (FreedR now x f f1 r1) ∧ Hid (wc.heap[ib]? = some (.cells #[.int .i64 x.id, .int .i64 x.wd, .int .i64 x.lim, .int .i64 x.pl] 36 (0, 0))) ∧ Hid (Below B w wc) ∧ Hid (KeptI w wc))
  case first =>
    cases pb with
    | false =>
      have hp : Hid (x.pl = -1) := by have := hpb.out; simp at this; show x.pl = -1; omega
      clear hsp hOA hIA' hpb
      go_quiet (fail)
      have hbq : Below wA.heap.size wA (wA.drewN nq) := below_drewN (Below.refl _ _) nq
      have hfin : Hid (∃ (r1 : Int) (g1 : Nat) (L1 : List (Int × Int)) (ver1 : Int) (f1 : Int → Int), (.bool false : Value) = .bool (r1 != 0) ∧ Hid (PlW B (wA.drewN nq) z p g1 lv cv L1 ver1 now f1 cs (a + 2) (m + 1)) ∧ Hid (FreedR now x f f1 r1) ∧ Hid ((wA.drewN nq).heap[ib]? = some (.cells #[.int .i64 x.id, .int .i64 x.wd, .int .i64 x.lim, .int .i64 x.pl] 36 (0, 0))) ∧ Hid (Below B w (wA.drewN nq)) ∧ Hid (KeptI w (wA.drewN nq))) :=
        ⟨0, g, L, ver, f, rfl, (hA.out.kept hbq).more (by omega) (by omega), .inl ⟨hp.out, rfl, rfl⟩, hIA.out, below_drewN hbB.out nq, hkA.out.trans (.of_below hbq)⟩
      go_wp2_with fail
      go_meet
      case rel => exact hfin.out
    | true =>
      have hp2 : Hid (x.pl ≠ -1) := by have := hpb.out; simp at this; show x.pl ≠ -1; omega
      have hs1 := fun W hW => hsp.out W hW x.pl o5 o6
      replace hs1 := Lib.hid hs1
      clear hpb

      refine Reg.region_mk 10 87 [[], [true], [true, true], [true, true, true], [true, true, true, true], [true, true, true, true, true], [true, true, false, false, false, false], [true, true, false, false, false, false, false], [true, true, false, false, false, false, false, true], [true, true, false, false, false, false, true, true, true]] [0, 0, 0, 0, 0, 1, 0, 0, 1, 1]
        [.pure, .pure, .pure, .pure, .pure, .minor Unit () (fun _ => .pointer (some ⟨p, 0, none⟩)) (fun _ _ => True), .pure, .pure, .minor Unit () (fun _ => .int .i64 x.pl) (fun _ _ => True), .minor Unit () (fun _ => .agg #[.int .i64 x.pl, .int .i64 (x.pl + x.lim), .int .i64 x.wd]) (fun _ _ => True)]
        (fun W => Below wA.heap.size wA W) (fun _ _ => True) (fun a b => Below a.heap.size a b) (by kernel_rfl) (by kernel_rfl) rfl rfl (fun vs a b h hs => trivial) ?_ ?_ ?_ ?_ ?_ ?_
      · intro a b he hb; exact hb.trans (Below.mono he hb.size)
      · intro a b he hb; exact hb.trans (Below.mono he hb.size)
      · exact ⟨trivial, trivial, trivial, trivial, trivial, ⟨fun _ _ _ _ _ => trivial, fun _ _ _ _ _ => trivial⟩, trivial, trivial, ⟨fun _ _ _ _ _ => trivial, fun _ _ _ _ _ => trivial⟩, ⟨fun _ _ _ _ _ => trivial, fun _ _ _ _ _ => trivial⟩, trivial⟩
      · exact ⟨rfl, rfl, rfl, Nat.le_refl _, fun _ _ => rfl⟩
      · trivial
      dsimp only [Reg.mk, List.zip, List.zipWith, List.take]
      repeat (refine' Reg.pass_is _ (by rfl) (fun wz => ?_) ?_; rotate_left; (go_simp; first | rfl | rw [if_neg (by omega)]); simp only [Act.put, List.setIfInBounds_toArray, List.set_cons_zero, List.set_cons_succ]; (try simp only [List.nil_append]); (try simp only [List.cons_append]); (try simp only [id]))
      refine Reg.pass_minor (by rfl) (fun wz hI hF => ?_) (fun r5 => ?_)
      · unfold Reg.One
        have q0 : wz.cell? ⟨z, 0, none⟩ = some (.pointer (some ⟨p, 0, none⟩)) := by simp [World.cell?, (hI.block _ (lt_of_at hOA.out)).trans hOA.out]
        go_wp2_with fail
        first | exact ⟨_, rfl, rfl, Reg.Ext.refl _⟩ | exact ⟨_, rfl, ⟨(), rfl, trivial⟩, Reg.Ext.refl _⟩
      simp only [Act.put, List.setIfInBounds_toArray, List.set_cons_zero, List.set_cons_succ]; (try simp only [List.nil_append]); (try simp only [List.cons_append]); (try simp only [id])
      repeat (refine' Reg.pass_is _ (by rfl) (fun wz => ?_) ?_; rotate_left; (go_simp; first | rfl | rw [if_neg (by omega)]); simp only [Act.put, List.setIfInBounds_toArray, List.set_cons_zero, List.set_cons_succ]; (try simp only [List.nil_append]); (try simp only [List.cons_append]); (try simp only [id]))
      refine Reg.pass_minor (by rfl) (fun wz hI hF => ?_) (fun r8 => ?_)
      · unfold Reg.One
        have q0 : wz.cell? ⟨ib, 3, none⟩ = some (.int .i64 x.pl) := by simp [World.cell?, (hI.block _ (lt_of_at hIA'.out)).trans hIA'.out]
        go_wp2_with fail
        first | exact ⟨_, rfl, rfl, Reg.Ext.refl _⟩ | exact ⟨_, rfl, ⟨(), rfl, trivial⟩, Reg.Ext.refl _⟩
      simp only [Act.put, List.setIfInBounds_toArray, List.set_cons_zero, List.set_cons_succ]; (try simp only [List.nil_append]); (try simp only [List.cons_append]); (try simp only [id])
      refine Reg.pass_minor (by rfl) (fun wz hI hF => ?_) (fun r9 => ?_)
      · unfold Reg.One
        have hs2 := hs1.out wz hI
        go_wp2_with (go_at_call 38; go_must (refine hs2.mono ?_); rintro e w5 ⟨rfl, hb5⟩)
        first | exact ⟨_, rfl, ⟨(), rfl, trivial⟩, hb5⟩ | exact ⟨_, rfl, rfl, hb5⟩
      simp only [Act.put, List.setIfInBounds_toArray, List.set_cons_zero, List.set_cons_succ]; (try simp only [List.nil_append]); (try simp only [List.cons_append]); (try simp only [id])
      refine Reg.pass_end ?_
      intro w1 HI _ HFx
      clear HFx
      dsimp only [List.drop]
      have hP1 := hA.out.kept HI
      have hrel := Release_any x.pl (x.pl + x.lim) x.wd (by omega) hP1.can hP1.now0.1 hP1.fr (by have := hP1.v; omega) (by have := hP1.ll; omega) hP1.x
      have hb1 := hbB.out.trans (HI.mono (by have := hA.out.size; exact this))
      have hk1 := hkA.out.trans (.of_below HI)
      have hI1 := (HI.block _ (lt_of_at hIA.out)).trans hIA.out
      replace hb1 := Lib.hid hb1
      replace hk1 := Lib.hid hk1
      replace hI1 := Lib.hid hI1
      replace hP1 := Lib.hid hP1
      clear HI hs1 hsp hOA hIA'
      go_wp2_with fail
      go_at_call 39
      refine hrel.mono ?_
      clear hrel
      intro e w2 hp3
      obtain ⟨v2, rfl, hp3⟩ : ∃ v2, e = .returned v2 ∧ AddPost w1 p g L ver now f x.pl (x.pl + x.lim) x.wd (.returned v2) w2 := by
        obtain ⟨r, dv, f', g', L', h1, h2⟩ := hp3
        exact ⟨_, h1, r, dv, f', g', L', rfl, h2⟩
      obtain ⟨r1, dv, f1, g1, L1, rfl, hR, hP2, hb2, hk2⟩ := hP1.out.added hp3
      have hfin : Hid (∃ (r2 : Int) (g1 : Nat) (L1 : List (Int × Int)) (ver1 : Int) (f1 : Int → Int), (.bool (r1 != 0) : Value) = .bool (r2 != 0) ∧ Hid (PlW B w2 z p g1 lv cv L1 ver1 now f1 cs (a + 2) (m + 1)) ∧ Hid (FreedR now x f f1 r2) ∧ Hid (w2.heap[ib]? = some (.cells #[.int .i64 x.id, .int .i64 x.wd, .int .i64 x.lim, .int .i64 x.pl] 36 (0, 0))) ∧ Hid (Below B w w2) ∧ Hid (KeptI w w2)) :=
        ⟨r1, g1, L1, _, f1, rfl, hP2, .inr ⟨hp2.out, dv, hR⟩, hk2.at_ _ _ hI1.out, hb1.out.trans hb2, hk1.out.trans hk2⟩
      clear hp3 hR hP2 hb2 hk2
      go_wp2_with fail
      go_meet
      case rel => exact hfin.out
  case rest =>
    obtain ⟨r1, g1, L1, ver1, f1, rfl, hP1, hF1, hI1, hb1, hk1⟩ := hcut
    clear hA hbB hkA hIA hsp hOA hIA'
    by_cases h0 : r1 = 0
    · subst h0
      have hO1 : Hid (wc.heap[z]? = some (.cells #[.pointer (some ⟨p, 0, none⟩), lv, cv] 71 (0, 0))) := hP1.out.obj
      have hnw : Hid (∀ W, Below wc.heap.size wc W → Calls Try.prog 41 #[.pointer (some ⟨p, 0, none⟩)] W fun e w' => e = .returned (.int .i64 now) ∧ W = w') := fun W hW => by
        have := Now_any (hP1.out.x.kept hW) hP1.out.can.sm.pos
        rw [hP1.out.can.sm.hd] at this
        exact this
      have hea : Hid (∀ W, Below wc.heap.size wc W → Calls Try.prog 40 #[.pointer (some ⟨p, 0, none⟩), .int .i64 now, .int .i64 x.lim, .int .i64 x.wd] W fun e w' => ∃ t e' : Int, e = .returned (.tuple #[.int .i64 t, .int .i64 e']) ∧ EarlP f1 now x.lim x.wd t e' ∧ Below W.heap.size W w') := fun W hW => by
        have := Earliest_any now x.lim x.wd (by have := hP1.out.now0; omega) hP1.out.can.sm hP1.out.now0.1 (by have := hP1.out.ll; omega) (hP1.out.x.kept hW) (by omega)
        rw [show max now now = now by omega] at this
        exact this
      have d1 : ((0 : Int) != 0) = false := rfl
      go_upto_region 4 with fail
      clear d1

      refine Reg.region_mk 18 87 [[], [true], [true, true], [true, true, true], [false, false, false, false], [false, false, false, false, true], [false, false, false, false, true, true], [false, false, false, false, true, true, true], [false, false, false, false, true, true, true, true], [false, false, false, false, false, false, false, false, false], [false, false, false, false, false, false, false, false, false, true], [false, false, false, false, false, false, false, false, false, false, false], [false, false, false, false, false, false, false, false, false, false, false, true], [true, true, true, true, true, true, true, true, true, true, true, true, true], [true, true, true, true, true, true, true, true, true, true, true, true, true, true], [true, true, true, true, true, true, true, true, true, true, true, true, true, true, true], [true, true, true, true, true, true, true, true, true, true, true, true, true, true, true, false], [true, true, true, true, true, true, true, true, true, true, true, true, true, true, true, true, false]] [0, 0, 0, 1, 0, 0, 0, 1, 1, 0, 1, 0, 1, 1, 0, 0, 0, 0]
        [.pure, .pure, .pure, .minor Unit () (fun _ => .pointer (some ⟨p, 0, none⟩)) (fun _ _ => True), .pure, .pure, .pure, .minor Unit () (fun _ => .pointer (some ⟨p, 0, none⟩)) (fun _ _ => True), .minor Unit () (fun _ => .int .i64 now) (fun _ _ => True), .pure, .minor Unit () (fun _ => .int .i64 x.lim) (fun _ _ => True), .pure, .minor Unit () (fun _ => .int .i64 x.wd) (fun _ _ => True), .minor (Int × Int) (0, 0) (fun y => .tuple #[.int .i64 y.1, .int .i64 y.2]) (fun y W => EarlP f1 now x.lim x.wd y.1 y.2), .pure, .pure, .pure, .pure]
        (fun W => Below wc.heap.size wc W) (fun _ _ => True) (fun a b => Below a.heap.size a b) (by kernel_rfl) (by kernel_rfl) rfl rfl (fun vs a b h hs => trivial) ?_ ?_ ?_ ?_ ?_ ?_
      · intro a b he hb; exact hb.trans (Below.mono he hb.size)
      · intro a b he hb; exact hb.trans (Below.mono he hb.size)
      · exact ⟨trivial, trivial, trivial, ⟨fun _ _ _ _ _ => trivial, fun _ _ _ _ _ => trivial⟩, trivial, trivial, trivial, ⟨fun _ _ _ _ _ => trivial, fun _ _ _ _ _ => trivial⟩, ⟨fun _ _ _ _ _ => trivial, fun _ _ _ _ _ => trivial⟩, trivial, ⟨fun _ _ _ _ _ => trivial, fun _ _ _ _ _ => trivial⟩, trivial, ⟨fun _ _ _ _ _ => trivial, fun _ _ _ _ _ => trivial⟩, ⟨fun _ _ _ _ h => h, fun _ _ _ _ h => h⟩, trivial, trivial, trivial, trivial, trivial⟩
      · exact ⟨rfl, rfl, rfl, Nat.le_refl _, fun _ _ => rfl⟩
      · trivial
      dsimp only [Reg.mk, List.zip, List.zipWith, List.take]
      repeat (refine' Reg.pass_is _ (by rfl) (fun wz => ?_) ?_; rotate_left; (go_simp; first | rfl | rw [if_neg (by omega)]); simp only [Act.put, List.setIfInBounds_toArray, List.set_cons_zero, List.set_cons_succ]; (try simp only [List.nil_append]); (try simp only [List.cons_append]); (try simp only [id]))
      refine Reg.pass_minor (by rfl) (fun wz hI hF => ?_) (fun r3 => ?_)
      · unfold Reg.One
        have q0 : wz.cell? ⟨z, 0, none⟩ = some (.pointer (some ⟨p, 0, none⟩)) := by simp [World.cell?, (hI.block _ (lt_of_at hO1.out)).trans hO1.out]
        go_wp2_with fail
        first | exact ⟨_, rfl, rfl, Reg.Ext.refl _⟩ | exact ⟨_, rfl, ⟨(), rfl, trivial⟩, Reg.Ext.refl _⟩
      simp only [Act.put, List.setIfInBounds_toArray, List.set_cons_zero, List.set_cons_succ]; (try simp only [List.nil_append]); (try simp only [List.cons_append]); (try simp only [id])
      repeat (refine' Reg.pass_is _ (by rfl) (fun wz => ?_) ?_; rotate_left; (go_simp; first | rfl | rw [if_neg (by omega)]); simp only [Act.put, List.setIfInBounds_toArray, List.set_cons_zero, List.set_cons_succ]; (try simp only [List.nil_append]); (try simp only [List.cons_append]); (try simp only [id]))
      refine Reg.pass_minor (by rfl) (fun wz hI hF => ?_) (fun r7 => ?_)
      · unfold Reg.One
        have q0 : wz.cell? ⟨z, 0, none⟩ = some (.pointer (some ⟨p, 0, none⟩)) := by simp [World.cell?, (hI.block _ (lt_of_at hO1.out)).trans hO1.out]
        go_wp2_with fail
        first | exact ⟨_, rfl, rfl, Reg.Ext.refl _⟩ | exact ⟨_, rfl, ⟨(), rfl, trivial⟩, Reg.Ext.refl _⟩
      simp only [Act.put, List.setIfInBounds_toArray, List.set_cons_zero, List.set_cons_succ]; (try simp only [List.nil_append]); (try simp only [List.cons_append]); (try simp only [id])
      refine Reg.pass_minor (by rfl) (fun wz hI hF => ?_) (fun r8 => ?_)
      · unfold Reg.One
        have hs2 := hnw.out wz hI
        go_wp2_with (go_at_call 41; go_must (refine hs2.mono ?_); rintro e w5 ⟨rfl, rfl⟩)
        first | exact ⟨_, rfl, rfl, Reg.Ext.refl _⟩ | exact ⟨_, rfl, ⟨(), rfl, trivial⟩, Reg.Ext.refl _⟩
      simp only [Act.put, List.setIfInBounds_toArray, List.set_cons_zero, List.set_cons_succ]; (try simp only [List.nil_append]); (try simp only [List.cons_append]); (try simp only [id])
      repeat (refine' Reg.pass_is _ (by rfl) (fun wz => ?_) ?_; rotate_left; (go_simp; first | rfl | rw [if_neg (by omega)]); simp only [Act.put, List.setIfInBounds_toArray, List.set_cons_zero, List.set_cons_succ]; (try simp only [List.nil_append]); (try simp only [List.cons_append]); (try simp only [id]))
      refine Reg.pass_minor (by rfl) (fun wz hI hF => ?_) (fun r10 => ?_)
      · unfold Reg.One
        have q0 : wz.cell? ⟨ib, 2, none⟩ = some (.int .i64 x.lim) := by simp [World.cell?, (hI.block _ (lt_of_at hI1.out)).trans hI1.out]
        go_wp2_with fail
        first | exact ⟨_, rfl, rfl, Reg.Ext.refl _⟩ | exact ⟨_, rfl, ⟨(), rfl, trivial⟩, Reg.Ext.refl _⟩
      simp only [Act.put, List.setIfInBounds_toArray, List.set_cons_zero, List.set_cons_succ]; (try simp only [List.nil_append]); (try simp only [List.cons_append]); (try simp only [id])
      repeat (refine' Reg.pass_is _ (by rfl) (fun wz => ?_) ?_; rotate_left; (go_simp; first | rfl | rw [if_neg (by omega)]); simp only [Act.put, List.setIfInBounds_toArray, List.set_cons_zero, List.set_cons_succ]; (try simp only [List.nil_append]); (try simp only [List.cons_append]); (try simp only [id]))
      refine Reg.pass_minor (by rfl) (fun wz hI hF => ?_) (fun r12 => ?_)
      · unfold Reg.One
        have q0 : wz.cell? ⟨ib, 1, none⟩ = some (.int .i64 x.wd) := by simp [World.cell?, (hI.block _ (lt_of_at hI1.out)).trans hI1.out]
        go_wp2_with fail
        first | exact ⟨_, rfl, rfl, Reg.Ext.refl _⟩ | exact ⟨_, rfl, ⟨(), rfl, trivial⟩, Reg.Ext.refl _⟩
      simp only [Act.put, List.setIfInBounds_toArray, List.set_cons_zero, List.set_cons_succ]; (try simp only [List.nil_append]); (try simp only [List.cons_append]); (try simp only [id])
      refine Reg.pass_minor (by rfl) (fun wz hI hF => ?_) (fun r13 => ?_)
      · unfold Reg.One
        have hs2 := hea.out wz hI
        go_wp2_with (go_at_call 40; go_must (refine hs2.mono ?_); rintro e w5 ⟨t5, e5, rfl, hE5, hb5⟩)
        exact ⟨_, rfl, ⟨(t5, e5), rfl, hE5⟩, hb5⟩
      simp only [Act.put, List.setIfInBounds_toArray, List.set_cons_zero, List.set_cons_succ]; (try simp only [List.nil_append]); (try simp only [List.cons_append]); (try simp only [id])
      repeat (refine' Reg.pass_is _ (by rfl) (fun wz => ?_) ?_; rotate_left; (go_simp; first | rfl | rw [if_neg (by omega)]); simp only [Act.put, List.setIfInBounds_toArray, List.set_cons_zero, List.set_cons_succ]; (try simp only [List.nil_append]); (try simp only [List.cons_append]); (try simp only [id]))
      refine Reg.pass_end ?_
      intro w3 HI3 _ HF3
      have hE := HF3.2.2.2.2.2.2.2.2.2.2.2.2.2.1
      obtain ⟨t, e3⟩ := r13
      clear HF3
      dsimp only at hE
      dsimp only [List.drop]
      have hP3 := hP1.out.kept HI3
      have hI3 := (HI3.block _ (lt_of_at hI1.out)).trans hI1.out
      have hsz3 := hP1.out.size
      have hb3 := hb1.out.trans (HI3.mono hsz3)
      have hk3 := hk1.out.trans (.of_below HI3)
      clear hP1 hI1 hb1 hk1 hO1 hnw hea HI3 hsz3
      have hO3 : Hid (w3.heap[z]? = some (.cells #[.pointer (some ⟨p, 0, none⟩), lv, cv] 71 (0, 0))) := hP3.obj
      have hsp : Hid (∀ W, Below w3.heap.size w3 W → ∀ t : Int, -1 ≤ t → t ≤ 1099511627776 → Calls Try.prog 38 #[.int .i64 t, .pointer (some ⟨ib, 0, none⟩)] W fun e w' => e = .returned (.agg #[.int .i64 t, .int .i64 (t + x.lim), .int .i64 x.wd]) ∧ Below W.heap.size W w') := fun W hW t h1 h2 => span_fn t (show ItAt W ib x from (hW.block _ (lt_of_at hI3)).trans hI3) (by omega)
      have hE2 : (e3 = 0 ∧ now ≤ t ∧ t ≤ 1099511627776) ∨ e3 = 16 := by
        rcases hE with ⟨h1, h2, h3, _⟩ | ⟨h1, _⟩
        · exact .inl ⟨h1, h2, h3⟩
        · exact .inr h1
      replace hP3 := Lib.hid hP3
      replace hI3 := Lib.hid hI3
      replace hb3 := Lib.hid hb3
      replace hk3 := Lib.hid hk3
      replace hE := Lib.hid hE
      have q3 : w3.cell? ⟨ib, 3, none⟩ = some (.int .i64 x.pl) := by simp [World.cell?, hI3.out]
      go_upto_region 5 with fail
      go_cut [42] from 43 (fun v wd => ∃ b : Bool, v = .bool b ∧ Hid (b = true ↔ PickR x t e3) ∧ w3 = wd)
      case first =>
        cases pb with
        | false =>
          have hp : x.pl = -1 := by have := hpb.out; simp at this; omega
          rcases hE2 with ⟨rfl, h1, h2⟩ | rfl
          · have hfin : Hid (PickR x t 0) := ⟨rfl, .inl hp⟩
            clear hp
            go_wp2_with fail
            go_meet
            case rel => exact ⟨true, rfl, ⟨fun _ => hfin.out, fun _ => rfl⟩, rfl⟩
          · have hfin : Hid (false = true ↔ PickR x t 16) := ⟨fun h => (by cases h), fun h => absurd h.1 (by decide)⟩
            clear hp
            go_wp2_with fail
            go_meet
            case rel => exact ⟨_, rfl, hfin, rfl⟩
        | true =>
          have hp : x.pl ≠ -1 := by have := hpb.out; simp at this; omega
          rcases hE2 with ⟨rfl, h1, h2⟩ | rfl
          · by_cases hlt : t < x.pl
            · have hfin : Hid (PickR x t 0) := ⟨rfl, .inr hlt⟩
              clear hp
              go_wp2_with fail
              go_meet
              case rel => exact ⟨true, rfl, ⟨fun _ => hfin.out, fun _ => rfl⟩, rfl⟩
            · have hfin : Hid (false = true ↔ PickR x t 0) := ⟨fun h => (by cases h), fun h => h.2.elim (fun h => absurd h hp) (fun h => absurd h hlt)⟩
              clear hp
              go_wp2_with fail
              go_meet
              case rel => exact ⟨_, rfl, hfin, rfl⟩
          · have hfin : Hid (false = true ↔ PickR x t 16) := ⟨fun h => (by cases h), fun h => absurd h.1 (by decide)⟩
            clear hp
            go_wp2_with fail
            go_meet
            case rel => exact ⟨_, rfl, hfin, rfl⟩
      case rest =>
        obtain ⟨b, rfl, hbk, rfl⟩ := hcut
        clear q3
        cases b with
        | true =>
          have hpk := hbk.out.1 rfl
          have ht := hE2.resolve_right (by rw [hpk.1]; decide)
          obtain ⟨rfl, ht1, ht2⟩ := ht
          have hs1 := fun W hW => hsp.out W hW t (by have := hP3.out.now0; omega) ht2
          replace hs1 := Lib.hid hs1
          replace hpk := Lib.hid hpk
          clear hbk hE2 hsp
          go_wp2_with fail

          refine Reg.region_mk 7 87 [[], [true], [true, true], [true, true, true], [false, false, false, false], [false, false, false, false, false], [false, false, false, false, true, true]] [0, 0, 0, 1, 0, 0, 1]
            [.pure, .pure, .pure, .minor Unit () (fun _ => .pointer (some ⟨p, 0, none⟩)) (fun _ _ => True), .pure, .pure, .minor Unit () (fun _ => .agg #[.int .i64 t, .int .i64 (t + x.lim), .int .i64 x.wd]) (fun _ _ => True)]
            (fun W => Below w3.heap.size w3 W) (fun _ _ => True) (fun a b => Below a.heap.size a b) (by kernel_rfl) (by kernel_rfl) rfl rfl (fun vs a b h hs => trivial) ?_ ?_ ?_ ?_ ?_ ?_
          · intro a b he hb; exact hb.trans (Below.mono he hb.size)
          · intro a b he hb; exact hb.trans (Below.mono he hb.size)
          · exact ⟨trivial, trivial, trivial, ⟨fun _ _ _ _ _ => trivial, fun _ _ _ _ _ => trivial⟩, trivial, trivial, ⟨fun _ _ _ _ _ => trivial, fun _ _ _ _ _ => trivial⟩, trivial⟩
          · exact ⟨rfl, rfl, rfl, Nat.le_refl _, fun _ _ => rfl⟩
          · trivial
          dsimp only [Reg.mk, List.zip, List.zipWith, List.take]
          repeat (refine' Reg.pass_is _ (by rfl) (fun wz => ?_) ?_; rotate_left; (go_simp; first | rfl | rw [if_neg (by omega)]); simp only [Act.put, List.setIfInBounds_toArray, List.set_cons_zero, List.set_cons_succ]; (try simp only [List.nil_append]); (try simp only [List.cons_append]); (try simp only [id]))
          refine Reg.pass_minor (by rfl) (fun wz hI hF => ?_) (fun r3 => ?_)
          · unfold Reg.One
            have q0 : wz.cell? ⟨z, 0, none⟩ = some (.pointer (some ⟨p, 0, none⟩)) := by simp [World.cell?, (hI.block _ (lt_of_at hO3.out)).trans hO3.out]
            go_wp2_with fail
            first | exact ⟨_, rfl, rfl, Reg.Ext.refl _⟩ | exact ⟨_, rfl, ⟨(), rfl, trivial⟩, Reg.Ext.refl _⟩
          simp only [Act.put, List.setIfInBounds_toArray, List.set_cons_zero, List.set_cons_succ]; (try simp only [List.nil_append]); (try simp only [List.cons_append]); (try simp only [id])
          repeat (refine' Reg.pass_is _ (by rfl) (fun wz => ?_) ?_; rotate_left; (go_simp; first | rfl | rw [if_neg (by omega)]); simp only [Act.put, List.setIfInBounds_toArray, List.set_cons_zero, List.set_cons_succ]; (try simp only [List.nil_append]); (try simp only [List.cons_append]); (try simp only [id]))
          refine Reg.pass_minor (by rfl) (fun wz hI hF => ?_) (fun r6 => ?_)
          · unfold Reg.One
            have hs2 := hs1.out wz hI
            go_wp2_with (go_at_call 38; go_must (refine hs2.mono ?_); rintro e w5 ⟨rfl, hb5⟩)
            first | exact ⟨_, rfl, ⟨(), rfl, trivial⟩, hb5⟩ | exact ⟨_, rfl, rfl, hb5⟩
          simp only [Act.put, List.setIfInBounds_toArray, List.set_cons_zero, List.set_cons_succ]; (try simp only [List.nil_append]); (try simp only [List.cons_append]); (try simp only [id])
          refine Reg.pass_end ?_
          intro w4 HI _ HFx
          clear HFx
          dsimp only [List.drop]
          have hP4 := hP3.out.kept HI
          have hres := Reserve_any t (t + x.lim) x.wd (by omega) hP4.can hP4.now0.1 hP4.fr (by have := hP4.v; omega) (by have := hP4.ll; omega) hP4.x
          have hb4 := hb3.out.trans (HI.mono hP3.out.size)
          have hk4 := hk3.out.trans (.of_below HI)
          have hI4 := (HI.block _ (lt_of_at hI3.out)).trans hI3.out
          replace hb4 := Lib.hid hb4
          replace hk4 := Lib.hid hk4
          replace hI4 := Lib.hid hI4
          replace hP4 := Lib.hid hP4
          clear HI hs1 hO3 hP3 hI3 hb3 hk3
          go_wp2_with fail
          go_at_call 22
          refine hres.mono ?_
          clear hres
          intro e w5 hp3
          obtain ⟨v5, rfl, hp3⟩ : ∃ v5, e = .returned v5 ∧ AddPost w4 p g1 L1 ver1 now f1 t (t + x.lim) (-x.wd) (.returned v5) w5 := by
            obtain ⟨r, dv, f', g', L', h1, h2⟩ := hp3
            exact ⟨_, h1, r, dv, f', g', L', rfl, h2⟩
          obtain ⟨r5, dv5, f5, g5, L5, rfl, hR5, hP5, hb5, hk5⟩ := hP4.out.added hp3
          have hI5 := hk5.at_ _ _ hI4.out
          have hb5 := hb4.out.trans hb5
          have hk5 := hk4.out.trans hk5
          have hL5 : Hid (PlanR now x f f5 [(x.id, t)]) := ⟨f1, 0, hF1.out, .inr ⟨rfl, t, 0, hE.out, .inl ⟨hpk.out, rfl, r5, dv5, hR5⟩⟩⟩
          clear hp3 hR5 hP4 hb4 hk4 hI4 hF1 hE
          have hO5 : Hid (w5.heap[z]? = some (.cells #[.pointer (some ⟨p, 0, none⟩), lv, cv] 71 (0, 0))) := hP5.obj
          replace hI5 := Lib.hid hI5
          replace hP5 := Lib.hid hP5
          replace hb5 := Lib.hid hb5
          replace hk5 := Lib.hid hk5
          have hch : Hid (w5.ownsRow B 53 2 cv cs.length (prV cs)) := hP5.out.ch
          obtain ⟨i0, hi0, hz0, hz1, hz2⟩ := info_parts infoChoice
          go_upto_region 7 with fail

          refine Reg.region_mk 11 87 [[], [false], [false, true], [false, true, true], [false, true, true, true], [false, false, false, false, false], [false, false, false, false, false, true], [false, false, false, false, false, false, false], [false, false, false, false, false, true, true, true], [false, false, false, false, false, true, true, true, true], [false, true, true, true, true, true, true, true, true, true]] [0, 0, 0, 0, 2, 0, 2, 0, 0, 2, 3]
            [.pure, .pure, .pure, .pure, .pinned Unit () (fun _ => cv) (fun _ _ => True), .pure, .pinned Unit () (fun _ => .int .i64 x.id) (fun _ _ => True), .pure, .pure, .pinned Nat 0 (fun k => .slice (some ⟨k, 0, none⟩) 1 1) (fun k W => w5.heap.size ≤ k ∧ W.heap[k]? = some (.cells #[.int .i64 x.id, .int .i64 t] 53 (0, 0))), .major Value undef (fun v => v)]
            (fun _ => True) (fun vs W => match vs with | [] => Below w5.heap.size w5 W | v :: _ => Grew2 B w5 cv (cs.length + 1) (prV cs ++ [.int .i64 x.id, .int .i64 t]) v W) (fun a b => NewK w5 a b) (by kernel_rfl) (by kernel_rfl) rfl rfl (fun vs a b h hs => by cases vs with | nil => exact Below.trans hs (h.mono (Below.size hs)) | cons v vs => exact Grew2.ext a b h hs) ?_ ?_ ?_ ?_ ?_ ?_
          · intro a b he hb; trivial
          · intro a b he hb; trivial
          · exact ⟨trivial, trivial, trivial, trivial, ⟨fun _ _ _ _ _ => trivial, fun _ _ _ _ _ => trivial⟩, trivial, ⟨fun _ _ _ _ _ => trivial, fun _ _ _ _ _ => trivial⟩, trivial, trivial, ⟨fun k a b he hx => ⟨hx.1, (he.block _ (lt_of_at hx.2)).trans hx.2⟩, fun k a b hg hx => ⟨hx.1, (hg k hx.1 (lt_of_at hx.2)).trans hx.2⟩⟩, trivial, trivial⟩
          · trivial
          · exact ⟨rfl, rfl, rfl, Nat.le_refl _, fun _ _ => rfl⟩
          dsimp only [Reg.mk, List.zip, List.zipWith, List.take]
          repeat (refine' Reg.pass_is _ (by rfl) (fun wz => ?_) ?_; rotate_left; (go_simp; first | rfl | rw [if_neg (by omega)]); simp only [Act.put, List.setIfInBounds_toArray, List.set_cons_zero, List.set_cons_succ]; (try simp only [List.nil_append]); (try simp only [List.cons_append]); (try simp only [id]))
          refine Reg.pass_pinned (by rfl) (fun wz _ hI hF => ?_) (fun r4 => ?_)
          · unfold Reg.One
            have q0 : wz.cell? ⟨z, 2, none⟩ = some (cv) := by simp [World.cell?, (hI.block _ (lt_of_at hO5.out)).trans hO5.out]
            go_wp2_with fail
            first | exact ⟨_, rfl, rfl, Reg.Ext.refl _⟩ | exact ⟨_, rfl, ⟨(), rfl, trivial⟩, Reg.Ext.refl _⟩
          simp only [Act.put, List.setIfInBounds_toArray, List.set_cons_zero, List.set_cons_succ]; (try simp only [List.nil_append]); (try simp only [List.cons_append]); (try simp only [id])
          repeat (refine' Reg.pass_is _ (by rfl) (fun wz => ?_) ?_; rotate_left; (go_simp; first | rfl | rw [if_neg (by omega)]); simp only [Act.put, List.setIfInBounds_toArray, List.set_cons_zero, List.set_cons_succ]; (try simp only [List.nil_append]); (try simp only [List.cons_append]); (try simp only [id]))
          refine Reg.pass_pinned (by rfl) (fun wz _ hI hF => ?_) (fun r6 => ?_)
          · unfold Reg.One
            have q0 : wz.cell? ⟨ib, 0, none⟩ = some (.int .i64 x.id) := by simp [World.cell?, (hI.block _ (lt_of_at hI5.out)).trans hI5.out]
            go_wp2_with fail
            first | exact ⟨_, rfl, rfl, Reg.Ext.refl _⟩ | exact ⟨_, rfl, ⟨(), rfl, trivial⟩, Reg.Ext.refl _⟩
          simp only [Act.put, List.setIfInBounds_toArray, List.set_cons_zero, List.set_cons_succ]; (try simp only [List.nil_append]); (try simp only [List.cons_append]); (try simp only [id])
          repeat (refine' Reg.pass_is _ (by rfl) (fun wz => ?_) ?_; rotate_left; (go_simp; first | rfl | rw [if_neg (by omega)]); simp only [Act.put, List.setIfInBounds_toArray, List.set_cons_zero, List.set_cons_succ]; (try simp only [List.nil_append]); (try simp only [List.cons_append]); (try simp only [id]))
          refine Reg.pass_pinned (by rfl) (fun wz _ hI hF => ?_) (fun r9 => ?_)
          · unfold Reg.One
            have hge := hI.size
            go_wp2_with fail
            exact ⟨_, rfl, ⟨wz.heap.size, rfl, hge, heap_alloc_new wz _⟩, (Below.refl _ _).alloc (Nat.le_refl _) _⟩
          simp only [Act.put, List.setIfInBounds_toArray, List.set_cons_zero, List.set_cons_succ]; (try simp only [List.nil_append]); (try simp only [List.cons_append]); (try simp only [id])
          refine Reg.pass_major (by rfl) (fun wz _ hI hF => ?_) (fun r10 => ?_)
          · unfold Reg.One
            have hk9 := hF.2.2.2.2.2.2.2.2.1
            have hown := pf_own_kept hch.out hI
            have hsz9 := Nat.le_trans hP5.out.size hI.size
            go_wp2_with (at_builtin; go_must (refine wpList_append_own _ rfl (.tmp 67) (.tmp 72) 30 rfl B 53 i0 (.agg #[.int .i64 0, .int .i64 0]) 2 16 Try.underlying30 hi0 hz0 hz1 hz2 rfl (by decide) cv cs.length (prV cs) rfl hown ⟨r9, 0, none⟩ 1 1 [.int .i64 x.id, .int .i64 t] rfl rfl ?c0 ?c1 ?c2 ?c3 ?c4 ?c5))
            case c0 => exact fun j u hj => by simpa [Go.WideShapes.add_plain] using cells_at hk9.2 j u hj
            case c1 => simp [Value.oneCell']
            case c2 => unfold maxLen; omega
            case c3 => omega
            case c5 =>
              intro v9 w9 hown9 hgrow _
              have hpost := Grew2.of hch.out hI hown9 hgrow
              clear hown9 hgrow hown hk9
              go_wp2_with fail
              exact ⟨v9, rfl, hpost.1, hpost.2⟩
          simp only [Act.put, List.setIfInBounds_toArray, List.set_cons_zero, List.set_cons_succ]; (try simp only [List.nil_append]); (try simp only [List.cons_append]); (try simp only [id])
          refine Reg.pass_end ?_
          intro w6 _ HS6 HF6
          clear HF6
          dsimp only [List.drop]
          have HG6 : Grew2 B w5 cv (cs.length + 1) (prV cs ++ [.int .i64 x.id, .int .i64 t]) r10 w6 := HS6
          obtain ⟨ao6, cap6, rfl, _⟩ := own_shape HG6.1
          obtain ⟨hP7, hb7, hk7, hO6⟩ := hP5.out.pushed HG6
          have hfin : Hid (PlanPost B w z p lv now f cs a m x (.returned (.tuple #[])) (w6.setCell ⟨z, 2, none⟩ (.slice ao6 (cs.length + 1) cap6))) := ⟨rfl, g5, _, L5, _, f5, [(x.id, t)], hP7.more (by omega) (by omega), hL5.out, hb5.out.trans hb7, hk5.out.trans hk7⟩
          have q2 : w6.cell? ⟨z, 2, none⟩ = some cv := by simp [World.cell?, hO6]
          have q3 : w6.frozen? ⟨z, 2, none⟩ = false := by simp [World.frozen?, hO6]
          clear hP7 hb7 hk7 hO6 HS6 HG6 hP5 hb5 hk5 hO5 hI5 hL5 hch hpk
          go_wp2_with fail
          refine bodyPost_end (results_none rfl _ _ _) rfl ?_
          exact hfin.out

        | false =>
          have hpk : ¬ PickR x t e3 := fun h => by have := hbk.out.2 h; cases this
          replace hpk := Lib.hid hpk
          clear hbk hE2
          cases pb with
          | false =>
            have hp : x.pl = -1 := by have := hpb.out; simp at this; omega
            have hfin : Hid (PlanPost B w z p lv now f cs a m x (.returned (.tuple #[])) w3) := ⟨rfl, g1, cv, L1, ver1, f1, [], by rw [List.append_nil]; exact hP3.out.more (by omega) (by omega), ⟨f1, 0, hF1.out, .inr ⟨rfl, t, e3, hE.out, .inr ⟨hpk.out, rfl, .inl ⟨hp, rfl⟩⟩⟩⟩, hb3.out, hk3.out⟩
            clear hp hP3 hI3 hb3 hk3 hsp hO3 hE hF1 hpk
            go_wp2_with fail
            refine bodyPost_end (results_none rfl _ _ _) rfl ?_
            exact hfin.out
          | true =>
            have hp2 : Hid (x.pl ≠ -1) := by have := hpb.out; simp at this; show x.pl ≠ -1; omega
            have hs1 := fun W hW => hsp.out W hW x.pl o5 o6
            replace hs1 := Lib.hid hs1
            clear hsp
            go_wp2_with fail

            refine Reg.region_mk 8 87 [[], [true], [true, true], [true, true, true], [false, false, false, false], [false, false, false, false, false], [false, false, false, false, false, true], [false, false, false, false, true, true, true]] [0, 0, 0, 1, 0, 0, 1, 1]
              [.pure, .pure, .pure, .minor Unit () (fun _ => .pointer (some ⟨p, 0, none⟩)) (fun _ _ => True), .pure, .pure, .minor Unit () (fun _ => .int .i64 x.pl) (fun _ _ => True), .minor Unit () (fun _ => .agg #[.int .i64 x.pl, .int .i64 (x.pl + x.lim), .int .i64 x.wd]) (fun _ _ => True)]
              (fun W => Below w3.heap.size w3 W) (fun _ _ => True) (fun a b => Below a.heap.size a b) (by kernel_rfl) (by kernel_rfl) rfl rfl (fun vs a b h hs => trivial) ?_ ?_ ?_ ?_ ?_ ?_
            · intro a b he hb; exact hb.trans (Below.mono he hb.size)
            · intro a b he hb; exact hb.trans (Below.mono he hb.size)
            · exact ⟨trivial, trivial, trivial, ⟨fun _ _ _ _ _ => trivial, fun _ _ _ _ _ => trivial⟩, trivial, trivial, ⟨fun _ _ _ _ _ => trivial, fun _ _ _ _ _ => trivial⟩, ⟨fun _ _ _ _ _ => trivial, fun _ _ _ _ _ => trivial⟩, trivial⟩
            · exact ⟨rfl, rfl, rfl, Nat.le_refl _, fun _ _ => rfl⟩
            · trivial
            dsimp only [Reg.mk, List.zip, List.zipWith, List.take]
            repeat (refine' Reg.pass_is _ (by rfl) (fun wz => ?_) ?_; rotate_left; (go_simp; first | rfl | rw [if_neg (by omega)]); simp only [Act.put, List.setIfInBounds_toArray, List.set_cons_zero, List.set_cons_succ]; (try simp only [List.nil_append]); (try simp only [List.cons_append]); (try simp only [id]))
            refine Reg.pass_minor (by rfl) (fun wz hI hF => ?_) (fun r3 => ?_)
            · unfold Reg.One
              have q0 : wz.cell? ⟨z, 0, none⟩ = some (.pointer (some ⟨p, 0, none⟩)) := by simp [World.cell?, (hI.block _ (lt_of_at hO3.out)).trans hO3.out]
              go_wp2_with fail
              first | exact ⟨_, rfl, rfl, Reg.Ext.refl _⟩ | exact ⟨_, rfl, ⟨(), rfl, trivial⟩, Reg.Ext.refl _⟩
            simp only [Act.put, List.setIfInBounds_toArray, List.set_cons_zero, List.set_cons_succ]; (try simp only [List.nil_append]); (try simp only [List.cons_append]); (try simp only [id])
            repeat (refine' Reg.pass_is _ (by rfl) (fun wz => ?_) ?_; rotate_left; (go_simp; first | rfl | rw [if_neg (by omega)]); simp only [Act.put, List.setIfInBounds_toArray, List.set_cons_zero, List.set_cons_succ]; (try simp only [List.nil_append]); (try simp only [List.cons_append]); (try simp only [id]))
            refine Reg.pass_minor (by rfl) (fun wz hI hF => ?_) (fun r6 => ?_)
            · unfold Reg.One
              have q0 : wz.cell? ⟨ib, 3, none⟩ = some (.int .i64 x.pl) := by simp [World.cell?, (hI.block _ (lt_of_at hI3.out)).trans hI3.out]
              go_wp2_with fail
              first | exact ⟨_, rfl, rfl, Reg.Ext.refl _⟩ | exact ⟨_, rfl, ⟨(), rfl, trivial⟩, Reg.Ext.refl _⟩
            simp only [Act.put, List.setIfInBounds_toArray, List.set_cons_zero, List.set_cons_succ]; (try simp only [List.nil_append]); (try simp only [List.cons_append]); (try simp only [id])
            refine Reg.pass_minor (by rfl) (fun wz hI hF => ?_) (fun r7 => ?_)
            · unfold Reg.One
              have hs2 := hs1.out wz hI
              go_wp2_with (go_at_call 38; go_must (refine hs2.mono ?_); rintro e w5 ⟨rfl, hb5⟩)
              first | exact ⟨_, rfl, ⟨(), rfl, trivial⟩, hb5⟩ | exact ⟨_, rfl, rfl, hb5⟩
            simp only [Act.put, List.setIfInBounds_toArray, List.set_cons_zero, List.set_cons_succ]; (try simp only [List.nil_append]); (try simp only [List.cons_append]); (try simp only [id])
            refine Reg.pass_end ?_
            intro w4 HI _ HFx
            clear HFx
            dsimp only [List.drop]
            have hP4 := hP3.out.kept HI
            have hres := Reserve_any x.pl (x.pl + x.lim) x.wd (by omega) hP4.can hP4.now0.1 hP4.fr (by have := hP4.v; omega) (by have := hP4.ll; omega) hP4.x
            have hb4 := hb3.out.trans (HI.mono hP3.out.size)
            have hk4 := hk3.out.trans (.of_below HI)
            replace hb4 := Lib.hid hb4
            replace hk4 := Lib.hid hk4
            replace hP4 := Lib.hid hP4
            clear HI hs1 hO3 hP3 hI3 hb3 hk3
            go_wp2_with fail
            go_at_call 22
            refine hres.mono ?_
            clear hres
            intro e w5 hp3
            obtain ⟨v5, rfl, hp3⟩ : ∃ v5, e = .returned v5 ∧ AddPost w4 p g1 L1 ver1 now f1 x.pl (x.pl + x.lim) (-x.wd) (.returned v5) w5 := by
              obtain ⟨r, dv, f', g', L', h1, h2⟩ := hp3
              exact ⟨_, h1, r, dv, f', g', L', rfl, h2⟩
            obtain ⟨r5, dv5, f5, g5, L5, rfl, hR5, hP5, hb5, hk5⟩ := hP4.out.added hp3
            have hfin : Hid (PlanPost B w z p lv now f cs a m x (.returned (.tuple #[])) w5) := ⟨rfl, g5, cv, L5, _, f5, [], by rw [List.append_nil]; exact hP5.more (by omega) (by omega), ⟨f1, 0, hF1.out, .inr ⟨rfl, t, e3, hE.out, .inr ⟨hpk.out, rfl, .inr ⟨hp2.out, r5, dv5, hR5⟩⟩⟩⟩, hb4.out.trans hb5, hk4.out.trans hk5⟩
            clear hp3 hR5 hP4 hb4 hk4 hF1 hE hP5 hb5 hk5
            go_wp2_with fail
            refine bodyPost_end (results_none rfl _ _ _) rfl ?_
            exact hfin.out
    · have hbn : (r1 != 0) = true := by simp [h0]
      have hfin : Hid (PlanPost B w z p lv now f cs a m x (.returned (.tuple #[])) wc) := ⟨rfl, g1, cv, L1, ver1, f1, [], by rw [List.append_nil]; exact hP1.out.more (by omega) (by omega), ⟨f1, r1, hF1.out, .inl ⟨h0, rfl, rfl⟩⟩, hb1.out, hk1.out⟩
      clear hP1 hF1 hI1 hb1 hk1
      go_wp2_with fail
      refine bodyPost_ret (results_none rfl _ _ _) rfl ?_
      exact hfin.out

end

end Go.Proofs.Ytbnpeicmbbgboaa
