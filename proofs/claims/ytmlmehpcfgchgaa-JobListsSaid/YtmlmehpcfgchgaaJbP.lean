/-
  Own walk: the statement on what is done to jobs.
-/
import Derived.Test.YtmlmehpcfgchgaaJbN
import Derived.Test.YtmlmehpcfgchgaaJbI
import Derived.Test.YtmlmehpcfgchgaaReg
namespace Go.Proofs.Ytmlmehpcfgchgaa
open Go.RowKit Go.Sort Go.Lib Go.Shelf Put

instance : Inhabited Rq := ⟨⟨0, 0, 0, 0, 0, 0, false, 0, 0⟩⟩
instance : Inhabited Cl := ⟨⟨0, ⟨0, 0, 0, 0, 0, 0, false, 0, 0⟩, 0, 0, 0, 0⟩⟩
theorem lop (l : List Cl) (w W : World) {b off i k : Nat} (hlt : b < w.heap.size) (hc : ∀ i s j u, l[i]? = some s → (encC s)[j]? = some u → w.cell? ⟨b, off + (i * 14 + j), none⟩ = some u) (hb : Below w.heap.size w W) (hk : k = 14) (hi : i < l.length) : Sem.run Try.prog (loadCellsFrom ⟨b, off + i * k, none⟩ 0 k #[]) W = .ok (encC l[i]!).toArray W := by
  subst hk
  refine run_loadCellsFrom_list Try.prog W _ _ 14 (encC_len _) fun j u hj => ?_
  rw [Go.WideShapes.add_plain, Nat.add_assoc, hb.cell (p := ⟨b, _, none⟩) hlt]
  exact hc i _ j u (by rw [List.getElem?_eq_getElem hi, getElem!_pos l i hi]) hj
theorem encC_one (o : Cl) : ∀ v ∈ encC o, v.oneCell' = true := by
  intro v hv
  simp [encC] at hv
  rcases hv with rfl | rfl | rfl | rfl | rfl | rfl | rfl | rfl | rfl | rfl | rfl | rfl | rfl | rfl <;> rfl
/-- The request within a call. -/
theorem req_load {W : World} {p k : Nat} {x : Cl} (h : W.heap[p]? = some (.cells (encC x).toArray 38 (0, 0))) (hk : k = 9) : Sem.run Try.prog (loadCellsFrom ⟨p, 1, none⟩ 0 k #[]) W = .ok (encR x.r).toArray W := by
  subst hk
  refine run_loadCellsFrom_list Try.prog W _ _ 9 (encR_len _) fun j u hj => ?_
  rw [Go.WideShapes.add_plain]
  refine op_cells h (1 + j) u ?_
  have hj9 : j < 9 := (List.getElem?_eq_some_iff.1 hj).1
  rcases (by omega : j = 0 ∨ j = 1 ∨ j = 2 ∨ j = 3 ∨ j = 4 ∨ j = 5 ∨ j = 6 ∨ j = 7 ∨ j = 8) with rfl | rfl | rfl | rfl | rfl | rfl | rfl | rfl | rfl <;> exact hj

/-- While a call is made on both sides: the program's has been, or not yet. -/
def BothS (w3 : World) (p : Nat) (v : Value) (L2 : List Jb) (vs : List Value) (W : World) : Prop :=
  match vs with
  | [] => Below w3.heap.size w3 W
  | _ :: _ => TV W p v L2 ∧ QOff p v.ownBlock w3 W
theorem BothS_ext {w3 : World} {p : Nat} {v : Value} {L2 : List Jb} {vs : List Value} {a b : World} (hb : Below a.heap.size a b) (h : BothS w3 p v L2 vs a) : BothS w3 p v L2 vs b := by
  unfold BothS at *
  split at h
  · exact h.trans (hb.mono h.size)
  · exact ⟨h.1.kept hb, h.2.trans (QOff.of_below hb) (NewO.refl _ _)⟩

set_option maxRecDepth 1000000 in
set_option maxHeartbeats 8000000 in
theorem plays_walk (v0 : Value) (l : List Cl) (w : World) (hr : RowAt encC 14 w v0 l) : Calls Try.prog 4 #[v0] w fun e w' => e = .returned (.bool true) ∧ Below w.heap.size w w' := by
  have hmix := mixedO
  have zO := zE_op
  have zR := zE_req
  obtain ⟨k14, hk14⟩ : ∃ k, k = 14 := ⟨_, rfl⟩
  rw [← hk14] at zO
  replace hk14 := Lib.hid hk14
  obtain ⟨k9, hk9⟩ : ∃ k, k = 9 := ⟨_, rfl⟩
  rw [← hk9] at zR
  have hk90 : ¬ k9 = 0 := by rw [hk9]; decide
  replace hk9 := Lib.hid hk9
  obtain ⟨ao, cap, rfl, q1, q2, q3⟩ := hr
  obtain ⟨n, hn⟩ : ∃ n, l.length = n := ⟨_, rfl⟩
  have HQ : Hid (∀ i, i < n → ∃ b off, ao = some ⟨b, off, none⟩ ∧ ∀ W, Below w.heap.size w W → Sem.run Try.prog (loadCellsFrom ⟨b, off + i * k14, none⟩ 0 k14 #[]) W = .ok (encC l[i]!).toArray W) := fun i hi => by
    obtain ⟨b, off, e1, e2, e3⟩ := q3 (by omega)
    exact ⟨b, off, e1, fun W hW => lop l w W e2 e3 hW hk14.out (by omega)⟩
  have hcM : cap ≤ 9223372036854775807 := by unfold maxLen at q2; omega
  have hnM : n ≤ 9223372036854775807 := by omega
  rw [hn] at q1 ⊢
  replace hn := Lib.hid hn
  clear q2 q3
  have hnew := New_fn w
  have hT0 := TwoV.new w
  have hs1 : (w.alloc (.cells #[.bool true, .slice none 0 0] 61)).heap.size = w.heap.size + 1 := by simp
  obtain ⟨w1, hw1⟩ : ∃ w1, w1 = w.alloc (.cells #[.bool true, .slice none 0 0] 61) := ⟨_, rfl⟩
  rw [← hw1] at hnew hT0 hs1
  obtain ⟨w2, hw2⟩ : ∃ w2, w2 = w1.alloc (.cells #[.slice none 0 0] 35) := ⟨_, rfl⟩
  rw [← hw2] at hT0
  replace hw1 := Lib.hid hw1
  replace hT0 := Lib.hid hT0
  replace zO := Lib.hid zO
  replace zR := Lib.hid zR
  go_enter Try.func4, Try.ntmps4
  go_wp2_with fail
  go_at_call 11
  refine hnew.mono ?_
  clear hnew
  rintro e w1' ⟨rfl, rfl⟩
  go_wp2_with fail
  rw [← hw2]
  replace hw2 := Lib.hid hw2
  go_loopw [5] (fun ii wr => ∃ (i : Nat) (L : List Jb) (v u : Value), i ≤ n ∧ i ≤ 80 ∧ ii = .int .i64 i ∧ Good L ∧ L.length ≤ i ∧ TwoV w wr w.heap.size v (w.heap.size + 1) u L) (fun ii _ => n - (intOf ii).toNat)
  case atStart => exact ⟨0, [], _, _, Nat.zero_le _, Nat.zero_le _, rfl, Good.nil, Nat.le_refl _, hT0.out⟩
  case round =>
    obtain ⟨i, L, v, u, hin, hi80, rfl, hG, hLi, hT⟩ := hrel
    clear hT0
    by_cases hlt : i < n
    · have b2 : (i : Int) < (n : Int) := by omega
      by_cases h80 : i < 80
      · have b3 : (i : Int) < 80 := by omega
        have wi : IntKind.i64.wrap ((i : Int) + 1) = (i : Int) + 1 := by rw [IntKind.wrap_i64]; omega
        obtain ⟨b, off, rfl, hld⟩ := HQ.out i hlt
        have LI := hld wr hT.one.fr
        clear hld
        generalize l[i]! = o at *
        have lI := encC_len o
        rw [← hk14.out] at lI
        have st : Sem.run Try.prog (storeCells ⟨wr.heap.size, 0, none⟩ (encC o) 0) (wr.alloc (.cells #[.int .i64 0, .int .i64 0, .int .i64 0, .int .i64 0, .int .i64 0, .int .i64 0, .int .i64 0, .bool false, .int .i64 0, .int .i64 0, .int .i64 0, .int .i64 0, .int .i64 0, .int .u64 0] 38)) = .ok () (wr.alloc (.cells (encC o).toArray 38)) := store_new wr wr.heap.size (encC o) (encC default) 38 rfl (by rw [encC_len, encC_len]) (encC_one _)
        have hT3 := hT.kept ((Below.refl wr.heap.size wr).alloc (Nat.le_refl _) (.cells (encC o).toArray 38))
        have hC3 := heap_alloc_new wr (.cells (encC o).toArray 38)
        have hs3 : (wr.alloc (.cells (encC o).toArray 38)).heap.size = wr.heap.size + 1 := by simp
        have hop : wr.heap.size ≠ w.heap.size := fun e => by have := hT.one.tv.lt; omega
        have hoq : wr.heap.size ≠ w.heap.size + 1 := fun e => by have := hT.pv.lt; omega
        have hov : v.ownBlock ≠ some wr.heap.size := fun e => by have := (hT.one.tv.own.lt _ e).2; omega
        have hou : u.ownBlock ≠ some wr.heap.size := fun e => by have := (hT.pv.own.lt _ e).2; omega
        obtain ⟨w3, hw3⟩ : ∃ w3, w3 = wr.alloc (.cells (encC o).toArray 38) := ⟨_, rfl⟩
        rw [← hw3] at st hT3 hC3 hs3
        replace hw3 := Lib.hid hw3
        have p0 := op_cells hC3 0 _ rfl
        have lr := req_load hC3 hk9.out
        have lc := op_load hC3 lI
        have lRr : (encR o.r).length = k9 := by rw [hk9.out]; rfl
        clear hT
        have hs3' := hs3
        replace hs3 := Lib.hid hs3'
        have hslt : wr.heap.size < w3.heap.size := by omega
        clear hs3'
        obtain ⟨ob, hob⟩ : ∃ ob, ob = wr.heap.size := ⟨_, rfl⟩
        have zO := zO.out
        by_cases hk : 0 ≤ o.kind ∧ o.kind ≤ 2
        · have d1 : decide (0 ≤ o.kind) = true := decide_eq_true hk.1
          have d2 : decide (o.kind ≤ 2) = true := decide_eq_true hk.2
          have zR := zR.out
          have hS := Submit_fn hT3.one.tv hG.st (by omega) o.r
          have hGM := Good.sub hG o.r
          have hM : (subL L o.r).length ≤ i + 1 := Nat.le_trans (subL_len L o.r) (by omega)
          unfold SubPost at hS
          replace hGM := Lib.hid hGM
          replace hT3 := Lib.hid hT3
          replace hC3 := Lib.hid hC3
          clear hk lc hG
          go_wp2_with fail
          go_at_call 12
          refine hS.mono ?_
          clear hS lr p0 st LI
          rintro e w4 ⟨rfl, vM, ht, hq, hn1⟩
          have hP4 := hT3.out.left hq
          have hC4 := (hq.block _ hslt hop hov).trans hC3.out
          have lr4 := req_load hC4 hk9.out
          have hS2 := submit_fn hP4 (by omega) o.r
          unfold SubPost at hS2
          replace hP4 := Lib.hid hP4
          replace ht := Lib.hid ht
          replace hq := Lib.hid hq
          replace hn1 := Lib.hid hn1
          clear hC4
          generalize subId L o.r = z1 at hS2 ⊢
          generalize subE L o.r = z2 at hS2 ⊢
          go_wp2_with fail
          go_at_call 13
          refine hS2.mono ?_
          clear hS2 lr4
          rintro e w5 ⟨rfl, uM, hp, hq2, hn2⟩
          have hT := hT3.out.both ht.out hq.out hn1.out hp hq2 hn2
          clear hT3 ht hq hn1 hp hq2 hn2 hP4 hC3 zR
          generalize subL L o.r = M at *
          obtain ⟨au, cu, rfl, _⟩ := own_shape hT.pv.own
          obtain ⟨wA, hwA⟩ : ∃ wA, wA = w5 := ⟨_, rfl⟩
          rw [← hwA] at hT ⊢
          replace hT := Lib.hid hT
          replace hwA := Lib.hid hwA
          go_wp2_with fail
          refine Reg.region_mk 22 91 [[], [true], [false, false], [false, false, true], [false, false, true, true], [false, false, true, true, true], [true, true, true, true, true, true], [true, true, true, true, true, true, true], [true, true, true, true, true, true, true, true], [true, true, true, true, true, true, true, true, true], [true, true, true, true, true, true, true, true, true, true], [true, true, true, true, true, true, true, true, true, false, false], [true, true, true, true, true, true, true, true, true, false, false, true], [true, true, true, true, true, true, true, true, true, false, false, true, true], [true, true, true, true, true, true, true, true, true, false, false, true, true, true], [true, true, true, true, true, true, true, true, true, false, false, true, true, true, true], [true, true, true, true, true, true, true, true, true, true, true, true, true, true, true, true], [true, true, true, true, true, true, true, true, true, true, true, true, true, true, true, true, true], [true, true, true, true, true, true, true, true, true, true, true, true, true, true, true, true, true, true], [true, true, true, true, true, true, true, true, true, true, true, true, true, true, true, true, true, true, true], [true, true, true, true, true, true, true, true, true, true, true, true, true, true, true, true, true, true, true, true], [true, true, true, true, true, true, true, true, true, true, true, true, true, true, true, true, true, true, true, false, false]] [0, 1, 0, 0, 0, 1, 1, 0, 0, 0, 1, 0, 0, 0, 1, 0, 0, 0, 0, 0, 1, 0]
            [.pure, .minor Value undef id (fun x W => RowAt encJ 10 W x M), .pure, .pure, .pure, .minor Unit () (fun _ => .slice au M.length cu) (fun _ _ => True), .minor Unit () (fun _ => .bool true) (fun _ _ => True), .pure, .pure, .pure, .minor Unit () (fun _ => .int .i64 (M.length : Int)) (fun _ _ => True), .pure, .pure, .pure, .minor Unit () (fun _ => .slice au M.length cu) (fun _ _ => True), .pure, .pure, .pure, .pure, .pure, .minor Unit () (fun _ => .int .i64 (liveL M)) (fun _ _ => True), .pure]
            (fun W => Below wA.heap.size wA W) (fun _ _ => True) (fun a b => Below a.heap.size a b) (by kernel_rfl) (by kernel_rfl) rfl rfl (fun vs a b h hs => trivial) ?_ ?_ ?_ ?_ ?_ ?_
          · intro a b he hb; exact hb.trans (Below.mono he hb.size)
          · intro a b he hb; exact hb.trans (Below.mono he hb.size)
          · exact ⟨trivial, ⟨fun x a b he h => RowAt.below h he, fun x a b he h => RowAt.below h he⟩, trivial, trivial, trivial, ⟨fun _ _ _ _ _ => trivial, fun _ _ _ _ _ => trivial⟩, ⟨fun _ _ _ _ _ => trivial, fun _ _ _ _ _ => trivial⟩, trivial, trivial, trivial, ⟨fun _ _ _ _ _ => trivial, fun _ _ _ _ _ => trivial⟩, trivial, trivial, trivial, ⟨fun _ _ _ _ _ => trivial, fun _ _ _ _ _ => trivial⟩, trivial, trivial, trivial, trivial, trivial, ⟨fun _ _ _ _ _ => trivial, fun _ _ _ _ _ => trivial⟩, trivial, trivial⟩
          · exact ⟨rfl, rfl, rfl, Nat.le_refl _, fun _ _ => rfl⟩
          · trivial
          dsimp only [Reg.mk, List.zip, List.zipWith, List.take]
          repeat (refine' Reg.pass_is _ (by rfl) (fun wz => ?_) ?_; rotate_left; (go_simp; first | rfl | rw [if_neg (by omega)]); simp only [Act.put, List.setIfInBounds_toArray, List.set_cons_zero, List.set_cons_succ]; (try simp only [List.nil_append]); (try simp only [List.cons_append]); (try simp only [id]))
          refine Reg.pass_minor (by rfl) (fun wz hI hF => ?_) (fun r1 => ?_)
          · unfold Reg.One
            have hc := All_fn (hT.out.kept hI).one.tv (by omega)
            unfold ClonePost at hc
            go_wp2_with (go_at_call 17; go_must (refine hc.mono ?_); rintro e w' ⟨v8, rfl, ho, hb⟩)
            exact ⟨_, rfl, ⟨v8, rfl, RowAt.of_own ho encJ_len rfl rfl⟩, hb⟩
          simp only [Act.put, List.setIfInBounds_toArray, List.set_cons_zero, List.set_cons_succ]; (try simp only [List.nil_append]); (try simp only [List.cons_append]); (try simp only [id])
          repeat (refine' Reg.pass_is _ (by rfl) (fun wz => ?_) ?_; rotate_left; (go_simp; first | rfl | rw [if_neg (by omega)]); simp only [Act.put, List.setIfInBounds_toArray, List.set_cons_zero, List.set_cons_succ]; (try simp only [List.nil_append]); (try simp only [List.cons_append]); (try simp only [id]))
          refine Reg.pass_minor (by rfl) (fun wz hI hF => ?_) (fun r5 => ?_)
          · unfold Reg.One
            have d0 := (hT.out.kept hI).pv.c0
            go_wp2_with fail
            first | exact ⟨_, rfl, rfl, Reg.Ext.refl _⟩ | exact ⟨_, rfl, ⟨(), rfl, trivial⟩, Reg.Ext.refl _⟩
          simp only [Act.put, List.setIfInBounds_toArray, List.set_cons_zero, List.set_cons_succ]; (try simp only [List.nil_append]); (try simp only [List.cons_append]); (try simp only [id])
          refine Reg.pass_minor (by rfl) (fun wz hI hF => ?_) (fun r6 => ?_)
          · unfold Reg.One
            have hr1 : RowAt encJ 10 wz r1 M := hF.2.1
            have hs := same_fn hr1 (hT.out.kept hI).pv.rowAt
            rw [decide_eq_true (rfl : M = M)] at hs
            go_wp2_with (go_at_call 16; go_must (refine hs.mono ?_); rintro e w' ⟨rfl, m8, rfl⟩)
            first | exact ⟨_, rfl, ⟨(), rfl, trivial⟩, ⟨rfl, rfl, rfl, Nat.le_refl _, fun _ _ => rfl⟩⟩ | exact ⟨_, rfl, rfl, ⟨rfl, rfl, rfl, Nat.le_refl _, fun _ _ => rfl⟩⟩
          simp only [Act.put, List.setIfInBounds_toArray, List.set_cons_zero, List.set_cons_succ]; (try simp only [List.nil_append]); (try simp only [List.cons_append]); (try simp only [id])
          repeat (refine' Reg.pass_is _ (by rfl) (fun wz => ?_) ?_; rotate_left; (go_simp; first | rfl | rw [if_neg (by omega)]); simp only [Act.put, List.setIfInBounds_toArray, List.set_cons_zero, List.set_cons_succ]; (try simp only [List.nil_append]); (try simp only [List.cons_append]); (try simp only [id]))
          refine Reg.pass_minor (by rfl) (fun wz hI hF => ?_) (fun r10 => ?_)
          · unfold Reg.One
            have hc := TLen_fn (hT.out.kept hI).one.tv
            go_wp2_with (go_at_call 18; go_must (refine hc.mono ?_); rintro e w' ⟨rfl, rfl⟩)
            first | exact ⟨_, rfl, rfl, Reg.Ext.refl _⟩ | exact ⟨_, rfl, ⟨(), rfl, trivial⟩, Reg.Ext.refl _⟩
          simp only [Act.put, List.setIfInBounds_toArray, List.set_cons_zero, List.set_cons_succ]; (try simp only [List.nil_append]); (try simp only [List.cons_append]); (try simp only [id])
          repeat (refine' Reg.pass_is _ (by rfl) (fun wz => ?_) ?_; rotate_left; (go_simp; first | rfl | rw [if_neg (by omega)]); simp only [Act.put, List.setIfInBounds_toArray, List.set_cons_zero, List.set_cons_succ]; (try simp only [List.nil_append]); (try simp only [List.cons_append]); (try simp only [id]))
          refine Reg.pass_minor (by rfl) (fun wz hI hF => ?_) (fun r14 => ?_)
          · unfold Reg.One
            have d0 := (hT.out.kept hI).pv.c0
            go_wp2_with fail
            first | exact ⟨_, rfl, rfl, Reg.Ext.refl _⟩ | exact ⟨_, rfl, ⟨(), rfl, trivial⟩, Reg.Ext.refl _⟩
          simp only [Act.put, List.setIfInBounds_toArray, List.set_cons_zero, List.set_cons_succ]; (try simp only [List.nil_append]); (try simp only [List.cons_append]); (try simp only [id])
          repeat (refine' Reg.pass_is _ (by rfl) (fun wz => ?_) ?_; rotate_left; (go_simp; first | rfl | rw [if_neg (by omega)]); simp only [Act.put, List.setIfInBounds_toArray, List.set_cons_zero, List.set_cons_succ]; (try simp only [List.nil_append]); (try simp only [List.cons_append]); (try simp only [id]))
          refine Reg.pass_minor (by rfl) (fun wz hI hF => ?_) (fun r20 => ?_)
          · unfold Reg.One
            have hc := Live_fn (hT.out.kept hI).one.tv (by omega) hGM.out.st
            go_wp2_with (go_at_call 19; go_must (refine hc.mono ?_); rintro e w' ⟨rfl, hb⟩)
            first | exact ⟨_, rfl, ⟨(), rfl, trivial⟩, hb⟩ | exact ⟨_, rfl, rfl, hb⟩
          simp only [Act.put, List.setIfInBounds_toArray, List.set_cons_zero, List.set_cons_succ]; (try simp only [List.nil_append]); (try simp only [List.cons_append]); (try simp only [id])
          repeat (refine' Reg.pass_is _ (by rfl) (fun wz => ?_) ?_; rotate_left; (go_simp; first | rfl | rw [if_neg (by omega)]); simp only [Act.put, List.setIfInBounds_toArray, List.set_cons_zero, List.set_cons_succ]; (try simp only [List.nil_append]); (try simp only [List.cons_append]); (try simp only [id]))
          refine Reg.pass_end ?_
          intro w7 HI7 _ HF7
          clear HF7 r5 r6 r10 r14 r20
          have hT7 := hT.out.kept HI7
          have hlv := live_fn hT7.pv (by omega)
          replace hT7 := Lib.hid hT7
          clear hT HI7
          generalize hnl : liveL M = nl at hlv ⊢
          replace hnl := Lib.hid hnl
          dsimp only [List.drop]
          go_wp2_with (go_at_call 20; go_must (refine hlv.mono ?_); rintro e w8 ⟨rfl, hb8⟩)
          have hT8 := Lib.hid (hT7.out.kept hb8)
          clear hT7 hb8 hlv
          go_roundw
          case rel => exact ⟨i + 1, M, vM, .slice au M.length cu, by omega, by omega, by go_num, hGM.out, by omega, hT8.out⟩
          case measure => simp [intOf]; omega
        · have hM0 := stepL_len L (earlyF o) o.id (okF o) (chF o)
          have hGM := Good.step hG o
          obtain ⟨M, hMe⟩ : ∃ M, M = stepL L (earlyF o) o.id (okF o) (chF o) := ⟨_, rfl⟩
          rw [← hMe] at hM0 hGM
          have hM : M.length ≤ i + 1 := by omega
          clear hM0
          obtain ⟨z, hz⟩ : ∃ z, z = stepE L (earlyF o) o.id (okF o) := ⟨_, rfl⟩
          replace hGM := Lib.hid hGM
          replace hT3 := Lib.hid hT3
          replace hC3 := Lib.hid hC3
          replace hMe := Lib.hid hMe
          replace hz := Lib.hid hz
          replace hG := Lib.hid hG
          clear lr
          have HK : decide (0 ≤ o.kind) = false ∨ (decide (0 ≤ o.kind) = true ∧ decide (o.kind ≤ 2) = false) := by
            by_cases h : 0 ≤ o.kind
            · exact .inr ⟨decide_eq_true h, decide_eq_false (by omega)⟩
            · exact .inl (decide_eq_false h)
          clear hk
          rcases HK with d1 | ⟨d1, d2⟩
          all_goals
            go_wp2_with fail
            refine Reg.region_mk 5 91 [[], [false], [true, true], [false, false, false], [false, false, false, false]] [0, 1, 3, 0, 1]
              [.pure, .minor Unit () (fun _ => .agg (encC o).toArray) (fun _ _ => True), .major Unit () (fun _ => .int .i64 z), .pure, .minor Unit () (fun _ => .agg (encC o).toArray) (fun _ _ => True)]
              (fun W => W.heap[wr.heap.size]? = some (.cells (encC o).toArray 38 (0, 0))) (BothS w3 w.heap.size v M) (fun a b => a.heap[wr.heap.size]? = some (.cells (encC o).toArray 38 (0, 0)) → b.heap[wr.heap.size]? = some (.cells (encC o).toArray 38 (0, 0))) (by kernel_rfl) (by kernel_rfl) rfl rfl (fun vs a b h hs => BothS_ext h hs) ?_ ?_ ?_ ?_ ?_ ?_
            · intro a b he hb; exact (Below.block he _ (Put.lt_of_heap hb)).trans hb
            · intro a b he hb; exact he hb
            · exact ⟨trivial, ⟨fun _ _ _ _ _ => trivial, fun _ _ _ _ _ => trivial⟩, trivial, trivial, ⟨fun _ _ _ _ _ => trivial, fun _ _ _ _ _ => trivial⟩, trivial⟩
            · exact hC3.out
            · exact (⟨rfl, rfl, rfl, Nat.le_refl _, fun _ _ => rfl⟩ : Below w3.heap.size w3 w3.drew)
            dsimp only [Reg.mk, List.zip, List.zipWith, List.take]
            repeat (refine' Reg.pass_is _ (by rfl) (fun wz => ?_) ?_; rotate_left; (go_simp; first | rfl | rw [if_neg (by omega)]); simp only [Act.put, List.setIfInBounds_toArray, List.set_cons_zero, List.set_cons_succ]; (try simp only [List.nil_append]); (try simp only [List.cons_append]); (try simp only [id]))
            refine Reg.pass_minor (by rfl) (fun wz hI hF => ?_) (fun r1 => ?_)
            · unfold Reg.One
              have d0 := op_load (p := wr.heap.size) hI lI
              go_wp2_with fail
              first | exact ⟨_, rfl, rfl, Reg.Ext.refl _⟩ | exact ⟨_, rfl, ⟨(), rfl, trivial⟩, Reg.Ext.refl _⟩
            simp only [Act.put, List.setIfInBounds_toArray, List.set_cons_zero, List.set_cons_succ]; (try simp only [List.nil_append]); (try simp only [List.cons_append]); (try simp only [id])
            refine Reg.pass_major (by rfl) (fun wz hI hS hF => ?_) (fun r2 => ?_)
            · unfold Reg.One
              have hh := hT3.out.kept (show Below w3.heap.size w3 wz from hS)
              have hc := call_fn hh.one.tv hG.out o
              unfold CallPost at hc
              rw [← hz.out, ← hMe.out] at hc
              go_wp2_with (go_at_call 14; go_must (refine hc.mono ?_); rintro e w' ⟨rfl, ht, hq⟩)
              refine ⟨_, rfl, ⟨?_, ht, (QOff.of_below (show Below w3.heap.size w3 wz from hS)).trans hq (NewO.refl _ _)⟩, fun hi => (hq.block _ (Put.lt_of_heap hi) hop hov).trans hi⟩
              first | exact ⟨(), rfl⟩ | rfl | trivial
            simp only [Act.put, List.setIfInBounds_toArray, List.set_cons_zero, List.set_cons_succ]; (try simp only [List.nil_append]); (try simp only [List.cons_append]); (try simp only [id])
            repeat (refine' Reg.pass_is _ (by rfl) (fun wz => ?_) ?_; rotate_left; (go_simp; first | rfl | rw [if_neg (by omega)]); simp only [Act.put, List.setIfInBounds_toArray, List.set_cons_zero, List.set_cons_succ]; (try simp only [List.nil_append]); (try simp only [List.cons_append]); (try simp only [id]))
            refine Reg.pass_minor (by rfl) (fun wz hI hF => ?_) (fun r4 => ?_)
            · unfold Reg.One
              have d0 := op_load (p := wr.heap.size) hI lI
              go_wp2_with fail
              first | exact ⟨_, rfl, rfl, Reg.Ext.refl _⟩ | exact ⟨_, rfl, ⟨(), rfl, trivial⟩, Reg.Ext.refl _⟩
            simp only [Act.put, List.setIfInBounds_toArray, List.set_cons_zero, List.set_cons_succ]; (try simp only [List.nil_append]); (try simp only [List.cons_append]); (try simp only [id])
            refine Reg.pass_end ?_
            intro w5 HI5 HS5 HF5
            clear HF5 r1 r2 r4 p0 st LI lc
            obtain ⟨ht, hq⟩ : TV w5 w.heap.size v M ∧ QOff w.heap.size v.ownBlock w3 w5 := HS5
            have hP5 := hT3.out.left hq
            have hc := turn_fn hP5 hG.out o
            unfold TurnPost at hc
            rw [← hz.out, ← hMe.out] at hc
            replace hP5 := Lib.hid hP5
            replace ht := Lib.hid ht
            replace hq := Lib.hid hq
            dsimp only [List.drop]
            go_wp2_with fail
            go_at_call 15
            refine hc.mono ?_
            clear hc
            rintro e w6 ⟨rfl, hp, hq2⟩
            have hT := hT3.out.both ht.out hq.out (NewO.refl _ _) hp hq2 (NewO.refl _ _)
            clear hT3 ht hq hp hq2 hP5 hC3 HI5 hG
            obtain ⟨vM, hvM⟩ : ∃ vM, vM = v := ⟨_, rfl⟩
            rw [← hvM] at hT
            replace hvM := Lib.hid hvM
            obtain ⟨au, cu, hu, _⟩ := own_shape hT.pv.own
            rw [hu] at hT
            replace hu := Lib.hid hu
            obtain ⟨wA, hwA⟩ : ∃ wA, wA = w6 := ⟨_, rfl⟩
            rw [← hwA] at hT ⊢
            replace hT := Lib.hid hT
            replace hwA := Lib.hid hwA
            go_wp2_with fail
            refine Reg.region_mk 22 91 [[], [true], [false, false], [false, false, true], [false, false, true, true], [false, false, true, true, true], [true, true, true, true, true, true], [true, true, true, true, true, true, true], [true, true, true, true, true, true, true, true], [true, true, true, true, true, true, true, true, true], [true, true, true, true, true, true, true, true, true, true], [true, true, true, true, true, true, true, true, true, false, false], [true, true, true, true, true, true, true, true, true, false, false, true], [true, true, true, true, true, true, true, true, true, false, false, true, true], [true, true, true, true, true, true, true, true, true, false, false, true, true, true], [true, true, true, true, true, true, true, true, true, false, false, true, true, true, true], [true, true, true, true, true, true, true, true, true, true, true, true, true, true, true, true], [true, true, true, true, true, true, true, true, true, true, true, true, true, true, true, true, true], [true, true, true, true, true, true, true, true, true, true, true, true, true, true, true, true, true, true], [true, true, true, true, true, true, true, true, true, true, true, true, true, true, true, true, true, true, true], [true, true, true, true, true, true, true, true, true, true, true, true, true, true, true, true, true, true, true, true], [true, true, true, true, true, true, true, true, true, true, true, true, true, true, true, true, true, true, true, false, false]] [0, 1, 0, 0, 0, 1, 1, 0, 0, 0, 1, 0, 0, 0, 1, 0, 0, 0, 0, 0, 1, 0]
              [.pure, .minor Value undef id (fun x W => RowAt encJ 10 W x M), .pure, .pure, .pure, .minor Unit () (fun _ => .slice au M.length cu) (fun _ _ => True), .minor Unit () (fun _ => .bool true) (fun _ _ => True), .pure, .pure, .pure, .minor Unit () (fun _ => .int .i64 (M.length : Int)) (fun _ _ => True), .pure, .pure, .pure, .minor Unit () (fun _ => .slice au M.length cu) (fun _ _ => True), .pure, .pure, .pure, .pure, .pure, .minor Unit () (fun _ => .int .i64 (liveL M)) (fun _ _ => True), .pure]
              (fun W => Below wA.heap.size wA W) (fun _ _ => True) (fun a b => Below a.heap.size a b) (by kernel_rfl) (by kernel_rfl) rfl rfl (fun vs a b h hs => trivial) ?_ ?_ ?_ ?_ ?_ ?_
            · intro a b he hb; exact hb.trans (Below.mono he hb.size)
            · intro a b he hb; exact hb.trans (Below.mono he hb.size)
            · exact ⟨trivial, ⟨fun x a b he h => RowAt.below h he, fun x a b he h => RowAt.below h he⟩, trivial, trivial, trivial, ⟨fun _ _ _ _ _ => trivial, fun _ _ _ _ _ => trivial⟩, ⟨fun _ _ _ _ _ => trivial, fun _ _ _ _ _ => trivial⟩, trivial, trivial, trivial, ⟨fun _ _ _ _ _ => trivial, fun _ _ _ _ _ => trivial⟩, trivial, trivial, trivial, ⟨fun _ _ _ _ _ => trivial, fun _ _ _ _ _ => trivial⟩, trivial, trivial, trivial, trivial, trivial, ⟨fun _ _ _ _ _ => trivial, fun _ _ _ _ _ => trivial⟩, trivial, trivial⟩
            · exact ⟨rfl, rfl, rfl, Nat.le_refl _, fun _ _ => rfl⟩
            · trivial
            dsimp only [Reg.mk, List.zip, List.zipWith, List.take]
            repeat (refine' Reg.pass_is _ (by rfl) (fun wz => ?_) ?_; rotate_left; (go_simp; first | rfl | rw [if_neg (by omega)]); simp only [Act.put, List.setIfInBounds_toArray, List.set_cons_zero, List.set_cons_succ]; (try simp only [List.nil_append]); (try simp only [List.cons_append]); (try simp only [id]))
            refine Reg.pass_minor (by rfl) (fun wz hI hF => ?_) (fun r1 => ?_)
            · unfold Reg.One
              have hc := All_fn (hT.out.kept hI).one.tv (by omega)
              unfold ClonePost at hc
              go_wp2_with (go_at_call 17; go_must (refine hc.mono ?_); rintro e w' ⟨v8, rfl, ho, hb⟩)
              exact ⟨_, rfl, ⟨v8, rfl, RowAt.of_own ho encJ_len rfl rfl⟩, hb⟩
            simp only [Act.put, List.setIfInBounds_toArray, List.set_cons_zero, List.set_cons_succ]; (try simp only [List.nil_append]); (try simp only [List.cons_append]); (try simp only [id])
            repeat (refine' Reg.pass_is _ (by rfl) (fun wz => ?_) ?_; rotate_left; (go_simp; first | rfl | rw [if_neg (by omega)]); simp only [Act.put, List.setIfInBounds_toArray, List.set_cons_zero, List.set_cons_succ]; (try simp only [List.nil_append]); (try simp only [List.cons_append]); (try simp only [id]))
            refine Reg.pass_minor (by rfl) (fun wz hI hF => ?_) (fun r5 => ?_)
            · unfold Reg.One
              have d0 := (hT.out.kept hI).pv.c0
              go_wp2_with fail
              first | exact ⟨_, rfl, rfl, Reg.Ext.refl _⟩ | exact ⟨_, rfl, ⟨(), rfl, trivial⟩, Reg.Ext.refl _⟩
            simp only [Act.put, List.setIfInBounds_toArray, List.set_cons_zero, List.set_cons_succ]; (try simp only [List.nil_append]); (try simp only [List.cons_append]); (try simp only [id])
            refine Reg.pass_minor (by rfl) (fun wz hI hF => ?_) (fun r6 => ?_)
            · unfold Reg.One
              have hr1 : RowAt encJ 10 wz r1 M := hF.2.1
              have hs := same_fn hr1 (hT.out.kept hI).pv.rowAt
              rw [decide_eq_true (rfl : M = M)] at hs
              go_wp2_with (go_at_call 16; go_must (refine hs.mono ?_); rintro e w' ⟨rfl, m8, rfl⟩)
              first | exact ⟨_, rfl, ⟨(), rfl, trivial⟩, ⟨rfl, rfl, rfl, Nat.le_refl _, fun _ _ => rfl⟩⟩ | exact ⟨_, rfl, rfl, ⟨rfl, rfl, rfl, Nat.le_refl _, fun _ _ => rfl⟩⟩
            simp only [Act.put, List.setIfInBounds_toArray, List.set_cons_zero, List.set_cons_succ]; (try simp only [List.nil_append]); (try simp only [List.cons_append]); (try simp only [id])
            repeat (refine' Reg.pass_is _ (by rfl) (fun wz => ?_) ?_; rotate_left; (go_simp; first | rfl | rw [if_neg (by omega)]); simp only [Act.put, List.setIfInBounds_toArray, List.set_cons_zero, List.set_cons_succ]; (try simp only [List.nil_append]); (try simp only [List.cons_append]); (try simp only [id]))
            refine Reg.pass_minor (by rfl) (fun wz hI hF => ?_) (fun r10 => ?_)
            · unfold Reg.One
              have hc := TLen_fn (hT.out.kept hI).one.tv
              go_wp2_with (go_at_call 18; go_must (refine hc.mono ?_); rintro e w' ⟨rfl, rfl⟩)
              first | exact ⟨_, rfl, rfl, Reg.Ext.refl _⟩ | exact ⟨_, rfl, ⟨(), rfl, trivial⟩, Reg.Ext.refl _⟩
            simp only [Act.put, List.setIfInBounds_toArray, List.set_cons_zero, List.set_cons_succ]; (try simp only [List.nil_append]); (try simp only [List.cons_append]); (try simp only [id])
            repeat (refine' Reg.pass_is _ (by rfl) (fun wz => ?_) ?_; rotate_left; (go_simp; first | rfl | rw [if_neg (by omega)]); simp only [Act.put, List.setIfInBounds_toArray, List.set_cons_zero, List.set_cons_succ]; (try simp only [List.nil_append]); (try simp only [List.cons_append]); (try simp only [id]))
            refine Reg.pass_minor (by rfl) (fun wz hI hF => ?_) (fun r14 => ?_)
            · unfold Reg.One
              have d0 := (hT.out.kept hI).pv.c0
              go_wp2_with fail
              first | exact ⟨_, rfl, rfl, Reg.Ext.refl _⟩ | exact ⟨_, rfl, ⟨(), rfl, trivial⟩, Reg.Ext.refl _⟩
            simp only [Act.put, List.setIfInBounds_toArray, List.set_cons_zero, List.set_cons_succ]; (try simp only [List.nil_append]); (try simp only [List.cons_append]); (try simp only [id])
            repeat (refine' Reg.pass_is _ (by rfl) (fun wz => ?_) ?_; rotate_left; (go_simp; first | rfl | rw [if_neg (by omega)]); simp only [Act.put, List.setIfInBounds_toArray, List.set_cons_zero, List.set_cons_succ]; (try simp only [List.nil_append]); (try simp only [List.cons_append]); (try simp only [id]))
            refine Reg.pass_minor (by rfl) (fun wz hI hF => ?_) (fun r20 => ?_)
            · unfold Reg.One
              have hc := Live_fn (hT.out.kept hI).one.tv (by omega) hGM.out.st
              go_wp2_with (go_at_call 19; go_must (refine hc.mono ?_); rintro e w' ⟨rfl, hb⟩)
              first | exact ⟨_, rfl, ⟨(), rfl, trivial⟩, hb⟩ | exact ⟨_, rfl, rfl, hb⟩
            simp only [Act.put, List.setIfInBounds_toArray, List.set_cons_zero, List.set_cons_succ]; (try simp only [List.nil_append]); (try simp only [List.cons_append]); (try simp only [id])
            repeat (refine' Reg.pass_is _ (by rfl) (fun wz => ?_) ?_; rotate_left; (go_simp; first | rfl | rw [if_neg (by omega)]); simp only [Act.put, List.setIfInBounds_toArray, List.set_cons_zero, List.set_cons_succ]; (try simp only [List.nil_append]); (try simp only [List.cons_append]); (try simp only [id]))
            refine Reg.pass_end ?_
            intro w7 HI7 _ HF7
            clear HF7 r5 r6 r10 r14 r20
            have hT7 := hT.out.kept HI7
            have hlv := live_fn hT7.pv (by omega)
            replace hT7 := Lib.hid hT7
            clear hT HI7
            generalize hnl : liveL M = nl at hlv ⊢
            replace hnl := Lib.hid hnl
            dsimp only [List.drop]
            go_wp2_with (go_at_call 20; go_must (refine hlv.mono ?_); rintro e w8 ⟨rfl, hb8⟩)
            have hT8 := Lib.hid (hT7.out.kept hb8)
            clear hT7 hb8 hlv
            go_roundw
            case rel => exact ⟨i + 1, M, vM, .slice au M.length cu, by omega, by omega, by go_num, hGM.out, by omega, hT8.out⟩
            case measure => simp [intOf]; omega
      · obtain rfl : i = 80 := by omega
        have b3 : ¬ (80 : Int) < 80 := by omega
        have haw := awake_any wr
        have hfr := hT.one.fr
        clear hT
        go_wp2_with (go_at_call 10; go_must (refine haw.mono ?_); rintro e w' ⟨rfl, hb⟩)
        go_ret
        exact ⟨rfl, hfr.trans (hb.mono hfr.size)⟩
    · obtain rfl : i = n := by omega
      have b2 : ¬ (i : Int) < (i : Int) := by omega
      have haw := awake_any wr
      have hfr := hT.one.fr
      clear hT
      go_wp2_with (go_at_call 10; go_must (refine haw.mono ?_); rintro e w' ⟨rfl, hb⟩)
      go_ret
      exact ⟨rfl, hfr.trans (hb.mono hfr.size)⟩

end Go.Proofs.Ytmlmehpcfgchgaa
