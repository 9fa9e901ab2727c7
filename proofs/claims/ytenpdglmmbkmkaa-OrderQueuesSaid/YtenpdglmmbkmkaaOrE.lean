/-
  Own walk: the statement on Sort and Behind, over what is asked of them.
-/
import Derived.Test.YtenpdglmmbkmkaaOrD
import Derived.Test.YtenpdglmmbkmkaaReg
import Derived.Shelf.SlSortCmp.QuietGrown
import Derived.Deep.QuietTactic
import Derived.BigQuiet
namespace Go.Proofs.Ytenpdglmmbkmkaa
open Go.RowKit Go.Lib Go.Sort

theorem filt_yes {α : Type} [Inhabited α] {p : α → Bool} {l : List α} {i : Nat} (hi : i < l.length) (h : p l[i]! = true) : (l.take (i + 1)).filter p = (l.take i).filter p ++ [l[i]!] := by
  have e : l[i]! = l[i] := getElem!_pos l i hi
  rw [e] at h ⊢
  rw [List.take_add_one, List.getElem?_eq_getElem hi, List.filter_append]
  simp [h]
theorem filt_no {α : Type} [Inhabited α] {p : α → Bool} {l : List α} {i : Nat} (hi : i < l.length) (h : p l[i]! = false) : (l.take (i + 1)).filter p = (l.take i).filter p := by
  have e : l[i]! = l[i] := getElem!_pos l i hi
  rw [e] at h
  rw [List.take_add_one, List.getElem?_eq_getElem hi, List.filter_append]
  simp [h]
theorem filt_at {α : Type} [Inhabited α] {p : α → Bool} {l : List α} {i : Nat} (hi : i < l.length) (h : p l[i]! = true) : ((l.take i).filter p).length < (l.filter p).length ∧ (l.filter p)[((l.take i).filter p).length]! = l[i]! := by
  have e : l[i]! = l[i] := getElem!_pos l i hi
  have e2 : l.filter p = (l.take i).filter p ++ l[i]! :: (l.drop (i + 1)).filter p := by
    conv => lhs; rw [show l = l.take i ++ (l[i] :: l.drop (i + 1)) by rw [List.getElem_cons_drop, List.take_append_drop]]
    rw [List.filter_append, List.filter_cons, ← e, if_pos h]
  rw [e2]
  refine ⟨by simp, ?_⟩
  simp [List.getElem!_eq_getElem?_getD]

theorem mixedO : Try.prog.follows .mixedOrders = true := by kernel_rfl

/-- What a list of jobs is read as, in any world that has only grown. -/
theorem JRow.loads {w : World} {b off k : Nat} {l : List Jb} (h : JRow w b off l) (hk : k = 10) {i : Nat} (hi : i < l.length) :
    ∀ n' os', Sem.run Try.prog (loadCellsFrom ⟨b, off + i * k, none⟩ 0 k #[]) (grow (w.drewN n') os') = .ok (encJ l[i]!).toArray (grow (w.drewN n') os') :=
  fun n' os' => (h.below (Gr.below ⟨n', os', rfl⟩)).load hk hi

set_option maxRecDepth 100000 in
set_option maxHeartbeats 8000000 in
theorem sorts_walk (S : OrdSpec) (T : SortSpec) (j : Jb) (v : Value) (l : List Jb) (w : World) (hr : RowAt encJ 10 w v l) : Calls Try.prog 4 #[.agg (encJ j).toArray, v] w fun e w' => e = .returned (.bool true) ∧ Below w.heap.size w w' := by
  have hmix := mixedO
  have zE := zE_job
  have haw := Lib.hid fun W => awake_any S W
  clear S
  obtain ⟨w0, hw0⟩ : ∃ w0, w0 = w.alloc (.cells (encJ j).toArray 24) := ⟨_, rfl⟩
  have hb0 : Below w.heap.size w w0 := by rw [hw0]; exact (Below.refl _ _).alloc (Nat.le_refl _) _
  have hsz0 : w0.heap.size = w.heap.size + 1 := by rw [hw0]; simp
  have hA0 : w0.heap[w.heap.size]? = some (.cells (encJ j).toArray 24 (0, 0)) := by rw [hw0]; exact heap_alloc_new w _
  have hr0 : RowAt encJ 10 w0 v l := hr.below hb0
  have hfew := few_fn hr0
  have lJ := encJ_len j
  obtain ⟨k, hk⟩ : ∃ k, k = 10 := ⟨_, rfl⟩
  rw [← hk] at zE lJ
  have BX : Hid (∀ W, Below w0.heap.size w0 W → Sem.run Try.prog (loadCellsFrom ⟨w.heap.size, 0, none⟩ 0 k #[]) W = .ok (encJ j).toArray W) := fun W hW => load_box ((hW.block _ (by omega)).trans hA0) lJ
  have hbeh := Lib.hid fun (v : Value) (l : List Jb) (W : World) => T.behind j v l W
  have hahj := Lib.hid fun (x : Jb) (W : World) => ahead_fn j x W
  generalize hcj : encJ j = cJ at *
  replace hcj := Lib.hid hcj
  replace hk := Lib.hid hk
  go_enter Try.func4, Try.ntmps4
  go_wp2_with fail
  rw [← hw0]
  replace hw0 := Lib.hid hw0
  go_at_call 11
  refine hfew.mono ?_
  clear hfew hr hr0
  rintro e w9 ⟨rfl, v1, rfl, hr1⟩
  obtain ⟨L, hL⟩ : ∃ L, L = l.take 60 := ⟨_, rfl⟩
  rw [← hL] at hr1
  have hn60 : L.length ≤ 60 := by rw [hL, List.length_take]; omega
  clear hL
  have hsort := T.sort v1 L w0 hr1 hn60
  clear T
  go_wp2_with fail
  go_at_call 12
  refine hsort.mono ?_
  clear hsort
  rintro e w1 ⟨v5, r, rfl, hrr, hrl, hpos, hb1⟩
  have hr1' := hr1.below hb1
  have HR0 := hr1'
  obtain ⟨ao, cap, rfl, q1, q2, q3⟩ := hr1'
  obtain ⟨xo, xcap, rfl, x1, x2, x3⟩ := hrr
  obtain ⟨n, hn⟩ : ∃ n, L.length = n := ⟨_, rfl⟩
  replace hrl : r.length = n := hrl.trans hn
  rw [hrl] at x1 x3 ⊢
  rw [hn] at q1 q3 hn60 hpos ⊢
  have nn : ((n : Int) != (n : Int)) = false := by simp
  have hcM : cap ≤ 9223372036854775807 := by unfold maxLen at q2; omega
  have HQ : Hid (0 < n → ∃ b off, ao = some ⟨b, off, none⟩ ∧ JRow w1 b off L) := fun hp => by
    obtain ⟨b, off, e1, e2, e3⟩ := q3 hp
    exact ⟨b, off, e1, e2, e3⟩
  have HX : Hid (0 < n → ∃ b off, xo = some ⟨b, off, none⟩ ∧ JRow w1 b off r) := fun hp => by
    obtain ⟨b, off, e1, e2, e3⟩ := x3 hp
    exact ⟨b, off, e1, e2, e3⟩
  have HP : Hid _ := hpos
  replace hrl := Lib.hid hrl
  have HR : Hid (RowAt encJ 10 w1 (.slice ao n cap) L) := by rw [hn] at HR0; exact HR0
  clear HR0
  replace hn := Lib.hid hn
  replace hr1 := Lib.hid hr1
  clear q3 x3 hpos q2 x2
  go_wp2_with fail
  go_loopw [6] (fun ii wr => ∃ (i : Nat), i ≤ n ∧ ii = .int .i64 i ∧ Below w1.heap.size w1 wr) (fun ii _ => n - (intOf ii).toNat)
  case atStart => exact ⟨0, Nat.zero_le _, rfl, Below.refl _ _⟩
  case round =>
    obtain ⟨i, hin, rfl, hbr⟩ := hrel
    by_cases hlt : i < n
    · have b2 : (i : Int) < (n : Int) := by omega
      have wi : IntKind.i64.wrap ((i : Int) + 1) = (i : Int) + 1 := by rw [IntKind.wrap_i64]; omega
      go_wp2_with fail
      go_loopw [7, 8] (fun aa kk wr2 => ∃ (q : Nat), q ≤ n ∧ kk = .int .i64 q ∧ aa = .int .i64 (Sb.posK aheadJ L i q) ∧ Below w1.heap.size w1 wr2) (fun _ kk _ => n - (intOf kk).toNat)
      case atStart => exact ⟨0, Nat.zero_le _, rfl, rfl, hbr⟩
      case round =>
        obtain ⟨q, hqn, rfl, rfl, hbq⟩ := hrel
        obtain ⟨b, off, rfl, hJ⟩ := HQ.out (by omega)
        have hJq := hJ.below hbq
        by_cases hlq : q < n
        · have b3 : (q : Int) < (n : Int) := by omega
          have wq : IntKind.i64.wrap ((q : Int) + 1) = (q : Int) + 1 := by rw [IntKind.wrap_i64]; omega
          have hps := Sb.posK_succ (lt := aheadJ) L i q
          have hpl := Sb.posK_le (lt := aheadJ) L i q
          have lq := trivial
          have li := trivial
          have C1 := Lib.hid fun (W : World) => ahead_fn L[q]! L[i]! W
          have C2 := Lib.hid fun (W : World) => ahead_fn L[i]! L[q]! W
          have LQ : Hid (∀ W, Below wr.heap.size wr W → Sem.run Try.prog (loadCellsFrom ⟨b, off + q * k, none⟩ 0 k #[]) W = .ok (encJ L[q]!).toArray W) := fun W hW => (hJq.below hW).load hk.out (by have := hn.out; omega)
          have LI : Hid (∀ W, Below wr.heap.size wr W → Sem.run Try.prog (loadCellsFrom ⟨b, off + i * k, none⟩ 0 k #[]) W = .ok (encJ L[i]!).toArray W) := fun W hW => (hJq.below hW).load hk.out (by have := hn.out; omega)
          clear lq li
          obtain ⟨at0, hat⟩ : ∃ x, x = Sb.posK aheadJ L i q := ⟨_, rfl⟩
          rw [← hat] at hps hpl ⊢
          have wat : IntKind.i64.wrap ((at0 : Int) + 1) = (at0 : Int) + 1 := by rw [IntKind.wrap_i64]; omega
          have lQ := encJ_len L[q]!
          have lI := encJ_len L[i]!
          rw [← hk.out] at lQ lI
          generalize encJ L[q]! = cQ at *
          generalize encJ L[i]! = cI at *
          generalize aheadJ L[q]! L[i]! = A1 at *
          generalize aheadJ L[i]! L[q]! = A2 at *
          replace hps := Lib.hid hps
          replace hat := Lib.hid hat
          have b4 : (i : Int) < (n : Int) := b2
          clear hJ hJq
          cases A1 with
          | true =>
            have hps2 : Hid (Sb.posK aheadJ L i (q + 1) = at0 + 1) := by show _ = _; rw [hps.out]; simp
            clear hps
            go_wp2_with fail
            refine Reg.region_mk 23 109 [[], [false], [true, true], [true, true, true], [false, false, false, false], [false, false, false, false, false], [false, false, false, false, true, true], [false, false, false, false, true, true, true], [true, true, true, true, true, true, true, true], [true, true, true, true, true, true, true, true, true], [true, true, true, true, true, true, true, true, true, true], [true, true, true, true, true, true, true, true, true, true, false], [true, true, true, true, true, true, true, true, true, true, true, true], [true, true, true, true, true, true, true, true, true, true, true, true, true], [true, true, true, true, true, true, true, true, true, true, false, false, false, false], [true, true, true, true, true, true, true, true, true, true, false, false, false, false, false], [true, true, true, true, true, true, true, true, true, true, false, false, false, false, true, true], [true, true, true, true, true, true, true, true, true, true, false, false, false, false, true, true, true], [true, true, true, true, true, true, true, true, true, true, true, true, true, true, true, true, true, true], [true, true, true, true, true, true, true, true, true, true, true, true, true, true, true, true, true, true, true], [true, true, true, true, true, true, true, true, true, true, true, true, true, true, true, true, true, true, true, true], [true, true, true, true, true, true, true, true, true, true, true, true, true, true, true, true, true, true, true, true, true], [true, true, true, true, true, true, true, true, true, true, true, true, true, true, true, true, true, true, true, true, true, false]] [0, 0, 0, 1, 0, 0, 0, 1, 1, 0, 0, 0, 0, 1, 0, 0, 0, 1, 1, 0, 0, 0, 0]
              [.pure, .pure, .pure, .minor Unit () (fun _ => .agg cQ.toArray) (fun _ _ => True), .pure, .pure, .pure, .minor Unit () (fun _ => .agg cI.toArray) (fun _ _ => True), .minor Unit () (fun _ => .bool true) (fun _ _ => True), .pure, .pure, .pure, .pure, .minor Unit () (fun _ => .agg cI.toArray) (fun _ _ => True), .pure, .pure, .pure, .minor Unit () (fun _ => .agg cQ.toArray) (fun _ _ => True), .minor Unit () (fun _ => .bool true) (fun _ _ => True), .pure, .pure, .pure, .pure]
              (fun W => Below wr.heap.size wr W) (fun _ _ => True) (fun _ _ => False) (by kernel_rfl) (by kernel_rfl) rfl rfl (fun _ _ _ _ h => h) ?_ ?_ ?_ ?_ ?_ ?_
            · intro x y he hb; exact hb.trans (he.mono hb.size)
            · intro _ _ h; exact h.elim
            · refine ⟨trivial, trivial, trivial, ⟨?_, ?_⟩, trivial, trivial, trivial, ⟨?_, ?_⟩, ⟨?_, ?_⟩, trivial, trivial, trivial, trivial, ⟨?_, ?_⟩, trivial, trivial, trivial, ⟨?_, ?_⟩, ⟨?_, ?_⟩, trivial, trivial, trivial, trivial, trivial⟩
              all_goals (intro x y z hk hx; exact trivial)
            · exact (Below.refl _ _).drew
            · exact trivial
            dsimp only [Reg.mk, List.zip, List.zipWith, List.take]
            repeat (refine' Reg.pass_is _ (by rfl) (fun wz => ?_) ?_; rotate_left; (go_simp; first | rfl | rw [if_neg (by omega)]); simp only [Act.put, List.setIfInBounds_toArray, List.set_cons_zero, List.set_cons_succ]; (try simp only [List.nil_append]); (try simp only [List.cons_append]))
            refine Reg.pass_minor (by rfl) (fun wz hI hF => ?_) (fun x3 => ?_)
            · unfold Reg.One
              have lz := LQ.out wz hI
              go_wp2_with fail
              exact ⟨_, rfl, ⟨(), rfl, trivial⟩, Reg.Ext.refl _⟩
            simp only [Act.put, List.setIfInBounds_toArray, List.set_cons_zero, List.set_cons_succ]; (try simp only [List.nil_append]); (try simp only [List.cons_append]); (try simp only [id])
            repeat (refine' Reg.pass_is _ (by rfl) (fun wz => ?_) ?_; rotate_left; (go_simp; first | rfl | rw [if_neg (by omega)]); simp only [Act.put, List.setIfInBounds_toArray, List.set_cons_zero, List.set_cons_succ]; (try simp only [List.nil_append]); (try simp only [List.cons_append]))
            refine Reg.pass_minor (by rfl) (fun wz hI hF => ?_) (fun x7 => ?_)
            · unfold Reg.One
              have lz := LI.out wz hI
              go_wp2_with fail
              exact ⟨_, rfl, ⟨(), rfl, trivial⟩, Reg.Ext.refl _⟩
            simp only [Act.put, List.setIfInBounds_toArray, List.set_cons_zero, List.set_cons_succ]; (try simp only [List.nil_append]); (try simp only [List.cons_append]); (try simp only [id])
            refine Reg.pass_minor (by rfl) (fun wz hI hF => ?_) (fun x8 => ?_)
            · unfold Reg.One
              have hc := C1.out wz
              go_wp2_with (go_at_call 7; go_must (refine hc.mono ?_); rintro e w5 ⟨rfl, h5⟩)
              exact ⟨_, rfl, ⟨(), rfl, trivial⟩, Gr.below h5⟩
            simp only [Act.put, List.setIfInBounds_toArray, List.set_cons_zero, List.set_cons_succ]; (try simp only [List.nil_append]); (try simp only [List.cons_append]); (try simp only [id])
            repeat (refine' Reg.pass_is _ (by rfl) (fun wz => ?_) ?_; rotate_left; (go_simp; first | rfl | rw [if_neg (by omega)]); simp only [Act.put, List.setIfInBounds_toArray, List.set_cons_zero, List.set_cons_succ]; (try simp only [List.nil_append]); (try simp only [List.cons_append]))
            refine Reg.pass_not (by rfl) ?_
            simp only [Act.put, List.setIfInBounds_toArray, List.set_cons_zero, List.set_cons_succ]; (try simp only [List.nil_append]); (try simp only [List.cons_append]); (try simp only [id])
            refine Reg.pass_not (by rfl) ?_
            simp only [Act.put, List.setIfInBounds_toArray, List.set_cons_zero, List.set_cons_succ]; (try simp only [List.nil_append]); (try simp only [List.cons_append]); (try simp only [id])
            refine Reg.pass_not (by rfl) ?_
            simp only [Act.put, List.setIfInBounds_toArray, List.set_cons_zero, List.set_cons_succ]; (try simp only [List.nil_append]); (try simp only [List.cons_append]); (try simp only [id])
            refine Reg.pass_minor_no (by rfl) ?_
            simp only [Act.put, List.setIfInBounds_toArray, List.set_cons_zero, List.set_cons_succ]; (try simp only [List.nil_append]); (try simp only [List.cons_append]); (try simp only [id])
            refine Reg.pass_not (by rfl) ?_
            simp only [Act.put, List.setIfInBounds_toArray, List.set_cons_zero, List.set_cons_succ]; (try simp only [List.nil_append]); (try simp only [List.cons_append]); (try simp only [id])
            refine Reg.pass_not (by rfl) ?_
            simp only [Act.put, List.setIfInBounds_toArray, List.set_cons_zero, List.set_cons_succ]; (try simp only [List.nil_append]); (try simp only [List.cons_append]); (try simp only [id])
            refine Reg.pass_not (by rfl) ?_
            simp only [Act.put, List.setIfInBounds_toArray, List.set_cons_zero, List.set_cons_succ]; (try simp only [List.nil_append]); (try simp only [List.cons_append]); (try simp only [id])
            refine Reg.pass_minor_no (by rfl) ?_
            simp only [Act.put, List.setIfInBounds_toArray, List.set_cons_zero, List.set_cons_succ]; (try simp only [List.nil_append]); (try simp only [List.cons_append]); (try simp only [id])
            refine Reg.pass_minor_no (by rfl) ?_
            simp only [Act.put, List.setIfInBounds_toArray, List.set_cons_zero, List.set_cons_succ]; (try simp only [List.nil_append]); (try simp only [List.cons_append]); (try simp only [id])
            refine Reg.pass_not (by rfl) ?_
            simp only [Act.put, List.setIfInBounds_toArray, List.set_cons_zero, List.set_cons_succ]; (try simp only [List.nil_append]); (try simp only [List.cons_append]); (try simp only [id])
            refine Reg.pass_not (by rfl) ?_
            simp only [Act.put, List.setIfInBounds_toArray, List.set_cons_zero, List.set_cons_succ]; (try simp only [List.nil_append]); (try simp only [List.cons_append]); (try simp only [id])
            refine Reg.pass_not (by rfl) ?_
            simp only [Act.put, List.setIfInBounds_toArray, List.set_cons_zero, List.set_cons_succ]; (try simp only [List.nil_append]); (try simp only [List.cons_append]); (try simp only [id])
            refine Reg.pass_not (by rfl) ?_
            simp only [Act.put, List.setIfInBounds_toArray, List.set_cons_zero, List.set_cons_succ]; (try simp only [List.nil_append]); (try simp only [List.cons_append]); (try simp only [id])
            refine Reg.pass_end ?_
            intro w3 HI3 HS3 _
            dsimp only [List.drop]
            have hbz := hbq.trans (HI3.mono hbq.size)
            go_wp2_with fail
            go_roundw
            case rel => exact ⟨q + 1, by omega, by go_num, by rw [hps2.out]; go_num, hbz⟩
            case measure => simp [intOf]; omega
          | false =>
            cases A2 with
            | true =>
              have hps2 : Hid (Sb.posK aheadJ L i (q + 1) = at0 + 0) := by show _ = _; rw [hps.out]; simp
              clear hps
              go_wp2_with fail
              refine Reg.region_mk 23 109 [[], [false], [true, true], [true, true, true], [false, false, false, false], [false, false, false, false, false], [false, false, false, false, true, true], [false, false, false, false, true, true, true], [true, true, true, true, true, true, true, true], [true, true, true, true, true, true, true, true, true], [true, true, true, true, true, true, true, true, true, true], [true, true, true, true, true, true, true, true, true, true, false], [true, true, true, true, true, true, true, true, true, true, true, true], [true, true, true, true, true, true, true, true, true, true, true, true, true], [true, true, true, true, true, true, true, true, true, true, false, false, false, false], [true, true, true, true, true, true, true, true, true, true, false, false, false, false, false], [true, true, true, true, true, true, true, true, true, true, false, false, false, false, true, true], [true, true, true, true, true, true, true, true, true, true, false, false, false, false, true, true, true], [true, true, true, true, true, true, true, true, true, true, true, true, true, true, true, true, true, true], [true, true, true, true, true, true, true, true, true, true, true, true, true, true, true, true, true, true, true], [true, true, true, true, true, true, true, true, true, true, true, true, true, true, true, true, true, true, true, true], [true, true, true, true, true, true, true, true, true, true, true, true, true, true, true, true, true, true, true, true, true], [true, true, true, true, true, true, true, true, true, true, true, true, true, true, true, true, true, true, true, true, true, false]] [0, 0, 0, 1, 0, 0, 0, 1, 1, 0, 0, 0, 0, 1, 0, 0, 0, 1, 1, 0, 0, 0, 0]
                [.pure, .pure, .pure, .minor Unit () (fun _ => .agg cQ.toArray) (fun _ _ => True), .pure, .pure, .pure, .minor Unit () (fun _ => .agg cI.toArray) (fun _ _ => True), .minor Unit () (fun _ => .bool false) (fun _ _ => True), .pure, .pure, .pure, .pure, .minor Unit () (fun _ => .agg cI.toArray) (fun _ _ => True), .pure, .pure, .pure, .minor Unit () (fun _ => .agg cQ.toArray) (fun _ _ => True), .minor Unit () (fun _ => .bool true) (fun _ _ => True), .pure, .pure, .pure, .pure]
                (fun W => Below wr.heap.size wr W) (fun _ _ => True) (fun _ _ => False) (by kernel_rfl) (by kernel_rfl) rfl rfl (fun _ _ _ _ h => h) ?_ ?_ ?_ ?_ ?_ ?_
              · intro x y he hb; exact hb.trans (he.mono hb.size)
              · intro _ _ h; exact h.elim
              · refine ⟨trivial, trivial, trivial, ⟨?_, ?_⟩, trivial, trivial, trivial, ⟨?_, ?_⟩, ⟨?_, ?_⟩, trivial, trivial, trivial, trivial, ⟨?_, ?_⟩, trivial, trivial, trivial, ⟨?_, ?_⟩, ⟨?_, ?_⟩, trivial, trivial, trivial, trivial, trivial⟩
                all_goals (intro x y z hk hx; exact trivial)
              · exact (Below.refl _ _).drew
              · exact trivial
              dsimp only [Reg.mk, List.zip, List.zipWith, List.take]
              repeat (refine' Reg.pass_is _ (by rfl) (fun wz => ?_) ?_; rotate_left; (go_simp; first | rfl | rw [if_neg (by omega)]); simp only [Act.put, List.setIfInBounds_toArray, List.set_cons_zero, List.set_cons_succ]; (try simp only [List.nil_append]); (try simp only [List.cons_append]))
              refine Reg.pass_minor (by rfl) (fun wz hI hF => ?_) (fun x3 => ?_)
              · unfold Reg.One
                have lz := LQ.out wz hI
                go_wp2_with fail
                exact ⟨_, rfl, ⟨(), rfl, trivial⟩, Reg.Ext.refl _⟩
              simp only [Act.put, List.setIfInBounds_toArray, List.set_cons_zero, List.set_cons_succ]; (try simp only [List.nil_append]); (try simp only [List.cons_append]); (try simp only [id])
              repeat (refine' Reg.pass_is _ (by rfl) (fun wz => ?_) ?_; rotate_left; (go_simp; first | rfl | rw [if_neg (by omega)]); simp only [Act.put, List.setIfInBounds_toArray, List.set_cons_zero, List.set_cons_succ]; (try simp only [List.nil_append]); (try simp only [List.cons_append]))
              refine Reg.pass_minor (by rfl) (fun wz hI hF => ?_) (fun x7 => ?_)
              · unfold Reg.One
                have lz := LI.out wz hI
                go_wp2_with fail
                exact ⟨_, rfl, ⟨(), rfl, trivial⟩, Reg.Ext.refl _⟩
              simp only [Act.put, List.setIfInBounds_toArray, List.set_cons_zero, List.set_cons_succ]; (try simp only [List.nil_append]); (try simp only [List.cons_append]); (try simp only [id])
              refine Reg.pass_minor (by rfl) (fun wz hI hF => ?_) (fun x8 => ?_)
              · unfold Reg.One
                have hc := C1.out wz
                go_wp2_with (go_at_call 7; go_must (refine hc.mono ?_); rintro e w5 ⟨rfl, h5⟩)
                exact ⟨_, rfl, ⟨(), rfl, trivial⟩, Gr.below h5⟩
              simp only [Act.put, List.setIfInBounds_toArray, List.set_cons_zero, List.set_cons_succ]; (try simp only [List.nil_append]); (try simp only [List.cons_append]); (try simp only [id])
              repeat (refine' Reg.pass_is _ (by rfl) (fun wz => ?_) ?_; rotate_left; (go_simp; first | rfl | rw [if_neg (by omega)]); simp only [Act.put, List.setIfInBounds_toArray, List.set_cons_zero, List.set_cons_succ]; (try simp only [List.nil_append]); (try simp only [List.cons_append]))
              refine Reg.pass_minor (by rfl) (fun wz hI hF => ?_) (fun x13 => ?_)
              · unfold Reg.One
                have lz := LI.out wz hI
                go_wp2_with fail
                exact ⟨_, rfl, ⟨(), rfl, trivial⟩, Reg.Ext.refl _⟩
              simp only [Act.put, List.setIfInBounds_toArray, List.set_cons_zero, List.set_cons_succ]; (try simp only [List.nil_append]); (try simp only [List.cons_append]); (try simp only [id])
              repeat (refine' Reg.pass_is _ (by rfl) (fun wz => ?_) ?_; rotate_left; (go_simp; first | rfl | rw [if_neg (by omega)]); simp only [Act.put, List.setIfInBounds_toArray, List.set_cons_zero, List.set_cons_succ]; (try simp only [List.nil_append]); (try simp only [List.cons_append]))
              refine Reg.pass_minor (by rfl) (fun wz hI hF => ?_) (fun x17 => ?_)
              · unfold Reg.One
                have lz := LQ.out wz hI
                go_wp2_with fail
                exact ⟨_, rfl, ⟨(), rfl, trivial⟩, Reg.Ext.refl _⟩
              simp only [Act.put, List.setIfInBounds_toArray, List.set_cons_zero, List.set_cons_succ]; (try simp only [List.nil_append]); (try simp only [List.cons_append]); (try simp only [id])
              refine Reg.pass_minor (by rfl) (fun wz hI hF => ?_) (fun x18 => ?_)
              · unfold Reg.One
                have hc := C2.out wz
                go_wp2_with (go_at_call 7; go_must (refine hc.mono ?_); rintro e w5 ⟨rfl, h5⟩)
                exact ⟨_, rfl, ⟨(), rfl, trivial⟩, Gr.below h5⟩
              simp only [Act.put, List.setIfInBounds_toArray, List.set_cons_zero, List.set_cons_succ]; (try simp only [List.nil_append]); (try simp only [List.cons_append]); (try simp only [id])
              repeat (refine' Reg.pass_is _ (by rfl) (fun wz => ?_) ?_; rotate_left; (go_simp; first | rfl | rw [if_neg (by omega)]); simp only [Act.put, List.setIfInBounds_toArray, List.set_cons_zero, List.set_cons_succ]; (try simp only [List.nil_append]); (try simp only [List.cons_append]))
              refine Reg.pass_not (by rfl) ?_
              simp only [Act.put, List.setIfInBounds_toArray, List.set_cons_zero, List.set_cons_succ]; (try simp only [List.nil_append]); (try simp only [List.cons_append]); (try simp only [id])
              refine Reg.pass_not (by rfl) ?_
              simp only [Act.put, List.setIfInBounds_toArray, List.set_cons_zero, List.set_cons_succ]; (try simp only [List.nil_append]); (try simp only [List.cons_append]); (try simp only [id])
              refine Reg.pass_end ?_
              intro w3 HI3 HS3 _
              dsimp only [List.drop]
              have hbz := hbq.trans (HI3.mono hbq.size)
              go_wp2_with fail
              go_roundw
              case rel => exact ⟨q + 1, by omega, by go_num, by rw [hps2.out]; rfl, hbz⟩
              case measure => simp [intOf]; omega
            | false =>
              by_cases hqi : q < i
              · have dq : decide ((q : Int) < (i : Int)) = true := decide_eq_true (by omega)
                have hps2 : Hid (Sb.posK aheadJ L i (q + 1) = at0 + 1) := by show _ = _; rw [hps.out]; simp [hqi]
                clear hps
                go_wp2_with fail
                refine Reg.region_mk 23 109 [[], [false], [true, true], [true, true, true], [false, false, false, false], [false, false, false, false, false], [false, false, false, false, true, true], [false, false, false, false, true, true, true], [true, true, true, true, true, true, true, true], [true, true, true, true, true, true, true, true, true], [true, true, true, true, true, true, true, true, true, true], [true, true, true, true, true, true, true, true, true, true, false], [true, true, true, true, true, true, true, true, true, true, true, true], [true, true, true, true, true, true, true, true, true, true, true, true, true], [true, true, true, true, true, true, true, true, true, true, false, false, false, false], [true, true, true, true, true, true, true, true, true, true, false, false, false, false, false], [true, true, true, true, true, true, true, true, true, true, false, false, false, false, true, true], [true, true, true, true, true, true, true, true, true, true, false, false, false, false, true, true, true], [true, true, true, true, true, true, true, true, true, true, true, true, true, true, true, true, true, true], [true, true, true, true, true, true, true, true, true, true, true, true, true, true, true, true, true, true, true], [true, true, true, true, true, true, true, true, true, true, true, true, true, true, true, true, true, true, true, true], [true, true, true, true, true, true, true, true, true, true, true, true, true, true, true, true, true, true, true, true, true], [true, true, true, true, true, true, true, true, true, true, true, true, true, true, true, true, true, true, true, true, true, false]] [0, 0, 0, 1, 0, 0, 0, 1, 1, 0, 0, 0, 0, 1, 0, 0, 0, 1, 1, 0, 0, 0, 0]
                  [.pure, .pure, .pure, .minor Unit () (fun _ => .agg cQ.toArray) (fun _ _ => True), .pure, .pure, .pure, .minor Unit () (fun _ => .agg cI.toArray) (fun _ _ => True), .minor Unit () (fun _ => .bool false) (fun _ _ => True), .pure, .pure, .pure, .pure, .minor Unit () (fun _ => .agg cI.toArray) (fun _ _ => True), .pure, .pure, .pure, .minor Unit () (fun _ => .agg cQ.toArray) (fun _ _ => True), .minor Unit () (fun _ => .bool false) (fun _ _ => True), .pure, .pure, .pure, .pure]
                  (fun W => Below wr.heap.size wr W) (fun _ _ => True) (fun _ _ => False) (by kernel_rfl) (by kernel_rfl) rfl rfl (fun _ _ _ _ h => h) ?_ ?_ ?_ ?_ ?_ ?_
                · intro x y he hb; exact hb.trans (he.mono hb.size)
                · intro _ _ h; exact h.elim
                · refine ⟨trivial, trivial, trivial, ⟨?_, ?_⟩, trivial, trivial, trivial, ⟨?_, ?_⟩, ⟨?_, ?_⟩, trivial, trivial, trivial, trivial, ⟨?_, ?_⟩, trivial, trivial, trivial, ⟨?_, ?_⟩, ⟨?_, ?_⟩, trivial, trivial, trivial, trivial, trivial⟩
                  all_goals (intro x y z hk hx; exact trivial)
                · exact (Below.refl _ _).drew
                · exact trivial
                dsimp only [Reg.mk, List.zip, List.zipWith, List.take]
                repeat (refine' Reg.pass_is _ (by rfl) (fun wz => ?_) ?_; rotate_left; (go_simp; first | rfl | rw [if_neg (by omega)]); simp only [Act.put, List.setIfInBounds_toArray, List.set_cons_zero, List.set_cons_succ]; (try simp only [List.nil_append]); (try simp only [List.cons_append]))
                refine Reg.pass_minor (by rfl) (fun wz hI hF => ?_) (fun x3 => ?_)
                · unfold Reg.One
                  have lz := LQ.out wz hI
                  go_wp2_with fail
                  exact ⟨_, rfl, ⟨(), rfl, trivial⟩, Reg.Ext.refl _⟩
                simp only [Act.put, List.setIfInBounds_toArray, List.set_cons_zero, List.set_cons_succ]; (try simp only [List.nil_append]); (try simp only [List.cons_append]); (try simp only [id])
                repeat (refine' Reg.pass_is _ (by rfl) (fun wz => ?_) ?_; rotate_left; (go_simp; first | rfl | rw [if_neg (by omega)]); simp only [Act.put, List.setIfInBounds_toArray, List.set_cons_zero, List.set_cons_succ]; (try simp only [List.nil_append]); (try simp only [List.cons_append]))
                refine Reg.pass_minor (by rfl) (fun wz hI hF => ?_) (fun x7 => ?_)
                · unfold Reg.One
                  have lz := LI.out wz hI
                  go_wp2_with fail
                  exact ⟨_, rfl, ⟨(), rfl, trivial⟩, Reg.Ext.refl _⟩
                simp only [Act.put, List.setIfInBounds_toArray, List.set_cons_zero, List.set_cons_succ]; (try simp only [List.nil_append]); (try simp only [List.cons_append]); (try simp only [id])
                refine Reg.pass_minor (by rfl) (fun wz hI hF => ?_) (fun x8 => ?_)
                · unfold Reg.One
                  have hc := C1.out wz
                  go_wp2_with (go_at_call 7; go_must (refine hc.mono ?_); rintro e w5 ⟨rfl, h5⟩)
                  exact ⟨_, rfl, ⟨(), rfl, trivial⟩, Gr.below h5⟩
                simp only [Act.put, List.setIfInBounds_toArray, List.set_cons_zero, List.set_cons_succ]; (try simp only [List.nil_append]); (try simp only [List.cons_append]); (try simp only [id])
                repeat (refine' Reg.pass_is _ (by rfl) (fun wz => ?_) ?_; rotate_left; (go_simp; first | rfl | rw [if_neg (by omega)]); simp only [Act.put, List.setIfInBounds_toArray, List.set_cons_zero, List.set_cons_succ]; (try simp only [List.nil_append]); (try simp only [List.cons_append]))
                refine Reg.pass_minor (by rfl) (fun wz hI hF => ?_) (fun x13 => ?_)
                · unfold Reg.One
                  have lz := LI.out wz hI
                  go_wp2_with fail
                  exact ⟨_, rfl, ⟨(), rfl, trivial⟩, Reg.Ext.refl _⟩
                simp only [Act.put, List.setIfInBounds_toArray, List.set_cons_zero, List.set_cons_succ]; (try simp only [List.nil_append]); (try simp only [List.cons_append]); (try simp only [id])
                repeat (refine' Reg.pass_is _ (by rfl) (fun wz => ?_) ?_; rotate_left; (go_simp; first | rfl | rw [if_neg (by omega)]); simp only [Act.put, List.setIfInBounds_toArray, List.set_cons_zero, List.set_cons_succ]; (try simp only [List.nil_append]); (try simp only [List.cons_append]))
                refine Reg.pass_minor (by rfl) (fun wz hI hF => ?_) (fun x17 => ?_)
                · unfold Reg.One
                  have lz := LQ.out wz hI
                  go_wp2_with fail
                  exact ⟨_, rfl, ⟨(), rfl, trivial⟩, Reg.Ext.refl _⟩
                simp only [Act.put, List.setIfInBounds_toArray, List.set_cons_zero, List.set_cons_succ]; (try simp only [List.nil_append]); (try simp only [List.cons_append]); (try simp only [id])
                refine Reg.pass_minor (by rfl) (fun wz hI hF => ?_) (fun x18 => ?_)
                · unfold Reg.One
                  have hc := C2.out wz
                  go_wp2_with (go_at_call 7; go_must (refine hc.mono ?_); rintro e w5 ⟨rfl, h5⟩)
                  exact ⟨_, rfl, ⟨(), rfl, trivial⟩, Gr.below h5⟩
                simp only [Act.put, List.setIfInBounds_toArray, List.set_cons_zero, List.set_cons_succ]; (try simp only [List.nil_append]); (try simp only [List.cons_append]); (try simp only [id])
                repeat (refine' Reg.pass_is _ (by rfl) (fun wz => ?_) ?_; rotate_left; (go_simp; first | rfl | rw [if_neg (by omega)]); simp only [Act.put, List.setIfInBounds_toArray, List.set_cons_zero, List.set_cons_succ]; (try simp only [List.nil_append]); (try simp only [List.cons_append]))
                refine Reg.pass_end ?_
                intro w3 HI3 HS3 _
                dsimp only [List.drop]
                have hbz := hbq.trans (HI3.mono hbq.size)
                go_wp2_with fail
                go_roundw
                case rel => exact ⟨q + 1, by omega, by go_num, by rw [hps2.out]; go_num, hbz⟩
                case measure => simp [intOf]; omega
              · have dq : decide ((q : Int) < (i : Int)) = false := decide_eq_false (by omega)
                have hps2 : Hid (Sb.posK aheadJ L i (q + 1) = at0 + 0) := by show _ = _; rw [hps.out]; simp; omega
                clear hps
                go_wp2_with fail
                refine Reg.region_mk 23 109 [[], [false], [true, true], [true, true, true], [false, false, false, false], [false, false, false, false, false], [false, false, false, false, true, true], [false, false, false, false, true, true, true], [true, true, true, true, true, true, true, true], [true, true, true, true, true, true, true, true, true], [true, true, true, true, true, true, true, true, true, true], [true, true, true, true, true, true, true, true, true, true, false], [true, true, true, true, true, true, true, true, true, true, true, true], [true, true, true, true, true, true, true, true, true, true, true, true, true], [true, true, true, true, true, true, true, true, true, true, false, false, false, false], [true, true, true, true, true, true, true, true, true, true, false, false, false, false, false], [true, true, true, true, true, true, true, true, true, true, false, false, false, false, true, true], [true, true, true, true, true, true, true, true, true, true, false, false, false, false, true, true, true], [true, true, true, true, true, true, true, true, true, true, true, true, true, true, true, true, true, true], [true, true, true, true, true, true, true, true, true, true, true, true, true, true, true, true, true, true, true], [true, true, true, true, true, true, true, true, true, true, true, true, true, true, true, true, true, true, true, true], [true, true, true, true, true, true, true, true, true, true, true, true, true, true, true, true, true, true, true, true, true], [true, true, true, true, true, true, true, true, true, true, true, true, true, true, true, true, true, true, true, true, true, false]] [0, 0, 0, 1, 0, 0, 0, 1, 1, 0, 0, 0, 0, 1, 0, 0, 0, 1, 1, 0, 0, 0, 0]
                  [.pure, .pure, .pure, .minor Unit () (fun _ => .agg cQ.toArray) (fun _ _ => True), .pure, .pure, .pure, .minor Unit () (fun _ => .agg cI.toArray) (fun _ _ => True), .minor Unit () (fun _ => .bool false) (fun _ _ => True), .pure, .pure, .pure, .pure, .minor Unit () (fun _ => .agg cI.toArray) (fun _ _ => True), .pure, .pure, .pure, .minor Unit () (fun _ => .agg cQ.toArray) (fun _ _ => True), .minor Unit () (fun _ => .bool false) (fun _ _ => True), .pure, .pure, .pure, .pure]
                  (fun W => Below wr.heap.size wr W) (fun _ _ => True) (fun _ _ => False) (by kernel_rfl) (by kernel_rfl) rfl rfl (fun _ _ _ _ h => h) ?_ ?_ ?_ ?_ ?_ ?_
                · intro x y he hb; exact hb.trans (he.mono hb.size)
                · intro _ _ h; exact h.elim
                · refine ⟨trivial, trivial, trivial, ⟨?_, ?_⟩, trivial, trivial, trivial, ⟨?_, ?_⟩, ⟨?_, ?_⟩, trivial, trivial, trivial, trivial, ⟨?_, ?_⟩, trivial, trivial, trivial, ⟨?_, ?_⟩, ⟨?_, ?_⟩, trivial, trivial, trivial, trivial, trivial⟩
                  all_goals (intro x y z hk hx; exact trivial)
                · exact (Below.refl _ _).drew
                · exact trivial
                dsimp only [Reg.mk, List.zip, List.zipWith, List.take]
                repeat (refine' Reg.pass_is _ (by rfl) (fun wz => ?_) ?_; rotate_left; (go_simp; first | rfl | rw [if_neg (by omega)]); simp only [Act.put, List.setIfInBounds_toArray, List.set_cons_zero, List.set_cons_succ]; (try simp only [List.nil_append]); (try simp only [List.cons_append]))
                refine Reg.pass_minor (by rfl) (fun wz hI hF => ?_) (fun x3 => ?_)
                · unfold Reg.One
                  have lz := LQ.out wz hI
                  go_wp2_with fail
                  exact ⟨_, rfl, ⟨(), rfl, trivial⟩, Reg.Ext.refl _⟩
                simp only [Act.put, List.setIfInBounds_toArray, List.set_cons_zero, List.set_cons_succ]; (try simp only [List.nil_append]); (try simp only [List.cons_append]); (try simp only [id])
                repeat (refine' Reg.pass_is _ (by rfl) (fun wz => ?_) ?_; rotate_left; (go_simp; first | rfl | rw [if_neg (by omega)]); simp only [Act.put, List.setIfInBounds_toArray, List.set_cons_zero, List.set_cons_succ]; (try simp only [List.nil_append]); (try simp only [List.cons_append]))
                refine Reg.pass_minor (by rfl) (fun wz hI hF => ?_) (fun x7 => ?_)
                · unfold Reg.One
                  have lz := LI.out wz hI
                  go_wp2_with fail
                  exact ⟨_, rfl, ⟨(), rfl, trivial⟩, Reg.Ext.refl _⟩
                simp only [Act.put, List.setIfInBounds_toArray, List.set_cons_zero, List.set_cons_succ]; (try simp only [List.nil_append]); (try simp only [List.cons_append]); (try simp only [id])
                refine Reg.pass_minor (by rfl) (fun wz hI hF => ?_) (fun x8 => ?_)
                · unfold Reg.One
                  have hc := C1.out wz
                  go_wp2_with (go_at_call 7; go_must (refine hc.mono ?_); rintro e w5 ⟨rfl, h5⟩)
                  exact ⟨_, rfl, ⟨(), rfl, trivial⟩, Gr.below h5⟩
                simp only [Act.put, List.setIfInBounds_toArray, List.set_cons_zero, List.set_cons_succ]; (try simp only [List.nil_append]); (try simp only [List.cons_append]); (try simp only [id])
                repeat (refine' Reg.pass_is _ (by rfl) (fun wz => ?_) ?_; rotate_left; (go_simp; first | rfl | rw [if_neg (by omega)]); simp only [Act.put, List.setIfInBounds_toArray, List.set_cons_zero, List.set_cons_succ]; (try simp only [List.nil_append]); (try simp only [List.cons_append]))
                refine Reg.pass_minor (by rfl) (fun wz hI hF => ?_) (fun x13 => ?_)
                · unfold Reg.One
                  have lz := LI.out wz hI
                  go_wp2_with fail
                  exact ⟨_, rfl, ⟨(), rfl, trivial⟩, Reg.Ext.refl _⟩
                simp only [Act.put, List.setIfInBounds_toArray, List.set_cons_zero, List.set_cons_succ]; (try simp only [List.nil_append]); (try simp only [List.cons_append]); (try simp only [id])
                repeat (refine' Reg.pass_is _ (by rfl) (fun wz => ?_) ?_; rotate_left; (go_simp; first | rfl | rw [if_neg (by omega)]); simp only [Act.put, List.setIfInBounds_toArray, List.set_cons_zero, List.set_cons_succ]; (try simp only [List.nil_append]); (try simp only [List.cons_append]))
                refine Reg.pass_minor (by rfl) (fun wz hI hF => ?_) (fun x17 => ?_)
                · unfold Reg.One
                  have lz := LQ.out wz hI
                  go_wp2_with fail
                  exact ⟨_, rfl, ⟨(), rfl, trivial⟩, Reg.Ext.refl _⟩
                simp only [Act.put, List.setIfInBounds_toArray, List.set_cons_zero, List.set_cons_succ]; (try simp only [List.nil_append]); (try simp only [List.cons_append]); (try simp only [id])
                refine Reg.pass_minor (by rfl) (fun wz hI hF => ?_) (fun x18 => ?_)
                · unfold Reg.One
                  have hc := C2.out wz
                  go_wp2_with (go_at_call 7; go_must (refine hc.mono ?_); rintro e w5 ⟨rfl, h5⟩)
                  exact ⟨_, rfl, ⟨(), rfl, trivial⟩, Gr.below h5⟩
                simp only [Act.put, List.setIfInBounds_toArray, List.set_cons_zero, List.set_cons_succ]; (try simp only [List.nil_append]); (try simp only [List.cons_append]); (try simp only [id])
                repeat (refine' Reg.pass_is _ (by rfl) (fun wz => ?_) ?_; rotate_left; (go_simp; first | rfl | rw [if_neg (by omega)]); simp only [Act.put, List.setIfInBounds_toArray, List.set_cons_zero, List.set_cons_succ]; (try simp only [List.nil_append]); (try simp only [List.cons_append]))
                refine Reg.pass_end ?_
                intro w3 HI3 HS3 _
                dsimp only [List.drop]
                have hbz := hbq.trans (HI3.mono hbq.size)
                go_wp2_with fail
                go_roundw
                case rel => exact ⟨q + 1, by omega, by go_num, by rw [hps2.out]; rfl, hbz⟩
                case measure => simp [intOf]; omega
        · obtain rfl : q = n := by omega
          have b3 : ¬ (q : Int) < (q : Int) := by omega
          obtain ⟨xb, xoff, rfl, hX⟩ := HX.out (by omega)
          have hXq := hX.below hbq
          obtain ⟨p1, p2⟩ := HP.out i hlt
          obtain ⟨at0, hat⟩ : ∃ x, x = Sb.posK aheadJ L i q := ⟨_, rfl⟩
          rw [← hat] at p1 p2 ⊢
          have p3 : (at0 : Int) < (q : Int) := by omega
          have lx : ∀ n', Sem.run Try.prog (loadCellsFrom ⟨xb, xoff + at0 * k, none⟩ 0 k #[]) (wr.drewN n') = .ok (encJ L[i]!).toArray (wr.drewN n') := fun n' => by
            have := (hXq.below (W := wr.drewN n') ⟨rfl, rfl, rfl, Nat.le_refl _, fun _ _ => rfl⟩).load hk.out (i := at0) (by have := hrl.out; omega)
            rw [p2] at this
            exact this
          have li : ∀ n', Sem.run Try.prog (loadCellsFrom ⟨b, off + i * k, none⟩ 0 k #[]) (wr.drewN n') = .ok (encJ L[i]!).toArray (wr.drewN n') := fun n' =>
            (hJq.below (W := wr.drewN n') ⟨rfl, rfl, rfl, Nat.le_refl _, fun _ _ => rfl⟩).load hk.out (i := i) (by have := hn.out; omega)
          have hne := fun W => job_neq L[i]! L[i]! W
          rw [decide_eq_true rfl] at hne
          have hgd := job_guard
          have lI := encJ_len L[i]!
          rw [← hk.out] at lI
          generalize encJ L[i]! = cI at *
          replace hat := Lib.hid hat
          replace p2 := Lib.hid p2
          clear hJ hJq hX hXq
          go_wp2_with fail
          go_quiet (fail)
          have hbz : Below w1.heap.size w1 (wr.drewN nq) := ⟨hbq.os, hbq.tape, hbq.output, hbq.size, hbq.block⟩
          clear lx li hne
          generalize wr.drewN nq = wz at hbz ⊢
          go_wp2_with fail
          go_roundw
          case rel => exact ⟨i + 1, by omega, by go_num, hbz⟩
          case measure => simp [intOf]; omega
    · obtain rfl : n = i := by omega
      have b2 : ¬ (n : Int) < (n : Int) := by omega
      have hb0r := hb1.trans (hbr.mono hb1.size)
      have bx := BX.out wr hb0r
      have hbh := hbeh.out (.slice ao n cap) L wr (HR.out.below hbr) (by rw [hn.out]; exact hn60)
      clear HP HX hbeh
      go_wp2_with fail
      go_at_call 13
      refine hbh.mono ?_
      clear hbh bx
      rintro e w3 ⟨v9, rfl, h9, hb3⟩
      obtain ⟨bo, bcap, rfl, y1, y2, y3⟩ := h9
      obtain ⟨m, hm⟩ : ∃ m, (L.filter (aheadJ j)).length = m := ⟨_, rfl⟩
      rw [hm] at y1 y3 ⊢
      have hmn : m ≤ n := by rw [← hm, ← hn.out]; exact List.length_filter_le _ _
      have HB : Hid (0 < m → ∃ b off, bo = some ⟨b, off, none⟩ ∧ JRow w3 b off (L.filter (aheadJ j))) := fun hp => by
        obtain ⟨b, off, e1, e2, e3⟩ := y3 hp
        exact ⟨b, off, e1, e2, e3⟩
      have hb13 : Below w1.heap.size w1 w3 := hbr.trans (hb3.mono hbr.size)
      have hb03 : Below w0.heap.size w0 w3 := hb1.trans (hb13.mono hb1.size)
      have hbw3 : Below w.heap.size w w3 := hb0.trans (hb03.mono hb0.size)
      replace hm := Lib.hid hm
      clear y2 y3 hbr hb0r hb3 b2
      go_wp2_with fail
      go_loopw [10, 11] (fun nn ii wr => ∃ (i : Nat), i ≤ n ∧ ii = .int .i64 i ∧ nn = .int .i64 ((L.take i).filter (aheadJ j)).length ∧ Below w3.heap.size w3 wr) (fun _ ii _ => n - (intOf ii).toNat)
      case atStart => exact ⟨0, Nat.zero_le _, rfl, rfl, Below.refl _ _⟩
      case round =>
        obtain ⟨i, hin2, rfl, rfl, hbq⟩ := hrel
        obtain ⟨c, hc⟩ : ∃ c, c = ((L.take i).filter (aheadJ j)).length := ⟨_, rfl⟩
        rw [← hc]
        have hci : c ≤ i := by rw [hc]; exact Nat.le_trans (List.length_filter_le _ _) (by rw [List.length_take]; omega)
        by_cases hli : i < n
        · have b3 : (i : Int) < (n : Int) := by omega
          have wi : IntKind.i64.wrap ((i : Int) + 1) = (i : Int) + 1 := by rw [IntKind.wrap_i64]; omega
          have wc : IntKind.i64.wrap ((c : Int) + 1) = (c : Int) + 1 := by rw [IntKind.wrap_i64]; omega
          obtain ⟨b, off, rfl, hJ⟩ := HQ.out (by omega)
          have hJq := (hJ.below hb13).below hbq
          have hiL : i < L.length := by have := hn.out; omega
          have li := hJq.loads hk.out hiL
          have bx : ∀ n' os', Sem.run Try.prog (loadCellsFrom ⟨w.heap.size, 0, none⟩ 0 k #[]) (grow (wr.drewN n') os') = .ok cJ.toArray (grow (wr.drewN n') os') := fun n' os' => BX.out _ (hb03.trans ((hbq.trans ((Gr.below ⟨n', os', rfl⟩).mono hbq.size)).mono hb03.size))
          have hca := fun (n' : Nat) (os' : Array Obj) => hahj.out L[i]! (grow (wr.drewN n') os')
          have hyes : Hid (aheadJ j L[i]! = true → ((L.take (i + 1)).filter (aheadJ j)).length = c + 1 ∧ c < m ∧ (L.filter (aheadJ j))[c]! = L[i]!) := fun h => by
            obtain ⟨f1, f2⟩ := filt_at (p := aheadJ j) hiL h
            rw [← hc] at f1 f2
            rw [hm.out] at f1
            exact ⟨by rw [filt_yes hiL h, List.length_append, ← hc]; rfl, f1, f2⟩
          have hno : Hid (aheadJ j L[i]! = false → ((L.take (i + 1)).filter (aheadJ j)).length = c) := fun h => by rw [filt_no hiL h, ← hc]
          have lI := encJ_len L[i]!
          rw [← hk.out] at lI
          replace hc := Lib.hid hc
          cases hA : aheadJ j L[i]! with
          | true =>
            obtain ⟨f0, f1, f2⟩ := hyes.out hA
            rw [hA] at hca
            obtain ⟨bb, boff, rfl, hY⟩ := HB.out (by omega)
            have hYq := hY.below hbq
            have hcm : (c : Int) < (m : Int) := by omega
            have dcm : decide ((m : Int) ≤ (c : Int)) = false := decide_eq_false (by omega)
            have ncm : ¬ (m : Int) ≤ (c : Int) := by omega
            have LB : Hid (∀ W, Below wr.heap.size wr W → Sem.run Try.prog (loadCellsFrom ⟨bb, boff + c * k, none⟩ 0 k #[]) W = .ok (encJ L[i]!).toArray W ∧ Sem.run Try.prog (loadCellsFrom ⟨b, off + i * k, none⟩ 0 k #[]) W = .ok (encJ L[i]!).toArray W) := fun W hW => by
              have h1 := (hYq.below hW).load hk.out (i := c) (by rw [hm.out]; exact f1)
              rw [f2] at h1
              exact ⟨h1, (hJq.below hW).load hk.out hiL⟩
            have hne := fun W => job_neq L[i]! L[i]! W
            rw [decide_eq_true rfl] at hne
            have hgd := job_guard
            replace f0 := Lib.hid f0
            replace f2 := Lib.hid f2
            replace hA := Lib.hid hA
            clear hyes hno hJ hJq hY hYq
            generalize encJ L[i]! = cI at *
            go_wp2_with fail
            go_quiet_grown ((go_at_call 7; exact Calls.grown_of (hca _ _)))
            have hg5 : Below wr.heap.size wr (grow (wr.drewN nq) osq) := Gr.below ⟨nq, osq, rfl⟩
            clear hca bx li
            generalize grow (wr.drewN nq) osq = w5 at hg5 ⊢
            have l1 : ∀ n', Sem.run Try.prog (loadCellsFrom ⟨bb, boff + c * k, none⟩ 0 k #[]) (w5.drewN n') = .ok cI.toArray (w5.drewN n') := fun n' => (LB.out (w5.drewN n') ⟨hg5.os, hg5.tape, hg5.output, hg5.size, hg5.block⟩).1
            have l2 : ∀ n', Sem.run Try.prog (loadCellsFrom ⟨b, off + i * k, none⟩ 0 k #[]) (w5.drewN n') = .ok cI.toArray (w5.drewN n') := fun n' => (LB.out (w5.drewN n') ⟨hg5.os, hg5.tape, hg5.output, hg5.size, hg5.block⟩).2
            go_wp2_with fail
            go_quiet (fail)
            have hbz : Below w3.heap.size w3 (w5.drewN nq) := by
              have := hbq.trans (hg5.mono hbq.size)
              exact ⟨this.os, this.tape, this.output, this.size, this.block⟩
            clear l1 l2 hne
            generalize w5.drewN nq = wz at hbz ⊢
            go_wp2_with fail
            go_roundw
            case rel => exact ⟨i + 1, by omega, by go_num, by rw [f0.out]; go_num, hbz⟩
            case measure => simp [intOf]; omega
          | false =>
            have f0 := Lib.hid (hno.out hA)
            rw [hA] at hca
            replace hA := Lib.hid hA
            clear hyes hno hJ hJq
            generalize encJ L[i]! = cI at *
            go_wp2_with fail
            go_quiet_grown ((go_at_call 7; exact Calls.grown_of (hca _ _)))
            have hg5 : Below wr.heap.size wr (grow (wr.drewN nq) osq) := Gr.below ⟨nq, osq, rfl⟩
            have hbz := hbq.trans (hg5.mono hbq.size)
            clear hca bx li hg5
            generalize grow (wr.drewN nq) osq = w5 at hbz ⊢
            go_wp2_with fail
            go_roundw
            case rel => exact ⟨i + 1, by omega, by go_num, by rw [f0.out], hbz⟩
            case measure => simp [intOf]; omega
        · obtain rfl : i = n := by omega
          have b3 : ¬ (i : Int) < (i : Int) := by omega
          have hcm : c = m := by rw [hc, List.take_of_length_le (by rw [hn.out]; exact Nat.le_refl _), hm.out]
          subst hcm
          have mm : ((c : Int) == (c : Int)) = true := by simp
          have hfw := hbw3.trans (hbq.mono hbw3.size)
          have ha := haw.out wr
          replace hc := Lib.hid hc
          go_wp2_with (go_at_call 10; go_must (refine ha.mono ?_); rintro e w7 ⟨rfl, hb7⟩)
          go_ret
          exact ⟨rfl, hfw.trans (hb7.mono hfw.size)⟩

end Go.Proofs.Ytenpdglmmbkmkaa
