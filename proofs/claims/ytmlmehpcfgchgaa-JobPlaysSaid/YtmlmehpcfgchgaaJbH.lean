/-
  Own walks: a job that is asked for: the program's Submit, the law's live and submit.
-/
import Derived.Test.YtmlmehpcfgchgaaJbF
import Derived.Test.YtmlmehpcfgchgaaReg
namespace Go.Proofs.Ytmlmehpcfgchgaa
open Go.RowKit Go.Sort Go.Lib Go.Shelf Put

theorem aE_req : ∀ w, Sem.run Try.prog (isAgg 23) w = .ok true w := Try.isAgg23
theorem zE_req : ∀ w, Sem.run Try.prog (Go.sizeOf 23) w = .ok 9 w := Try.sizeOf23
theorem encR_len (r : Rq) : (encR r).length = 9 := rfl
theorem req_cells {W : World} {p : Nat} {x : Rq} (h : W.heap[p]? = some (.cells (encR x).toArray 23 (0, 0))) : ∀ j u, (encR x)[j]? = some u → W.cell? ⟨p, j, none⟩ = some u := by
  intro j u hj
  simp [World.cell?, h, hj]

/-- A job laid into a block of its own. -/
theorem put_box {w : World} {b : Nat} {x : Jb} {cs : List Value} (hb : w.heap[b]? = some (.cells cs.toArray 52 (0, 0))) (hl : cs.length = 10) :
    Sem.run Try.prog (storeCells ⟨b, 0, none⟩ (encJ x) 0) w = .ok () (w.setRow b (encJ x).toArray) ∧ (w.setRow b (encJ x).toArray).heap[b]? = some (.cells (encJ x).toArray 52 (0, 0)) ∧ Off b b w (w.setRow b (encJ x).toArray) := by
  have hst := run_storeCells_at Try.prog b 0 52 (encJ x) 0 cs.toArray w hb (by simp [hl, encJ_len]) (encJ_one x)
  simp only [Nat.add_zero] at hst
  have e : ((cs.toArray.toList.take 0 ++ encJ x ++ cs.toArray.toList.drop (0 + (encJ x).length)).toArray) = (encJ x).toArray := by simp [hl, encJ_len]
  rw [e] at hst
  exact ⟨hst, setRow_heap w b _ _ _ _ hb, ⟨rfl, rfl, rfl, by simp, fun k hk h1 _ => setRow_other w b k _ h1⟩⟩
/-- One cell of a job in a block of its own. -/
theorem set_box {w : World} {b j : Nat} {u : Value} {cs : List Value} (hb : w.heap[b]? = some (.cells cs.toArray 52 (0, 0))) :
    (w.setCell ⟨b, j, none⟩ u).heap[b]? = some (.cells (cs.set j u).toArray 52 (0, 0)) ∧ Off b b w (w.setCell ⟨b, j, none⟩ u) := by
  have hlt := Put.lt_of_heap hb
  refine ⟨?_, (Off.refl b b w).setCell (.inl rfl)⟩
  rw [Array.getElem?_eq_getElem hlt] at hb
  replace hb := Option.some.inj hb
  simp [World.setCell, hlt, Array.getElem_modify, hb]

/-- What is known of a row while one is appended: as it was, or with one more, where it lay or in a new block. -/
def AppS (w1 : World) (hq : Value) (L : List Jb) (x : Jb) (vs : List Value) (W : World) : Prop :=
  match vs with
  | [] => W.ownsRow 0 52 10 hq L.length (L.flatMap encJ)
  | v' :: _ => W.ownsRow 0 52 10 v' (L.length + 1) (L.flatMap encJ ++ encJ x) ∧ NewO w1 hq.ownBlock v'.ownBlock
theorem AppS_ext {w1 a b : World} {hq : Value} {L : List Jb} {x : Jb} {vs : List Value} (h : Below a.heap.size a b) (hs : AppS w1 hq L x vs a) : AppS w1 hq L x vs b := by
  unfold AppS at *
  split at hs
  · exact Put.own_kept hs h
  · exact ⟨Put.own_kept hs.1 h, hs.2⟩

section
variable {T : TypeId} {pre : List Value} {w w' : World} {p g : Nat} {v : Value} {L : List Jb}

/-- Another slice laid into a table. -/
theorem BV.putSlice {x : Value} {g' m c : Nat} {D : List Jb} (hT : T ≠ 52) (hp : w.heap[p]? = some (.cells (pre ++ [x]).toArray T (0, 0))) (ho : w.ownsRow 0 52 10 (.slice (some ⟨g', 0, none⟩) m c) D.length (D.flatMap encJ)) :
    BV T pre (w.setCell ⟨p, pre.length, none⟩ (.slice (some ⟨g', 0, none⟩) m c)) p (.slice (some ⟨g', 0, none⟩) m c) D ∧ ∀ o, QOff p o w (w.setCell ⟨p, pre.length, none⟩ (.slice (some ⟨g', 0, none⟩) m c)) := by
  have hlt := Put.lt_of_heap hp
  have hne : p ≠ g' := by
    rcases ho.2 with ⟨e0, _⟩ | ⟨g2, cap', cur, e0, _, hg, _⟩
    · cases e0
    · cases e0
      exact Put.apart_types hp hg hT
  refine ⟨⟨?_, own_far ho (fun k hk => by
    have : g' = k := by simpa [Value.ownBlock] using hk
    subst this
    exact fun e => hne e.symm) _ _⟩, fun o => ⟨rfl, rfl, rfl, by simp, fun k hk h1 _ => Below.heap_setCell w ⟨p, _, none⟩ _ k h1⟩⟩
  rw [Array.getElem?_eq_getElem hlt] at hp
  replace hp := Option.some.inj hp
  simp [World.setCell, hlt, Array.getElem_modify, hp]

/-- What Submit tells, and makes. -/
def SubPost (T : TypeId) (pre : List Value) (w : World) (p : Nat) (v : Value) (L : List Jb) (r : Rq) (e : Ending) (w' : World) : Prop :=
  e = .returned (.tuple #[.int .i64 (subId L r), .int .i64 (subE L r)]) ∧ ∃ v', BV T pre w' p v' (subL L r) ∧ QOff p v.ownBlock w w' ∧ NewO w v.ownBlock v'.ownBlock
theorem subPost_no {r : Rq} {e : Ending} {e1 : Int} (h : BV T pre w p v L) (he : subE L r = e1) (hne : e1 ≠ 0) (hr : e = .returned (.tuple #[.int .i64 0, .int .i64 e1])) (hb : Below w.heap.size w w') : SubPost T pre w p v L r e w' := by
  unfold subE at he
  by_cases h0 : rightF r ≠ 0
  · rw [if_pos h0] at he
    refine ⟨?_, v, ?_, QOff.of_below hb, NewO.refl _ _⟩
    · unfold subId subE; rw [if_pos h0, if_pos h0, he]; exact hr
    · unfold subL; rw [if_pos h0]; exact h.kept hb
  · rw [if_neg h0] at he
    by_cases h1 : 64 ≤ liveL L ∨ 1024 ≤ L.length
    · rw [if_pos h1] at he
      refine ⟨?_, v, ?_, QOff.of_below hb, NewO.refl _ _⟩
      · unfold subId subE; rw [if_neg h0, if_neg h0, if_pos h1, if_pos h1, he]; exact hr
      · unfold subL; rw [if_neg h0, if_pos h1]; exact h.kept hb
    · rw [if_neg h1] at he; exact absurd he.symm hne
theorem subPost_yes {r : Rq} {e : Ending} {v' : Value} (h0 : rightF r = 0) (hl : liveL L < 64) (hn : L.length < 1024) (hr : e = .returned (.tuple #[.int .i64 ((L.length : Int) + 1), .int .i64 0])) (h : BV T pre w' p v' (L ++ [newJ L r])) (hq : QOff p v.ownBlock w w') (ho : NewO w v.ownBlock v'.ownBlock) : SubPost T pre w p v L r e w' := by
  have a0 : ¬ rightF r ≠ 0 := by omega
  have a1 : ¬ (64 ≤ liveL L ∨ 1024 ≤ L.length) := by omega
  refine ⟨?_, v', ?_, hq, ho⟩
  · unfold subId subE; rw [if_neg a0, if_neg a0, if_neg a1, if_neg a1]; exact hr
  · unfold subL; rw [if_neg a0, if_neg a1]; exact h

set_option maxRecDepth 100000 in
theorem live_fn (h : PV w p v L) (hL : L.length ≤ 1000) : Calls Try.prog 20 #[.pointer (some ⟨p, 0, none⟩)] w fun e w' => e = .returned (.int .i64 (liveL L)) ∧ Below w.heap.size w w' := by
  have c0 := h.c0
  obtain ⟨n, hn⟩ : ∃ n, L.length = n := ⟨_, rfl⟩
  have HQ : Hid (∀ i, i < n → ∃ g cap, v = .slice (some ⟨g, 0, none⟩) n cap ∧ w.cell? ⟨g, i * 10 + 5, none⟩ = some (.int .i64 (L[i]!).state)) := fun i hi => by
    obtain ⟨g, cap, e⟩ := h.shape (by omega)
    subst e
    refine ⟨g, cap, by rw [hn], ?_⟩
    have := h.row.cell i L[i]! 5 _ (by rw [List.getElem?_eq_getElem (by omega), getElem!_pos L i (by omega)]) rfl
    rw [Nat.zero_add] at this
    exact this
  obtain ⟨ao, cap, rfl, _⟩ := own_shape h.own
  rw [hn] at hL c0
  replace hn := Lib.hid hn
  clear h
  go_enter Try.func20, Try.ntmps20
  go_wp2_with fail
  go_loopw [3, 4] (fun aa ii wr => ∃ (i a : Nat), i ≤ n ∧ ii = .int .i64 i ∧ aa = .int .i64 a ∧ a ≤ i ∧ Hid (a = liveL (L.take i)) ∧ w = wr) (fun _ ii _ => n - (intOf ii).toNat)
  case atStart => exact ⟨0, 0, Nat.zero_le _, rfl, rfl, Nat.le_refl _, Lib.hid rfl, rfl⟩
  case round =>
    obtain ⟨i, a, hin, rfl, rfl, la, ha, rfl⟩ := hrel
    by_cases hlt : i < n
    · have b2 : (i : Int) < (n : Int) := by omega
      have wi : IntKind.i64.wrap ((i : Int) + 1) = (i : Int) + 1 := by rw [IntKind.wrap_i64]; omega
      have wa : IntKind.i64.wrap ((a : Int) + 1) = (a : Int) + 1 := by rw [IntKind.wrap_i64]; omega
      obtain ⟨g, cap2, e2, c5⟩ := HQ.out i hlt
      cases e2
      have hiL : i < L.length := by have := hn.out; omega
      have HE : Hid (liveL (L.take (i + 1)) = liveL (L.take i) + if (L[i]!).state < 4 then 1 else 0) := by
        show _ = _
        unfold liveL
        rw [take_snoc hiL, List.countP_append, List.countP_singleton]
        simp only [decide_eq_true_eq]
      generalize (L[i]!).state = s at *
      by_cases hs : s < 4
      · have HA : Hid (a + 1 = liveL (L.take (i + 1))) := by show _ = _; rw [HE.out, if_pos hs, ha.out]
        have d : decide (s < 4) = true := decide_eq_true hs
        clear ha HE
        go_wp2_with fail
        go_roundw
        case rel => exact ⟨i + 1, a + 1, by omega, by go_num, by go_num, by omega, HA, trivial⟩
        case measure => simp [intOf]; omega
      · have HA : Hid (a = liveL (L.take (i + 1))) := by show _ = _; rw [HE.out, if_neg hs, ha.out]; rfl
        have d : decide (s < 4) = false := decide_eq_false hs
        clear ha HE
        go_wp2_with fail
        go_roundw
        case rel => exact ⟨i + 1, a, by omega, by go_num, rfl, by omega, HA, trivial⟩
        case measure => simp [intOf]; omega
    · obtain rfl : i = n := by omega
      have b2 : ¬ (i : Int) < (i : Int) := by omega
      have e1 : L.take i = L := List.take_of_length_le (by rw [hn.out]; exact Nat.le_refl _)
      have e2 := ha.out
      rw [e1] at e2
      replace e2 := Lib.hid e2
      clear e1 ha
      go_wp2_with fail
      go_ret
      exact ⟨by rw [← e2.out]; rfl, Below.refl _ _⟩


set_option maxRecDepth 1000000 in
set_option maxHeartbeats 4000000 in
theorem Submit_fn (h : TV w p v L) (hG : ∀ j ∈ L, 1 ≤ j.state ∧ j.state ≤ 6) (hL : L.length ≤ 900) (r : Rq) : Calls Try.prog 12 #[.pointer (some ⟨p, 0, none⟩), .agg (encR r).toArray] w (SubPost 61 [.bool true] w p v L r) := by
  have hmix := mixedO
  have zR := zE_req
  obtain ⟨i0, hi0, hz0, hz1, hz2⟩ := info_parts infoJob
  obtain ⟨k9, hk9⟩ : ∃ k, k = 9 := ⟨_, rfl⟩
  have lR := encR_len r
  rw [← hk9] at zR lR
  have hb1 := (Below.refl w.heap.size w).alloc (Nat.le_refl _) (.cells (encR r).toArray 23)
  have hR1 := heap_alloc_new w (.cells (encR r).toArray 23)
  have hsz1 : (w.alloc (.cells (encR r).toArray 23)).heap.size = w.heap.size + 1 := by simp
  obtain ⟨w1, hw1⟩ : ∃ w1, w1 = w.alloc (.cells (encR r).toArray 23) := ⟨_, rfl⟩
  rw [← hw1] at hb1 hR1 hsz1
  have h1 := h.kept hb1
  have lr := (show Sem.run Try.prog (loadCellsFrom ⟨w.heap.size, 0, none⟩ 0 k9 #[]) w1 = .ok (encR r).toArray w1 from run_loadCellsFrom_list Try.prog w1 _ _ k9 lR fun j u hj => by rw [Go.WideShapes.add_plain]; simpa using req_cells hR1 j u hj)
  have hno := none_fn h1
  have hrt := Right_fn r w1
  replace hk9 := Lib.hid hk9
  by_cases h0 : rightF r = 0
  · rw [h0] at hrt
    replace h := Lib.hid h
    replace h1 := Lib.hid h1
    go_enter Try.func12, Try.ntmps12
    go_wp2_with fail
    go_at_call 30
    rw [← hw1]
    replace hw1 := Lib.hid hw1
    refine hno.mono ?_
    clear hno
    rintro e w' ⟨rfl, rfl⟩
    go_wp2_with fail
    go_at_call 7
    refine hrt.mono ?_
    clear hrt lr
    rintro e w2 ⟨rfl, o2, rfl⟩
    have hb2 : Below w.heap.size w (w1.alloc o2) := hb1.alloc hb1.size _
    have hR2 : (w1.alloc o2).heap[w.heap.size]? = _ := (Go.heap_alloc_old w1 o2 (by omega)).trans hR1
    have hsz2 : w.heap.size + 1 ≤ (w1.alloc o2).heap.size := by simp [hsz1]
    generalize w1.alloc o2 = w2 at *
    have h2 := h.out.kept hb2
    have hlv := Live_fn h2 (by omega) hG
    clear h1 hb1 hR1 hsz1 h2 hG
    by_cases hfull : 64 ≤ liveL L
    · have hfin := fun (W : World) (e : Ending) hr hb => subPost_no (w' := W) (e := e) (r := r) h.out (show subE L r = 6 by unfold subE; rw [if_neg (by omega), if_pos (.inl hfull)]) (by decide) hr hb
      have d1 : decide ((64 : Int) ≤ (liveL L : Int)) = true := decide_eq_true (by omega)
      replace hfin := Lib.hid hfin
      clear h h0 hfull lR
      generalize liveL L = nl at *
      go_wp2_with fail
      go_at_call 19
      refine hlv.mono ?_
      clear hlv
      rintro e w4 ⟨rfl, hb4⟩
      have hb5 := Lib.hid (hb2.trans (hb4.mono hb2.size))
      clear hb4 hb2
      go_wp2_with fail
      go_ret2
      exact hfin.out _ _ rfl hb5.out
    · have hfin := fun (W : World) (e : Ending) (v' : Value) (hr : e = .returned (.tuple #[.int .i64 ((L.length : Int) + 1), .int .i64 0])) h ho hq => subPost_yes (T := 61) (pre := [.bool true]) (p := p) (w := w) (w' := W) (v := v) (v' := v') (r := r) (L := L) h0 (by omega) (by omega) hr h ho hq
      have d1 : decide ((64 : Int) ≤ (liveL L : Int)) = false := decide_eq_false (by omega)
      have d2 : decide ((1024 : Int) ≤ (L.length : Int)) = false := decide_eq_false (by omega)
      replace hfin := Lib.hid hfin
      clear h0 hfull
      generalize liveL L = nl at *
      go_wp2_with fail
      go_at_call 19
      refine hlv.mono ?_
      clear hlv
      rintro e w4 ⟨rfl, hb24⟩
      have hb4 : Below w.heap.size w w4 := hb2.trans (hb24.mono hb2.size)
      have hR4 := (hb24.block _ (by omega)).trans hR2
      have hT4 := h.out.kept hb4
      have hln := TLen_fn hT4
      have wn : IntKind.i64.wrap ((L.length : Int) + 1) = (L.length : Int) + 1 := by rw [IntKind.wrap_i64]; omega
      clear hb24 hb2 hR2
      replace hT4 := Lib.hid hT4
      replace hR4 := Lib.hid hR4
      replace hb4 := Lib.hid hb4
      go_wp2_with (go_at_call 18; go_must (refine hln.mono ?_); rintro e w' ⟨rfl, rfl⟩)
      obtain ⟨cY, hcY⟩ : ∃ cY, cY = encJ ((L.length : Int) + 1, r.user, r.width, r.limit, r.prio, 1, -1, -1, -1, 0) := ⟨_, rfl⟩
      have hcl : cY.length = 10 := by rw [hcY]; rfl
      simp only [encJ] at hcY
      replace hcY := Lib.hid hcY
      replace hcl := Lib.hid hcl
      refine Reg.region_mk 13 50 [[], [true], [true, true], [false, false, false], [false, false, false, true], [false, false, false, false, false], [false, false, false, false, false, true], [false, false, false, false, false, false, false], [false, false, false, false, false, false, false, true], [false, false, false, false, false, false, false, false, false], [false, false, false, false, false, false, false, false, false, true], [true, true, true, true, true, true, true, true, true, true, true], [false, false, false, false, false, false, false, false, false, false, false, false]] [0, 1, 0, 0, 1, 0, 1, 0, 1, 0, 1, 0, 1]
        [.pure, .minor Unit () (fun _ => .int .i64 (L.length : Int)) (fun _ _ => True), .pure, .pure, .minor Unit () (fun _ => .int .i64 r.user) (fun _ _ => True), .pure, .minor Unit () (fun _ => .int .i64 r.width) (fun _ _ => True), .pure, .minor Unit () (fun _ => .int .i64 r.limit) (fun _ _ => True), .pure, .minor Unit () (fun _ => .int .i64 r.prio) (fun _ _ => True), .pure, .minor Nat 0 (fun x => .pointer (some ⟨x, 0, none⟩)) (fun x W => W.heap[x]? = some (.cells #[.int .i64 0, .int .i64 0, .int .i64 0, .int .i64 0, .int .i64 0, .int .i64 0, .int .i64 0, .int .i64 0, .int .i64 0, .int .u64 0] 52 (0, 0)) ∧ w4.heap.size ≤ x)]
        (fun W => Below w4.heap.size w4 W) (fun _ _ => True) (fun a b => Below a.heap.size a b) (by kernel_rfl) (by kernel_rfl) rfl rfl (fun vs a b h hs => trivial) ?_ ?_ ?_ ?_ ?_ ?_
      · intro a b he hb; exact hb.trans (Below.mono he hb.size)
      · intro a b he hb; exact hb.trans (Below.mono he hb.size)
      · exact ⟨trivial, ⟨fun _ _ _ _ _ => trivial, fun _ _ _ _ _ => trivial⟩, trivial, trivial, ⟨fun _ _ _ _ _ => trivial, fun _ _ _ _ _ => trivial⟩, trivial, ⟨fun _ _ _ _ _ => trivial, fun _ _ _ _ _ => trivial⟩, trivial, ⟨fun _ _ _ _ _ => trivial, fun _ _ _ _ _ => trivial⟩, trivial, ⟨fun _ _ _ _ _ => trivial, fun _ _ _ _ _ => trivial⟩, trivial, ⟨fun x a b he h => ⟨(Below.block he x (Put.lt_of_heap h.1)).trans h.1, h.2⟩, fun x a b he h => ⟨(Below.block he x (Put.lt_of_heap h.1)).trans h.1, h.2⟩⟩, trivial⟩
      · exact ⟨rfl, rfl, rfl, Nat.le_refl _, fun _ _ => rfl⟩
      · trivial
      dsimp only [Reg.mk, List.zip, List.zipWith, List.take]
      repeat (refine' Reg.pass_is _ (by rfl) (fun wz => ?_) ?_; rotate_left; (go_simp; first | rfl | rw [if_neg (by omega)]); simp only [Act.put, List.setIfInBounds_toArray, List.set_cons_zero, List.set_cons_succ]; (try simp only [List.nil_append]); (try simp only [List.cons_append]); (try simp only [id]))
      refine Reg.pass_minor (by rfl) (fun wz hI hF => ?_) (fun r1 => ?_)
      · unfold Reg.One
        have hl := TLen_fn (hT4.out.kept hI)
        go_wp2_with (go_at_call 18; go_must (refine hl.mono ?_); rintro e w' ⟨rfl, rfl⟩)
        first | exact ⟨_, rfl, rfl, Reg.Ext.refl _⟩ | exact ⟨_, rfl, ⟨(), rfl, trivial⟩, Reg.Ext.refl _⟩
      simp only [Act.put, List.setIfInBounds_toArray, List.set_cons_zero, List.set_cons_succ]; (try simp only [List.nil_append]); (try simp only [List.cons_append]); (try simp only [id])
      repeat (refine' Reg.pass_is _ (by rfl) (fun wz => ?_) ?_; rotate_left; (go_simp; first | rfl | rw [if_neg (by omega)]); simp only [Act.put, List.setIfInBounds_toArray, List.set_cons_zero, List.set_cons_succ]; (try simp only [List.nil_append]); (try simp only [List.cons_append]); (try simp only [id]))
      refine Reg.pass_minor (by rfl) (fun wz hI hF => ?_) (fun r4 => ?_)
      · unfold Reg.One
        have d0 := req_cells (hI.block _ (Put.lt_of_heap hR4.out) |>.trans hR4.out) 2 _ rfl
        go_wp2_with fail
        first | exact ⟨_, rfl, rfl, Reg.Ext.refl _⟩ | exact ⟨_, rfl, ⟨(), rfl, trivial⟩, Reg.Ext.refl _⟩
      simp only [Act.put, List.setIfInBounds_toArray, List.set_cons_zero, List.set_cons_succ]; (try simp only [List.nil_append]); (try simp only [List.cons_append]); (try simp only [id])
      repeat (refine' Reg.pass_is _ (by rfl) (fun wz => ?_) ?_; rotate_left; (go_simp; first | rfl | rw [if_neg (by omega)]); simp only [Act.put, List.setIfInBounds_toArray, List.set_cons_zero, List.set_cons_succ]; (try simp only [List.nil_append]); (try simp only [List.cons_append]); (try simp only [id]))
      refine Reg.pass_minor (by rfl) (fun wz hI hF => ?_) (fun r6 => ?_)
      · unfold Reg.One
        have d0 := req_cells (hI.block _ (Put.lt_of_heap hR4.out) |>.trans hR4.out) 3 _ rfl
        go_wp2_with fail
        first | exact ⟨_, rfl, rfl, Reg.Ext.refl _⟩ | exact ⟨_, rfl, ⟨(), rfl, trivial⟩, Reg.Ext.refl _⟩
      simp only [Act.put, List.setIfInBounds_toArray, List.set_cons_zero, List.set_cons_succ]; (try simp only [List.nil_append]); (try simp only [List.cons_append]); (try simp only [id])
      repeat (refine' Reg.pass_is _ (by rfl) (fun wz => ?_) ?_; rotate_left; (go_simp; first | rfl | rw [if_neg (by omega)]); simp only [Act.put, List.setIfInBounds_toArray, List.set_cons_zero, List.set_cons_succ]; (try simp only [List.nil_append]); (try simp only [List.cons_append]); (try simp only [id]))
      refine Reg.pass_minor (by rfl) (fun wz hI hF => ?_) (fun r8 => ?_)
      · unfold Reg.One
        have d0 := req_cells (hI.block _ (Put.lt_of_heap hR4.out) |>.trans hR4.out) 4 _ rfl
        go_wp2_with fail
        first | exact ⟨_, rfl, rfl, Reg.Ext.refl _⟩ | exact ⟨_, rfl, ⟨(), rfl, trivial⟩, Reg.Ext.refl _⟩
      simp only [Act.put, List.setIfInBounds_toArray, List.set_cons_zero, List.set_cons_succ]; (try simp only [List.nil_append]); (try simp only [List.cons_append]); (try simp only [id])
      repeat (refine' Reg.pass_is _ (by rfl) (fun wz => ?_) ?_; rotate_left; (go_simp; first | rfl | rw [if_neg (by omega)]); simp only [Act.put, List.setIfInBounds_toArray, List.set_cons_zero, List.set_cons_succ]; (try simp only [List.nil_append]); (try simp only [List.cons_append]); (try simp only [id]))
      refine Reg.pass_minor (by rfl) (fun wz hI hF => ?_) (fun r10 => ?_)
      · unfold Reg.One
        have d0 := req_cells (hI.block _ (Put.lt_of_heap hR4.out) |>.trans hR4.out) 5 _ rfl
        go_wp2_with fail
        first | exact ⟨_, rfl, rfl, Reg.Ext.refl _⟩ | exact ⟨_, rfl, ⟨(), rfl, trivial⟩, Reg.Ext.refl _⟩
      simp only [Act.put, List.setIfInBounds_toArray, List.set_cons_zero, List.set_cons_succ]; (try simp only [List.nil_append]); (try simp only [List.cons_append]); (try simp only [id])
      refine Reg.pass_is (.agg cY.toArray) (by rfl) (fun wz => ?_) ?_
      · go_simp
        rw [hcY.out]
      simp only [Act.put, List.setIfInBounds_toArray, List.set_cons_zero, List.set_cons_succ]; (try simp only [List.nil_append]); (try simp only [List.cons_append]); (try simp only [id])
      refine Reg.pass_minor (by rfl) (fun wz hI hF => ?_) (fun r12 => ?_)
      · unfold Reg.One
        go_wp2_with fail
        exact ⟨_, rfl, ⟨wz.heap.size, rfl, heap_alloc_new wz _, by have := hI.size; omega⟩, (Below.refl wz.heap.size wz).alloc (Nat.le_refl _) _⟩
      simp only [Act.put, List.setIfInBounds_toArray, List.set_cons_zero, List.set_cons_succ]; (try simp only [List.nil_append]); (try simp only [List.cons_append]); (try simp only [id])
      refine Reg.pass_end ?_
      intro w5 HI5 _ HF5
      obtain ⟨hz5, hx5⟩ := HF5.2.2.2.2.2.2.2.2.2.2.2.2.1
      clear HF5 r1 r4 r6 r8 r10
      dsimp only [List.drop]
      obtain ⟨st5, hb6, off6⟩ := put_box (x := ((L.length : Int) + 1, r.user, r.width, r.limit, r.prio, 1, -1, -1, -1, 0)) (cs := [.int .i64 0, .int .i64 0, .int .i64 0, .int .i64 0, .int .i64 0, .int .i64 0, .int .i64 0, .int .i64 0, .int .i64 0, .int .u64 0]) hz5 rfl
      rw [show encJ ((L.length : Int) + 1, r.user, r.width, r.limit, r.prio, 1, -1, -1, -1, 0) = cY from hcY.out.symm] at st5 hb6 off6
      have zE := zE_job
      obtain ⟨k, hk⟩ : ∃ k, k = 10 := ⟨_, rfl⟩
      rw [← hk] at zE
      have lI : cY.length = k := by rw [hk]; exact hcl.out
      have hT5 := hT4.out.kept HI5
      have hR5 := (HI5.block _ (Put.lt_of_heap hR4.out)).trans hR4.out
      have hx0 : r12 ≠ p := fun e => by have := hT4.out.lt; omega
      have hxr : w.heap.size ≠ r12 := fun e => by have := Put.lt_of_heap hR4.out; omega
      have hwR : w.heap.size ≤ r12 := by have := hb4.out.size; omega
      have hxo : v.ownBlock ≠ some r12 := fun e => by have := (hT4.out.own.lt _ e).2; omega
      have hT6 : BV 61 [.bool true] (w5.setRow r12 cY.toArray) p v L := ⟨(off6.block p hT5.lt hx0.symm hx0.symm).trans hT5.cell, off6.own hT5.own fun k hk => ⟨fun e => hxo (by rw [hk, e]), fun e => hxo (by rw [hk, e])⟩⟩
      have hR6 := (off6.block w.heap.size (Put.lt_of_heap hR5) hxr hxr).trans hR5
      have hO6 : Below w.heap.size w (w5.setRow r12 cY.toArray) := by
        have hb5 := hb4.out.trans (HI5.mono hb4.out.size)
        have := hb4.out.size
        exact hb5.trans (off6.below (by omega) (by omega) hb5.size)
      obtain ⟨w6, hw6⟩ : ∃ w6, w6 = w5.setRow r12 cY.toArray := ⟨_, rfl⟩
      rw [← hw6] at st5 hT6 hR6 hO6 hb6
      replace hw6 := Lib.hid hw6
      have hd6 := req_cells hR6 6 _ rfl
      clear hz5 hR4 hT4 hT5 hR5 off6 hR6 HI5 hx5 hb4
      replace hT6 := Lib.hid hT6
      replace hO6 := Lib.hid hO6
      replace hb6 := Lib.hid hb6
      have f65 : w6.frozen? ⟨r12, 5, none⟩ = false := by simp [World.frozen?, hb6.out]
      have c65 : w6.cell? ⟨r12, 5, none⟩ = some (.int .i64 1) := by simp [World.cell?, hb6.out, hcY.out]
      replace hk := Lib.hid hk
      rcases Bool.eq_false_or_eq_true r.held with hh | hh
      · rw [hh] at hd6
        go_wp2_with fail
        obtain ⟨hA, offA⟩ := set_box (j := 5) (u := .int .i64 2) hb6.out
        have hT : BV 61 [.bool true] (w6.setCell ⟨r12, 5, none⟩ (.int .i64 2)) p v L := ⟨(offA.block p hT6.out.lt hx0.symm hx0.symm).trans hT6.out.cell, offA.own hT6.out.own fun k hk => ⟨fun e => hxo (by rw [hk, e]), fun e => hxo (by rw [hk, e])⟩⟩
        have hOA : Below w.heap.size w (w6.setCell ⟨r12, 5, none⟩ (.int .i64 2)) := hO6.out.trans (offA.below (by omega) (by omega) hO6.out.size)
        generalize hwA : w6.setCell ⟨r12, 5, none⟩ (.int .i64 2) = wA at *
        replace hwA := Lib.hid hwA
        have ey : ((L.length : Int) + 1, r.user, r.width, r.limit, r.prio, 2, -1, -1, -1, 0) = newJ L r := by unfold newJ; rw [hh]; rfl
        have hbne := hxo
        obtain ⟨b, hb⟩ : ∃ b, b = r12 := ⟨_, rfl⟩
        rw [← hb] at hA hbne ⊢
        replace hb := Lib.hid hb
        obtain rfl := hk.out
        clear zE lI hd6 f65 c65 hxo hx0 hb6 hT6 hO6
        obtain ⟨y, hy⟩ : ∃ y : Jb, y = ((L.length : Int) + 1, r.user, r.width, r.limit, r.prio, 2, -1, -1, -1, 0) := ⟨_, rfl⟩
        replace hA : wA.heap[b]? = some (.cells (encJ y).toArray 52 (0, 0)) := by rw [hy]; rw [hcY.out] at hA; exact hA
        have hid : y.1 = (L.length : Int) + 1 := by rw [hy]
        rw [← hy] at ey
        replace hy := Lib.hid hy
        replace hOA := Lib.hid hOA
        replace ey := Lib.hid ey
        obtain ⟨x1, x2, x3, x4, x5, x6, x7, x8, x9, x0⟩ := y
        replace hid : Hid (x1 = (L.length : Int) + 1) := Lib.hid hid
        have cA := hT.c1
        have hpl := hT.lt
        have hqp : v.ownBlock ≠ some p := hT.ob (by decide)
        have hp1g : ∀ W, wA.grownBy W v.ownBlock → W.heap[p]? = _ := fun W hW => (hW.block p hpl (fun e => hqp e.symm)).trans hT.cell
        have hn1g : ∀ W, wA.grownBy W v.ownBlock → W.heap[b]? = some (.cells (encJ (x1, x2, x3, x4, x5, x6, x7, x8, x9, x0)).toArray 52 (0, 0)) := fun W hW => (hW.block b (Put.lt_of_heap hA) (fun e => hbne e.symm)).trans hA
        have hI0 : wA.grownBy wA.drew v.ownBlock := ⟨rfl, rfl, rfl, Nat.le_refl _, fun _ _ _ => rfl⟩
        have hS0 : wA.drew.ownsRow 0 52 10 v L.length (L.flatMap encJ) := ownsRow_block hT.own fun _ _ => rfl
        have hencl : Hid ((encJ (x1, x2, x3, x4, x5, x6, x7, x8, x9, x0)).length = 10) := encJ_len _
        have henc1 : Hid (∀ u ∈ encJ (x1, x2, x3, x4, x5, x6, x7, x8, x9, x0), u.oneCell' = true) := encJ_one _
        have hqw : ∀ q, v.ownBlock = some q → q < wA.heap.size := fun q hq' => (hT.own.lt q hq').2
        replace hT := Lib.hid hT
        replace hA := Lib.hid hA
        replace hp1g := Lib.hid hp1g
        replace hn1g := Lib.hid hn1g
        replace hqp := Lib.hid hqp
        replace hqw := Lib.hid hqw
        replace hbne := Lib.hid hbne
        refine Reg.region_mk 8 50 [[], [false], [false, true], [false, true, true], [false, true, true, true], [false, false, false, false, false], [false, false, false, false, false, true], [false, true, true, true, true, true, true]] [0, 0, 0, 0, 1, 1, 1, 3]
          [.pure, .pure, .pure, .pure, .minor Unit () (fun _ => v) (fun _ _ => True), .minor Unit () (fun _ => .agg #[.int .i64 x1, .int .i64 x2, .int .i64 x3, .int .i64 x4, .int .i64 x5, .int .i64 x6, .int .i64 x7, .int .i64 x8, .int .i64 x9, .int .u64 x0]) (fun _ _ => True), .minor Nat 0 (fun x => .slice (some ⟨x, 0, none⟩) 1 1) (fun x W => W.heap[x]? = some (.cells (encJ (x1, x2, x3, x4, x5, x6, x7, x8, x9, x0)).toArray 52 (0, 0)) ∧ wA.heap.size ≤ x), .major Value undef id]
          (fun W => wA.grownBy W v.ownBlock) (AppS wA v L (x1, x2, x3, x4, x5, x6, x7, x8, x9, x0)) (fun a b => a.grownBy b v.ownBlock) (by kernel_rfl) (by kernel_rfl) rfl rfl (fun vs a b h hs => AppS_ext h hs) ?_ ?_ ?_ ?_ ?_ ?_
        · intro a b he hb
          exact ⟨he.os.trans hb.os, he.tape.trans hb.tape, he.output.trans hb.output, Nat.le_trans hb.size he.size, fun q hq' h2 => (he.block q (Nat.lt_of_lt_of_le hq' hb.size)).trans (hb.block q hq' h2)⟩
        · intro a b he hb
          exact ⟨he.os.trans hb.os, he.tape.trans hb.tape, he.output.trans hb.output, Nat.le_trans hb.size he.size, fun q hq' h2 => (he.block q (Nat.lt_of_lt_of_le hq' hb.size) h2).trans (hb.block q hq' h2)⟩
        · refine ⟨trivial, trivial, trivial, trivial, ⟨fun _ _ _ _ _ => trivial, fun _ _ _ _ _ => trivial⟩, ⟨fun _ _ _ _ _ => trivial, fun _ _ _ _ _ => trivial⟩, ⟨fun x a b he h => ⟨(he.block x (Put.lt_of_heap h.1)).trans h.1, h.2⟩, fun x a b he h => ⟨(he.block x (Put.lt_of_heap h.1) (fun e => by have := hqw.out x e.symm; have := h.2; omega)).trans h.1, h.2⟩⟩, trivial, trivial⟩
        · exact hI0
        · exact hS0
        dsimp only [Reg.mk, List.zip, List.zipWith, List.take]
        repeat (refine' Reg.pass_is _ (by rfl) (fun wz => ?_) ?_; rotate_left; (go_simp; first | rfl | rw [if_neg (by omega)]); simp only [Act.put, List.setIfInBounds_toArray, List.set_cons_zero, List.set_cons_succ]; (try simp only [List.nil_append]); (try simp only [List.cons_append]); (try simp only [id]))
        refine Reg.pass_minor (by rfl) (fun wz hI hF => ?_) (fun r4 => ?_)
        · unfold Reg.One
          have d0 : wz.cell? ⟨p, 1, none⟩ = some v := by simp [World.cell?, hp1g.out wz hI]
          go_wp2_with fail
          first | exact ⟨_, rfl, rfl, Reg.Ext.refl _⟩ | exact ⟨_, rfl, ⟨(), rfl, trivial⟩, Reg.Ext.refl _⟩
        simp only [Act.put, List.setIfInBounds_toArray, List.set_cons_zero, List.set_cons_succ]; (try simp only [List.nil_append]); (try simp only [List.cons_append]); (try simp only [id])
        refine Reg.pass_minor (by rfl) (fun wz hI hF => ?_) (fun r5 => ?_)
        · unfold Reg.One
          have kk := job_cells (hn1g.out wz hI)
          have q0 := kk 0 _ rfl
          have q1 := kk 1 _ rfl
          have q2 := kk 2 _ rfl
          have q3 := kk 3 _ rfl
          have q4 := kk 4 _ rfl
          have q5 := kk 5 _ rfl
          have q6 := kk 6 _ rfl
          have q7 := kk 7 _ rfl
          have q8 := kk 8 _ rfl
          have q9 := kk 9 _ rfl
          clear kk
          go_wp2_with fail
          first | exact ⟨_, rfl, rfl, Reg.Ext.refl _⟩ | exact ⟨_, rfl, ⟨(), rfl, trivial⟩, Reg.Ext.refl _⟩
        simp only [Act.put, List.setIfInBounds_toArray, List.set_cons_zero, List.set_cons_succ]; (try simp only [List.nil_append]); (try simp only [List.cons_append]); (try simp only [id])
        refine Reg.pass_minor (by rfl) (fun wz hI hF => ?_) (fun r6 => ?_)
        · unfold Reg.One
          go_wp2_with fail
          exact ⟨_, rfl, ⟨wz.heap.size, rfl, heap_alloc_new wz (.cells (encJ (x1, x2, x3, x4, x5, x6, x7, x8, x9, x0)).toArray 52), by have := hI.size; omega⟩, (Below.refl wz.heap.size wz).alloc (Nat.le_refl _) _⟩
        simp only [Act.put, List.setIfInBounds_toArray, List.set_cons_zero, List.set_cons_succ]; (try simp only [List.nil_append]); (try simp only [List.cons_append]); (try simp only [id])
        refine Reg.pass_major (by rfl) (fun wz hI hS hF => ?_) (fun vv => ?_)
        · unfold Reg.One
          have hS1 : wz.ownsRow 0 52 10 v L.length (L.flatMap encJ) := hS
          have hone := hF.2.2.2.2.2.1
          have hsrc : Src Try.prog 10 33 (.slice (some ⟨r6, 0, none⟩) 1 1) 1 (encJ (x1, x2, x3, x4, x5, x6, x7, x8, x9, x0)) wz := Src.ofSlice wz Try.underlying33 ⟨r6, 0, none⟩ 1 1 (encJ (x1, x2, x3, x4, x5, x6, x7, x8, x9, x0)) hencl.out (fun j u hj => by rw [Go.WideShapes.add_plain]; simpa using job_cells hone.1 j u hj) henc1.out
          have hszI := hI.size
          go_wp2_with (at_builtin; go_must (refine wpList_append_new _ rfl (.tmp 42) (.tmp 44) 33 33 rfl 0 52 i0 (.agg (encJ default).toArray) 10 80 Try.underlying33 hi0 hz0 hz1 hz2 rfl v L.length (L.flatMap encJ) rfl hS1 (.slice (some ⟨r6, 0, none⟩) 1 1) 1 (encJ (x1, x2, x3, x4, x5, x6, x7, x8, x9, x0)) rfl hsrc ?c0 ?c1 (Nat.zero_le _) ?c2))
          case c0 => unfold maxLen; omega
          case c1 => omega
          case c2 =>
            intro v' w9 ho9 hg9 hnb
            have hnn : NewO wA v.ownBlock v'.ownBlock := by
              rcases hnb with e | e
              · exact .inl e
              · exact .inr ⟨_, e, hszI⟩
            go_wp2_with fail
            exact ⟨v', rfl, ⟨ho9, hnn⟩, hg9⟩
        simp only [Act.put, List.setIfInBounds_toArray, List.set_cons_zero, List.set_cons_succ]; (try simp only [List.nil_append]); (try simp only [List.cons_append]); (try simp only [id])
        refine Reg.pass_end ?_
        intro w3 HI3 HS3 HF3
        clear HF3 hI0 hS0 r4 r5 hencl henc1
        obtain ⟨ho3, hn3⟩ : w3.ownsRow 0 52 10 vv (L.length + 1) (L.flatMap encJ ++ encJ (x1, x2, x3, x4, x5, x6, x7, x8, x9, x0)) ∧ NewO wA v.ownBlock vv.ownBlock := HS3
        obtain ⟨g', c', rfl⟩ : ∃ g' c', vv = .slice (some ⟨g', 0, none⟩) (L.length + 1) c' := by
          obtain ⟨ao', c', e, hp'⟩ := own_shape ho3
          obtain ⟨g', e2⟩ := hp' (by omega)
          exact ⟨g', c', by rw [e, e2]⟩
        have hp3 := hp1g.out w3 HI3
        have hb3 := hn1g.out w3 HI3
        obtain ⟨hT4, off4⟩ := BV.putSlice (D := L ++ [(x1, x2, x3, x4, x5, x6, x7, x8, x9, x0)]) (by decide) hp3 (by rw [List.length_append, List.flatMap_append]; simpa using ho3)
        have off4 := off4 v.ownBlock
        rw [show (List.length _ : Nat) = 1 from rfl] at hT4 off4
        have hoffA : QOff p v.ownBlock wA w3 := QOff.of_grown HI3
        have hbp : b ≠ p := fun e => by rw [e, hp3] at hb3; cases hb3
        have hb4 : (w3.setCell ⟨p, 1, none⟩ (.slice (some ⟨g', 0, none⟩) (L.length + 1) c')).heap[b]? = some (.cells (encJ (x1, x2, x3, x4, x5, x6, x7, x8, x9, x0)).toArray 52 (0, 0)) := (Below.heap_setCell w3 ⟨p, _, none⟩ _ b hbp).trans hb3
        have f3 : w3.frozen? ⟨p, 1, none⟩ = false := by simp [World.frozen?, hp3]
        have c3 : w3.cell? ⟨p, 1, none⟩ = some v := by simp [World.cell?, hp3]
        clear hp3 hb3 hT hA HI3 hp1g hn1g hqp hqw hbne cA
        dsimp only [List.drop]
        replace off4 := Lib.hid ((QOff.of_below hOA.out).trans (hoffA.trans off4 (NewO.refl _ _)) (NewO.refl _ _))
        have hN := Lib.hid (NewO.trans (w := w) (NewO.refl w v.ownBlock) hn3 hOA.out.size)
        rw [ey.out] at hT4
        have c5 : (w3.setCell ⟨p, 1, none⟩ (.slice (some ⟨g', 0, none⟩) (L.length + 1) c')).cell? ⟨b, 0, none⟩ = some (.int .i64 ((L.length : Int) + 1)) := by rw [← hid.out]; exact job_cells hb4 0 _ rfl
        replace hT4 := Lib.hid hT4
        replace hb4 := Lib.hid hb4
        clear hoffA hn3 ho3
        go_wp2_with fail
        go_ret2
        exact hfin.out _ _ _ (by rfl) hT4.out off4.out hN.out
      · rw [hh] at hd6
        go_wp2_with fail
        have hA := hb6.out
        have hT := hT6.out
        have hOA := hO6.out
        clear hxr
        obtain ⟨wA, hwA⟩ : ∃ wA, wA = w6 := ⟨_, rfl⟩
        rw [← hwA] at hA hT hOA ⊢
        replace hwA := Lib.hid hwA
        have ey : ((L.length : Int) + 1, r.user, r.width, r.limit, r.prio, 1, -1, -1, -1, 0) = newJ L r := by unfold newJ; rw [hh]; rfl
        have hbne := hxo
        obtain ⟨b, hb⟩ : ∃ b, b = r12 := ⟨_, rfl⟩
        rw [← hb] at hA hbne ⊢
        replace hb := Lib.hid hb
        obtain rfl := hk.out
        clear zE lI hd6 f65 c65 hxo hx0 hb6 hT6 hO6
        obtain ⟨y, hy⟩ : ∃ y : Jb, y = ((L.length : Int) + 1, r.user, r.width, r.limit, r.prio, 1, -1, -1, -1, 0) := ⟨_, rfl⟩
        replace hA : wA.heap[b]? = some (.cells (encJ y).toArray 52 (0, 0)) := by rw [hy]; rw [hcY.out] at hA; exact hA
        have hid : y.1 = (L.length : Int) + 1 := by rw [hy]
        rw [← hy] at ey
        replace hy := Lib.hid hy
        replace hOA := Lib.hid hOA
        replace ey := Lib.hid ey
        obtain ⟨x1, x2, x3, x4, x5, x6, x7, x8, x9, x0⟩ := y
        replace hid : Hid (x1 = (L.length : Int) + 1) := Lib.hid hid
        have cA := hT.c1
        have hpl := hT.lt
        have hqp : v.ownBlock ≠ some p := hT.ob (by decide)
        have hp1g : ∀ W, wA.grownBy W v.ownBlock → W.heap[p]? = _ := fun W hW => (hW.block p hpl (fun e => hqp e.symm)).trans hT.cell
        have hn1g : ∀ W, wA.grownBy W v.ownBlock → W.heap[b]? = some (.cells (encJ (x1, x2, x3, x4, x5, x6, x7, x8, x9, x0)).toArray 52 (0, 0)) := fun W hW => (hW.block b (Put.lt_of_heap hA) (fun e => hbne e.symm)).trans hA
        have hI0 : wA.grownBy wA.drew v.ownBlock := ⟨rfl, rfl, rfl, Nat.le_refl _, fun _ _ _ => rfl⟩
        have hS0 : wA.drew.ownsRow 0 52 10 v L.length (L.flatMap encJ) := ownsRow_block hT.own fun _ _ => rfl
        have hencl : Hid ((encJ (x1, x2, x3, x4, x5, x6, x7, x8, x9, x0)).length = 10) := encJ_len _
        have henc1 : Hid (∀ u ∈ encJ (x1, x2, x3, x4, x5, x6, x7, x8, x9, x0), u.oneCell' = true) := encJ_one _
        have hqw : ∀ q, v.ownBlock = some q → q < wA.heap.size := fun q hq' => (hT.own.lt q hq').2
        replace hT := Lib.hid hT
        replace hA := Lib.hid hA
        replace hp1g := Lib.hid hp1g
        replace hn1g := Lib.hid hn1g
        replace hqp := Lib.hid hqp
        replace hqw := Lib.hid hqw
        replace hbne := Lib.hid hbne
        refine Reg.region_mk 8 50 [[], [false], [false, true], [false, true, true], [false, true, true, true], [false, false, false, false, false], [false, false, false, false, false, true], [false, true, true, true, true, true, true]] [0, 0, 0, 0, 1, 1, 1, 3]
          [.pure, .pure, .pure, .pure, .minor Unit () (fun _ => v) (fun _ _ => True), .minor Unit () (fun _ => .agg #[.int .i64 x1, .int .i64 x2, .int .i64 x3, .int .i64 x4, .int .i64 x5, .int .i64 x6, .int .i64 x7, .int .i64 x8, .int .i64 x9, .int .u64 x0]) (fun _ _ => True), .minor Nat 0 (fun x => .slice (some ⟨x, 0, none⟩) 1 1) (fun x W => W.heap[x]? = some (.cells (encJ (x1, x2, x3, x4, x5, x6, x7, x8, x9, x0)).toArray 52 (0, 0)) ∧ wA.heap.size ≤ x), .major Value undef id]
          (fun W => wA.grownBy W v.ownBlock) (AppS wA v L (x1, x2, x3, x4, x5, x6, x7, x8, x9, x0)) (fun a b => a.grownBy b v.ownBlock) (by kernel_rfl) (by kernel_rfl) rfl rfl (fun vs a b h hs => AppS_ext h hs) ?_ ?_ ?_ ?_ ?_ ?_
        · intro a b he hb
          exact ⟨he.os.trans hb.os, he.tape.trans hb.tape, he.output.trans hb.output, Nat.le_trans hb.size he.size, fun q hq' h2 => (he.block q (Nat.lt_of_lt_of_le hq' hb.size)).trans (hb.block q hq' h2)⟩
        · intro a b he hb
          exact ⟨he.os.trans hb.os, he.tape.trans hb.tape, he.output.trans hb.output, Nat.le_trans hb.size he.size, fun q hq' h2 => (he.block q (Nat.lt_of_lt_of_le hq' hb.size) h2).trans (hb.block q hq' h2)⟩
        · refine ⟨trivial, trivial, trivial, trivial, ⟨fun _ _ _ _ _ => trivial, fun _ _ _ _ _ => trivial⟩, ⟨fun _ _ _ _ _ => trivial, fun _ _ _ _ _ => trivial⟩, ⟨fun x a b he h => ⟨(he.block x (Put.lt_of_heap h.1)).trans h.1, h.2⟩, fun x a b he h => ⟨(he.block x (Put.lt_of_heap h.1) (fun e => by have := hqw.out x e.symm; have := h.2; omega)).trans h.1, h.2⟩⟩, trivial, trivial⟩
        · exact hI0
        · exact hS0
        dsimp only [Reg.mk, List.zip, List.zipWith, List.take]
        repeat (refine' Reg.pass_is _ (by rfl) (fun wz => ?_) ?_; rotate_left; (go_simp; first | rfl | rw [if_neg (by omega)]); simp only [Act.put, List.setIfInBounds_toArray, List.set_cons_zero, List.set_cons_succ]; (try simp only [List.nil_append]); (try simp only [List.cons_append]); (try simp only [id]))
        refine Reg.pass_minor (by rfl) (fun wz hI hF => ?_) (fun r4 => ?_)
        · unfold Reg.One
          have d0 : wz.cell? ⟨p, 1, none⟩ = some v := by simp [World.cell?, hp1g.out wz hI]
          go_wp2_with fail
          first | exact ⟨_, rfl, rfl, Reg.Ext.refl _⟩ | exact ⟨_, rfl, ⟨(), rfl, trivial⟩, Reg.Ext.refl _⟩
        simp only [Act.put, List.setIfInBounds_toArray, List.set_cons_zero, List.set_cons_succ]; (try simp only [List.nil_append]); (try simp only [List.cons_append]); (try simp only [id])
        refine Reg.pass_minor (by rfl) (fun wz hI hF => ?_) (fun r5 => ?_)
        · unfold Reg.One
          have kk := job_cells (hn1g.out wz hI)
          have q0 := kk 0 _ rfl
          have q1 := kk 1 _ rfl
          have q2 := kk 2 _ rfl
          have q3 := kk 3 _ rfl
          have q4 := kk 4 _ rfl
          have q5 := kk 5 _ rfl
          have q6 := kk 6 _ rfl
          have q7 := kk 7 _ rfl
          have q8 := kk 8 _ rfl
          have q9 := kk 9 _ rfl
          clear kk
          go_wp2_with fail
          first | exact ⟨_, rfl, rfl, Reg.Ext.refl _⟩ | exact ⟨_, rfl, ⟨(), rfl, trivial⟩, Reg.Ext.refl _⟩
        simp only [Act.put, List.setIfInBounds_toArray, List.set_cons_zero, List.set_cons_succ]; (try simp only [List.nil_append]); (try simp only [List.cons_append]); (try simp only [id])
        refine Reg.pass_minor (by rfl) (fun wz hI hF => ?_) (fun r6 => ?_)
        · unfold Reg.One
          go_wp2_with fail
          exact ⟨_, rfl, ⟨wz.heap.size, rfl, heap_alloc_new wz (.cells (encJ (x1, x2, x3, x4, x5, x6, x7, x8, x9, x0)).toArray 52), by have := hI.size; omega⟩, (Below.refl wz.heap.size wz).alloc (Nat.le_refl _) _⟩
        simp only [Act.put, List.setIfInBounds_toArray, List.set_cons_zero, List.set_cons_succ]; (try simp only [List.nil_append]); (try simp only [List.cons_append]); (try simp only [id])
        refine Reg.pass_major (by rfl) (fun wz hI hS hF => ?_) (fun vv => ?_)
        · unfold Reg.One
          have hS1 : wz.ownsRow 0 52 10 v L.length (L.flatMap encJ) := hS
          have hone := hF.2.2.2.2.2.1
          have hsrc : Src Try.prog 10 33 (.slice (some ⟨r6, 0, none⟩) 1 1) 1 (encJ (x1, x2, x3, x4, x5, x6, x7, x8, x9, x0)) wz := Src.ofSlice wz Try.underlying33 ⟨r6, 0, none⟩ 1 1 (encJ (x1, x2, x3, x4, x5, x6, x7, x8, x9, x0)) hencl.out (fun j u hj => by rw [Go.WideShapes.add_plain]; simpa using job_cells hone.1 j u hj) henc1.out
          have hszI := hI.size
          go_wp2_with (at_builtin; go_must (refine wpList_append_new _ rfl (.tmp 42) (.tmp 44) 33 33 rfl 0 52 i0 (.agg (encJ default).toArray) 10 80 Try.underlying33 hi0 hz0 hz1 hz2 rfl v L.length (L.flatMap encJ) rfl hS1 (.slice (some ⟨r6, 0, none⟩) 1 1) 1 (encJ (x1, x2, x3, x4, x5, x6, x7, x8, x9, x0)) rfl hsrc ?c0 ?c1 (Nat.zero_le _) ?c2))
          case c0 => unfold maxLen; omega
          case c1 => omega
          case c2 =>
            intro v' w9 ho9 hg9 hnb
            have hnn : NewO wA v.ownBlock v'.ownBlock := by
              rcases hnb with e | e
              · exact .inl e
              · exact .inr ⟨_, e, hszI⟩
            go_wp2_with fail
            exact ⟨v', rfl, ⟨ho9, hnn⟩, hg9⟩
        simp only [Act.put, List.setIfInBounds_toArray, List.set_cons_zero, List.set_cons_succ]; (try simp only [List.nil_append]); (try simp only [List.cons_append]); (try simp only [id])
        refine Reg.pass_end ?_
        intro w3 HI3 HS3 HF3
        clear HF3 hI0 hS0 r4 r5 hencl henc1
        obtain ⟨ho3, hn3⟩ : w3.ownsRow 0 52 10 vv (L.length + 1) (L.flatMap encJ ++ encJ (x1, x2, x3, x4, x5, x6, x7, x8, x9, x0)) ∧ NewO wA v.ownBlock vv.ownBlock := HS3
        obtain ⟨g', c', rfl⟩ : ∃ g' c', vv = .slice (some ⟨g', 0, none⟩) (L.length + 1) c' := by
          obtain ⟨ao', c', e, hp'⟩ := own_shape ho3
          obtain ⟨g', e2⟩ := hp' (by omega)
          exact ⟨g', c', by rw [e, e2]⟩
        have hp3 := hp1g.out w3 HI3
        have hb3 := hn1g.out w3 HI3
        obtain ⟨hT4, off4⟩ := BV.putSlice (D := L ++ [(x1, x2, x3, x4, x5, x6, x7, x8, x9, x0)]) (by decide) hp3 (by rw [List.length_append, List.flatMap_append]; simpa using ho3)
        have off4 := off4 v.ownBlock
        rw [show (List.length _ : Nat) = 1 from rfl] at hT4 off4
        have hoffA : QOff p v.ownBlock wA w3 := QOff.of_grown HI3
        have hbp : b ≠ p := fun e => by rw [e, hp3] at hb3; cases hb3
        have hb4 : (w3.setCell ⟨p, 1, none⟩ (.slice (some ⟨g', 0, none⟩) (L.length + 1) c')).heap[b]? = some (.cells (encJ (x1, x2, x3, x4, x5, x6, x7, x8, x9, x0)).toArray 52 (0, 0)) := (Below.heap_setCell w3 ⟨p, _, none⟩ _ b hbp).trans hb3
        have f3 : w3.frozen? ⟨p, 1, none⟩ = false := by simp [World.frozen?, hp3]
        have c3 : w3.cell? ⟨p, 1, none⟩ = some v := by simp [World.cell?, hp3]
        clear hp3 hb3 hT hA HI3 hp1g hn1g hqp hqw hbne cA
        dsimp only [List.drop]
        replace off4 := Lib.hid ((QOff.of_below hOA.out).trans (hoffA.trans off4 (NewO.refl _ _)) (NewO.refl _ _))
        have hN := Lib.hid (NewO.trans (w := w) (NewO.refl w v.ownBlock) hn3 hOA.out.size)
        rw [ey.out] at hT4
        have c5 : (w3.setCell ⟨p, 1, none⟩ (.slice (some ⟨g', 0, none⟩) (L.length + 1) c')).cell? ⟨b, 0, none⟩ = some (.int .i64 ((L.length : Int) + 1)) := by rw [← hid.out]; exact job_cells hb4 0 _ rfl
        replace hT4 := Lib.hid hT4
        replace hb4 := Lib.hid hb4
        clear hoffA hn3 ho3
        go_wp2_with fail
        go_ret2
        exact hfin.out _ _ _ (by rfl) hT4.out off4.out hN.out
  · have hfin := fun (W : World) (e : Ending) hr hb => subPost_no (w' := W) (e := e) (r := r) h (show subE L r = rightF r by unfold subE; rw [if_pos h0]) h0 hr hb
    have d1 : (rightF r == 0) = false := beq_eq_false_iff_ne.2 h0
    replace hfin := Lib.hid hfin
    clear h h1 h0
    generalize rightF r = e1 at *
    go_enter Try.func12, Try.ntmps12
    go_wp2_with fail
    go_at_call 30
    rw [← hw1]
    replace hw1 := Lib.hid hw1
    refine hno.mono ?_
    clear hno
    rintro e w' ⟨rfl, rfl⟩
    go_wp2_with fail
    go_at_call 7
    refine hrt.mono ?_
    clear hrt lr
    rintro e w2 ⟨rfl, o2, rfl⟩
    have hb2 : Below w.heap.size w (w1.alloc o2) := hb1.alloc hb1.size _
    replace hb2 := Lib.hid hb2
    clear hR1 hb1
    go_wp2_with fail
    go_ret2
    exact hfin.out _ _ rfl hb2.out

set_option maxRecDepth 1000000 in
set_option maxHeartbeats 4000000 in
theorem submit_fn (h : PV w p v L) (hL : L.length ≤ 900) (r : Rq) : Calls Try.prog 13 #[.pointer (some ⟨p, 0, none⟩), .agg (encR r).toArray] w (SubPost 35 [] w p v L r) := by
  have hmix := mixedO
  have zR := zE_req
  obtain ⟨i0, hi0, hz0, hz1, hz2⟩ := info_parts infoJob
  obtain ⟨k9, hk9⟩ : ∃ k, k = 9 := ⟨_, rfl⟩
  have lR := encR_len r
  rw [← hk9] at zR lR
  have hb1 := (Below.refl w.heap.size w).alloc (Nat.le_refl _) (.cells (encR r).toArray 23)
  have hR1 := heap_alloc_new w (.cells (encR r).toArray 23)
  have hsz1 : (w.alloc (.cells (encR r).toArray 23)).heap.size = w.heap.size + 1 := by simp
  obtain ⟨w1, hw1⟩ : ∃ w1, w1 = w.alloc (.cells (encR r).toArray 23) := ⟨_, rfl⟩
  rw [← hw1] at hb1 hR1 hsz1
  have h1 := h.kept hb1
  have lr := (show Sem.run Try.prog (loadCellsFrom ⟨w.heap.size, 0, none⟩ 0 k9 #[]) w1 = .ok (encR r).toArray w1 from run_loadCellsFrom_list Try.prog w1 _ _ k9 lR fun j u hj => by rw [Go.WideShapes.add_plain]; simpa using req_cells hR1 j u hj)
  rw [hw1] at lr
  have hrt := right_fn r w1
  replace hk9 := Lib.hid hk9
  by_cases h0 : rightF r = 0
  · rw [h0] at hrt
    replace h := Lib.hid h
    replace h1 := Lib.hid h1
    go_enter Try.func13, Try.ntmps13
    go_wp2_with fail
    go_at_call 8
    rw [← hw1]
    replace hw1 := Lib.hid hw1
    refine hrt.mono ?_
    clear hrt lr
    rintro e w2 ⟨rfl, o2, rfl⟩
    have hb2 : Below w.heap.size w (w1.alloc o2) := hb1.alloc hb1.size _
    have hR2 : (w1.alloc o2).heap[w.heap.size]? = _ := (Go.heap_alloc_old w1 o2 (by omega)).trans hR1
    have hsz2 : w.heap.size + 1 ≤ (w1.alloc o2).heap.size := by simp [hsz1]
    generalize w1.alloc o2 = w2 at *
    have h2 := h.out.kept hb2
    have hlv := live_fn h2 (by omega)
    clear h1 hb1 hR1 hsz1 h2
    by_cases hfull : 64 ≤ liveL L
    · have hfin := fun (W : World) (e : Ending) hr hb => subPost_no (w' := W) (e := e) (r := r) h.out (show subE L r = 6 by unfold subE; rw [if_neg (by omega), if_pos (.inl hfull)]) (by decide) hr hb
      have d1 : decide ((63 : Int) < (liveL L : Int)) = true := decide_eq_true (by omega)
      replace hfin := Lib.hid hfin
      clear h h0 hfull lR
      generalize liveL L = nl at *
      go_wp2_with fail
      go_at_call 20
      refine hlv.mono ?_
      clear hlv
      rintro e w4 ⟨rfl, hb4⟩
      have hb5 := Lib.hid (hb2.trans (hb4.mono hb2.size))
      clear hb4 hb2
      go_wp2_with fail
      go_ret2
      exact hfin.out _ _ rfl hb5.out
    · have hfin := fun (W : World) (e : Ending) (v' : Value) (hr : e = .returned (.tuple #[.int .i64 ((L.length : Int) + 1), .int .i64 0])) h ho hq => subPost_yes (T := 35) (pre := []) (p := p) (w := w) (w' := W) (v := v) (v' := v') (r := r) (L := L) h0 (by omega) (by omega) hr h ho hq
      have d1 : decide ((63 : Int) < (liveL L : Int)) = false := decide_eq_false (by omega)
      have d2 : decide ((1023 : Int) < (L.length : Int)) = false := decide_eq_false (by omega)
      replace hfin := Lib.hid hfin
      clear h0 hfull
      generalize liveL L = nl at *
      go_wp2_with fail
      go_at_call 20
      refine hlv.mono ?_
      clear hlv
      rintro e w4 ⟨rfl, hb24⟩
      have hb4 : Below w.heap.size w w4 := hb2.trans (hb24.mono hb2.size)
      have hR4 := (hb24.block _ (by omega)).trans hR2
      have hT4 := h.out.kept hb4
      have c4 := hT4.c0
      obtain ⟨ao, cap, hv, _⟩ := own_shape hT4.own
      rw [hv] at c4
      replace hv := Lib.hid hv
      have wn : IntKind.i64.wrap ((L.length : Int) + 1) = (L.length : Int) + 1 := by rw [IntKind.wrap_i64]; omega
      clear hb24 hb2 hR2
      replace hT4 := Lib.hid hT4
      replace hR4 := Lib.hid hR4
      replace hb4 := Lib.hid hb4
      go_wp2_with fail
      obtain ⟨cY, hcY⟩ : ∃ cY, cY = encJ ((L.length : Int) + 1, r.user, r.width, r.limit, r.prio, 1, -1, -1, -1, 0) := ⟨_, rfl⟩
      have hcl : cY.length = 10 := by rw [hcY]; rfl
      simp only [encJ] at hcY
      replace hcY := Lib.hid hcY
      replace hcl := Lib.hid hcl
      refine Reg.region_mk 16 56 [[], [true], [true, true], [true, true, true], [true, true, true, true], [true, true, true, true, true], [false, false, false, false, false, false], [false, false, false, false, false, false, true], [false, false, false, false, false, false, false, false], [false, false, false, false, false, false, false, false, true], [false, false, false, false, false, false, false, false, false, false], [false, false, false, false, false, false, false, false, false, false, true], [false, false, false, false, false, false, false, false, false, false, false, false], [false, false, false, false, false, false, false, false, false, false, false, false, true], [true, true, true, true, true, true, true, true, true, true, true, true, true, true], [false, false, false, false, false, false, false, false, false, false, false, false, false, false, false]] [0, 0, 0, 1, 0, 0, 0, 1, 0, 1, 0, 1, 0, 1, 0, 1]
        [.pure, .pure, .pure, .minor Unit () (fun _ => .slice ao L.length cap) (fun _ _ => True), .pure, .pure, .pure, .minor Unit () (fun _ => .int .i64 r.user) (fun _ _ => True), .pure, .minor Unit () (fun _ => .int .i64 r.width) (fun _ _ => True), .pure, .minor Unit () (fun _ => .int .i64 r.limit) (fun _ _ => True), .pure, .minor Unit () (fun _ => .int .i64 r.prio) (fun _ _ => True), .pure, .minor Nat 0 (fun x => .pointer (some ⟨x, 0, none⟩)) (fun x W => W.heap[x]? = some (.cells #[.int .i64 0, .int .i64 0, .int .i64 0, .int .i64 0, .int .i64 0, .int .i64 0, .int .i64 0, .int .i64 0, .int .i64 0, .int .u64 0] 52 (0, 0)) ∧ w4.heap.size ≤ x)]
        (fun W => Below w4.heap.size w4 W) (fun _ _ => True) (fun a b => Below a.heap.size a b) (by kernel_rfl) (by kernel_rfl) rfl rfl (fun vs a b h hs => trivial) ?_ ?_ ?_ ?_ ?_ ?_
      · intro a b he hb; exact hb.trans (Below.mono he hb.size)
      · intro a b he hb; exact hb.trans (Below.mono he hb.size)
      · exact ⟨trivial, trivial, trivial, ⟨fun _ _ _ _ _ => trivial, fun _ _ _ _ _ => trivial⟩, trivial, trivial, trivial, ⟨fun _ _ _ _ _ => trivial, fun _ _ _ _ _ => trivial⟩, trivial, ⟨fun _ _ _ _ _ => trivial, fun _ _ _ _ _ => trivial⟩, trivial, ⟨fun _ _ _ _ _ => trivial, fun _ _ _ _ _ => trivial⟩, trivial, ⟨fun _ _ _ _ _ => trivial, fun _ _ _ _ _ => trivial⟩, trivial, ⟨fun x a b he h => ⟨(Below.block he x (Put.lt_of_heap h.1)).trans h.1, h.2⟩, fun x a b he h => ⟨(Below.block he x (Put.lt_of_heap h.1)).trans h.1, h.2⟩⟩, trivial⟩
      · exact ⟨rfl, rfl, rfl, Nat.le_refl _, fun _ _ => rfl⟩
      · trivial
      dsimp only [Reg.mk, List.zip, List.zipWith, List.take]
      repeat (refine' Reg.pass_is _ (by rfl) (fun wz => ?_) ?_; rotate_left; (go_simp; first | rfl | rw [if_neg (by omega)]); simp only [Act.put, List.setIfInBounds_toArray, List.set_cons_zero, List.set_cons_succ]; (try simp only [List.nil_append]); (try simp only [List.cons_append]); (try simp only [id]))
      refine Reg.pass_minor (by rfl) (fun wz hI hF => ?_) (fun r3 => ?_)
      · unfold Reg.One
        have d0 := (hT4.out.kept hI).c0
        rw [hv.out] at d0
        go_wp2_with fail
        first | exact ⟨_, rfl, rfl, Reg.Ext.refl _⟩ | exact ⟨_, rfl, ⟨(), rfl, trivial⟩, Reg.Ext.refl _⟩
      simp only [Act.put, List.setIfInBounds_toArray, List.set_cons_zero, List.set_cons_succ]; (try simp only [List.nil_append]); (try simp only [List.cons_append]); (try simp only [id])
      repeat (refine' Reg.pass_is _ (by rfl) (fun wz => ?_) ?_; rotate_left; (go_simp; first | rfl | rw [if_neg (by omega)]); simp only [Act.put, List.setIfInBounds_toArray, List.set_cons_zero, List.set_cons_succ]; (try simp only [List.nil_append]); (try simp only [List.cons_append]); (try simp only [id]))
      refine Reg.pass_minor (by rfl) (fun wz hI hF => ?_) (fun r7 => ?_)
      · unfold Reg.One
        have d0 := req_cells (hI.block _ (Put.lt_of_heap hR4.out) |>.trans hR4.out) 2 _ rfl
        go_wp2_with fail
        first | exact ⟨_, rfl, rfl, Reg.Ext.refl _⟩ | exact ⟨_, rfl, ⟨(), rfl, trivial⟩, Reg.Ext.refl _⟩
      simp only [Act.put, List.setIfInBounds_toArray, List.set_cons_zero, List.set_cons_succ]; (try simp only [List.nil_append]); (try simp only [List.cons_append]); (try simp only [id])
      repeat (refine' Reg.pass_is _ (by rfl) (fun wz => ?_) ?_; rotate_left; (go_simp; first | rfl | rw [if_neg (by omega)]); simp only [Act.put, List.setIfInBounds_toArray, List.set_cons_zero, List.set_cons_succ]; (try simp only [List.nil_append]); (try simp only [List.cons_append]); (try simp only [id]))
      refine Reg.pass_minor (by rfl) (fun wz hI hF => ?_) (fun r9 => ?_)
      · unfold Reg.One
        have d0 := req_cells (hI.block _ (Put.lt_of_heap hR4.out) |>.trans hR4.out) 3 _ rfl
        go_wp2_with fail
        first | exact ⟨_, rfl, rfl, Reg.Ext.refl _⟩ | exact ⟨_, rfl, ⟨(), rfl, trivial⟩, Reg.Ext.refl _⟩
      simp only [Act.put, List.setIfInBounds_toArray, List.set_cons_zero, List.set_cons_succ]; (try simp only [List.nil_append]); (try simp only [List.cons_append]); (try simp only [id])
      repeat (refine' Reg.pass_is _ (by rfl) (fun wz => ?_) ?_; rotate_left; (go_simp; first | rfl | rw [if_neg (by omega)]); simp only [Act.put, List.setIfInBounds_toArray, List.set_cons_zero, List.set_cons_succ]; (try simp only [List.nil_append]); (try simp only [List.cons_append]); (try simp only [id]))
      refine Reg.pass_minor (by rfl) (fun wz hI hF => ?_) (fun r11 => ?_)
      · unfold Reg.One
        have d0 := req_cells (hI.block _ (Put.lt_of_heap hR4.out) |>.trans hR4.out) 4 _ rfl
        go_wp2_with fail
        first | exact ⟨_, rfl, rfl, Reg.Ext.refl _⟩ | exact ⟨_, rfl, ⟨(), rfl, trivial⟩, Reg.Ext.refl _⟩
      simp only [Act.put, List.setIfInBounds_toArray, List.set_cons_zero, List.set_cons_succ]; (try simp only [List.nil_append]); (try simp only [List.cons_append]); (try simp only [id])
      repeat (refine' Reg.pass_is _ (by rfl) (fun wz => ?_) ?_; rotate_left; (go_simp; first | rfl | rw [if_neg (by omega)]); simp only [Act.put, List.setIfInBounds_toArray, List.set_cons_zero, List.set_cons_succ]; (try simp only [List.nil_append]); (try simp only [List.cons_append]); (try simp only [id]))
      refine Reg.pass_minor (by rfl) (fun wz hI hF => ?_) (fun r13 => ?_)
      · unfold Reg.One
        have d0 := req_cells (hI.block _ (Put.lt_of_heap hR4.out) |>.trans hR4.out) 5 _ rfl
        go_wp2_with fail
        first | exact ⟨_, rfl, rfl, Reg.Ext.refl _⟩ | exact ⟨_, rfl, ⟨(), rfl, trivial⟩, Reg.Ext.refl _⟩
      simp only [Act.put, List.setIfInBounds_toArray, List.set_cons_zero, List.set_cons_succ]; (try simp only [List.nil_append]); (try simp only [List.cons_append]); (try simp only [id])
      refine Reg.pass_is (.agg cY.toArray) (by rfl) (fun wz => ?_) ?_
      · go_simp
        rw [hcY.out]
      simp only [Act.put, List.setIfInBounds_toArray, List.set_cons_zero, List.set_cons_succ]; (try simp only [List.nil_append]); (try simp only [List.cons_append]); (try simp only [id])
      refine Reg.pass_minor (by rfl) (fun wz hI hF => ?_) (fun r15 => ?_)
      · unfold Reg.One
        go_wp2_with fail
        exact ⟨_, rfl, ⟨wz.heap.size, rfl, heap_alloc_new wz _, by have := hI.size; omega⟩, (Below.refl wz.heap.size wz).alloc (Nat.le_refl _) _⟩
      simp only [Act.put, List.setIfInBounds_toArray, List.set_cons_zero, List.set_cons_succ]; (try simp only [List.nil_append]); (try simp only [List.cons_append]); (try simp only [id])
      refine Reg.pass_end ?_
      intro w5 HI5 _ HF5
      obtain ⟨hz5, hx5⟩ := HF5.2.2.2.2.2.2.2.2.2.2.2.2.2.2.2.1
      clear HF5 r3 r7 r9 r11 r13
      dsimp only [List.drop]
      obtain ⟨st5, hb6, off6⟩ := put_box (x := ((L.length : Int) + 1, r.user, r.width, r.limit, r.prio, 1, -1, -1, -1, 0)) (cs := [.int .i64 0, .int .i64 0, .int .i64 0, .int .i64 0, .int .i64 0, .int .i64 0, .int .i64 0, .int .i64 0, .int .i64 0, .int .u64 0]) hz5 rfl
      rw [show encJ ((L.length : Int) + 1, r.user, r.width, r.limit, r.prio, 1, -1, -1, -1, 0) = cY from hcY.out.symm] at st5 hb6 off6
      have zE := zE_job
      obtain ⟨k, hk⟩ : ∃ k, k = 10 := ⟨_, rfl⟩
      rw [← hk] at zE
      have lI : cY.length = k := by rw [hk]; exact hcl.out
      have hT5 := hT4.out.kept HI5
      have hR5 := (HI5.block _ (Put.lt_of_heap hR4.out)).trans hR4.out
      have hx0 : r15 ≠ p := fun e => by have := hT4.out.lt; omega
      have hxr : w.heap.size ≠ r15 := fun e => by have := Put.lt_of_heap hR4.out; omega
      have hwR : w.heap.size ≤ r15 := by have := hb4.out.size; omega
      have hxo : v.ownBlock ≠ some r15 := fun e => by have := (hT4.out.own.lt _ e).2; omega
      have hT6 : BV 35 [] (w5.setRow r15 cY.toArray) p v L := ⟨(off6.block p hT5.lt hx0.symm hx0.symm).trans hT5.cell, off6.own hT5.own fun k hk => ⟨fun e => hxo (by rw [hk, e]), fun e => hxo (by rw [hk, e])⟩⟩
      have hR6 := (off6.block w.heap.size (Put.lt_of_heap hR5) hxr hxr).trans hR5
      have hO6 : Below w.heap.size w (w5.setRow r15 cY.toArray) := by
        have hb5 := hb4.out.trans (HI5.mono hb4.out.size)
        have := hb4.out.size
        exact hb5.trans (off6.below (by omega) (by omega) hb5.size)
      obtain ⟨w6, hw6⟩ : ∃ w6, w6 = w5.setRow r15 cY.toArray := ⟨_, rfl⟩
      rw [← hw6] at st5 hT6 hR6 hO6 hb6
      replace hw6 := Lib.hid hw6
      have hd6 := req_cells hR6 6 _ rfl
      clear hz5 hR4 hT4 hT5 hR5 off6 hR6 HI5 hx5 hb4
      replace hT6 := Lib.hid hT6
      replace hO6 := Lib.hid hO6
      replace hb6 := Lib.hid hb6
      have f65 : w6.frozen? ⟨r15, 5, none⟩ = false := by simp [World.frozen?, hb6.out]
      have c65 : w6.cell? ⟨r15, 5, none⟩ = some (.int .i64 1) := by simp [World.cell?, hb6.out, hcY.out]
      replace hk := Lib.hid hk
      rcases Bool.eq_false_or_eq_true r.held with hh | hh
      · rw [hh] at hd6
        go_wp2_with fail
        obtain ⟨hA, offA⟩ := set_box (j := 5) (u := .int .i64 2) hb6.out
        have hT : BV 35 [] (w6.setCell ⟨r15, 5, none⟩ (.int .i64 2)) p v L := ⟨(offA.block p hT6.out.lt hx0.symm hx0.symm).trans hT6.out.cell, offA.own hT6.out.own fun k hk => ⟨fun e => hxo (by rw [hk, e]), fun e => hxo (by rw [hk, e])⟩⟩
        have hOA : Below w.heap.size w (w6.setCell ⟨r15, 5, none⟩ (.int .i64 2)) := hO6.out.trans (offA.below (by omega) (by omega) hO6.out.size)
        generalize hwA : w6.setCell ⟨r15, 5, none⟩ (.int .i64 2) = wA at *
        replace hwA := Lib.hid hwA
        have ey : ((L.length : Int) + 1, r.user, r.width, r.limit, r.prio, 2, -1, -1, -1, 0) = newJ L r := by unfold newJ; rw [hh]; rfl
        have hbne := hxo
        obtain ⟨b, hb⟩ : ∃ b, b = r15 := ⟨_, rfl⟩
        rw [← hb] at hA hbne ⊢
        replace hb := Lib.hid hb
        obtain rfl := hk.out
        clear zE lI hd6 f65 c65 hxo hx0 hb6 hT6 hO6
        obtain ⟨y, hy⟩ : ∃ y : Jb, y = ((L.length : Int) + 1, r.user, r.width, r.limit, r.prio, 2, -1, -1, -1, 0) := ⟨_, rfl⟩
        replace hA : wA.heap[b]? = some (.cells (encJ y).toArray 52 (0, 0)) := by rw [hy]; rw [hcY.out] at hA; exact hA
        have hid : y.1 = (L.length : Int) + 1 := by rw [hy]
        rw [← hy] at ey
        replace hy := Lib.hid hy
        replace hOA := Lib.hid hOA
        replace ey := Lib.hid ey
        obtain ⟨x1, x2, x3, x4, x5, x6, x7, x8, x9, x0⟩ := y
        replace hid : Hid (x1 = (L.length : Int) + 1) := Lib.hid hid
        have cA := hT.c0
        have hpl := hT.lt
        have hqp : v.ownBlock ≠ some p := hT.ob (by decide)
        have hp1g : ∀ W, wA.grownBy W v.ownBlock → W.heap[p]? = _ := fun W hW => (hW.block p hpl (fun e => hqp e.symm)).trans hT.cell
        have hn1g : ∀ W, wA.grownBy W v.ownBlock → W.heap[b]? = some (.cells (encJ (x1, x2, x3, x4, x5, x6, x7, x8, x9, x0)).toArray 52 (0, 0)) := fun W hW => (hW.block b (Put.lt_of_heap hA) (fun e => hbne e.symm)).trans hA
        have hI0 : wA.grownBy wA.drew v.ownBlock := ⟨rfl, rfl, rfl, Nat.le_refl _, fun _ _ _ => rfl⟩
        have hS0 : wA.drew.ownsRow 0 52 10 v L.length (L.flatMap encJ) := ownsRow_block hT.own fun _ _ => rfl
        have hencl : Hid ((encJ (x1, x2, x3, x4, x5, x6, x7, x8, x9, x0)).length = 10) := encJ_len _
        have henc1 : Hid (∀ u ∈ encJ (x1, x2, x3, x4, x5, x6, x7, x8, x9, x0), u.oneCell' = true) := encJ_one _
        have hqw : ∀ q, v.ownBlock = some q → q < wA.heap.size := fun q hq' => (hT.own.lt q hq').2
        replace hT := Lib.hid hT
        replace hA := Lib.hid hA
        replace hp1g := Lib.hid hp1g
        replace hn1g := Lib.hid hn1g
        replace hqp := Lib.hid hqp
        replace hqw := Lib.hid hqw
        replace hbne := Lib.hid hbne
        refine Reg.region_mk 8 56 [[], [false], [false, true], [false, true, true], [false, true, true, true], [false, false, false, false, false], [false, false, false, false, false, true], [false, true, true, true, true, true, true]] [0, 0, 0, 0, 1, 1, 1, 3]
          [.pure, .pure, .pure, .pure, .minor Unit () (fun _ => v) (fun _ _ => True), .minor Unit () (fun _ => .agg #[.int .i64 x1, .int .i64 x2, .int .i64 x3, .int .i64 x4, .int .i64 x5, .int .i64 x6, .int .i64 x7, .int .i64 x8, .int .i64 x9, .int .u64 x0]) (fun _ _ => True), .minor Nat 0 (fun x => .slice (some ⟨x, 0, none⟩) 1 1) (fun x W => W.heap[x]? = some (.cells (encJ (x1, x2, x3, x4, x5, x6, x7, x8, x9, x0)).toArray 52 (0, 0)) ∧ wA.heap.size ≤ x), .major Value undef id]
          (fun W => wA.grownBy W v.ownBlock) (AppS wA v L (x1, x2, x3, x4, x5, x6, x7, x8, x9, x0)) (fun a b => a.grownBy b v.ownBlock) (by kernel_rfl) (by kernel_rfl) rfl rfl (fun vs a b h hs => AppS_ext h hs) ?_ ?_ ?_ ?_ ?_ ?_
        · intro a b he hb
          exact ⟨he.os.trans hb.os, he.tape.trans hb.tape, he.output.trans hb.output, Nat.le_trans hb.size he.size, fun q hq' h2 => (he.block q (Nat.lt_of_lt_of_le hq' hb.size)).trans (hb.block q hq' h2)⟩
        · intro a b he hb
          exact ⟨he.os.trans hb.os, he.tape.trans hb.tape, he.output.trans hb.output, Nat.le_trans hb.size he.size, fun q hq' h2 => (he.block q (Nat.lt_of_lt_of_le hq' hb.size) h2).trans (hb.block q hq' h2)⟩
        · refine ⟨trivial, trivial, trivial, trivial, ⟨fun _ _ _ _ _ => trivial, fun _ _ _ _ _ => trivial⟩, ⟨fun _ _ _ _ _ => trivial, fun _ _ _ _ _ => trivial⟩, ⟨fun x a b he h => ⟨(he.block x (Put.lt_of_heap h.1)).trans h.1, h.2⟩, fun x a b he h => ⟨(he.block x (Put.lt_of_heap h.1) (fun e => by have := hqw.out x e.symm; have := h.2; omega)).trans h.1, h.2⟩⟩, trivial, trivial⟩
        · exact hI0
        · exact hS0
        dsimp only [Reg.mk, List.zip, List.zipWith, List.take]
        repeat (refine' Reg.pass_is _ (by rfl) (fun wz => ?_) ?_; rotate_left; (go_simp; first | rfl | rw [if_neg (by omega)]); simp only [Act.put, List.setIfInBounds_toArray, List.set_cons_zero, List.set_cons_succ]; (try simp only [List.nil_append]); (try simp only [List.cons_append]); (try simp only [id]))
        refine Reg.pass_minor (by rfl) (fun wz hI hF => ?_) (fun r4 => ?_)
        · unfold Reg.One
          have d0 : wz.cell? ⟨p, 0, none⟩ = some v := by simp [World.cell?, hp1g.out wz hI]
          go_wp2_with fail
          first | exact ⟨_, rfl, rfl, Reg.Ext.refl _⟩ | exact ⟨_, rfl, ⟨(), rfl, trivial⟩, Reg.Ext.refl _⟩
        simp only [Act.put, List.setIfInBounds_toArray, List.set_cons_zero, List.set_cons_succ]; (try simp only [List.nil_append]); (try simp only [List.cons_append]); (try simp only [id])
        refine Reg.pass_minor (by rfl) (fun wz hI hF => ?_) (fun r5 => ?_)
        · unfold Reg.One
          have kk := job_cells (hn1g.out wz hI)
          have q0 := kk 0 _ rfl
          have q1 := kk 1 _ rfl
          have q2 := kk 2 _ rfl
          have q3 := kk 3 _ rfl
          have q4 := kk 4 _ rfl
          have q5 := kk 5 _ rfl
          have q6 := kk 6 _ rfl
          have q7 := kk 7 _ rfl
          have q8 := kk 8 _ rfl
          have q9 := kk 9 _ rfl
          clear kk
          go_wp2_with fail
          first | exact ⟨_, rfl, rfl, Reg.Ext.refl _⟩ | exact ⟨_, rfl, ⟨(), rfl, trivial⟩, Reg.Ext.refl _⟩
        simp only [Act.put, List.setIfInBounds_toArray, List.set_cons_zero, List.set_cons_succ]; (try simp only [List.nil_append]); (try simp only [List.cons_append]); (try simp only [id])
        refine Reg.pass_minor (by rfl) (fun wz hI hF => ?_) (fun r6 => ?_)
        · unfold Reg.One
          go_wp2_with fail
          exact ⟨_, rfl, ⟨wz.heap.size, rfl, heap_alloc_new wz (.cells (encJ (x1, x2, x3, x4, x5, x6, x7, x8, x9, x0)).toArray 52), by have := hI.size; omega⟩, (Below.refl wz.heap.size wz).alloc (Nat.le_refl _) _⟩
        simp only [Act.put, List.setIfInBounds_toArray, List.set_cons_zero, List.set_cons_succ]; (try simp only [List.nil_append]); (try simp only [List.cons_append]); (try simp only [id])
        refine Reg.pass_major (by rfl) (fun wz hI hS hF => ?_) (fun vv => ?_)
        · unfold Reg.One
          have hS1 : wz.ownsRow 0 52 10 v L.length (L.flatMap encJ) := hS
          have hone := hF.2.2.2.2.2.1
          have hsrc : Src Try.prog 10 33 (.slice (some ⟨r6, 0, none⟩) 1 1) 1 (encJ (x1, x2, x3, x4, x5, x6, x7, x8, x9, x0)) wz := Src.ofSlice wz Try.underlying33 ⟨r6, 0, none⟩ 1 1 (encJ (x1, x2, x3, x4, x5, x6, x7, x8, x9, x0)) hencl.out (fun j u hj => by rw [Go.WideShapes.add_plain]; simpa using job_cells hone.1 j u hj) henc1.out
          have hszI := hI.size
          go_wp2_with (at_builtin; go_must (refine wpList_append_new _ rfl (.tmp 45) (.tmp 47) 33 33 rfl 0 52 i0 (.agg (encJ default).toArray) 10 80 Try.underlying33 hi0 hz0 hz1 hz2 rfl v L.length (L.flatMap encJ) rfl hS1 (.slice (some ⟨r6, 0, none⟩) 1 1) 1 (encJ (x1, x2, x3, x4, x5, x6, x7, x8, x9, x0)) rfl hsrc ?c0 ?c1 (Nat.zero_le _) ?c2))
          case c0 => unfold maxLen; omega
          case c1 => omega
          case c2 =>
            intro v' w9 ho9 hg9 hnb
            have hnn : NewO wA v.ownBlock v'.ownBlock := by
              rcases hnb with e | e
              · exact .inl e
              · exact .inr ⟨_, e, hszI⟩
            go_wp2_with fail
            exact ⟨v', rfl, ⟨ho9, hnn⟩, hg9⟩
        simp only [Act.put, List.setIfInBounds_toArray, List.set_cons_zero, List.set_cons_succ]; (try simp only [List.nil_append]); (try simp only [List.cons_append]); (try simp only [id])
        refine Reg.pass_end ?_
        intro w3 HI3 HS3 HF3
        clear HF3 hI0 hS0 r4 r5 hencl henc1
        obtain ⟨ho3, hn3⟩ : w3.ownsRow 0 52 10 vv (L.length + 1) (L.flatMap encJ ++ encJ (x1, x2, x3, x4, x5, x6, x7, x8, x9, x0)) ∧ NewO wA v.ownBlock vv.ownBlock := HS3
        obtain ⟨g', c', rfl⟩ : ∃ g' c', vv = .slice (some ⟨g', 0, none⟩) (L.length + 1) c' := by
          obtain ⟨ao', c', e, hp'⟩ := own_shape ho3
          obtain ⟨g', e2⟩ := hp' (by omega)
          exact ⟨g', c', by rw [e, e2]⟩
        have hp3 := hp1g.out w3 HI3
        have hb3 := hn1g.out w3 HI3
        obtain ⟨hT4, off4⟩ := BV.putSlice (D := L ++ [(x1, x2, x3, x4, x5, x6, x7, x8, x9, x0)]) (by decide) hp3 (by rw [List.length_append, List.flatMap_append]; simpa using ho3)
        have off4 := off4 v.ownBlock
        rw [show (List.length _ : Nat) = 0 from rfl] at hT4 off4
        have hoffA : QOff p v.ownBlock wA w3 := QOff.of_grown HI3
        have hbp : b ≠ p := fun e => by rw [e, hp3] at hb3; cases hb3
        have hb4 : (w3.setCell ⟨p, 0, none⟩ (.slice (some ⟨g', 0, none⟩) (L.length + 1) c')).heap[b]? = some (.cells (encJ (x1, x2, x3, x4, x5, x6, x7, x8, x9, x0)).toArray 52 (0, 0)) := (Below.heap_setCell w3 ⟨p, _, none⟩ _ b hbp).trans hb3
        have f3 : w3.frozen? ⟨p, 0, none⟩ = false := by simp [World.frozen?, hp3]
        have c3 : w3.cell? ⟨p, 0, none⟩ = some v := by simp [World.cell?, hp3]
        clear hp3 hb3 hT hA HI3 hp1g hn1g hqp hqw hbne cA
        dsimp only [List.drop]
        replace off4 := Lib.hid ((QOff.of_below hOA.out).trans (hoffA.trans off4 (NewO.refl _ _)) (NewO.refl _ _))
        have hN := Lib.hid (NewO.trans (w := w) (NewO.refl w v.ownBlock) hn3 hOA.out.size)
        rw [ey.out] at hT4
        have c5 := hT4.c0
        replace hT4 := Lib.hid hT4
        replace hb4 := Lib.hid hb4
        have wl : (((L.length + 1 : Nat)) : Int) = (L.length : Int) + 1 := by omega
        clear hoffA hn3 ho3
        go_wp2_with fail
        go_ret2
        exact hfin.out _ _ _ (by rw [show ((L.length : Int) + 1) = ((L.length + 1 : Nat) : Int) from by omega]; rfl) hT4.out off4.out hN.out
      · rw [hh] at hd6
        go_wp2_with fail
        have hA := hb6.out
        have hT := hT6.out
        have hOA := hO6.out
        clear hxr
        obtain ⟨wA, hwA⟩ : ∃ wA, wA = w6 := ⟨_, rfl⟩
        rw [← hwA] at hA hT hOA ⊢
        replace hwA := Lib.hid hwA
        have ey : ((L.length : Int) + 1, r.user, r.width, r.limit, r.prio, 1, -1, -1, -1, 0) = newJ L r := by unfold newJ; rw [hh]; rfl
        have hbne := hxo
        obtain ⟨b, hb⟩ : ∃ b, b = r15 := ⟨_, rfl⟩
        rw [← hb] at hA hbne ⊢
        replace hb := Lib.hid hb
        obtain rfl := hk.out
        clear zE lI hd6 f65 c65 hxo hx0 hb6 hT6 hO6
        obtain ⟨y, hy⟩ : ∃ y : Jb, y = ((L.length : Int) + 1, r.user, r.width, r.limit, r.prio, 1, -1, -1, -1, 0) := ⟨_, rfl⟩
        replace hA : wA.heap[b]? = some (.cells (encJ y).toArray 52 (0, 0)) := by rw [hy]; rw [hcY.out] at hA; exact hA
        have hid : y.1 = (L.length : Int) + 1 := by rw [hy]
        rw [← hy] at ey
        replace hy := Lib.hid hy
        replace hOA := Lib.hid hOA
        replace ey := Lib.hid ey
        obtain ⟨x1, x2, x3, x4, x5, x6, x7, x8, x9, x0⟩ := y
        replace hid : Hid (x1 = (L.length : Int) + 1) := Lib.hid hid
        have cA := hT.c0
        have hpl := hT.lt
        have hqp : v.ownBlock ≠ some p := hT.ob (by decide)
        have hp1g : ∀ W, wA.grownBy W v.ownBlock → W.heap[p]? = _ := fun W hW => (hW.block p hpl (fun e => hqp e.symm)).trans hT.cell
        have hn1g : ∀ W, wA.grownBy W v.ownBlock → W.heap[b]? = some (.cells (encJ (x1, x2, x3, x4, x5, x6, x7, x8, x9, x0)).toArray 52 (0, 0)) := fun W hW => (hW.block b (Put.lt_of_heap hA) (fun e => hbne e.symm)).trans hA
        have hI0 : wA.grownBy wA.drew v.ownBlock := ⟨rfl, rfl, rfl, Nat.le_refl _, fun _ _ _ => rfl⟩
        have hS0 : wA.drew.ownsRow 0 52 10 v L.length (L.flatMap encJ) := ownsRow_block hT.own fun _ _ => rfl
        have hencl : Hid ((encJ (x1, x2, x3, x4, x5, x6, x7, x8, x9, x0)).length = 10) := encJ_len _
        have henc1 : Hid (∀ u ∈ encJ (x1, x2, x3, x4, x5, x6, x7, x8, x9, x0), u.oneCell' = true) := encJ_one _
        have hqw : ∀ q, v.ownBlock = some q → q < wA.heap.size := fun q hq' => (hT.own.lt q hq').2
        replace hT := Lib.hid hT
        replace hA := Lib.hid hA
        replace hp1g := Lib.hid hp1g
        replace hn1g := Lib.hid hn1g
        replace hqp := Lib.hid hqp
        replace hqw := Lib.hid hqw
        replace hbne := Lib.hid hbne
        refine Reg.region_mk 8 56 [[], [false], [false, true], [false, true, true], [false, true, true, true], [false, false, false, false, false], [false, false, false, false, false, true], [false, true, true, true, true, true, true]] [0, 0, 0, 0, 1, 1, 1, 3]
          [.pure, .pure, .pure, .pure, .minor Unit () (fun _ => v) (fun _ _ => True), .minor Unit () (fun _ => .agg #[.int .i64 x1, .int .i64 x2, .int .i64 x3, .int .i64 x4, .int .i64 x5, .int .i64 x6, .int .i64 x7, .int .i64 x8, .int .i64 x9, .int .u64 x0]) (fun _ _ => True), .minor Nat 0 (fun x => .slice (some ⟨x, 0, none⟩) 1 1) (fun x W => W.heap[x]? = some (.cells (encJ (x1, x2, x3, x4, x5, x6, x7, x8, x9, x0)).toArray 52 (0, 0)) ∧ wA.heap.size ≤ x), .major Value undef id]
          (fun W => wA.grownBy W v.ownBlock) (AppS wA v L (x1, x2, x3, x4, x5, x6, x7, x8, x9, x0)) (fun a b => a.grownBy b v.ownBlock) (by kernel_rfl) (by kernel_rfl) rfl rfl (fun vs a b h hs => AppS_ext h hs) ?_ ?_ ?_ ?_ ?_ ?_
        · intro a b he hb
          exact ⟨he.os.trans hb.os, he.tape.trans hb.tape, he.output.trans hb.output, Nat.le_trans hb.size he.size, fun q hq' h2 => (he.block q (Nat.lt_of_lt_of_le hq' hb.size)).trans (hb.block q hq' h2)⟩
        · intro a b he hb
          exact ⟨he.os.trans hb.os, he.tape.trans hb.tape, he.output.trans hb.output, Nat.le_trans hb.size he.size, fun q hq' h2 => (he.block q (Nat.lt_of_lt_of_le hq' hb.size) h2).trans (hb.block q hq' h2)⟩
        · refine ⟨trivial, trivial, trivial, trivial, ⟨fun _ _ _ _ _ => trivial, fun _ _ _ _ _ => trivial⟩, ⟨fun _ _ _ _ _ => trivial, fun _ _ _ _ _ => trivial⟩, ⟨fun x a b he h => ⟨(he.block x (Put.lt_of_heap h.1)).trans h.1, h.2⟩, fun x a b he h => ⟨(he.block x (Put.lt_of_heap h.1) (fun e => by have := hqw.out x e.symm; have := h.2; omega)).trans h.1, h.2⟩⟩, trivial, trivial⟩
        · exact hI0
        · exact hS0
        dsimp only [Reg.mk, List.zip, List.zipWith, List.take]
        repeat (refine' Reg.pass_is _ (by rfl) (fun wz => ?_) ?_; rotate_left; (go_simp; first | rfl | rw [if_neg (by omega)]); simp only [Act.put, List.setIfInBounds_toArray, List.set_cons_zero, List.set_cons_succ]; (try simp only [List.nil_append]); (try simp only [List.cons_append]); (try simp only [id]))
        refine Reg.pass_minor (by rfl) (fun wz hI hF => ?_) (fun r4 => ?_)
        · unfold Reg.One
          have d0 : wz.cell? ⟨p, 0, none⟩ = some v := by simp [World.cell?, hp1g.out wz hI]
          go_wp2_with fail
          first | exact ⟨_, rfl, rfl, Reg.Ext.refl _⟩ | exact ⟨_, rfl, ⟨(), rfl, trivial⟩, Reg.Ext.refl _⟩
        simp only [Act.put, List.setIfInBounds_toArray, List.set_cons_zero, List.set_cons_succ]; (try simp only [List.nil_append]); (try simp only [List.cons_append]); (try simp only [id])
        refine Reg.pass_minor (by rfl) (fun wz hI hF => ?_) (fun r5 => ?_)
        · unfold Reg.One
          have kk := job_cells (hn1g.out wz hI)
          have q0 := kk 0 _ rfl
          have q1 := kk 1 _ rfl
          have q2 := kk 2 _ rfl
          have q3 := kk 3 _ rfl
          have q4 := kk 4 _ rfl
          have q5 := kk 5 _ rfl
          have q6 := kk 6 _ rfl
          have q7 := kk 7 _ rfl
          have q8 := kk 8 _ rfl
          have q9 := kk 9 _ rfl
          clear kk
          go_wp2_with fail
          first | exact ⟨_, rfl, rfl, Reg.Ext.refl _⟩ | exact ⟨_, rfl, ⟨(), rfl, trivial⟩, Reg.Ext.refl _⟩
        simp only [Act.put, List.setIfInBounds_toArray, List.set_cons_zero, List.set_cons_succ]; (try simp only [List.nil_append]); (try simp only [List.cons_append]); (try simp only [id])
        refine Reg.pass_minor (by rfl) (fun wz hI hF => ?_) (fun r6 => ?_)
        · unfold Reg.One
          go_wp2_with fail
          exact ⟨_, rfl, ⟨wz.heap.size, rfl, heap_alloc_new wz (.cells (encJ (x1, x2, x3, x4, x5, x6, x7, x8, x9, x0)).toArray 52), by have := hI.size; omega⟩, (Below.refl wz.heap.size wz).alloc (Nat.le_refl _) _⟩
        simp only [Act.put, List.setIfInBounds_toArray, List.set_cons_zero, List.set_cons_succ]; (try simp only [List.nil_append]); (try simp only [List.cons_append]); (try simp only [id])
        refine Reg.pass_major (by rfl) (fun wz hI hS hF => ?_) (fun vv => ?_)
        · unfold Reg.One
          have hS1 : wz.ownsRow 0 52 10 v L.length (L.flatMap encJ) := hS
          have hone := hF.2.2.2.2.2.1
          have hsrc : Src Try.prog 10 33 (.slice (some ⟨r6, 0, none⟩) 1 1) 1 (encJ (x1, x2, x3, x4, x5, x6, x7, x8, x9, x0)) wz := Src.ofSlice wz Try.underlying33 ⟨r6, 0, none⟩ 1 1 (encJ (x1, x2, x3, x4, x5, x6, x7, x8, x9, x0)) hencl.out (fun j u hj => by rw [Go.WideShapes.add_plain]; simpa using job_cells hone.1 j u hj) henc1.out
          have hszI := hI.size
          go_wp2_with (at_builtin; go_must (refine wpList_append_new _ rfl (.tmp 45) (.tmp 47) 33 33 rfl 0 52 i0 (.agg (encJ default).toArray) 10 80 Try.underlying33 hi0 hz0 hz1 hz2 rfl v L.length (L.flatMap encJ) rfl hS1 (.slice (some ⟨r6, 0, none⟩) 1 1) 1 (encJ (x1, x2, x3, x4, x5, x6, x7, x8, x9, x0)) rfl hsrc ?c0 ?c1 (Nat.zero_le _) ?c2))
          case c0 => unfold maxLen; omega
          case c1 => omega
          case c2 =>
            intro v' w9 ho9 hg9 hnb
            have hnn : NewO wA v.ownBlock v'.ownBlock := by
              rcases hnb with e | e
              · exact .inl e
              · exact .inr ⟨_, e, hszI⟩
            go_wp2_with fail
            exact ⟨v', rfl, ⟨ho9, hnn⟩, hg9⟩
        simp only [Act.put, List.setIfInBounds_toArray, List.set_cons_zero, List.set_cons_succ]; (try simp only [List.nil_append]); (try simp only [List.cons_append]); (try simp only [id])
        refine Reg.pass_end ?_
        intro w3 HI3 HS3 HF3
        clear HF3 hI0 hS0 r4 r5 hencl henc1
        obtain ⟨ho3, hn3⟩ : w3.ownsRow 0 52 10 vv (L.length + 1) (L.flatMap encJ ++ encJ (x1, x2, x3, x4, x5, x6, x7, x8, x9, x0)) ∧ NewO wA v.ownBlock vv.ownBlock := HS3
        obtain ⟨g', c', rfl⟩ : ∃ g' c', vv = .slice (some ⟨g', 0, none⟩) (L.length + 1) c' := by
          obtain ⟨ao', c', e, hp'⟩ := own_shape ho3
          obtain ⟨g', e2⟩ := hp' (by omega)
          exact ⟨g', c', by rw [e, e2]⟩
        have hp3 := hp1g.out w3 HI3
        have hb3 := hn1g.out w3 HI3
        obtain ⟨hT4, off4⟩ := BV.putSlice (D := L ++ [(x1, x2, x3, x4, x5, x6, x7, x8, x9, x0)]) (by decide) hp3 (by rw [List.length_append, List.flatMap_append]; simpa using ho3)
        have off4 := off4 v.ownBlock
        rw [show (List.length _ : Nat) = 0 from rfl] at hT4 off4
        have hoffA : QOff p v.ownBlock wA w3 := QOff.of_grown HI3
        have hbp : b ≠ p := fun e => by rw [e, hp3] at hb3; cases hb3
        have hb4 : (w3.setCell ⟨p, 0, none⟩ (.slice (some ⟨g', 0, none⟩) (L.length + 1) c')).heap[b]? = some (.cells (encJ (x1, x2, x3, x4, x5, x6, x7, x8, x9, x0)).toArray 52 (0, 0)) := (Below.heap_setCell w3 ⟨p, _, none⟩ _ b hbp).trans hb3
        have f3 : w3.frozen? ⟨p, 0, none⟩ = false := by simp [World.frozen?, hp3]
        have c3 : w3.cell? ⟨p, 0, none⟩ = some v := by simp [World.cell?, hp3]
        clear hp3 hb3 hT hA HI3 hp1g hn1g hqp hqw hbne cA
        dsimp only [List.drop]
        replace off4 := Lib.hid ((QOff.of_below hOA.out).trans (hoffA.trans off4 (NewO.refl _ _)) (NewO.refl _ _))
        have hN := Lib.hid (NewO.trans (w := w) (NewO.refl w v.ownBlock) hn3 hOA.out.size)
        rw [ey.out] at hT4
        have c5 := hT4.c0
        replace hT4 := Lib.hid hT4
        replace hb4 := Lib.hid hb4
        have wl : (((L.length + 1 : Nat)) : Int) = (L.length : Int) + 1 := by omega
        clear hoffA hn3 ho3
        go_wp2_with fail
        go_ret2
        exact hfin.out _ _ _ (by rw [show ((L.length : Int) + 1) = ((L.length + 1 : Nat) : Int) from by omega]; rfl) hT4.out off4.out hN.out
  · have hfin := fun (W : World) (e : Ending) hr hb => subPost_no (w' := W) (e := e) (r := r) h (show subE L r = rightF r by unfold subE; rw [if_pos h0]) h0 hr hb
    have d1 : (rightF r == 0) = false := beq_eq_false_iff_ne.2 h0
    replace hfin := Lib.hid hfin
    have hrt2 : ∀ W, Calls Try.prog 8 #[.agg (encR r).toArray] W _ := fun W => right_fn r W
    clear h h1 h0
    generalize rightF r = e1 at *
    go_enter Try.func13, Try.ntmps13
    go_wp2_with fail
    go_at_call 8
    rw [← hw1]
    replace hw1 := Lib.hid hw1
    refine hrt.mono ?_
    clear hrt lr
    rintro e w2 ⟨rfl, o2, rfl⟩
    have hb2 : Below w.heap.size w (w1.alloc o2) := hb1.alloc hb1.size _
    have hR2 : (w1.alloc o2).heap[w.heap.size]? = _ := (Go.heap_alloc_old w1 o2 (by omega)).trans hR1
    generalize w1.alloc o2 = w2 at *
    have lr := (show Sem.run Try.prog (loadCellsFrom ⟨w.heap.size, 0, none⟩ 0 k9 #[]) w2 = .ok (encR r).toArray w2 from run_loadCellsFrom_list Try.prog w2 _ _ k9 lR fun j u hj => by rw [Go.WideShapes.add_plain]; simpa using req_cells hR2 j u hj)
    have hrt3 := hrt2 w2
    clear hrt2 hR2 hR1 hb1
    go_wp2_with fail
    go_at_call 8
    refine hrt3.mono ?_
    clear hrt3 lr
    rintro e w3 ⟨rfl, o3, rfl⟩
    replace hb2 := Lib.hid (hb2.alloc hb2.size o3)
    go_wp2_with fail
    go_ret2
    exact hfin.out _ _ rfl hb2.out

end
end Go.Proofs.Ytmlmehpcfgchgaa
