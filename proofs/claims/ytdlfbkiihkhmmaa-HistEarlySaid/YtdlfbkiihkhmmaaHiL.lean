/-
  Own walk: the law of what a log notes.
-/
import Derived.Test.YtdlfbkiihkhmmaaHiK
import Derived.Deep.Cut
import Derived.Deep.CutRange
namespace Go.Proofs.Ytdlfbkiihkhmmaa
set_option maxRecDepth 8000
open Go.RowKit Go.Lib Put

def two24 (x : Ev) : Bool := decide (x.kd ∈ [2, 4])
theorem mem_two (k a b : Int) : decide (k ∈ [a, b]) = (k == a || k == b) := by
  by_cases h1 : k = a
  · simp [h1]
  · by_cases h2 : k = b
    · simp [h2]
    · simp [h1, h2]

theorem run_step_ev {W : World} {n : Nat} {y : Ev} {st : Int} (h : W.heap[n]? = some (.cells (encE y).toArray 36 (0, 0))) : (Instr.storeAt 3 (.pointer (some ⟨n, 0, none⟩)) (.int .i64 st)).run Try.prog W = .ok () (W.setCell ⟨n, 0, none⟩ (.int .i64 st)) := by
  have f5 : W.frozen? ⟨n, 0, none⟩ = false := by simp only [World.frozen?, h]; rfl
  have d5 : W.cell? ⟨n, 0, none⟩ = some (.int .i64 y.st) := ev_cells h 0 _ rfl
  clear h
  go_simp
/-- The step of an event that lies in a block of its own is stored. -/
theorem wpList_step_ev (w : World) {ops : Array Oper} {rest : List Oper} {o : Oper} {a : Act} {Q : Exit → Act → World → Prop} (hgd : o.guard = none) (p x : Operand) (ho : o.op = .store 3 p x) (hd : o.dst = none) {n : Nat} {y : Ev} {st : Int}
    (hp : a.eval p = .pointer (some ⟨n, 0, none⟩)) (hx : a.eval x = .int .i64 st) (hn : w.heap[n]? = some (.cells (encE y).toArray 36 (0, 0)))
    (h : ∀ w', w'.heap[n]? = some (.cells (encE (stamp st y)).toArray 36 (0, 0)) → HOff n none w w' → wpList Try.prog ops Q rest a w') : wpList Try.prog ops Q (o :: rest) a w := by
  refine wpList_plain hgd fun K hK => ?_
  have hrun := run_step_ev (st := st) hn
  have h1 : (w.setCell ⟨n, 0, none⟩ (.int .i64 st)).heap[n]? = some (.cells (encE (stamp st y)).toArray 36 (0, 0)) := heap_put (i := 0) hn (.int .i64 st)
  unfold Oper.wp
  simp only [execOp, ho, hp, hx, Sem.run_bind, hrun, Result.andThen_ok, Sem.run_pure]
  exact hK _ _ (by rw [hd]; exact h _ h1 (HOff.refl n none w).setCell)

theorem filt_snoc (A : List Ev) (y : Ev) (a b : Int) : (A ++ [y]).filter (fun x => decide (x.kd ∈ [a, b])) = if (y.kd == a || y.kd == b) = true then A.filter (fun x => decide (x.kd ∈ [a, b])) ++ [y] else A.filter (fun x => decide (x.kd ∈ [a, b])) := by
  rw [List.filter_append, List.filter_cons, mem_two]
  split <;> simp

/-- A new block of one event is a list of it. -/
theorem ev_new1 (w : World) (y : Ev) : RowAt encE 24 (w.alloc (.cells (encE y).toArray 36)) (.slice (some ⟨w.heap.size, 0, none⟩) 1 1) [y] := by
  have := evs_new w [y] (by simp)
  rw [show [y].flatMap encE = encE y by simp] at this
  exact this

set_option maxRecDepth 100000 in
set_option maxHeartbeats 8000000 in
theorem histNotes_walk (v1 : Value) (lx : List Ev) (v2 : Value) (bs : List Bool) (a b : Int) (w : World) (hr : RowAt encE 24 w v1 lx) (hq : RowAt encB1 1 w v2 bs) :
    Calls Try.prog 3 #[v1, v2, .int .i64 a, .int .i64 b] w fun e w' => e = .returned (.bool true) ∧ Below w.heap.size w w' := by
  have hrH := Lib.hid hr
  have hqH := Lib.hid hq
  obtain ⟨ao, cap, rfl, hlc, hcm, _⟩ := hr
  obtain ⟨bo, cbp, rfl, hbc, hbm, hbq⟩ := hq
  have hlm : lx.length ≤ 9223372036854775807 := by unfold maxLen at hcm; omega
  have hcM : cap ≤ 9223372036854775807 := by unfold maxLen at hcm; omega
  have hbl : bs.length ≤ 9223372036854775807 := by unfold maxLen at hbm; omega
  have hbM : cbp ≤ 9223372036854775807 := by unfold maxLen at hbm; omega
  obtain ⟨m, hm⟩ : ∃ m, bs.length = m := ⟨_, rfl⟩
  have HB : Hid (∀ W : World, Below w.heap.size w W → ∀ i, i < m → ∃ b off, bo = some ⟨b, off, none⟩ ∧ W.cell? ⟨b, off + i, none⟩ = some (.bool bs[i]!)) := fun W hW i hi => by
    obtain ⟨b, off, e, hlt, hc⟩ := hbq (by omega)
    refine ⟨b, off, e, ?_⟩
    rw [hW.cell (p := ⟨b, off + i, none⟩) hlt]
    have := hc i _ 0 _ (by rw [List.getElem?_eq_getElem (by omega), getElem!_pos bs i (by omega)]) (show (encB1 bs[i]!)[0]? = some _ from rfl)
    simpa using this
  rw [hm] at hbc hbl ⊢
  clear hcm hbm hbq hqH
  replace hm := Lib.hid hm
  go_enter Try.func3, Try.ntmps3
  go_upto_if 23 with fail
  go_cut [0] from 21 (fun u wd => ∃ a5 c5 n5, ∃ r : List Ev, u = .slice a5 n5 c5 ∧ r.length = n5 ∧ n5 ≤ 60 ∧ n5 ≤ c5 ∧ c5 ≤ 9223372036854775807 ∧ Hid (RowAt encE 24 w (.slice a5 n5 c5) r) ∧ w = wd)
  case first =>
    by_cases hlt : 60 < lx.length
    · have hc := hrH.out.cut (n := 60) (by omega)
      have hl2 : Hid ((lx.take 60).length = 60) := by show _ = _; rw [List.length_take]; omega
      replace hc := Lib.hid hc
      have b1 : 60 ≤ cap := by omega
      have b2 : (60 : Int) < (lx.length : Int) := by omega
      clear hlt
      go_wp2_with fail
      go_meet
      case rel => exact ⟨ao, cap, 60, _, rfl, hl2.out, by omega, b1, hcM, hc.out, rfl⟩
    · have hl2 : Hid (lx.length ≤ 60) := by show _ ≤ _; omega
      go_wp2_with fail
      go_meet
      case rel => exact ⟨ao, cap, _, _, rfl, rfl, hl2.out, hlc, hcM, hrH.out, rfl⟩
  case rest =>
    obtain ⟨a5, c5, n, r, rfl, hrn, hn60, hnc5, hc5, hR, rfl⟩ := hcut
    clear hrH hlc hlm hcM
    have zE := zE_ev
    obtain ⟨k24, hk⟩ : ∃ k, k = 24 := ⟨_, rfl⟩
    rw [← hk] at zE
    replace hk := Lib.hid hk
    have HA : Hid (0 < n → ∃ b off, a5 = some ⟨b, off, none⟩) := fun hp => by
      obtain ⟨_, _, e1, _, _, q3⟩ := hR.out
      injection e1 with e1 _ _
      subst e1
      obtain ⟨b, off, e, _⟩ := q3 (by omega)
      exact ⟨b, off, e⟩
    replace hrn := Lib.hid hrn
    have hG0 := R4.start (log_new w)
    have hb0 : Below w.heap.size w (w.alloc (.cells #[.int .i64 0, .slice none 0 0] 26)) := (Below.refl _ _).alloc (Nat.le_refl _) _
    go_wp2_with fail
    go_loopw [10, 11, 12, 13, 14] (fun ss xa xo xr ii wr => ∃ (i q : Nat) (v va vo vr : Value) (A : List Ev), i ≤ n ∧ q ≤ i ∧ ii = .int .i64 i ∧ ss = .int .i64 q ∧ va = xa ∧ vo = xo ∧ vr = xr ∧ Hid (A.length = i) ∧ Hid (R4 w.heap.size wr w.heap.size (q : Int) v va vo vr A A (A.filter fun x => decide (x.kd ∈ [a, b])) (A.filter fun x => decide (x.kd ∈ [2, 4]))) ∧ Hid (Below w.heap.size w wr)) (fun _ _ _ _ ii _ => n - (intOf ii).toNat)
    case atStart => exact ⟨0, 0, _, _, _, _, [], Nat.zero_le _, Nat.zero_le _, rfl, rfl, rfl, rfl, rfl, Lib.hid rfl, hG0, hb0⟩
    case round =>
      clear hG0 hb0
      obtain ⟨i, q, v, va, vo, vr, A, hi, hqi, rfl, rfl, rfl, rfl, rfl, hA, hG, hb⟩ := hrel
      have hwi : IntKind.i64.wrap ((i : Int) + 1) = (i : Int) + 1 := IntWalk.i64_in _ (by omega)
      by_cases hlt : i < n
      · obtain ⟨g, off, rfl⟩ := HA.out (by omega)
        have hiL : i < r.length := by rw [hrn.out]; exact hlt
        have b0 : (0 : Int) ≤ i := by omega
        have b3 : (i : Int) < (n : Int) := by omega
        have hBs : Hid (w.heap.size < wr.heap.size) := hG.out.log.lt
        go_upto_region 9 with fail
        go_cut [43] from 28 to 90 (fun u wd => ∃ tb, u = .bool tb ∧ wr = wd)
        case first =>
          by_cases him : i < m
          · obtain ⟨bb, bf, rfl, hcb⟩ := HB.out wr hb.out i him
            have e1 : decide ((i : Int) < (m : Int)) = true := decide_eq_true (by omega)
            have e2 : (i : Int) < (m : Int) := by omega
            generalize bs[i]! = tb at hcb
            go_wp2_with fail
            go_meet
            case rel => exact ⟨tb, rfl, rfl⟩
          · have e1 : decide ((i : Int) < (m : Int)) = false := decide_eq_false (by omega)
            go_wp2_with fail
            go_meet
            case rel => exact ⟨false, rfl, rfl⟩
        case rest =>
        obtain ⟨tb, rfl, rfl⟩ := hcut
        go_upto_if 43 with fail
        go_cut [10] from 28 to 90 (fun u wd => ∃ p : Nat, u = .int .i64 p ∧ p ≤ i + 1 ∧ Hid (R4 w.heap.size wd w.heap.size (p : Int) v va vo vr A A (A.filter fun x => decide (x.kd ∈ [a, b])) (A.filter fun x => decide (x.kd ∈ [2, 4]))) ∧ Hid (Below w.heap.size w wd))
        case first =>
          rcases Bool.eq_false_or_eq_true tb with ht | ht
          · subst ht
            have hT := Tick_fn hG.out.log (by omega) (by omega)
            have hwq : IntKind.i64.wrap ((q : Int) + 1) = (q : Int) + 1 := IntWalk.i64_in _ (by omega)
            go_wp2_with (go_at_call 6; refine hT.mono ?_; clear hT; rintro e w3 ⟨rfl, hG3, hO3⟩)
            go_meet
            case rel =>
              exact ⟨q + 1, by go_num, by omega, by
                have := hG.out.tick hG3 hO3
                push_cast; exact this, hb.out.trans (hO3.below hb.out.size (Nat.le_refl _) (fun k hk => by cases hk))⟩
          · subst ht
            go_wp2_with fail
            go_meet
            case rel => exact ⟨q, rfl, by omega, hG.out, hb.out⟩
        case rest =>
          rename World => wd
          obtain ⟨p, rfl, hpi, hGd, hbd⟩ := hcut
          clear hG hb hBs
          have LI := ev_row (hR.out.below hbd.out) hk.out hiL
          have LJ := fun (W : World) (h : Below w.heap.size w W) => ev_row (hR.out.below h) hk.out hiL
          obtain ⟨y, hy⟩ : ∃ y, y = r[i]! := ⟨_, rfl⟩
          rw [← hy] at LI LJ
          replace hy := Lib.hid hy
          replace LJ := Lib.hid LJ
          have hsd := hGd.out.log.lt
          have hb1 : Below wd.heap.size wd (wd.alloc (.cells (encE y).toArray 36)) := (Below.refl _ _).alloc (Nat.le_refl _) _
          have hN := Note_fn (hGd.out.log.below hb1) (ev_new1 wd y) (fun _ b' off' m' c' e => by
            injection e with e _ _
            injection e with e
            injection e with e _ _
            exact ⟨by omega, fun e2 => by have := hGd.out.lv b' e2; omega⟩) (by rw [hA.out]; simp; omega)
          unfold NotePost at hN
          replace hsd := Lib.hid hsd
          replace hb1 := Lib.hid hb1
          go_upto_region 16 with (first
            | (refine wpList_slice_ev _ rfl _ rfl (x := y) rfl ?_)
            | (go_at_call 7; refine hN.mono ?_; clear hN; rintro e w3 ⟨rfl, v3, hG3, hO3, hN3⟩
               have hR3 := Lib.hid ((hGd.out.below hb1.out).note hG3 hO3 hN3)
               have hb3 : Hid (Below w.heap.size w w3) := (Below.add hbd.out hb1.out).trans (hO3.below (Below.add hbd.out hb1.out).size (Nat.le_refl _) (fun k hk => (hGd.out.log.own.lt k hk).1))
               have LK := LJ.out w3 hb3.out
               clear hO3 hN3 hG3)
            | (refine wpList_store_ev _ rfl _ _ rfl rfl (n := w3.heap.size) (y := y) rfl rfl (heap_alloc_new w3 _) (by rfl) ?_
               intro w5 hn5 hO5
               have hB5 : Below w3.heap.size w3 w5 := ((Below.refl _ w3).alloc (Nat.le_refl _) _).trans (hO5.below (by simp) (Nat.le_refl _) (fun k hk => by cases hk)))
            | (refine wpList_step_ev _ rfl _ _ rfl rfl (n := w3.heap.size) (y := y) (st := (p : Int)) rfl rfl hn5 ?_
               intro w6 hn6 hO6
               have hB6 : Below w3.heap.size w3 w6 := hB5.trans (hO6.below hB5.size (Nat.le_refl _) (fun k hk => by cases hk))
               have hR6 := hR3.out.below hB6
               have hb6 := Below.add hb3.out hB6
               have hsz6 := hb6.size
               clear hn5 hO5 hB5 hO6)
            | (refine wpList_load_ev _ rfl _ rfl rfl hn6 ?_)
            | (refine wpList_slice_ev _ rfl _ rfl (x := stamp (p : Int) y) rfl ?_)
            | (at_builtin; go_must (refine wpList_append_ev _ rfl (.tmp 61) (.tmp 63) rfl w.heap.size va A rfl (Put.own_kept hR6.a ((Below.refl _ w6).alloc (Nat.le_refl _) _)) w6.heap.size (stamp (p : Int) y) rfl (heap_alloc_new w6 _) (by rw [hA.out]; omega) (by simp; omega) ?_)
               intro va8 w8 ho8 hg8 hnb8))
          have hal6 : Below w6.heap.size w6 (w6.alloc (.cells (encE (stamp (p : Int) y)).toArray 36)) := (Below.refl _ _).alloc (Nat.le_refl _) _
          have hR8 : Hid (R4 w.heap.size w8 w.heap.size (p : Int) v3 va8 vo vr (A ++ [stamp (p : Int) y]) (A ++ [stamp (p : Int) y]) (A.filter fun x => decide (x.kd ∈ [a, b])) (A.filter fun x => decide (x.kd ∈ [2, 4]))) := (hR6.below hal6).appA ho8 hg8 hnb8
          have hls3 := lt_of_at hn6
          have hn8 : Hid (w8.heap[w3.heap.size]? = some (.cells (encE (stamp (p : Int) y)).toArray 36 (0, 0))) :=
            (hg8.block _ (Nat.lt_of_lt_of_le hls3 hal6.size) (fun e => by have := hR3.out.la _ e.symm; omega)).trans ((Go.heap_alloc_old w6 _ hls3).trans hn6)
          have hb8 : Hid (Below w.heap.size w w8) := (Below.add hb6 hal6).grown hg8 (Nat.le_trans hb6.size hal6.size) (fun k hk => (hR6.a.lt k hk).1)
          have hlo : Hid (∀ k, vo.ownBlock = some k → k < w3.heap.size) := hR3.out.lo
          have hlr : Hid (∀ k, vr.ownBlock = some k → k < w3.heap.size) := hR3.out.lr
          obtain ⟨z, hz⟩ : ∃ z, z = stamp (p : Int) y := ⟨_, rfl⟩
          rw [← hz] at hR8 hn8
          replace hz := Lib.hid hz
          obtain ⟨nb, hnb⟩ : ∃ nb, nb = w3.heap.size := ⟨_, rfl⟩
          rw [← hnb] at hn8 hlo hlr ⊢
          replace hnb := Lib.hid hnb
          clear hR3 hb3 hn6 hB6 hR6 hb6 hsz6 ho8 hg8 hnb8 hal6 hls3 LI LK LJ hGd hbd hb1 hsd
          have fo := filt_snoc A z a b
          have fr := filt_snoc A z 2 4
          have hA2 : Hid ((A ++ [z]).length = i + 1) := by show _ = _; rw [List.length_append, hA.out]; rfl
          have hAO : (A.filter fun x => decide (x.kd ∈ [a, b])).length ≤ 1000 := Nat.le_trans (List.length_filter_le _ _) (by rw [hA.out]; omega)
          have hAR : (A.filter fun x => decide (x.kd ∈ [2, 4])).length ≤ 1000 := Nat.le_trans (List.length_filter_le _ _) (by rw [hA.out]; omega)
          have k8 : w8.cell? ⟨nb, 1, none⟩ = some (.int .i64 z.kd) := ev_cells hn8.out 1 _ rfl
          obtain ⟨kz, hkz⟩ : ∃ kz, z.kd = kz := ⟨_, rfl⟩
          rw [hkz] at k8 fo fr
          replace hkz := Lib.hid hkz
          replace fo := Lib.hid fo
          replace fr := Lib.hid fr
          go_cut [74] from 28 to 90 (fun u wd => u = .bool (kz == a || kz == b) ∧ w8 = wd)
          case first =>
            by_cases h1 : kz = a
            · subst h1
              go_wp2_with fail
              go_meet
              case rel => exact ⟨by simp, rfl⟩
            · have d1 : (kz == a) = false := by simp [h1]
              replace h1 := Lib.hid h1
              by_cases h2 : kz = b
              · subst h2
                go_wp2_with fail
                go_meet
                case rel => exact ⟨by simp, rfl⟩
              · have d2 : (kz == b) = false := by simp [h2]
                replace h2 := Lib.hid h2
                go_wp2_with fail
                go_meet
                case rel => exact ⟨by simp [d1, d2], rfl⟩
          case rest =>
          obtain ⟨rfl, rfl⟩ := hcut
          obtain ⟨tb2, htb2⟩ : ∃ tb, tb = (kz == a || kz == b) := ⟨_, rfl⟩
          rw [← htb2] at fo ⊢
          clear htb2 k8
          go_upto_if 74 with fail
          go_cut [12] from 28 to 90 (fun u wd => ∃ vo2 : Value, vo2 = u ∧ Hid (R4 w.heap.size wd w.heap.size (p : Int) v3 va8 vo2 vr (A ++ [z]) (A ++ [z]) ((A ++ [z]).filter fun x => decide (x.kd ∈ [a, b])) (A.filter fun x => decide (x.kd ∈ [2, 4]))) ∧ Hid (wd.heap[nb]? = some (.cells (encE z).toArray 36 (0, 0))) ∧ Hid (Below w.heap.size w wd))
          case first =>
            rcases Bool.eq_false_or_eq_true tb2 with ht | ht
            · subst ht
              have fo2 := fo.out
              rw [if_pos rfl] at fo2
              replace fo2 := Lib.hid fo2
              have hbs8 := hb8.out.size
              go_wp2_with (first
                | (refine wpList_load_ev _ rfl _ rfl rfl hn8.out ?_)
                | (refine wpList_slice_ev _ rfl _ rfl (x := z) rfl ?_)
                | (at_builtin; go_must (refine wpList_append_ev _ rfl (.tmp 75) (.tmp 77) rfl w.heap.size vo (A.filter fun x => decide (x.kd ∈ [a, b])) rfl (Put.own_kept hR8.out.o ((Below.refl _ w8).alloc (Nat.le_refl _) _)) w8.heap.size z rfl (heap_alloc_new w8 _) hAO (by simp; omega) ?_)
                   intro vo9 w9 ho9 hg9 hnb9))
              go_meet
              case rel =>
                have hal8 : Below w8.heap.size w8 (w8.alloc (.cells (encE z).toArray 36)) := (Below.refl _ _).alloc (Nat.le_refl _) _
                have hl8 := lt_of_at hn8.out
                rw [← fo2.out] at ho9
                exact ⟨vo9, rfl, (hR8.out.below hal8).appO ho9 hg9 hnb9,
                  (hg9.block _ (Nat.lt_of_lt_of_le hl8 hal8.size) (fun e => by have := hlo.out _ e.symm; omega)).trans ((Go.heap_alloc_old w8 _ hl8).trans hn8.out),
                  (Below.add hb8.out hal8).grown hg9 (Nat.le_trans hbs8 hal8.size) (fun k hk => (hR8.out.o.lt k hk).1)⟩
            · subst ht
              have fo2 := fo.out
              rw [if_neg (by decide)] at fo2
              replace fo2 := Lib.hid fo2
              go_wp2_with fail
              go_meet
              case rel =>
                rw [fo2.out]
                exact ⟨vo, rfl, hR8.out, hn8.out, hb8.out⟩
          case rest =>
          rename World => wf
          obtain ⟨vo2, rfl, hRf, hnf, hbf⟩ := hcut
          clear hR8 hn8 hb8 fo hAO hlo
          have k8 : wf.cell? ⟨nb, 1, none⟩ = some (.int .i64 kz) := by rw [← hkz.out]; exact ev_cells hnf.out 1 _ rfl
          go_upto_region 18 with fail
          go_cut [86] from 28 to 90 (fun u wd => u = .bool (kz == 2 || kz == 4) ∧ wf = wd)
          case first =>
            by_cases h1 : kz = 2
            · subst h1
              go_wp2_with fail
              go_meet
              case rel => exact ⟨by simp, rfl⟩
            · have d1 : (kz == 2) = false := by simp [h1]
              replace h1 := Lib.hid h1
              by_cases h2 : kz = 4
              · subst h2
                go_wp2_with fail
                go_meet
                case rel => exact ⟨by simp, rfl⟩
              · have d2 : (kz == 4) = false := by simp [h2]
                replace h2 := Lib.hid h2
                go_wp2_with fail
                go_meet
                case rel => exact ⟨by simp [d1, d2], rfl⟩
          case rest =>
          obtain ⟨rfl, rfl⟩ := hcut
          obtain ⟨tb3, htb3⟩ : ∃ tb, tb = (kz == 2 || kz == 4) := ⟨_, rfl⟩
          rw [← htb3] at fr ⊢
          clear htb3 k8
          rcases Bool.eq_false_or_eq_true tb3 with ht | ht
          · subst ht
            have fr2 := fr.out
            rw [if_pos rfl] at fr2
            replace fr2 := Lib.hid fr2
            have hbsf := hbf.out.size
            go_wp2_with (first
              | (refine wpList_load_ev _ rfl _ rfl rfl hnf.out ?_)
              | (refine wpList_slice_ev _ rfl _ rfl (x := z) rfl ?_)
              | (at_builtin; go_must (refine wpList_append_ev _ rfl (.tmp 87) (.tmp 89) rfl w.heap.size vr (A.filter fun x => decide (x.kd ∈ [2, 4])) rfl (Put.own_kept hRf.out.r ((Below.refl _ wf).alloc (Nat.le_refl _) _)) wf.heap.size z rfl (heap_alloc_new wf _) hAR (by simp; omega) ?_)
                 intro vr9 w9 ho9 hg9 hnb9))
            go_roundw
            case rel =>
              have half : Below wf.heap.size wf (wf.alloc (.cells (encE z).toArray 36)) := (Below.refl _ _).alloc (Nat.le_refl _) _
              rw [← fr2.out] at ho9
              exact ⟨i + 1, p, v3, va8, vo2, vr9, A ++ [z], by omega, by omega, by go_num, rfl, rfl, rfl, rfl, hA2.out, (hRf.out.below half).appR ho9 hg9 hnb9,
                (Below.add hbf.out half).grown hg9 (Nat.le_trans hbsf half.size) (fun k hk => (hRf.out.r.lt k hk).1)⟩
            case measure => simp [intOf]; omega
          · subst ht
            have fr2 := fr.out
            rw [if_neg (by decide)] at fr2
            replace fr2 := Lib.hid fr2
            go_wp2_with fail
            go_roundw
            case rel =>
              refine ⟨i + 1, p, v3, va8, vo2, vr, A ++ [z], by omega, by omega, by go_num, rfl, rfl, rfl, rfl, hA2.out, ?_, hbf.out⟩
              rw [fr2.out]
              exact hRf.out
            case measure => simp [intOf]; omega
      · obtain rfl : i = n := by omega
        have d1 : ¬ (i : Int) < (i : Int) := by omega
        have hl9 : (A.filter fun x => decide (x.kd ∈ [a, b])).length ≤ 900 := Nat.le_trans (List.length_filter_le _ _) (by rw [hA.out]; omega)
        have hl8 : (A.filter fun x => decide (x.kd ∈ [2, 4])).length ≤ 900 := Nat.le_trans (List.length_filter_le _ _) (by rw [hA.out]; omega)
        have hlA : A.length ≤ 900 := by rw [hA.out]; omega
        obtain ⟨ga, ca, rfl, hga⟩ := own_shape hG.out.a
        rw [hA.out] at hga hG ⊢
        have hEv := Events_fn hG.out.log hlA
        have hcaM : ca ≤ 9223372036854775807 := by
          obtain ⟨_, _, e, _, q2, _⟩ := hG.out.rowA
          injection e with _ _ e
          subst e; unfold maxLen at q2; exact q2
        have hcan : i ≤ ca := by
          obtain ⟨_, _, e, q2, _, _⟩ := hG.out.rowA
          injection e with _ e2 e
          subst e; rw [← hA.out]; exact q2
        replace hlA := Lib.hid hlA
        replace hl8 := Lib.hid hl8
        replace hl9 := Lib.hid hl9
        replace hga := Lib.hid hga
        clear hlt hwi
        go_wp2_with (first
          | (go_at_call 9; refine hEv.mono ?_; clear hEv; rintro e w1 ⟨u1, rfl, hr1, hb1⟩
             have hS1 := same_fn u1 _ A w1 hr1 (hG.out.below hb1).rowA hlA.out
             have hb1' := Lib.hid hb1
             clear hr1 hb1)
          | (go_at_call 8; refine hS1.mono ?_; clear hS1; rintro e w2 ⟨rfl, hb2⟩
             have hb2' := Lib.hid (Below.add hb1'.out hb2)
             have hal2 : Below w2.heap.size w2 (w2.alloc (.cells #[.int .i64 a, .int .i64 b] 3)) := (Below.refl _ _).alloc (Nat.le_refl _) _
             have hOf := Of_fn (hG.out.below (Below.add hb2'.out hal2)).log (two_new w2 a b) hlA.out
             replace hal2 := Lib.hid hal2
             clear hb2)
          | (go_at_call 10; refine hOf.mono ?_; clear hOf; rintro e w3 ⟨u3, rfl, hr3, hb3⟩
             have hb3' := Lib.hid (Below.add (Below.add hb2'.out hal2.out) hb3)
             have hS3 := same_fn u3 _ _ w3 hr3 (hG.out.below hb3'.out).rowO hl9.out
             clear hr3 hb3)
          | (go_at_call 8; refine hS3.mono ?_; clear hS3; rintro e w4 ⟨rfl, hb4⟩
             have hb4' := Lib.hid (Below.add hb3'.out hb4)
             have hOr := Order_fn (hG.out.below hb4'.out).log hlA.out
             clear hb4)
          | (go_at_call 11; refine hOr.mono ?_; clear hOr; rintro e w5 ⟨u5, rfl, hr5, hb5⟩
             have hb5' := Lib.hid (Below.add hb4'.out hb5)
             have hS5 := same_fn u5 _ _ w5 hr5 (hG.out.below hb5'.out).rowR hl8.out
             clear hr5 hb5)
          | (go_at_call 8; refine hS5.mono ?_; clear hS5; rintro e w6 ⟨rfl, hb6⟩
             have hb6' := Lib.hid (Below.add hb5'.out hb6)
             have hSt := Step_fn (hG.out.below hb6'.out).log
             clear hb6)
          | (go_at_call 12; refine hSt.mono ?_; clear hSt; rintro e w7 ⟨rfl, rfl⟩)
          | (refine wpList_store_ev _ rfl _ _ rfl rfl (n := w6.heap.size) (y := default) rfl rfl (heap_alloc_new w6 _) (by rfl) ?_
             intro w8 hn8 hO8
             have hb8 : Below w6.heap.size w6 w8 := ((Below.refl _ w6).alloc (Nat.le_refl _) _).trans (hO8.below (by simp) (Nat.le_refl _) (fun k hk => by cases hk))
             have hb8' := Lib.hid (Below.add hb6'.out hb8)
             clear hO8))
        obtain ⟨nb, hnb⟩ : ∃ nb, nb = w6.heap.size := ⟨_, rfl⟩
        rw [← hnb] at hn8 ⊢
        have hwn : Hid (wr.heap.size ≤ nb) := by show _ ≤ _; rw [hnb]; exact hb6'.out.size
        replace hnb := Lib.hid hnb
        clear hb1' hb2' hal2 hb3' hb4' hb5' hb6' hb8 hl8 hl9
        go_loopw [17, 18] (fun ff ii wq => ∃ (k : Nat) (fb : Bool) (fx : Ev), k ≤ i ∧ ii = .int .i64 k ∧ ff = .bool fb ∧ Hid (wq.heap[nb]? = some (.cells (encE fx).toArray 36 (0, 0))) ∧ Hid (Below wr.heap.size wr wq) ∧ Hid ((A.take k).find? (isE a b) = if fb then some fx else none) ∧ Hid (fb = false → fx = default)) (fun _ ii _ => i - (intOf ii).toNat)
        case atStart => exact ⟨0, false, default, Nat.zero_le _, rfl, rfl, hn8, hb8', Lib.hid rfl, Lib.hid (fun _ => rfl)⟩
        case round =>
          rename World => wq
          obtain ⟨k, fb, fx, hki, rfl, rfl, hnq, hbq, hfk, hfd⟩ := hrel
          clear hn8 hb8'
          have hwk : IntKind.i64.wrap ((k : Int) + 1) = (k : Int) + 1 := IntWalk.i64_in _ (by omega)
          rcases Bool.eq_false_or_eq_true fb with hfb | hfb
          · subst hfb
            have hf : Hid (A.find? (isE a b) = some fx) := by
              show _ = _
              have h1 := hfk.out
              rw [if_pos rfl] at h1
              rw [← List.take_append_drop k A, List.find?_append, h1, Option.some_or]
            clear hfk hfd
            by_cases hk3 : k < i
            · have e1 : (k : Int) < (i : Int) := by omega
              have e2 : decide ((k : Int) < (i : Int)) = true := decide_eq_true e1
              have hFd := Find_fn (hG.out.below hbq.out).log a b hlA.out
              unfold FindPost at hFd
              rw [hf.out] at hFd
              have hqe := ev_eql fx
              have hgd := ev_guard
              have hsq := lt_of_at hnq.out
              simp only [Option.getD_some, Option.getD_none, Option.isSome_some, Option.isSome_none] at hFd
              go_wp2_with (first
                | (go_at_call 13; refine hFd.mono ?_; clear hFd; rintro e wu ⟨rfl, hbu⟩
                   have hnu := (hbu.block _ hsq).trans hnq.out
                   have hbu2 := Lib.hid (Below.add hb.out (Below.add hbq.out hbu)))
                | (refine wpList_store_ev _ rfl _ _ rfl rfl (n := wu.heap.size) (y := fx) rfl rfl (heap_alloc_new wu _) (by rfl) ?_
                   intro wv hnv hOv
                   have hbv : Below wu.heap.size wu wv := ((Below.refl _ wu).alloc (Nat.le_refl _) _).trans (hOv.below (by simp) (Nat.le_refl _) (fun k hk => by cases hk))
                   have hnw := (hbv.block _ (lt_of_at hnu)).trans hnu
                   clear hOv)
                | (refine wpList_load_ev _ rfl _ rfl rfl hnv ?_)
                | (refine wpList_load_ev _ rfl _ rfl rfl hnw ?_)
                | (go_at_call 14; refine (awake_fn _).mono ?_; rintro e w9 ⟨rfl, hb9⟩))
              go_ret
              exact ⟨rfl, Below.add (Below.add hbu2.out hbv) hb9⟩
            · have e1 : ¬ (k : Int) < (i : Int) := by omega
              have e2 : decide ((k : Int) < (i : Int)) = false := decide_eq_false e1
              have hFd := Find_fn (hG.out.below hbq.out).log a b hlA.out
              unfold FindPost at hFd
              rw [hf.out] at hFd
              have hqe := ev_eql fx
              have hgd := ev_guard
              have hsq := lt_of_at hnq.out
              simp only [Option.getD_some, Option.getD_none, Option.isSome_some, Option.isSome_none] at hFd
              go_wp2_with (first
                | (go_at_call 13; refine hFd.mono ?_; clear hFd; rintro e wu ⟨rfl, hbu⟩
                   have hnu := (hbu.block _ hsq).trans hnq.out
                   have hbu2 := Lib.hid (Below.add hb.out (Below.add hbq.out hbu)))
                | (refine wpList_store_ev _ rfl _ _ rfl rfl (n := wu.heap.size) (y := fx) rfl rfl (heap_alloc_new wu _) (by rfl) ?_
                   intro wv hnv hOv
                   have hbv : Below wu.heap.size wu wv := ((Below.refl _ wu).alloc (Nat.le_refl _) _).trans (hOv.below (by simp) (Nat.le_refl _) (fun k hk => by cases hk))
                   have hnw := (hbv.block _ (lt_of_at hnu)).trans hnu
                   clear hOv)
                | (refine wpList_load_ev _ rfl _ rfl rfl hnv ?_)
                | (refine wpList_load_ev _ rfl _ rfl rfl hnw ?_)
                | (go_at_call 14; refine (awake_fn _).mono ?_; rintro e w9 ⟨rfl, hb9⟩))
              go_ret
              exact ⟨rfl, Below.add (Below.add hbu2.out hbv) hb9⟩
          · subst hfb
            obtain rfl := hfd.out rfl
            clear hfd
            by_cases hk3 : k < i
            · have e1 : (k : Int) < (i : Int) := by omega
              have e0 : (0 : Int) ≤ (k : Int) := by omega
              have e2 : decide ((k : Int) < (i : Int)) = true := decide_eq_true e1
              obtain ⟨gb, rfl⟩ := hga.out (by omega)
              have hkA : k < A.length := by rw [hA.out]; exact hk3
              have hrA : RowAt encE 24 wq (.slice (some ⟨gb, 0, none⟩) i ca) A := (hG.out.below hbq.out).rowA
              have LI := ev_row hrA hk.out hkA
              have c1 : wq.cell? ⟨gb, 0 + k * k24 + 1, none⟩ = some (.int .i64 (A[k]!).kd) := by rw [hk.out, Nat.add_assoc]; exact ev_cell hrA hkA 1 _ rfl
              have c2 : wq.cell? ⟨gb, 0 + k * k24 + 2, none⟩ = some (.int .i64 (A[k]!).tk) := by rw [hk.out, Nat.add_assoc]; exact ev_cell hrA hkA 2 _ rfl
              simp only [Nat.zero_add] at LI c1 c2
              have hst : A.take (k + 1) = A.take k ++ [A[k]!] := by rw [List.take_succ_eq_append_getElem hkA, getElem!_pos A k hkA]
              have hno := hfk.out
              rw [if_neg (by decide)] at hno
              obtain ⟨y, hy⟩ : ∃ y, y = A[k]! := ⟨_, rfl⟩
              rw [← hy] at LI c1 c2 hst
              replace hy := Lib.hid hy
              clear hrA hfk
              have hnext : Hid ((A.take (k + 1)).find? (isE a b) = if isE a b y then some y else none) := by
                show _ = _
                rw [hst, List.find?_append, hno, Option.none_or, List.find?_cons]
                cases isE a b y <;> rfl
              clear hst hno
              by_cases h1 : y.kd = a
              · have d1 : (y.kd == a) = true := by simp [h1]
                by_cases h2 : y.tk = b
                · have d2 : (y.tk == b) = true := by simp [h2]
                  have hn2 := hnext.out
                  rw [if_pos (by unfold isE; simp [h1, h2])] at hn2
                  replace hn2 := Lib.hid hn2
                  replace h1 := Lib.hid h1
                  replace h2 := Lib.hid h2
                  go_wp2_with (refine wpList_store_ev _ rfl _ _ rfl rfl (n := nb) (y := y) rfl rfl hnq.out (by rfl) ?_
                               intro wz hnz hOz)
                  go_roundw
                  case rel => exact ⟨k + 1, true, y, by omega, by go_num, rfl, hnz, hbq.out.trans (hOz.below hbq.out.size hwn.out (fun k hk => by cases hk)), hn2.out, Lib.hid (fun h => by cases h)⟩
                  case measure => simp [intOf]; omega
                · have d2 : (y.tk == b) = false := by simp [h2]
                  have hn2 := hnext.out
                  rw [if_neg (by unfold isE; simp [h2])] at hn2
                  replace hn2 := Lib.hid hn2
                  replace h1 := Lib.hid h1
                  replace h2 := Lib.hid h2
                  go_wp2_with fail
                  go_roundw
                  case rel => exact ⟨k + 1, false, default, by omega, by go_num, rfl, hnq.out, hbq.out, hn2.out, Lib.hid (fun _ => rfl)⟩
                  case measure => simp [intOf]; omega
              · have d1 : (y.kd == a) = false := by simp [h1]
                have hn2 := hnext.out
                rw [if_neg (by unfold isE; simp [h1])] at hn2
                replace hn2 := Lib.hid hn2
                replace h1 := Lib.hid h1
                go_wp2_with fail
                go_roundw
                case rel => exact ⟨k + 1, false, default, by omega, by go_num, rfl, hnq.out, hbq.out, hn2.out, Lib.hid (fun _ => rfl)⟩
                case measure => simp [intOf]; omega
            · obtain rfl : k = i := by omega
              have e1 : ¬ (k : Int) < (k : Int) := by omega
              have hf : Hid (A.find? (isE a b) = none) := by
                show _ = _
                have h1 := hfk.out
                rw [if_neg (by decide), List.take_of_length_le (by rw [hA.out]; exact Nat.le_refl _)] at h1
                exact h1
              clear hfk
              have hFd := Find_fn (hG.out.below hbq.out).log a b hlA.out
              unfold FindPost at hFd
              rw [hf.out] at hFd
              have hqe := ev_eql default
              have hgd := ev_guard
              have hsq := lt_of_at hnq.out
              simp only [Option.getD_some, Option.getD_none, Option.isSome_some, Option.isSome_none] at hFd
              go_wp2_with (first
                | (go_at_call 13; refine hFd.mono ?_; clear hFd; rintro e wu ⟨rfl, hbu⟩
                   have hnu := (hbu.block _ hsq).trans hnq.out
                   have hbu2 := Lib.hid (Below.add hb.out (Below.add hbq.out hbu)))
                | (refine wpList_store_ev _ rfl _ _ rfl rfl (n := wu.heap.size) (y := default) rfl rfl (heap_alloc_new wu _) (by rfl) ?_
                   intro wv hnv hOv
                   have hbv : Below wu.heap.size wu wv := ((Below.refl _ wu).alloc (Nat.le_refl _) _).trans (hOv.below (by simp) (Nat.le_refl _) (fun k hk => by cases hk))
                   have hnw := (hbv.block _ (lt_of_at hnu)).trans hnu
                   clear hOv)
                | (refine wpList_load_ev _ rfl _ rfl rfl hnv ?_)
                | (refine wpList_load_ev _ rfl _ rfl rfl hnw ?_)
                | (go_at_call 14; refine (awake_fn _).mono ?_; rintro e w9 ⟨rfl, hb9⟩))
              go_ret
              exact ⟨rfl, Below.add (Below.add hbu2.out hbv) hb9⟩

end Go.Proofs.Ytdlfbkiihkhmmaa
