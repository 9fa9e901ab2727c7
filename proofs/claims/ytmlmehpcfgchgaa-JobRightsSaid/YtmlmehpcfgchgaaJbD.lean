/-
  Own walks: looking for a job in a table: Get, find, and what they stand on; cells of one job turned.
-/
import Derived.Test.YtmlmehpcfgchgaaJbC
import Derived.Test.YtmlmehpcfgchgaaOrI
namespace Go.Proofs.Ytmlmehpcfgchgaa
open Go.RowKit Go.Sort Go.Lib Go.Shelf Put

def enc1 (x : Int) : List Value := [.int .i64 x]

theorem within_fn (a m : Int) (w : World) : Calls Try.prog 38 #[.int .i64 a, .int .i64 m] w fun e w' => e = .returned (.bool (decide (0 ≤ a) && decide (a ≤ m))) ∧ w = w' := by
  by_cases h1 : 0 ≤ a
  · have d1 : decide (0 ≤ a) = true := decide_eq_true h1
    by_cases h2 : a ≤ m
    · have d2 : decide (a ≤ m) = true := decide_eq_true h2
      go_enter Try.func38, Try.ntmps38
      go_wp2_with fail
      go_ret
      exact ⟨by simp [h1, h2], rfl⟩
    · have d2 : decide (a ≤ m) = false := decide_eq_false h2
      go_enter Try.func38, Try.ntmps38
      go_wp2_with fail
      go_ret
      exact ⟨by simp, rfl⟩
  · have d1 : decide (0 ≤ a) = false := decide_eq_false h1
    go_enter Try.func38, Try.ntmps38
    go_wp2_with fail
    go_ret
    exact ⟨by simp, rfl⟩

/-- A new block of numbers is a list of them. -/
theorem ints_new (w : World) (b : Nat) (l : List Int) (hb : b = w.heap.size) (hl : l.length ≤ 1000) : RowAt enc1 1 (w.alloc (.cells (l.flatMap enc1).toArray 3)) (.slice (some ⟨b, 0, none⟩) l.length l.length) l := by
  subst hb
  have hlen : (l.flatMap enc1).length = l.length * 1 := by
    clear hl
    induction l with
    | nil => rfl
    | cons a l ih => rw [List.flatMap_cons, List.length_append, ih, List.length_cons]; simp [enc1]; omega
  exact RowAt.of_own (base := w.heap.size) (e := 3) (own_new rfl (Nat.le_refl _) hlen (by unfold maxLen; omega)) (fun _ => rfl) rfl rfl

section
variable {w w' : World} {p : Nat} {v : Value} {L : List Jb}

theorem Index_fn (x : Int) {ps : List Int} (hr : RowAt enc1 1 w v ps) : Calls Try.prog 40 #[v, .int .i64 x] w fun e w' => (∃ r : Int, e = .returned (.int .i64 r) ∧ (0 ≤ r ↔ x ∈ ps)) ∧ w = w' := by
  obtain ⟨ao, cap, rfl, q1, q2, q3⟩ := hr
  obtain ⟨n, hn⟩ : ∃ n, ps.length = n := ⟨_, rfl⟩
  have HQ : Hid (∀ i, i < n → ∃ b off, ao = some ⟨b, off, none⟩ ∧ w.cell? ⟨b, off + i, none⟩ = some (.int .i64 ps[i]!)) := fun i hi => by
    obtain ⟨b, off, e, _, hc⟩ := q3 (by omega)
    refine ⟨b, off, e, ?_⟩
    have := hc i _ 0 _ (by rw [List.getElem?_eq_getElem (by omega), getElem!_pos ps i (by omega)]) (show (enc1 ps[i]!)[0]? = some _ from rfl)
    simpa using this
  have hnM : n ≤ 9223372036854775807 := by unfold maxLen at q2; omega
  have hcM : cap ≤ 9223372036854775807 := by unfold maxLen at q2; omega
  clear q3
  rw [hn] at q1 ⊢
  replace hn := Lib.hid hn
  go_enter Try.func40, Try.ntmps40
  go_wp2_with fail
  go_loopw [8] (fun ii wr => ∃ (i : Nat), i ≤ n ∧ ii = .int .i64 i ∧ Hid (x ∉ ps.take i) ∧ w = wr) (fun ii _ => n - (intOf ii).toNat)
  case atStart => exact ⟨0, Nat.zero_le _, rfl, Lib.hid (by simp), rfl⟩
  case round =>
    obtain ⟨i, hin, rfl, hno, rfl⟩ := hrel
    by_cases hlt : i < n
    · have b2 : (i : Int) < (n : Int) := by omega
      have wi : IntKind.i64.wrap ((i : Int) + 1) = (i : Int) + 1 := by rw [IntKind.wrap_i64]; omega
      obtain ⟨b, off, rfl, c⟩ := HQ.out i hlt
      have hiL : i < ps.length := by have := hn.out; omega
      have hm : x ∈ ps.take (i + 1) ↔ x ∈ ps.take i ∨ x = ps[i]! := by
        rw [List.take_add_one, List.getElem?_eq_getElem hiL, getElem!_pos ps i hiL, Option.toList_some, List.mem_append, List.mem_singleton]
      have hmem : ps[i]! ∈ ps := by rw [getElem!_pos ps i hiL]; exact List.getElem_mem _
      by_cases hx : x = ps[i]!
      · have hin : Hid (x ∈ ps) := by show x ∈ ps; rw [hx]; exact hmem
        clear hm hmem
        rw [← hx] at c
        clear hx
        go_wp2_with fail
        go_ret
        refine ⟨⟨i, rfl, ?_⟩, rfl⟩
        exact ⟨fun _ => hin.out, fun _ => by omega⟩
      · have d : (x == ps[i]!) = false := beq_eq_false_iff_ne.2 hx
        have hno2 : Hid (x ∉ ps.take (i + 1)) := by
          show ¬ _
          rw [hm]
          rintro (h | h)
          · exact hno.out h
          · exact hx h
        clear hm hmem hx hno
        generalize ps[i]! = y at *
        go_wp2_with fail
        go_roundw
        case rel => exact ⟨i + 1, by omega, by go_num, hno2, trivial⟩
        case measure => simp [intOf]; omega
    · obtain rfl : i = n := by omega
      have b2 : ¬ (i : Int) < (i : Int) := by omega
      go_wp2_with fail
      go_ret
      refine ⟨⟨-1, rfl, ?_⟩, rfl⟩
      have e1 : ps.take i = ps := List.take_of_length_le (by rw [hn.out]; exact Nat.le_refl _)
      have h2 := hno.out
      rw [e1] at h2
      exact ⟨fun h => by omega, fun h => absurd h h2⟩

theorem Contains_fn (x : Int) {ps : List Int} (hr : RowAt enc1 1 w v ps) : Calls Try.prog 35 #[v, .int .i64 x] w fun e w' => e = .returned (.bool (decide (x ∈ ps))) ∧ w = w' := by
  have hi := Index_fn x hr
  clear hr
  go_enter Try.func35, Try.ntmps35
  go_wp2_with (go_at_call 40; go_must (refine hi.mono ?_); rintro e w' ⟨⟨r, rfl, hd⟩, rfl⟩; replace hd := Lib.hid hd)
  go_ret
  exact ⟨by rw [← decide_eq_decide.2 hd.out]; rfl, rfl⟩

/-- What Get tells. -/
def getE (L : List Jb) (id : Int) : Int := if id < 1 then 7 else if (L.length : Int) < id then 7 else 0
def getJ (L : List Jb) (id : Int) : Jb := if id < 1 then default else if (L.length : Int) < id then default else L[(id - 1).toNat]!
def GetPost (w : World) (L : List Jb) (id : Int) (e : Ending) (w' : World) : Prop := e = .returned (.tuple #[.agg (encJ (getJ L id)).toArray, .int .i64 (getE L id)]) ∧ Gr w w'

/-- A result that is a job in a block of its own, and another beside it. -/
theorem ret_job {fn : Func} {q u : Tmp} {b : Nat} {tmps : Array Value} {w : World} {cs : List Value} (h : fn.results = #[.cell q 52, .tmp u]) (ha : tmps.getD q undef = .pointer (some ⟨b, 0, none⟩)) (hb : w.heap[b]? = some (.cells cs.toArray 52 (0, 0))) (hl : cs.length = 10) :
    (results fn tmps).run Try.prog w = .ok (.tuple #[.agg cs.toArray, tmps.getD u undef]) w := by
  have h1 : Sem.run Try.prog (loadCells ⟨b, 0, none⟩ 10) w = .ok cs.toArray w := load_box hb hl
  rw [results_cell_tmp h, ha]
  simp only [loadVar, asAddr, Sem.run_bind, Sem.run_pure, Result.andThen_ok, aE_job, zE_job, h1, if_true]
theorem Gr.one (w : World) (o : Obj) : Gr w (w.alloc o) := ⟨0, #[o], by rw [Go.Sort.alloc_eq_grow]; rfl⟩

/-- What is there already, stored once more. -/
theorem setCell_same {w : World} {b i : Nat} {v : Value} {cs : Array Value} {t : TypeId} {fz : Nat × Nat} (h : w.heap[b]? = some (.cells cs t fz)) (hv : cs[i]? = some v) : w.setCell ⟨b, i, none⟩ v = w := by
  have hlt := Put.lt_of_heap h
  have h3 : cs.setIfInBounds i v = cs := by
    refine Array.ext (by simp) fun q h4 h5 => ?_
    rw [Array.getElem_setIfInBounds]
    · by_cases eq : i = q
      · subst eq
        rw [Array.getElem?_eq_getElem h5] at hv
        rw [if_pos rfl]
        exact (Option.some.inj hv).symm
      · rw [if_neg eq]
  have e : ∀ F : Obj → Obj, F (.cells cs t fz) = .cells cs t fz → w.heap.modify b F = w.heap := fun F hF => by
    refine Array.ext (by simp) fun j h1 h2 => ?_
    rw [Array.getElem_modify]
    by_cases ej : b = j
    · subst ej
      rw [Array.getElem?_eq_getElem hlt] at h
      replace h := Option.some.inj h
      rw [if_pos rfl, h, hF]
    · rw [if_neg ej]
  unfold World.setCell
  rw [e _ (by simp [h3])]
theorem zero_box {w : World} {b : Nat} {cs : Array Value} (h : w.heap[b]? = some (.cells cs 52 (0, 0))) : ∀ j u, cs[j]? = some u → w.cell? ⟨b, j, none⟩ = some u ∧ w.frozen? ⟨b, j, none⟩ = false ∧ w.setCell ⟨b, j, none⟩ u = w := fun j u hj =>
  ⟨by simp [World.cell?, h, hj], by simp [World.frozen?, h], setCell_same h hj⟩

set_option maxRecDepth 100000 in
set_option maxHeartbeats 1000000 in
theorem Get_fn (h : TV w p v L) (id : Int) : Calls Try.prog 25 #[.pointer (some ⟨p, 0, none⟩), .int .i64 id] w (GetPost w L id) := by
  have hb1 := (Below.refl w.heap.size w).alloc (Nat.le_refl _) (.cells #[.int .i64 0, .int .i64 0, .int .i64 0, .int .i64 0, .int .i64 0, .int .i64 0, .int .i64 0, .int .i64 0, .int .i64 0, .int .u64 0] 52)
  have h1 := h.kept hb1
  have hA := heap_alloc_new w (.cells #[.int .i64 0, .int .i64 0, .int .i64 0, .int .i64 0, .int .i64 0, .int .i64 0, .int .i64 0, .int .i64 0, .int .i64 0, .int .u64 0] 52)
  have hg := Lib.hid (Gr.one w (.cells #[.int .i64 0, .int .i64 0, .int .i64 0, .int .i64 0, .int .i64 0, .int .i64 0, .int .i64 0, .int .i64 0, .int .i64 0, .int .u64 0] 52))
  have hle := own_len h.own
  have stx := fun (_ : True) => store_new w w.heap.size (encJ L[(id - 1).toNat]!) (encJ default) 52 rfl (by rw [encJ_len, encJ_len]) (encJ_one _)
  have hb2 := (Below.refl w.heap.size w).alloc (Nat.le_refl _) (.cells (encJ L[(id - 1).toNat]!).toArray 52)
  have hA2 := Lib.hid (heap_alloc_new w (.cells (encJ L[(id - 1).toNat]!).toArray 52))
  have hg2 := Lib.hid (Gr.one w (.cells (encJ L[(id - 1).toNat]!).toArray 52))
  rw [show encJ default = [.int .i64 0, .int .i64 0, .int .i64 0, .int .i64 0, .int .i64 0, .int .i64 0, .int .i64 0, .int .i64 0, .int .i64 0, .int .u64 0] from rfl] at stx
  obtain ⟨w1, hw1⟩ : ∃ w1, w1 = w.alloc (.cells #[.int .i64 0, .int .i64 0, .int .i64 0, .int .i64 0, .int .i64 0, .int .i64 0, .int .i64 0, .int .i64 0, .int .i64 0, .int .u64 0] 52) := ⟨_, rfl⟩
  rw [← hw1] at h1 hA hg stx
  have hno := none_fn h1
  have c1 := h1.c1
  have ePost : GetPost w L id = (fun e w' => e = .returned (.tuple #[.agg (encJ (getJ L id)).toArray, .int .i64 (getE L id)]) ∧ Gr w w') := rfl
  by_cases a1 : id < 1
  · have d1 : decide (id < 1) = true := decide_eq_true a1
    have e1 : getE L id = 7 := by unfold getE; rw [if_pos a1]
    have e2 : getJ L id = default := by unfold getJ; rw [if_pos a1]
    rw [ePost, e1, e2]
    clear e1 e2 ePost h h1 stx c1 hb1 hb2 hA2 hg2 a1
    obtain ⟨k0, f0, s0⟩ := zero_box hA 0 (.int .i64 0) rfl
    obtain ⟨k1, f1, s1⟩ := zero_box hA 1 (.int .i64 0) rfl
    obtain ⟨k2, f2, s2⟩ := zero_box hA 2 (.int .i64 0) rfl
    obtain ⟨k3, f3, s3⟩ := zero_box hA 3 (.int .i64 0) rfl
    obtain ⟨k4, f4, s4⟩ := zero_box hA 4 (.int .i64 0) rfl
    obtain ⟨k5, f5, s5⟩ := zero_box hA 5 (.int .i64 0) rfl
    obtain ⟨k6, f6, s6⟩ := zero_box hA 6 (.int .i64 0) rfl
    obtain ⟨k7, f7, s7⟩ := zero_box hA 7 (.int .i64 0) rfl
    obtain ⟨k8, f8, s8⟩ := zero_box hA 8 (.int .i64 0) rfl
    obtain ⟨k9, f9, s9⟩ := zero_box hA 9 (.int .u64 0) rfl
    replace hA := Lib.hid hA
    go_enter Try.func25, Try.ntmps25
    go_wp2_with fail
    go_at_call 30
    rw [← hw1]
    replace hw1 := Lib.hid hw1
    refine hno.mono ?_
    clear hno
    rintro e w' ⟨rfl, rfl⟩
    go_wp2_with fail
    (try simp only [Exit.inBlock, Exit.then])
    refine bodyPost_ret (ret_job (b := w.heap.size) (cs := encJ default) rfl rfl hA.out (encJ_len _)) rfl ?_
    exact ⟨rfl, hg.out⟩
  · have d1 : decide (id < 1) = false := decide_eq_false a1
    by_cases a2 : (L.length : Int) < id
    · have d2 : decide ((L.length : Int) < id) = true := decide_eq_true a2
      have e1 : getE L id = 7 := by unfold getE; rw [if_neg a1, if_pos a2]
      have e2 : getJ L id = default := by unfold getJ; rw [if_neg a1, if_pos a2]
      obtain ⟨ao, cap, rfl, _⟩ := own_shape h.own
      rw [ePost, e1, e2]
      clear e1 e2 ePost h h1 stx hb1 hb2 hA2 hg2
      obtain ⟨k0, f0, s0⟩ := zero_box hA 0 (.int .i64 0) rfl
      obtain ⟨k1, f1, s1⟩ := zero_box hA 1 (.int .i64 0) rfl
      obtain ⟨k2, f2, s2⟩ := zero_box hA 2 (.int .i64 0) rfl
      obtain ⟨k3, f3, s3⟩ := zero_box hA 3 (.int .i64 0) rfl
      obtain ⟨k4, f4, s4⟩ := zero_box hA 4 (.int .i64 0) rfl
      obtain ⟨k5, f5, s5⟩ := zero_box hA 5 (.int .i64 0) rfl
      obtain ⟨k6, f6, s6⟩ := zero_box hA 6 (.int .i64 0) rfl
      obtain ⟨k7, f7, s7⟩ := zero_box hA 7 (.int .i64 0) rfl
      obtain ⟨k8, f8, s8⟩ := zero_box hA 8 (.int .i64 0) rfl
      obtain ⟨k9, f9, s9⟩ := zero_box hA 9 (.int .u64 0) rfl
      replace hA := Lib.hid hA
      generalize L.length = n at *
      clear a1 a2
      go_enter Try.func25, Try.ntmps25
      go_wp2_with fail
      go_at_call 30
      rw [← hw1]
      replace hw1 := Lib.hid hw1
      refine hno.mono ?_
      clear hno
      rintro e w' ⟨rfl, rfl⟩
      go_wp2_with fail
      (try simp only [Exit.inBlock, Exit.then])
      refine bodyPost_ret (ret_job (b := w.heap.size) (cs := encJ default) rfl rfl hA.out (encJ_len _)) rfl ?_
      exact ⟨rfl, hg.out⟩
    · have d2 : decide ((L.length : Int) < id) = false := decide_eq_false a2
      have e1 : getE L id = 0 := by unfold getE; rw [if_neg a1, if_neg a2]
      have e2 : getJ L id = L[(id - 1).toNat]! := by unfold getJ; rw [if_neg a1, if_neg a2]
      obtain ⟨m, rfl⟩ : ∃ m : Nat, id = (m : Int) + 1 := ⟨(id - 1).toNat, by omega⟩
      have em : ((m : Int) + 1 - 1).toNat = m := by omega
      rw [em] at e2 stx hA2 hg2 hb2
      have hm : m < L.length := by omega
      obtain ⟨g, cap, rfl⟩ := h.shape (by omega)
      rw [ePost, e1, e2]
      clear e1 e2 ePost em hb1 hg
      have zE := zE_job
      obtain ⟨k, hk⟩ : ∃ k, k = 10 := ⟨_, rfl⟩
      have LI := h1.row.load hk hm
      simp only [Nat.zero_add] at LI
      have lI := encJ_len L[m]!
      have lI2 := Lib.hid (encJ_len L[m]!)
      have st := stx trivial
      rw [← hk] at zE lI
      replace hk := Lib.hid hk
      clear h h1 stx hb2
      generalize encJ L[m]! = cI at *
      generalize L.length = n at *
      have wi : IntKind.i64.wrap ((m : Int) + 1 - 1) = (m : Int) := by rw [IntKind.wrap_i64]; omega
      have b1 : (m : Int) < (n : Int) := by omega
      have b0 : (0 : Int) ≤ (m : Int) := by omega
      clear a1 a2
      go_enter Try.func25, Try.ntmps25
      go_wp2_with fail
      go_at_call 30
      rw [← hw1]
      replace hw1 := Lib.hid hw1
      refine hno.mono ?_
      clear hno
      rintro e w' ⟨rfl, rfl⟩
      go_wp2_with fail
      (try simp only [Exit.inBlock, Exit.then])
      refine bodyPost_ret (ret_job (b := w.heap.size) (cs := cI) rfl rfl hA2.out lI2.out) rfl ?_
      exact ⟨rfl, hg2.out⟩

end
end Go.Proofs.Ytmlmehpcfgchgaa
