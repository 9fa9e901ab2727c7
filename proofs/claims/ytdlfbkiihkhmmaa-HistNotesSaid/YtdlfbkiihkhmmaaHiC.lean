/-
  Own laws of the walk: an event is loaded, a slice of one event is built; contracts: Index, Contains.
-/
import Derived.Test.YtdlfbkiihkhmmaaHiB
namespace Go.Proofs.Ytdlfbkiihkhmmaa
set_option maxRecDepth 8000
open Go.RowKit Go.Lib Put

theorem run_load_ev {W : World} {p : Nat} {x : Ev} (h : W.heap[p]? = some (.cells (encE x).toArray 36 (0, 0))) : (Instr.loadAt 36 (.pointer (some ⟨p, 0, none⟩))).run Try.prog W = .ok (.agg (encE x).toArray) W := by
  have zE := zE_ev
  obtain ⟨k, hk⟩ : ∃ k, k = 24 := ⟨_, rfl⟩
  rw [← hk] at zE
  have LB := ev_load h hk
  clear hk h
  go_simp
/-- A load of an event that lies in a block of its own. -/
theorem wpList_load_ev (w : World) {ops : Array Oper} {rest : List Oper} {o : Oper} {a : Act} {Q : Exit → Act → World → Prop} (hgd : o.guard = none) (p : Operand) (ho : o.op = .load 36 p) {b : Nat} {x : Ev}
    (hp : a.eval p = .pointer (some ⟨b, 0, none⟩)) (hb : w.heap[b]? = some (.cells (encE x).toArray 36 (0, 0))) (h : wpList Try.prog ops Q rest (a.put o.dst (.agg (encE x).toArray)) w) : wpList Try.prog ops Q (o :: rest) a w := by
  refine wpList_plain hgd fun K hK => ?_
  have hrun := run_load_ev hb
  unfold Oper.wp
  simp only [execOp, ho, hp, Sem.run_bind, hrun, Result.andThen_ok, Sem.run_pure]
  exact hK _ _ h

theorem run_slice_ev (x : Ev) (W : World) : (Instr.buildSlice 22 1 #[(0, .agg (encE x).toArray)]).run Try.prog W = .ok (.slice (some ⟨W.heap.size, 0, none⟩) 1 1) (W.alloc (.cells (encE x).toArray 36)) := by
  obtain ⟨x0, x1, x2, x3, x4, x5, x6, x7, x8, x9, x10, x11, x12, x13, x14, x15, x16, x17, x18, x19, x20, x21, x22, x23⟩ := x
  simp only [encE]
  go_simp
/-- A slice of one event is built. -/
theorem wpList_slice_ev (w : World) {ops : Array Oper} {rest : List Oper} {o : Oper} {a : Act} {Q : Exit → Act → World → Prop} (hgd : o.guard = none) (p : Operand) (ho : o.op = .buildSlice 22 1 #[(0, p)]) {x : Ev}
    (hp : a.eval p = .agg (encE x).toArray) (h : wpList Try.prog ops Q rest (a.put o.dst (.slice (some ⟨w.heap.size, 0, none⟩) 1 1)) (w.alloc (.cells (encE x).toArray 36))) : wpList Try.prog ops Q (o :: rest) a w := by
  refine wpList_plain hgd fun K hK => ?_
  have hrun := run_slice_ev x w
  unfold Oper.wp
  simp only [execOp, ho, hp, List.map_toArray, List.map_cons, List.map_nil, Sem.run_bind, hrun, Result.andThen_ok, Sem.run_pure]
  exact hK _ _ h

theorem run_store_ev {W : World} {n : Nat} {cs : Array Value} {y : Ev} (h : W.heap[n]? = some (.cells cs 36 (0, 0))) (hc : cs.size = 24) : ∃ W', (Instr.storeAt 36 (.pointer (some ⟨n, 0, none⟩)) (.agg (encE y).toArray)).run Try.prog W = .ok () W' ∧ W'.heap[n]? = some (.cells (encE y).toArray 36 (0, 0)) ∧ HOff n none W W' := by
  have zE := zE_ev
  have hst := run_storeCells_at Try.prog n 0 36 (encE y) 0 cs W h (by rw [hc]; exact Nat.le_refl _) (encE_one y)
  simp only [Nat.add_zero] at hst
  have e : (cs.toList.take 0 ++ encE y ++ cs.toList.drop (0 + (encE y).length)).toArray = (encE y).toArray := by
    rw [List.drop_of_length_le (by rw [encE_len, Array.length_toList, hc]; exact Nat.le_refl _)]; simp
  rw [e] at hst
  refine ⟨W.setRow n (encE y).toArray, ?_, setRow_heap W n cs _ _ _ h, ⟨rfl, rfl, rfl, by simp, fun k hk hne _ => setRow_other W n k _ hne⟩⟩
  obtain ⟨k, hk⟩ : ∃ k, k = 24 := ⟨_, rfl⟩
  have hl := encE_len y
  rw [← hk] at zE hl
  clear hk
  generalize encE y = cE at *
  go_simp
/-- An event is stored over a block of its own. -/
theorem wpList_store_ev (w : World) {ops : Array Oper} {rest : List Oper} {o : Oper} {a : Act} {Q : Exit → Act → World → Prop} (hgd : o.guard = none) (p x : Operand) (ho : o.op = .store 36 p x) (hd : o.dst = none) {n : Nat} {cs : Array Value} {y : Ev}
    (hp : a.eval p = .pointer (some ⟨n, 0, none⟩)) (hx : a.eval x = .agg (encE y).toArray) (hn : w.heap[n]? = some (.cells cs 36 (0, 0))) (hc : cs.size = 24)
    (h : ∀ w', w'.heap[n]? = some (.cells (encE y).toArray 36 (0, 0)) → HOff n none w w' → wpList Try.prog ops Q rest a w') : wpList Try.prog ops Q (o :: rest) a w := by
  refine wpList_plain hgd fun K hK => ?_
  obtain ⟨w', hrun, h1, h2⟩ := run_store_ev (y := y) hn hc
  unfold Oper.wp
  simp only [execOp, ho, hp, hx, Sem.run_bind, hrun, Result.andThen_ok, Sem.run_pure]
  exact hK _ _ (by rw [hd]; exact h w' h1 h2)

/-- One more event is appended to a row of one's own. -/
theorem wpList_append_ev (w : World) {ops : Array Oper} {rest : List Oper} {o : Oper} {a : Act} {Q : Exit → Act → World → Prop} (hgd : o.guard = none) (s x : Operand) (ho : o.op = .call { callee := .builtin .append, args := #[s, x], argTypes := #[22, 22] })
    (base : Nat) (v : Value) (M : List Ev) (hs : a.eval s = v) (hown : w.ownsRow base 36 24 v M.length (M.flatMap encE)) (b : Nat) (y : Ev) (hx : a.eval x = .slice (some ⟨b, 0, none⟩) 1 1) (hb : w.heap[b]? = some (.cells (encE y).toArray 36 (0, 0)))
    (hl : M.length ≤ 1000) (hbase : base ≤ w.heap.size)
    (h : ∀ v' w', w'.ownsRow base 36 24 v' (M ++ [y]).length ((M ++ [y]).flatMap encE) → w.grownBy w' v.ownBlock → (v'.ownBlock = v.ownBlock ∨ v'.ownBlock = some w.heap.size) → wpList Try.prog ops Q rest (a.put o.dst v') w') : wpList Try.prog ops Q (o :: rest) a w := by
  obtain ⟨i0, hi0, hz0, hz1, hz2⟩ := info_parts infoE
  refine wpList_append_new w hgd s x 22 22 ho base 36 i0 (.agg #[.int .i64 0, .int .i64 0, .int .i64 0, .int .i64 0, .int .i64 0, .int .i64 0, .int .i64 0, .int .i64 0, .int .i64 0, .bool false, .int .i64 0, .int .i64 0, .int .i64 0, .int .i64 0, .int .i64 0, .int .i64 0, .int .i64 0, .int .i64 0, .int .i64 0, .int .i64 0, .int .i64 0, .int .i64 0, .int .i64 0, .bool false]) 24 192 Try.underlying22 hi0 hz0 hz1 hz2 rfl v M.length (M.flatMap encE) hs hown _ 1 (encE y) hx (Src.ofSlice w Try.underlying22 ⟨b, 0, none⟩ 1 1 (encE y) (encE_len y) (fun j u hj => by rw [Go.WideShapes.add_plain]; simpa using ev_cells hb j u hj) (encE_one y)) (by unfold maxLen; omega) (by omega) hbase ?_
  intro v' w' h1 h2 h3
  refine h v' w' ?_ h2 h3
  rw [List.length_append, List.flatMap_append]
  simpa using h1

def enc1 (x : Int) : List Value := [.int .i64 x]
section
variable {w w' : World} {v : Value}
theorem Index_fn (x : Int) {ps : List Int} (hr : RowAt enc1 1 w v ps) : Calls Try.prog 20 #[v, .int .i64 x] w fun e w' => (∃ r : Int, e = .returned (.int .i64 r) ∧ (0 ≤ r ↔ x ∈ ps)) ∧ w = w' := by
  obtain ⟨ao, cap, rfl, q1, q2, q3⟩ := hr
  obtain ⟨n, hn⟩ : ∃ n, ps.length = n := ⟨_, rfl⟩
  have HQ : Hid (∀ i, i < n → ∃ b off, ao = some ⟨b, off, none⟩ ∧ w.cell? ⟨b, off + i, none⟩ = some (.int .i64 ps[i]!)) := fun i hi => by
    obtain ⟨b, off, e, _, hc⟩ := q3 (by omega)
    refine ⟨b, off, e, ?_⟩
    have := hc i _ 0 _ (by rw [List.getElem?_eq_getElem (by omega), getElem!_pos ps i (by omega)]) (show (enc1 ps[i]!)[0]? = some _ from rfl)
    simpa using this
  have hnM : n ≤ 9223372036854775807 := by unfold maxLen at q2; omega
  have hcM : cap ≤ 9223372036854775807 := by unfold maxLen at q2; omega
  clear q3
  rw [hn] at q1 ⊢
  replace hn := Lib.hid hn
  go_enter Try.func20, Try.ntmps20
  go_wp2_with fail
  go_loopw [8] (fun ii wr => ∃ (i : Nat), i ≤ n ∧ ii = .int .i64 i ∧ Hid (x ∉ ps.take i) ∧ w = wr) (fun ii _ => n - (intOf ii).toNat)
  case atStart => exact ⟨0, Nat.zero_le _, rfl, Lib.hid (by simp), rfl⟩
  case round =>
    obtain ⟨i, hin, rfl, hno, rfl⟩ := hrel
    by_cases hlt : i < n
    · have b2 : (i : Int) < (n : Int) := by omega
      have wi : IntKind.i64.wrap ((i : Int) + 1) = (i : Int) + 1 := by rw [IntKind.wrap_i64]; omega
      obtain ⟨b, off, rfl, c⟩ := HQ.out i hlt
      have hiL : i < ps.length := by have := hn.out; omega
      have hm : x ∈ ps.take (i + 1) ↔ x ∈ ps.take i ∨ x = ps[i]! := by
        rw [List.take_add_one, List.getElem?_eq_getElem hiL, getElem!_pos ps i hiL, Option.toList_some, List.mem_append, List.mem_singleton]
      have hmem : ps[i]! ∈ ps := by rw [getElem!_pos ps i hiL]; exact List.getElem_mem _
      by_cases hx : x = ps[i]!
      · have hin : Hid (x ∈ ps) := by show x ∈ ps; rw [hx]; exact hmem
        clear hm hmem
        rw [← hx] at c
        clear hx
        go_wp2_with fail
        go_ret
        refine ⟨⟨i, rfl, ?_⟩, rfl⟩
        exact ⟨fun _ => hin.out, fun _ => by omega⟩
      · have d : (x == ps[i]!) = false := beq_eq_false_iff_ne.2 hx
        have hno2 : Hid (x ∉ ps.take (i + 1)) := by
          show ¬ _
          rw [hm]
          rintro (h | h)
          · exact hno.out h
          · exact hx h
        clear hm hmem hx hno
        generalize ps[i]! = y at *
        go_wp2_with fail
        go_roundw
        case rel => exact ⟨i + 1, by omega, by go_num, hno2, trivial⟩
        case measure => simp [intOf]; omega
    · obtain rfl : i = n := by omega
      have b2 : ¬ (i : Int) < (i : Int) := by omega
      go_wp2_with fail
      go_ret
      refine ⟨⟨-1, rfl, ?_⟩, rfl⟩
      have e1 : ps.take i = ps := List.take_of_length_le (by rw [hn.out]; exact Nat.le_refl _)
      have h2 := hno.out
      rw [e1] at h2
      exact ⟨fun h => by omega, fun h => absurd h h2⟩

theorem Contains_fn (x : Int) {ps : List Int} (hr : RowAt enc1 1 w v ps) : Calls Try.prog 17 #[v, .int .i64 x] w fun e w' => e = .returned (.bool (decide (x ∈ ps))) ∧ w = w' := by
  have hi := Index_fn x hr
  clear hr
  go_enter Try.func17, Try.ntmps17
  go_wp2_with (go_at_call 20; go_must (refine hi.mono ?_); rintro e w' ⟨⟨r, rfl, hd⟩, rfl⟩; replace hd := Lib.hid hd)
  go_ret
  exact ⟨by rw [← decide_eq_decide.2 hd.out]; rfl, rfl⟩
end

end Go.Proofs.Ytdlfbkiihkhmmaa
