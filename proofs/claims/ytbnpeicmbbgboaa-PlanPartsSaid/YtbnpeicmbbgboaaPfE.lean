/-
  Own walks: the library's Delete and Insert at steps; the least of a stretch.
-/
import Derived.Test.YtbnpeicmbbgboaaPfD
import Derived.Lib.AppendZerosOnto
import Derived.Lib.Overlaps
import Derived.Laws.CopyRow
import Derived.Laws.Externs
namespace Go.Proofs.Ytbnpeicmbbgboaa
set_option maxRecDepth 8000
open Go.RowKit Go.Sort Go.Lib

theorem pf_zeroStep (w : World) : (zeroValue 49).run Try.prog w = .ok (.agg #[.int .i64 0, .int .i64 0]) w := by kernel_rfl

/-- 'copy', where its run is known. -/
theorem wpList_copy_eq {P : Program} (w : World) {ops : Array Oper} {rest : List Oper} {o : Oper} {a : Act} {Q : Exit → Act → World → Prop} (hgd : o.guard = none) (d s : Operand) (t t' : TypeId)
    (ho : o.op = .call { callee := .builtin .copy, args := #[d, s], argTypes := #[t, t'] }) (v u : Value) (hd : a.eval d = v) (hs : a.eval s = u) {v' : Value} {w' : World}
    (hr : (Builtin.copy_ #[t, t'] o.type #[v, u]).run P w = .ok v' w') (h : wpList P ops Q rest (a.put o.dst v') w') : wpList P ops Q (o :: rest) a w := by
  refine wpList_plain hgd fun K hK => ?_
  unfold Oper.wp execOp
  simp only [ho, resolve, invoke, builtin, Sem.run_bind, Sem.run_pure, Result.andThen_ok, List.map_toArray, List.map_cons, List.map_nil, hd, hs, hr]
  exact hK _ _ h

theorem Off.mono {g p : Nat} {w w' : World} (h : Off g g w w') : Off p g w w' := ⟨h.os, h.tape, h.output, h.size, fun k hk _ h2 => h.block k hk h2 h2⟩

theorem pf_splice_get {α : Type} (l vs : List α) (o : Nat) (h : o + vs.length ≤ l.length) (j : Nat) : (l.take o ++ vs ++ l.drop (o + vs.length))[j]? = if j < o then l[j]? else if j < o + vs.length then vs[j - o]? else l[j]? := by
  have hl1 : (l.take o).length = o := by rw [List.length_take]; omega
  rw [List.append_assoc]
  by_cases h1 : j < o
  · rw [if_pos h1, List.getElem?_append_left (by omega), List.getElem?_take, if_pos h1]
  · rw [if_neg h1, List.getElem?_append_right (by omega), hl1]
    by_cases h2 : j < o + vs.length
    · rw [if_pos h2, List.getElem?_append_left (by omega)]
    · rw [if_neg h2, List.getElem?_append_right (by omega), List.getElem?_drop]
      congr 1
      omega

section
variable {w : World} {base g n cap sz : Nat} {e : TypeId} {xs : List Value}

/-- Cells laid into an owned row. -/
theorem own_put (h : w.ownsRow base e sz (.slice (some ⟨g, 0, none⟩) n cap) n xs) (o : Nat) (vs : List Value) (hfit : o + vs.length ≤ n * sz) (h1 : ∀ u ∈ vs, u.oneCell' = true) :
    ∃ w', (∀ P : Program, (storeCells ⟨g, o, none⟩ vs).run P w = .ok () w') ∧ w'.ownsRow base e sz (.slice (some ⟨g, 0, none⟩) n cap) n (xs.take o ++ vs ++ xs.drop (o + vs.length)) ∧ Off g g w w' := by
  have hl := h.1
  rcases h.2 with ⟨e0, _⟩ | ⟨g', cap', cur, e0, hb, hg, hn, hm, hs, ht⟩
  · cases e0
  · cases e0
    have hcs : n * sz ≤ cur.size := by rw [hs]; exact Nat.mul_le_mul_right _ hn
    refine ⟨w.setRow g (cur.toList.take o ++ vs ++ cur.toList.drop (o + vs.length)).toArray, fun P => ?_, ⟨?_, .inr ⟨g, cap, _, rfl, hb, setRow_heap w g cur _ e _ hg, hn, hm, ?_, ?_⟩⟩, ⟨rfl, rfl, rfl, by simp, fun k hk _ hne => setRow_other w g k _ hne⟩⟩
    · have := run_storeCells_at P g o e vs 0 cur w hg (by omega) h1
      simpa using this
    · simp only [List.length_append, List.length_take, List.length_drop]; omega
    · simp only [List.size_toArray, List.length_append, List.length_take, List.length_drop, Array.length_toList]; omega
    · rw [← ht]
      apply List.ext_getElem?
      intro j
      show (List.take (n * sz) (cur.toList.take o ++ vs ++ cur.toList.drop (o + vs.length)))[j]? = _
      have hcl : cur.toList.length = cur.size := Array.length_toList
      rw [pf_splice_get (cur.toList.take (n * sz)) vs o (by rw [List.length_take, hcl]; omega), List.getElem?_take, pf_splice_get cur.toList vs o (by rw [hcl]; omega), List.getElem?_take]
      by_cases h2 : j < n * sz
      · rw [if_pos h2, if_pos h2]
      · rw [if_neg h2, if_neg h2, if_neg (by omega), if_neg (by omega)]

/-- 'copy' into an owned row. -/
theorem copy_put {P : Program} (dT sT : TypeId) (hu : P.underlying dT = some (.slice e)) (hs : (P.info? e).map (·.size) = some sz) (h : w.ownsRow base e sz (.slice (some ⟨g, 0, none⟩) n cap) n xs) (o : Nat) (vs : List Value) (hfit : o + vs.length ≤ n * sz) (h1 : ∀ u ∈ vs, u.oneCell' = true)
    (a : Addr) (m : Nat) (hvl : vs.length = m * sz) (hsrc : ∀ j v, vs[j]? = some v → w.cell? (a.add j) = some v) :
    ∃ w', (∀ ty dLen dCap sLen sCap, m = Nat.min sLen dLen → (Builtin.copy_ #[dT, sT] ty #[.slice (some ⟨g, o, none⟩) dLen dCap, .slice (some a) sLen sCap]).run P w = .ok (goInt m) w') ∧ w'.ownsRow base e sz (.slice (some ⟨g, 0, none⟩) n cap) n (xs.take o ++ vs ++ xs.drop (o + vs.length)) ∧ Off g g w w' := by
  obtain ⟨w', hst, h2, h3⟩ := own_put h o vs hfit h1
  refine ⟨w', fun ty dLen dCap sLen sCap hm => ?_, h2, h3⟩
  have hl := run_loadCells_list (P := P) w a vs hsrc
  cases hq : P.info? e with
  | none => simp [hq] at hs
  | some i =>
    have hi : i.size = sz := by simpa [hq] using hs
    simp [Builtin.copy_, run_underlying hu, Builtin.lenOf, Builtin.firstCells, sizeOf, typeInfo, hq, hi, ← hm, ← hvl, hl, hst]

/-- 'clear(s[c:])': the first c elements stay. -/
theorem clear_put {P : Program} {t : TypeId} {z : Value} {c : Nat} (ht : P.underlying t = some (.slice e)) (hv : ∀ w, (zeroValue e).run P w = .ok z w) (hz : z.cells.size = sz) (h1 : ∀ v ∈ z.cells.toList, v.oneCell' = true)
    (h : w.ownsRow base e sz (.slice (some ⟨g, 0, none⟩) n cap) n xs) (hc : c < n) (hs0 : 0 < sz) :
    ∃ w', (∀ ty m, (Builtin.clear_ #[t] ty #[.slice (some ⟨g, c * sz, none⟩) (n - c) m]).run P w = .ok (.tuple #[]) w') ∧ w'.ownsRow base e sz (.slice (some ⟨g, 0, none⟩) c cap) c (xs.take (c * sz)) ∧ Off g g w w' := by
  have hzl : (Builtin.zeroCells z.cells (n - c)).toList.length = (n - c) * sz := by rw [Array.length_toList, size_zeroCells, hz]
  have hmul : c * sz + (n - c) * sz = n * sz := by rw [← Nat.add_mul]; congr 1; omega
  have hz1 : ∀ v ∈ (Builtin.zeroCells z.cells (n - c)).toList, v.oneCell' = true := by
    intro v hv'
    simp [Builtin.zeroCells] at hv'
    obtain ⟨i, hi, rfl⟩ := hv'
    have hlt : i % z.cells.size < z.cells.size := Nat.mod_lt _ (by omega)
    rw [Array.getElem!_eq_getD, Array.getD, dif_pos hlt]
    exact h1 _ (by simp)
  have hxl := h.1
  obtain ⟨w', hst, h2, h3⟩ := own_put h (c * sz) (Builtin.zeroCells z.cells (n - c)).toList (by omega) hz1
  refine ⟨w', fun ty m => ?_, ?_, h3⟩
  · have hst := hst P
    obtain ⟨q, hq⟩ : ∃ q, n - c = q + 1 := ⟨n - c - 1, by omega⟩
    rw [hq] at hst ⊢
    simp [Builtin.clear_, run_underlying ht, hv, hst]
  · have := own_cut h2 (c := c) (by omega)
    rw [List.append_assoc, List.take_append_of_le_length (by rw [List.length_take]; omega), List.take_take, Nat.min_self] at this
    exact this

/-- 'append' within an owned row. -/
theorem append_put {P : Program} (t tx : TypeId) (i0 : TypeInfo) (hu : P.underlying t = some (.slice e)) (hi : P.info? e = some i0) (hsz : i0.size = sz) (h : w.ownsRow base e sz (.slice (some ⟨g, 0, none⟩) n cap) n xs) (i m : Nat) (vs : List Value) (hfit : i + m ≤ n) (x : Value) (hs : Src P sz tx x m vs w) :
    ∃ w', (∀ ty, (Builtin.append_ #[t, tx] ty #[.slice (some ⟨g, 0, none⟩) i cap, x]).run P w = .ok (.slice (some ⟨g, 0, none⟩) (i + m) cap) w') ∧ w'.ownsRow base e sz (.slice (some ⟨g, 0, none⟩) n cap) n (xs.take (i * sz) ++ vs ++ xs.drop (i * sz + vs.length)) ∧ Off g g w w' := by
  obtain ⟨_, _, hnc, _⟩ := own_heap h
  have hmul : i * sz + m * sz ≤ n * sz := by rw [← Nat.add_mul]; exact Nat.mul_le_mul_right _ hfit
  obtain ⟨w', hst, h2, h3⟩ := own_put h (i * sz) vs (by rw [hs.newsLen]; exact hmul) hs.one
  have hroom : i + m ≤ cap := by omega
  refine ⟨w', fun ty => ?_, h2, h3⟩
  subst hsz
  rcases hs.kind with ⟨e', hk⟩ | hk <;> simp [Builtin.append_, run_underlying hu, run_underlying hk, sizeOf, typeInfo, hi, hs.len, hroom, hs.cells, Addr.add_lit, hst]
end

section
variable {w : World} {g cap : Nat} {L : List (Int × Int)}

theorem Src_steps (ho : w.ownsRow 0 49 2 (.slice (some ⟨g, 0, none⟩) L.length cap) L.length (prV L)) {j : Nat} (hj : j ≤ L.length) (c : Nat) :
    Src Try.prog 2 46 (.slice (if cap = j then some ⟨g, 0, none⟩ else some ⟨g, j * 2, none⟩) (L.length - j) c) (L.length - j) (prV (L.drop j)) w := by
  obtain ⟨_, _, hnc, _⟩ := own_heap ho
  have hlen : (prV (L.drop j)).length = (L.length - j) * 2 := by rw [prV_length, List.length_drop]
  by_cases hc : cap = j
  · rw [if_pos hc]
    refine Src.ofSlice w Try.underlying46 _ _ _ _ hlen (fun q u hq => ?_) (prV_one _)
    have := (List.getElem?_eq_some_iff.1 hq).1
    omega
  · rw [if_neg hc]
    refine Src.ofSlice w Try.underlying46 _ _ _ _ hlen (fun q u hq => ?_) (prV_one _)
    rw [prV_drop, List.getElem?_drop] at hq
    have := ho.cells (g := g) rfl _ _ hq
    rw [Go.WideShapes.add_plain] at this ⊢
    simpa using this

set_option maxRecDepth 100000 in
set_option maxHeartbeats 1000000 in
theorem delete_any (i j : Nat) (ho : w.ownsRow 0 49 2 (.slice (some ⟨g, 0, none⟩) L.length cap) L.length (prV L)) (hl : L.length ≤ 1000) (hij : i ≤ j) (hj : j ≤ L.length) :
    Calls Try.prog 54 #[.slice (some ⟨g, 0, none⟩) L.length cap, .int .i64 i, .int .i64 j] w fun e w' => e = .returned (.slice (some ⟨g, 0, none⟩) (L.take i ++ L.drop j).length cap) ∧ w'.ownsRow 0 49 2 (.slice (some ⟨g, 0, none⟩) (L.take i ++ L.drop j).length cap) (L.take i ++ L.drop j).length (prV (L.take i ++ L.drop j)) ∧ Off g g w w' := by
  have hmix := pf_mixed
  obtain ⟨i0, hi0, hz0, hz1, hz2⟩ := info_parts pf_infoStep
  obtain ⟨_, _, hnc, hcm, _⟩ := own_heap ho
  have hlen : (L.take i ++ L.drop j).length = i + (L.length - j) := by rw [List.length_append, List.length_take, List.length_drop]; omega
  have hcm' : cap ≤ 9223372036854775807 := by unfold maxLen at hcm; omega
  clear hcm
  by_cases heq : i = j
  · subst heq
    have hn : (L.take i ++ L.drop i) = L := List.take_append_drop i L
    rw [hn]
    have b1 : (i : Int) ≤ (L.length : Int) := by omega
    have b2 : (0 : Int) ≤ (i : Int) := by omega
    clear hn hlen
    by_cases hli : L.length = i
    · subst hli
      go_enter Try.func54, Try.ntmps54
      go_wp2_with fail
      go_ret
      exact ⟨rfl, ho, Off.refl _ _ _⟩
    · go_enter Try.func54, Try.ntmps54
      go_wp2_with fail
      go_ret
      exact ⟨rfl, ho, Off.refl _ _ _⟩
  · have hlt : i < j := by omega
    rw [hlen]
    have hne : ¬ ((i : Int) = (j : Int)) := by omega
    obtain ⟨A, hA⟩ : ∃ A : Addr, (if cap = j then some (⟨g, 0, none⟩ : Addr) else some ⟨g, j * 2, none⟩) = some A := by
      by_cases h : cap = j
      · exact ⟨_, if_pos h⟩
      · exact ⟨_, if_neg h⟩
    have hcj : j ≤ cap := by omega
    have hci : i ≤ cap := by omega
    have hbi : (i : Int) ≤ (j : Int) := by omega
    have hbj : (j : Int) ≤ (L.length : Int) := by omega
    have hbc : (L.length : Int) ≤ (cap : Int) := by omega
    replace hlen := Lib.hid hlen
    go_enter Try.func54, Try.ntmps54
    go_wp2_with fail
    refine Reg.region_mk 6 33 [[], [false], [true, true], [false, false, false], [false, false, false, false], [false, false, false, true, true]] [0, 0, 0, 0, 0, 0]
      [.pure, .pure, .pure, .pure, .pure, .pure]
      (fun W => Below w.heap.size w W) (fun _ _ => True) (fun _ _ => False) (by kernel_rfl) (by kernel_rfl) rfl rfl (fun _ _ _ _ h => h) ?_ ?_ ?_ ?_ ?_ ?_
    · intro w1 w2 he hb; exact hb.trans (he.mono hb.size)
    · intro _ _ h; exact h.elim
    · refine ⟨trivial, trivial, trivial, trivial, trivial, trivial, trivial⟩
    · exact (Below.refl _ _).drew
    · exact trivial
    dsimp only [Reg.mk, List.zip, List.zipWith, List.take]
    repeat (refine' Reg.pass_is _ (by rfl) (fun wz => ?_) ?_; rotate_left; (go_simp; first | rfl | rw [if_neg (by omega)]); simp only [Act.put, List.setIfInBounds_toArray, List.set_cons_zero, List.set_cons_succ]; (try simp only [List.nil_append]); (try simp only [List.cons_append]))
    refine Reg.pass_end ?_
    intro w3 HI3 _ HF3
    clear HF3
    have ho3 := pf_own_kept ho HI3
    have hsrc := Src_steps ho3 hj (cap - j)
    rw [hA] at hsrc
    obtain ⟨w4, hrun, ho4, hoff⟩ := append_put 46 46 i0 Try.underlying46 hi0 hz1 ho3 i (L.length - j) _ (by omega) _ hsrc
    have hcl : i + (L.length - j) < L.length := by omega
    obtain ⟨w5, hcl5, hrow5, hb5⟩ := clear_put (P := Try.prog) (sz := 2) (c := i + (L.length - j)) Try.underlying46 pf_zeroStep rfl (by simp [Value.cells, Value.oneCell']) ho4 hcl (by decide)
    have hfin : w5.ownsRow 0 49 2 (.slice (some ⟨g, 0, none⟩) (i + (L.length - j)) cap) (i + (L.length - j)) (prV (L.take i ++ L.drop j)) := by
      have e1 : ((prV L).take (i * 2) ++ prV (L.drop j) ++ (prV L).drop (i * 2 + (prV (L.drop j)).length)).take ((i + (L.length - j)) * 2) = prV (L.take i ++ L.drop j) := by
        have hA1 : ((prV L).take (i * 2) ++ prV (L.drop j)).length = (i + (L.length - j)) * 2 := by
          rw [List.length_append, List.length_take, prV_length, prV_length, List.length_drop]; omega
        rw [← hA1, List.take_left, prV_append, prV_take]
      rw [e1] at hrow5
      exact hrow5
    have hoff5 : Off g g w w5 := by
      exact ((Off.of_below HI3).trans hoff (.inl rfl)).trans hb5 (.inl rfl)
    have b1 : ¬ (cap = i + (L.length - j)) := by omega
    have b2 : (i : Int) + ((L.length - j : Nat) : Int) ≤ (L.length : Int) := by omega
    have b3 : i + (L.length - j) ≤ L.length := by omega
    clear hb5 hrow5 ho4 hoff hsrc ho3 ho
    dsimp only [List.drop]
    go_wp2_with (at_builtin; refine Lib.wpList_append_run _ rfl _ _ _ _ rfl _ _ rfl rfl _ _ (hrun _) ?_)
    go_ret
    exact ⟨by go_num, hfin, hoff5⟩
end

end Go.Proofs.Ytbnpeicmbbgboaa
