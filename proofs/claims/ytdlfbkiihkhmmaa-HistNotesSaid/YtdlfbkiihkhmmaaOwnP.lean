/-
  Own helpers (any program): cells laid into an owned row, a row's end cleared, append within a row; what stays as it was but for two blocks. Nothing of a program is said here.
-/
import Derived.Test.YtdlfbkiihkhmmaaOwnK
import Derived.Lib.AppendZerosOnto
import Derived.Lib.Overlaps
import Derived.Laws.CopyRow
import Derived.Laws.Externs
namespace Go.Proofs.Ytdlfbkiihkhmmaa
set_option maxRecDepth 8000
open Go.RowKit Go.Sort Go.Lib
namespace Put

theorem own_kept {w w' : World} {base : Nat} {e : TypeId} {size : Nat} {v : Value} {n : Nat} {xs : List Value} (h : w.ownsRow base e size v n xs) (hb : Below w.heap.size w w') : w'.ownsRow base e size v n xs :=
  ownsRow_below h hb fun k hk => (h.lt k hk).2

structure Off (p g : Nat) (w w' : World) : Prop where
  os : w'.os = w.os
  tape : w'.tape = w.tape
  output : w'.output = w.output
  size : w.heap.size ≤ w'.heap.size
  block : ∀ k, k < w.heap.size → k ≠ p → k ≠ g → w'.heap[k]? = w.heap[k]?
section
variable {p g g' : Nat} {w w' w'' : World}
theorem Off.refl (p g : Nat) (w : World) : Off p g w w := ⟨rfl, rfl, rfl, Nat.le_refl _, fun _ _ _ _ => rfl⟩
theorem Off.of_below (h : Below w.heap.size w w') : Off p g w w' := ⟨h.os, h.tape, h.output, h.size, fun k hk _ _ => h.block k hk⟩
theorem Off.trans (h : Off p g w w') (h' : Off p g' w' w'') (hg : g' = g ∨ w.heap.size ≤ g') : Off p g w w'' :=
  ⟨h'.os.trans h.os, h'.tape.trans h.tape, h'.output.trans h.output, Nat.le_trans h.size h'.size, fun k hk h1 h2 => by
    rw [h'.block k (Nat.lt_of_lt_of_le hk h.size) h1 (by omega), h.block k hk h1 h2]⟩
theorem Off.below {base : Nat} (h : Off p g w w') (hp : base ≤ p) (hg : base ≤ g) (hb : base ≤ w.heap.size) : Below base w w' := ⟨h.os, h.tape, h.output, h.size, fun k hk => h.block k (by omega) (by omega) (by omega)⟩
theorem Off.own {base : Nat} {e : TypeId} {sz n : Nat} {v : Value} {xs : List Value} (h : Off p g w w') (ho : w.ownsRow base e sz v n xs) (hne : ∀ k, v.ownBlock = some k → k ≠ p ∧ k ≠ g) : w'.ownsRow base e sz v n xs :=
  ownsRow_block ho fun k hk => h.block k (ho.lt k hk).2 (hne k hk).1 (hne k hk).2
theorem Off.cell {a : Addr} (h : Off p g w w') (h1 : a.block < w.heap.size) (h2 : a.block ≠ p) (h3 : a.block ≠ g) : w'.cell? a = w.cell? a := by
  simp only [World.cell?, h.block _ h1 h2 h3]
theorem Off.setCell {b j : Nat} {v : Value} (h : Off p g w w') (hb : b = p ∨ b = g ∨ w.heap.size ≤ b) : Off p g w (w'.setCell ⟨b, j, none⟩ v) :=
  ⟨h.os, h.tape, h.output, by simpa using h.size, fun k hk h1 h2 => by
    rw [Below.heap_setCell w' ⟨b, j, none⟩ v k (by show k ≠ b; omega)]; exact h.block k hk h1 h2⟩
theorem Off.then_below (h : Off p g w w') (h' : Below w'.heap.size w' w'') : Off p g w w'' := h.trans (Off.of_below h') (.inl rfl)
theorem Off.drew (h : Off p g w w') : Off p g w w'.drew := ⟨h.os, h.tape, h.output, h.size, h.block⟩
end

theorem lt_of_heap {w : World} {p : Nat} {o : Obj} (h : w.heap[p]? = some o) : p < w.heap.size := by
  rcases Nat.lt_or_ge p w.heap.size with h' | h'
  · exact h'
  · rw [Array.getElem?_eq_none h'] at h; cases h
theorem apart_types {w : World} {p q : Nat} {a b : Array Value} {s t : TypeId} {x y : Nat × Nat} (h : w.heap[p]? = some (.cells a s x)) (h' : w.heap[q]? = some (.cells b t y)) (hne : s ≠ t) : p ≠ q := by
  intro e
  subst e
  rw [h] at h'
  injection h' with h'
  injection h' with _ h3
  exact hne h3
theorem own_heap {w : World} {base g n cap sz : Nat} {e : TypeId} {xs : List Value} (h : w.ownsRow base e sz (.slice (some ⟨g, 0, none⟩) n cap) n xs) : ∃ cur, w.heap[g]? = some (.cells cur e (0, 0)) ∧ n ≤ cap ∧ cap ≤ maxLen ∧ cur.size = cap * sz ∧ cur.toList.take (n * sz) = xs := by
  rcases h.2 with ⟨e0, _⟩ | ⟨g', cap', cur, e0, _, hg, hn, hm, hs, ht⟩
  · cases e0
  · cases e0
    exact ⟨cur, hg, hn, hm, hs, ht⟩

theorem Off.mono {g p : Nat} {w w' : World} (h : Off g g w w') : Off p g w w' := ⟨h.os, h.tape, h.output, h.size, fun k hk _ h2 => h.block k hk h2 h2⟩

theorem splice_get {α : Type} (l vs : List α) (o : Nat) (h : o + vs.length ≤ l.length) (j : Nat) : (l.take o ++ vs ++ l.drop (o + vs.length))[j]? = if j < o then l[j]? else if j < o + vs.length then vs[j - o]? else l[j]? := by
  have hl1 : (l.take o).length = o := by rw [List.length_take]; omega
  rw [List.append_assoc]
  by_cases h1 : j < o
  · rw [if_pos h1, List.getElem?_append_left (by omega), List.getElem?_take, if_pos h1]
  · rw [if_neg h1, List.getElem?_append_right (by omega), hl1]
    by_cases h2 : j < o + vs.length
    · rw [if_pos h2, List.getElem?_append_left (by omega)]
    · rw [if_neg h2, List.getElem?_append_right (by omega), List.getElem?_drop]
      congr 1
      omega

section
variable {w : World} {base g n cap sz : Nat} {e : TypeId} {xs : List Value}

/-- Cells laid into an owned row. -/
theorem own_put (h : w.ownsRow base e sz (.slice (some ⟨g, 0, none⟩) n cap) n xs) (o : Nat) (vs : List Value) (hfit : o + vs.length ≤ n * sz) (h1 : ∀ u ∈ vs, u.oneCell' = true) :
    ∃ w', (∀ P : Program, (storeCells ⟨g, o, none⟩ vs).run P w = .ok () w') ∧ w'.ownsRow base e sz (.slice (some ⟨g, 0, none⟩) n cap) n (xs.take o ++ vs ++ xs.drop (o + vs.length)) ∧ Off g g w w' := by
  have hl := h.1
  rcases h.2 with ⟨e0, _⟩ | ⟨g', cap', cur, e0, hb, hg, hn, hm, hs, ht⟩
  · cases e0
  · cases e0
    have hcs : n * sz ≤ cur.size := by rw [hs]; exact Nat.mul_le_mul_right _ hn
    refine ⟨w.setRow g (cur.toList.take o ++ vs ++ cur.toList.drop (o + vs.length)).toArray, fun P => ?_, ⟨?_, .inr ⟨g, cap, _, rfl, hb, setRow_heap w g cur _ e _ hg, hn, hm, ?_, ?_⟩⟩, ⟨rfl, rfl, rfl, by simp, fun k hk _ hne => setRow_other w g k _ hne⟩⟩
    · have := run_storeCells_at P g o e vs 0 cur w hg (by omega) h1
      simpa using this
    · simp only [List.length_append, List.length_take, List.length_drop]; omega
    · simp only [List.size_toArray, List.length_append, List.length_take, List.length_drop, Array.length_toList]; omega
    · rw [← ht]
      apply List.ext_getElem?
      intro j
      show (List.take (n * sz) (cur.toList.take o ++ vs ++ cur.toList.drop (o + vs.length)))[j]? = _
      have hcl : cur.toList.length = cur.size := Array.length_toList
      rw [splice_get (cur.toList.take (n * sz)) vs o (by rw [List.length_take, hcl]; omega), List.getElem?_take, splice_get cur.toList vs o (by rw [hcl]; omega), List.getElem?_take]
      by_cases h2 : j < n * sz
      · rw [if_pos h2, if_pos h2]
      · rw [if_neg h2, if_neg h2, if_neg (by omega), if_neg (by omega)]

/-- 'clear(s[c:])': the first c elements stay. -/
theorem clear_put {P : Program} {t : TypeId} {z : Value} {c : Nat} (ht : P.underlying t = some (.slice e)) (hv : ∀ w, (zeroValue e).run P w = .ok z w) (hz : z.cells.size = sz) (h1 : ∀ v ∈ z.cells.toList, v.oneCell' = true)
    (h : w.ownsRow base e sz (.slice (some ⟨g, 0, none⟩) n cap) n xs) (hc : c < n) (hs0 : 0 < sz) :
    ∃ w', (∀ ty m, (Builtin.clear_ #[t] ty #[.slice (some ⟨g, c * sz, none⟩) (n - c) m]).run P w = .ok (.tuple #[]) w') ∧ w'.ownsRow base e sz (.slice (some ⟨g, 0, none⟩) c cap) c (xs.take (c * sz)) ∧ Off g g w w' := by
  have hzl : (Builtin.zeroCells z.cells (n - c)).toList.length = (n - c) * sz := by rw [Array.length_toList, size_zeroCells, hz]
  have hmul : c * sz + (n - c) * sz = n * sz := by rw [← Nat.add_mul]; congr 1; omega
  have hz1 : ∀ v ∈ (Builtin.zeroCells z.cells (n - c)).toList, v.oneCell' = true := by
    intro v hv'
    simp [Builtin.zeroCells] at hv'
    obtain ⟨i, hi, rfl⟩ := hv'
    have hlt : i % z.cells.size < z.cells.size := Nat.mod_lt _ (by omega)
    rw [Array.getElem!_eq_getD, Array.getD, dif_pos hlt]
    exact h1 _ (by simp)
  have hxl := h.1
  obtain ⟨w', hst, h2, h3⟩ := own_put h (c * sz) (Builtin.zeroCells z.cells (n - c)).toList (by omega) hz1
  refine ⟨w', fun ty m => ?_, ?_, h3⟩
  · have hst := hst P
    obtain ⟨q, hq⟩ : ∃ q, n - c = q + 1 := ⟨n - c - 1, by omega⟩
    rw [hq] at hst ⊢
    simp [Builtin.clear_, run_underlying ht, hv, hst]
  · have := own_cut h2 (c := c) (by omega)
    rw [List.append_assoc, List.take_append_of_le_length (by rw [List.length_take]; omega), List.take_take, Nat.min_self] at this
    exact this

/-- 'append' within an owned row. -/
theorem append_put {P : Program} (t tx : TypeId) (i0 : TypeInfo) (hu : P.underlying t = some (.slice e)) (hi : P.info? e = some i0) (hsz : i0.size = sz) (h : w.ownsRow base e sz (.slice (some ⟨g, 0, none⟩) n cap) n xs) (i m : Nat) (vs : List Value) (hfit : i + m ≤ n) (x : Value) (hs : Src P sz tx x m vs w) :
    ∃ w', (∀ ty, (Builtin.append_ #[t, tx] ty #[.slice (some ⟨g, 0, none⟩) i cap, x]).run P w = .ok (.slice (some ⟨g, 0, none⟩) (i + m) cap) w') ∧ w'.ownsRow base e sz (.slice (some ⟨g, 0, none⟩) n cap) n (xs.take (i * sz) ++ vs ++ xs.drop (i * sz + vs.length)) ∧ Off g g w w' := by
  obtain ⟨_, _, hnc, _⟩ := own_heap h
  have hmul : i * sz + m * sz ≤ n * sz := by rw [← Nat.add_mul]; exact Nat.mul_le_mul_right _ hfit
  obtain ⟨w', hst, h2, h3⟩ := own_put h (i * sz) vs (by rw [hs.newsLen]; exact hmul) hs.one
  have hroom : i + m ≤ cap := by omega
  refine ⟨w', fun ty => ?_, h2, h3⟩
  subst hsz
  rcases hs.kind with ⟨e', hk⟩ | hk <;> simp [Builtin.append_, run_underlying hu, run_underlying hk, sizeOf, typeInfo, hi, hs.len, hroom, hs.cells, Addr.add_lit, hst]
end


end Put
end Go.Proofs.Ytdlfbkiihkhmmaa
