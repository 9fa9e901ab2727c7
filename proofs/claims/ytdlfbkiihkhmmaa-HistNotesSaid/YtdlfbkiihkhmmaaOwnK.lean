/-
  Own words (any program): a slice that the call itself made, elements of any number of cells, and the sort's words on rows. Nothing of a program is said here.
-/
import Derived.Test.YtdlfbkiihkhmmaaOwn
import Derived.Lib.OwnBridge
import Derived.Sort.Grow
import Derived.Shelf.GgSortFunc.RowK
namespace Go.Proofs.Ytdlfbkiihkhmmaa
set_option maxRecDepth 8000
open Go.RowKit Go.Sort

/-- A slice that owns its cells and is not nil: where it lies, and that its row holds them. -/
theorem own_holds {w : World} {base : Nat} {e : TypeId} {sz : Nat} {v : Value} {n : Nat} {xs : List Value} (h : w.ownsRow base e sz v n xs) (hv : v ≠ .slice none 0 0) :
    ∃ g cap, v = .slice (some ⟨g, 0, none⟩) n cap ∧ base ≤ g ∧ g < w.heap.size ∧ n ≤ cap ∧ cap ≤ maxLen ∧ Holds id w g 0 xs.toArray := by
  have hl := h.1
  rcases h.2 with ⟨e0, _⟩ | ⟨g, cap, cur, rfl, hb, hg, hn, hm, hs, ht⟩
  · exact absurd e0 hv
  · have hlt : g < w.heap.size := by
      rcases Nat.lt_or_ge g w.heap.size with h' | h'
      · exact h'
      · rw [Array.getElem?_eq_none h'] at hg; cases hg
    refine ⟨g, cap, rfl, hb, hlt, hn, hm, fun j hj => ?_⟩
    have hj' : j < n * sz := by simpa [hl] using hj
    have hjx : j < xs.length := by omega
    refine ⟨?_, by simp [World.frozen?, hg]⟩
    have e1 : (cur.toList.take (n * sz))[j]? = xs[j]? := by rw [ht]
    rw [List.getElem?_take, if_pos hj', Array.getElem?_toList, List.getElem?_eq_getElem hjx] at e1
    simp only [World.cell?, hg, Nat.zero_add]
    simp only [Option.isSome_none, Bool.false_eq_true, if_false]
    rw [e1]
    simp [getElem!_pos, hjx]

/-- Behind a contract in the sort's words the slice owns what its row holds. -/
theorem own_putRow {w : World} {base : Nat} {e : TypeId} {sz g n cap q : Nat} {xs ys : List Value} (h : w.ownsRow base e sz (.slice (some ⟨g, 0, none⟩) n cap) n xs) (hy : ys.length = xs.length) :
    (putRow id (Sort.ahead w q) g 0 ys.toArray).ownsRow base e sz (.slice (some ⟨g, 0, none⟩) n cap) n ys := by
  have hl := h.1
  rcases h.2 with ⟨e0, _⟩ | ⟨g', cap', cur, e0, hb, hg, hn, hm, hs, ht⟩
  · cases e0
  · injection e0 with e1 _ e3
    injection e1 with e1
    injection e1 with e1
    subst e1; subst e3
    have hcs : n * sz ≤ cur.size := by rw [hs]; exact Nat.mul_le_mul_right _ hn
    refine ⟨by omega, .inr ⟨g, cap, putCells id 0 ys.toArray cur, rfl, hb, ?_, hn, hm, by simpa [putCells] using hs, ?_⟩⟩
    · simp [putRow, mapBlock, Sort.ahead, Array.getElem?_modify, hg, onCells]
    · apply List.ext_getElem?
      intro j
      rw [List.getElem?_take, Array.getElem?_toList]
      by_cases hj : j < n * sz
      · have hjc : j < cur.size := by omega
        simp only [if_pos hj, putCells, Array.getElem?_mapIdx, Array.getElem?_eq_getElem hjc, Option.map_some]
        rw [if_pos (by simp; omega), List.getElem?_eq_getElem (by omega)]
        simp [getElem!_pos, show j < ys.length by omega]
      · rw [if_neg hj, List.getElem?_eq_none (by omega)]

theorem below_grow {B : Nat} {w0 w : World} (h : Below B w0 w) (hB : B ≤ w.heap.size) (os : Array Obj) : Below B w0 (grow w os) :=
  ⟨h.os, h.tape, h.output, Nat.le_trans h.size (by simp), fun k hk => by rw [heap_grow_old w os (by omega)]; exact h.block k hk⟩
theorem own_grow {w : World} {base : Nat} {e : TypeId} {sz : Nat} {v : Value} {n : Nat} {xs : List Value} (h : w.ownsRow base e sz v n xs) (os : Array Obj) : (grow w os).ownsRow base e sz v n xs :=
  ownsRow_block h fun k hk => heap_grow_old w os (h.lt k hk).2

theorem flatK_list {α : Type} [Inhabited α] (enc : α → List Value) (k : Nat) (hk : ∀ x, (enc x).length = k) (d : Array α) : flatK enc k d = (d.toList.flatMap enc).toArray := by
  have hlen : ∀ l : List α, (l.flatMap enc).length = l.length * k := by
    intro l
    induction l with
    | nil => simp
    | cons a l ih => rw [List.flatMap_cons, List.length_append, ih, hk, List.length_cons, Nat.add_mul]; omega
  have key : ∀ (l : List α) (t : Nat), t < l.length * k → (l.flatMap enc)[t]! = (enc l[t / k]!)[t % k]! := by
    intro l
    induction l with
    | nil => intro t ht; simp at ht
    | cons a l ih =>
      intro t ht
      rw [List.length_cons, Nat.add_mul] at ht
      have k0 : 0 < k := by
        rcases Nat.eq_zero_or_pos k with h | h
        · subst h; omega
        · exact h
      rw [List.flatMap_cons]
      by_cases hlt : t < k
      · rw [Nat.div_eq_of_lt hlt, Nat.mod_eq_of_lt hlt]
        simp only [List.getElem!_eq_getElem?_getD]
        rw [List.getElem?_append_left (by rw [hk]; exact hlt)]
        simp
      · obtain ⟨u, rfl⟩ : ∃ u, t = u + k := ⟨t - k, by omega⟩
        rw [Nat.add_div_right _ k0, Nat.add_mod_right]
        have := ih u (by omega)
        simp only [List.getElem!_eq_getElem?_getD] at this ⊢
        rw [List.getElem?_append_right (by rw [hk]; omega), hk, Nat.add_sub_cancel, this]
        simp
  refine ext_get! (by rw [size_flatK]; simp [hlen]) fun t ht => ?_
  rw [size_flatK] at ht
  rw [get_flatK _ _ _ _ ht]
  have := key d.toList t (by simpa using ht)
  simp only [List.getElem!_eq_getElem?_getD, Array.getElem!_eq_getD, Array.getD_eq_getD_getElem?, List.getElem?_toArray, Array.getElem?_toList] at this ⊢
  exact this.symm

/-- A block that has just been made is owned. -/
theorem own_new {w : World} {base : Nat} {e : TypeId} {sz n g : Nat} {vs : List Value} (hg : g = w.heap.size) (hb : base ≤ w.heap.size) (hl : vs.length = n * sz) (hn : n ≤ maxLen) : (w.alloc (.cells vs.toArray e)).ownsRow base e sz (.slice (some ⟨g, 0, none⟩) n n) n vs := by
  subst hg
  exact ⟨hl, .inr ⟨w.heap.size, n, vs.toArray, rfl, hb, heap_alloc_new w _, Nat.le_refl _, hn, by simpa using hl, by simp [← hl]⟩⟩

/-- Rows of elements of two types lie in two blocks. -/
theorem own_apart {w : World} {base base' : Nat} {e e' : TypeId} {sz sz' n n' g cap : Nat} {v : Value} {xs xs' : List Value} (h : w.ownsRow base e sz v n xs) (h' : w.ownsRow base' e' sz' (.slice (some ⟨g, 0, none⟩) n' cap) n' xs') (hne : e ≠ e') : ∀ k, v.ownBlock = some k → k ≠ g := by
  intro k hk hkg
  subst hkg
  rcases h.2 with ⟨rfl, _⟩ | ⟨g1, cap1, cur1, rfl, _, hg1, _⟩
  · simp [Value.ownBlock] at hk
  · have : g1 = k := by simpa [Value.ownBlock] using hk
    subst this
    rcases h'.2 with ⟨e0, _⟩ | ⟨g2, cap2, cur2, e0, _, hg2, _⟩
    · cases e0
    · cases e0
      rw [hg1] at hg2
      injection hg2 with hg2
      injection hg2 with _ h3
      exact hne h3
theorem own_far {w : World} {base : Nat} {e : TypeId} {sz n g : Nat} {v : Value} {xs : List Value} (h : w.ownsRow base e sz v n xs) (hne : ∀ k, v.ownBlock = some k → k ≠ g) (j : Nat) (u : Value) : (w.setCell ⟨g, j, none⟩ u).ownsRow base e sz v n xs :=
  ownsRow_block h fun k hk => Below.heap_setCell w ⟨g, j, none⟩ u k (hne k hk)
theorem own_grown {w w' : World} {base : Nat} {e : TypeId} {sz n g : Nat} {v : Value} {xs : List Value} (h : w.ownsRow base e sz v n xs) (hne : ∀ k, v.ownBlock = some k → k ≠ g) (hg : w.grownBy w' (some g)) : w'.ownsRow base e sz v n xs :=
  ownsRow_block h fun k hk => hg.block k (h.lt k hk).2 (fun e => hne k hk (by injection e))
/-- What an owned row looks like. -/
theorem own_shape {w : World} {base : Nat} {e : TypeId} {sz n : Nat} {v : Value} {xs : List Value} (h : w.ownsRow base e sz v n xs) : ∃ ao cap, v = .slice ao n cap ∧ (0 < n → ∃ g, ao = some ⟨g, 0, none⟩) := by
  rcases h.2 with ⟨rfl, rfl⟩ | ⟨g, cap, cur, rfl, _⟩
  · exact ⟨none, 0, rfl, fun h => by omega⟩
  · exact ⟨_, cap, rfl, fun _ => ⟨g, rfl⟩⟩

theorem own_len {w : World} {base : Nat} {e : TypeId} {sz n : Nat} {v : Value} {xs : List Value} (h : w.ownsRow base e sz v n xs) : n ≤ 9223372036854775807 := by
  rcases h.2 with ⟨_, rfl⟩ | ⟨_, _, _, _, _, _, hn, hm, _⟩
  · omega
  · unfold maxLen at hm; omega

theorem below_drewN {B : Nat} {a w : World} (h : Below B a w) (n : Nat) : Below B a (w.drewN n) := ⟨h.os, h.tape, h.output, h.size, h.block⟩

/-- The first c elements of what is owned. -/
theorem own_cut {w : World} {base : Nat} {e : TypeId} {sz g n cap c : Nat} {xs : List Value} (h : w.ownsRow base e sz (.slice (some ⟨g, 0, none⟩) n cap) n xs) (hc : c ≤ n) :
    w.ownsRow base e sz (.slice (some ⟨g, 0, none⟩) c cap) c (xs.take (c * sz)) := by
  have hcs : c * sz ≤ n * sz := Nat.mul_le_mul_right _ hc
  rcases h.2 with ⟨e0, _⟩ | ⟨g', cap', cur, e0, hb, hg, hn, hm, hs, ht⟩
  · cases e0
  · cases e0
    refine ⟨by rw [List.length_take, h.1]; omega, .inr ⟨g, cap, cur, rfl, hb, hg, by omega, hm, hs, ?_⟩⟩
    rw [← ht, List.take_take, Nat.min_eq_left hcs]

/-- 'clear(s[c:])' on what is owned: the first c elements stay. -/
theorem run_clear_own {P : Program} {w : World} {base : Nat} {t e : TypeId} {z : Value} {sz g n cap c m : Nat} {xs : List Value} (ht : P.underlying t = some (.slice e)) (hv : ∀ w, (zeroValue e).run P w = .ok z w) (hz : z.cells.size = sz) (h1 : ∀ v ∈ z.cells.toList, v.oneCell' = true)
    (h : w.ownsRow base e sz (.slice (some ⟨g, 0, none⟩) n cap) n xs) (hc : c < n) (hs0 : 0 < sz) :
    ∃ w', (∀ ty, (Builtin.clear_ #[t] ty #[.slice (some ⟨g, c * sz, none⟩) (n - c) m]).run P w = .ok (.tuple #[]) w') ∧ w'.ownsRow base e sz (.slice (some ⟨g, 0, none⟩) c cap) c (xs.take (c * sz)) ∧ Below base w w' ∧ w'.heap.size = w.heap.size := by
  rcases h.2 with ⟨e0, _⟩ | ⟨g', cap', cur, e0, hb, hg, hn, hm, hs, htk⟩
  · cases e0
  · cases e0
    have hzl : (Builtin.zeroCells z.cells (n - c)).toList.length = (n - c) * sz := by rw [Array.length_toList, size_zeroCells, hz]
    have hmul : c * sz + (n - c) * sz = n * sz := by rw [← Nat.add_mul]; congr 1; omega
    have hcs : n * sz ≤ cur.size := by rw [hs]; exact Nat.mul_le_mul_right _ hn
    have hz1 : ∀ v ∈ (Builtin.zeroCells z.cells (n - c)).toList, v.oneCell' = true := by
      intro v hv'
      simp [Builtin.zeroCells] at hv'
      obtain ⟨i, hi, rfl⟩ := hv'
      have hlt : i % z.cells.size < z.cells.size := Nat.mod_lt _ (by omega)
      rw [Array.getElem!_eq_getD, Array.getD, dif_pos hlt]
      exact h1 _ (by simp)
    have hst := run_storeCells_at P g (c * sz) e (Builtin.zeroCells z.cells (n - c)).toList 0 cur w hg (by rw [hzl]; omega) hz1
    simp only [Nat.add_zero] at hst
    obtain ⟨F, hF⟩ : ∃ F, F = (cur.toList.take (c * sz) ++ (Builtin.zeroCells z.cells (n - c)).toList ++ cur.toList.drop (c * sz + (Builtin.zeroCells z.cells (n - c)).toList.length)).toArray := ⟨_, rfl⟩
    rw [← hF] at hst
    have hFs : F.size = cur.size := by
      rw [hF]
      simp only [List.size_toArray, List.length_append, List.length_take, List.length_drop, Array.length_toList, hzl]
      rw [Array.length_toList] at hzl
      omega
    have hFt : F.toList.take (c * sz) = xs.take (c * sz) := by
      have hlen : (cur.toList.take (c * sz)).length = c * sz := by rw [List.length_take, Array.length_toList]; omega
      rw [hF, List.append_assoc, List.take_append_of_le_length (by omega), List.take_of_length_le (by omega), ← htk, List.take_take, Nat.min_eq_left (by omega)]
    refine ⟨w.setRow g F, fun ty => ?_, ⟨?_, .inr ⟨g, cap, F, rfl, hb, setRow_heap w g cur F e _ hg, by omega, hm, by omega, hFt⟩⟩, ⟨rfl, rfl, rfl, by simp, fun k hk => setRow_other w g k _ (by omega)⟩, by simp⟩
    · obtain ⟨q, hq⟩ : ∃ q, n - c = q + 1 := ⟨n - c - 1, by omega⟩
      rw [hq] at hst ⊢
      simp [Builtin.clear_, run_underlying ht, hv, hst]
    · rw [List.length_take, h.1]; omega

end Go.Proofs.Ytdlfbkiihkhmmaa
