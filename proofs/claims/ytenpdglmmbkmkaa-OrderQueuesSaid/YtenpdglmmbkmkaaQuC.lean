/-
  Own words: what each step of taking a job out, and of putting one in, makes of a queue in memory.
-/
import Derived.Test.YtenpdglmmbkmkaaQuB
import Derived.Test.YtenpdglmmbkmkaaHpA
import Derived.Test.YtenpdglmmbkmkaaOsA
namespace Go.Proofs.Ytenpdglmmbkmkaa
open Go.RowKit Go.Sort Go.Lib Go.Shelf Put

section
variable {w w' : World} {p g n cap : Nat} {v : Value} {L : List Jb}

theorem QV.len {m : Nat} (h : QV w p (.slice (some ⟨g, 0, none⟩) m cap) L) : m = L.length := by
  rcases h.own.2 with ⟨e0, _⟩ | ⟨g', cap', cur, e0, _⟩
  · cases e0
  · cases e0; rfl
theorem QV.glt {m : Nat} (h : QV w p (.slice (some ⟨g, 0, none⟩) m cap) L) : g < w.heap.size := (h.own.lt g rfl).2

/-- A block that is not the queue's may turn. -/
theorem QV.off {q r : Nat} (h : QV w p (.slice (some ⟨g, 0, none⟩) n cap) L) (ho : Off q r w w') (h1 : p ≠ q) (h2 : p ≠ r) (h3 : g ≠ q) (h4 : g ≠ r) : QV w' p (.slice (some ⟨g, 0, none⟩) n cap) L :=
  ⟨by rw [ho.block p h.lt h1 h2]; exact h.cell, ho.own h.own fun k hk => by
    have : g = k := by simpa [Value.ownBlock] using hk
    subst this
    exact ⟨h3, h4⟩⟩

/-- The last one laid in the first one's place. -/
theorem pop_put (h : QV w p (.slice (some ⟨g, 0, none⟩) n cap) L) (hL : 0 < L.length) (x : Jb) :
    ∃ w', Sem.run Try.prog (storeCells ⟨g, 0, none⟩ (encJ x) 0) w = .ok () w' ∧ QV w' p (.slice (some ⟨g, 0, none⟩) n cap) (L.set 0 x) ∧ Off g g w w' := by
  obtain rfl := h.len
  obtain ⟨w', h1, h2, h3⟩ := own_put h.own 0 (encJ x) (by rw [encJ_len]; omega) (encJ_one x)
  refine ⟨w', h1 _, ⟨by rw [h3.block p h.lt h.ne h.ne]; exact h.cell, ?_⟩, h3⟩
  have e : (L.flatMap encJ).take 0 ++ encJ x ++ (L.flatMap encJ).drop (0 + (encJ x).length) = (L.set 0 x).flatMap encJ := by
    match L, hL with
    | y :: M, _ =>
      have h10 : (encJ x).length = (encJ y).length := rfl
      rw [List.flatMap_cons, List.set_cons_zero, List.flatMap_cons, Nat.zero_add, h10, List.drop_left]
      rfl
  rw [e] at h2
  rw [List.length_set]
  exact h2

/-- Another slice laid into the queue. -/
theorem put_slice {x : Value} {g' m c : Nat} {D : List Jb} (hp : w.heap[p]? = some (.cells #[x] 36 (0, 0))) (ho : w.ownsRow 0 24 10 (.slice (some ⟨g', 0, none⟩) m c) D.length (D.flatMap encJ)) (hne : p ≠ g') :
    QV (w.setCell ⟨p, 0, none⟩ (.slice (some ⟨g', 0, none⟩) m c)) p (.slice (some ⟨g', 0, none⟩) m c) D ∧ Off p g w (w.setCell ⟨p, 0, none⟩ (.slice (some ⟨g', 0, none⟩) m c)) := by
  have hlt := Put.lt_of_heap hp
  refine ⟨⟨?_, own_far ho (fun k hk => by
    have : g' = k := by simpa [Value.ownBlock] using hk
    subst this
    exact fun e => hne e.symm) 0 _⟩, (Off.refl p g w).setCell (.inl rfl)⟩
  rw [Array.getElem?_eq_getElem hlt] at hp
  replace hp := Option.some.inj hp
  simp [World.setCell, hlt, Array.getElem_modify, hp]

/-- Behind the heap's steps. -/
theorem heap_done {D : List Jb} {d : Array Jb} {q : Nat} {os : Array Obj} (h : QV w p (.slice (some ⟨g, 0, none⟩) n cap) D) (hd : d.size = D.length) :
    QV (sortWorldK encJ 10 w g 0 q d os) p (.slice (some ⟨g, 0, none⟩) n cap) d.toList ∧ Off g g w (sortWorldK encJ 10 w g 0 q d os) := by
  have hoff : Off g g w (sortWorldK encJ 10 w g 0 q d os) := by
    refine ⟨rfl, rfl, rfl, size_sortWorldK_c encJ 10 w g 0 q d os, fun k hk h1 _ => ?_⟩
    unfold sortWorldK putRowK
    rw [heap_grow_old _ os (by simpa [putRow, mapBlock, Sort.ahead] using hk)]
    simp [putRow, mapBlock, Sort.ahead, Array.getElem?_modify, Ne.symm h1]
  refine ⟨⟨by rw [hoff.block p h.lt h.ne h.ne]; exact h.cell, ?_⟩, hoff⟩
  unfold sortWorldK putRowK
  have hl : d.toList.length = D.length := by simpa using hd
  rw [flatK_list encJ 10 encJ_len, hl]
  obtain rfl := h.len
  exact own_grow (own_putRow (q := q) h.own (by rw [flat_len, flat_len, hl])) os

theorem QV.hp (h : QV w p (.slice (some ⟨g, 0, none⟩) n cap) L) : HpAt encJ 10 w p g 0 cap n L.toArray := by
  obtain rfl := h.len
  refine ⟨?_, by simp, h.glt, h.lt, h.ne, h.c0⟩
  obtain ⟨g', cap', e, _, _, _, _, hH⟩ := own_holds h.own (by simp)
  cases e
  unfold HoldsK
  rw [flatK_list encJ 10 encJ_len]
  exact hH

theorem encJ_ok : EncOk encJ 10 := ⟨encJ_len, encJ_one⟩
theorem lessOk : LessOk Try.prog 9 encJ aheadJ := fun x y W => Less_fn x y W

/-- Cells laid into a block that holds a job. -/
theorem put_box {b : Nat} {x : Jb} {cs : List Value} (hb : w.heap[b]? = some (.cells cs.toArray 24 (0, 0))) (hl : cs.length = 10) :
    Sem.run Try.prog (storeCells ⟨b, 0, none⟩ (encJ x) 0) w = .ok () (w.setRow b (encJ x).toArray) ∧ (w.setRow b (encJ x).toArray).heap[b]? = some (.cells (encJ x).toArray 24 (0, 0)) ∧ Off b b w (w.setRow b (encJ x).toArray) := by
  have hst := run_storeCells_at Try.prog b 0 24 (encJ x) 0 cs.toArray w hb (by simp [hl, encJ_len]) (encJ_one x)
  simp only [Nat.add_zero] at hst
  have e : ((cs.toArray.toList.take 0 ++ encJ x ++ cs.toArray.toList.drop (0 + (encJ x).length)).toArray) = (encJ x).toArray := by simp [hl, encJ_len]
  rw [e] at hst
  exact ⟨hst, setRow_heap w b _ _ _ _ hb, ⟨rfl, rfl, rfl, by simp, fun k hk h1 _ => setRow_other w b k _ h1⟩⟩

end
end Go.Proofs.Ytenpdglmmbkmkaa
