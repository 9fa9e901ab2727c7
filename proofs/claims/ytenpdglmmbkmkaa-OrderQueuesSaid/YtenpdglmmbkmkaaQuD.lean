/-
  Own walks: a job taken out of a queue.
-/
import Derived.Test.YtenpdglmmbkmkaaQuC
import Derived.Test.YtenpdglmmbkmkaaHpB
namespace Go.Proofs.Ytenpdglmmbkmkaa
open Go.RowKit Go.Sort Go.Lib Go.Shelf Put

section
variable {w w' : World} {p g n cap : Nat} {v : Value} {L : List Jb}

/-- A list of jobs of which none comes ahead of its parent. -/
abbrev HeapL (L : List Jb) : Prop := Hp.Heap aheadJ L.length L.toArray

/-- What is there already, stored once more. -/
theorem setCell_same {w : World} {b i : Nat} {v : Value} {cs : Array Value} {t : TypeId} {fz : Nat × Nat} (h : w.heap[b]? = some (.cells cs t fz)) (hv : cs[i]? = some v) : w.setCell ⟨b, i, none⟩ v = w := by
  have hlt := Put.lt_of_heap h
  have h3 : cs.setIfInBounds i v = cs := by
    refine Array.ext (by simp) fun q h4 h5 => ?_
    rw [Array.getElem_setIfInBounds]
    · by_cases eq : i = q
      · subst eq
        rw [Array.getElem?_eq_getElem h5] at hv
        rw [if_pos rfl]
        exact (Option.some.inj hv).symm
      · rw [if_neg eq]
  have e : ∀ F : Obj → Obj, F (.cells cs t fz) = .cells cs t fz → w.heap.modify b F = w.heap := fun F hF => by
    refine Array.ext (by simp) fun j h1 h2 => ?_
    rw [Array.getElem_modify]
    by_cases ej : b = j
    · subst ej
      rw [Array.getElem?_eq_getElem hlt] at h
      replace h := Option.some.inj h
      rw [if_pos rfl, h, hF]
    · rw [if_neg ej]
  unfold World.setCell
  rw [e _ (by simp [h3])]

/-- What Pop makes of a queue that is not empty. -/
def PopPost (w : World) (p g : Nat) (L : List Jb) (e : Ending) (w' : World) : Prop :=
  ∃ L' m c, e = .returned (.tuple #[.agg (encJ L[0]!).toArray, .bool true]) ∧ QV w' p (.slice (some ⟨g, 0, none⟩) m c) L' ∧ HeapL L' ∧ L.Perm (L[0]! :: L') ∧ Off p g w w'

set_option maxRecDepth 1000000 in
set_option maxHeartbeats 4000000 in
theorem Pop_zero (q : Option Addr) (w : World) (hl : Calls Try.prog 14 #[.pointer q] (w.alloc (.cells #[.int .i64 0, .int .i64 0, .int .i64 0, .int .i64 0, .int .i64 0, .int .i64 0, .int .i64 0, .int .i64 0, .int .i64 0, .int .u64 0] 24)) (PeekPost (w.alloc (.cells #[.int .i64 0, .int .i64 0, .int .i64 0, .int .i64 0, .int .i64 0, .int .i64 0, .int .i64 0, .int .i64 0, .int .i64 0, .int .u64 0] 24)) default false)) :
    Calls Try.prog 15 #[.pointer q] w (PeekPost w default false) := by
  have hg1 : Gr w (w.alloc (.cells #[.int .i64 0, .int .i64 0, .int .i64 0, .int .i64 0, .int .i64 0, .int .i64 0, .int .i64 0, .int .i64 0, .int .i64 0, .int .u64 0] 24)) := Gr.one w _
  have hA1 := heap_alloc_new w (.cells #[.int .i64 0, .int .i64 0, .int .i64 0, .int .i64 0, .int .i64 0, .int .i64 0, .int .i64 0, .int .i64 0, .int .i64 0, .int .u64 0] 24)
  have hs1 : (w.alloc (.cells #[.int .i64 0, .int .i64 0, .int .i64 0, .int .i64 0, .int .i64 0, .int .i64 0, .int .i64 0, .int .i64 0, .int .i64 0, .int .u64 0] 24)).heap.size = w.heap.size + 1 := by simp
  go_enter Try.func15, Try.ntmps15
  go_wp2_with fail
  go_at_call 14
  refine hl.mono ?_
  clear hl
  rintro e w2 ⟨rfl, hg2⟩
  have hA2 := (hg2.below.block w.heap.size (by omega)).trans hA1
  have hgw2 := Gr_trans hg1 hg2
  have hs2 := hg2.below.size
  rw [hs1] at hs2
  clear hg1 hg2 hA1 hs1
  have hg3 : Gr w2 (w2.alloc (.cells #[.int .i64 0, .int .i64 0, .int .i64 0, .int .i64 0, .int .i64 0, .int .i64 0, .int .i64 0, .int .i64 0, .int .i64 0, .int .u64 0] 24)) := Gr.one w2 _
  have hA3 := (hg3.below.block w.heap.size (by omega)).trans hA2
  have st4 : Sem.run Try.prog (storeCells ⟨w2.heap.size, 0, none⟩ [.int .i64 0, .int .i64 0, .int .i64 0, .int .i64 0, .int .i64 0, .int .i64 0, .int .i64 0, .int .i64 0, .int .i64 0, .int .u64 0] 0) (w2.alloc (.cells #[.int .i64 0, .int .i64 0, .int .i64 0, .int .i64 0, .int .i64 0, .int .i64 0, .int .i64 0, .int .i64 0, .int .i64 0, .int .u64 0] 24)) = .ok () (w2.alloc (.cells #[.int .i64 0, .int .i64 0, .int .i64 0, .int .i64 0, .int .i64 0, .int .i64 0, .int .i64 0, .int .i64 0, .int .i64 0, .int .u64 0] 24)) := store_new w2 w2.heap.size (encJ default) (encJ default) 24 rfl rfl (encJ_one _)
  have hgw3 := Lib.hid (Gr_trans hgw2 hg3)
  clear hgw2 hg3
  have k0 : (w2.alloc (.cells #[.int .i64 0, .int .i64 0, .int .i64 0, .int .i64 0, .int .i64 0, .int .i64 0, .int .i64 0, .int .i64 0, .int .i64 0, .int .u64 0] 24)).cell? ⟨w.heap.size, 0, none⟩ = some (.int .i64 0) := by simp only [World.cell?, hA3]; rfl
  have f0 : (w2.alloc (.cells #[.int .i64 0, .int .i64 0, .int .i64 0, .int .i64 0, .int .i64 0, .int .i64 0, .int .i64 0, .int .i64 0, .int .i64 0, .int .u64 0] 24)).frozen? ⟨w.heap.size, 0, none⟩ = false := by simp only [World.frozen?, hA3]; rfl
  have s0 : (w2.alloc (.cells #[.int .i64 0, .int .i64 0, .int .i64 0, .int .i64 0, .int .i64 0, .int .i64 0, .int .i64 0, .int .i64 0, .int .i64 0, .int .u64 0] 24)).setCell ⟨w.heap.size, 0, none⟩ (.int .i64 0) = w2.alloc (.cells #[.int .i64 0, .int .i64 0, .int .i64 0, .int .i64 0, .int .i64 0, .int .i64 0, .int .i64 0, .int .i64 0, .int .i64 0, .int .u64 0] 24) := setCell_same hA3 rfl
  have k1 : (w2.alloc (.cells #[.int .i64 0, .int .i64 0, .int .i64 0, .int .i64 0, .int .i64 0, .int .i64 0, .int .i64 0, .int .i64 0, .int .i64 0, .int .u64 0] 24)).cell? ⟨w.heap.size, 1, none⟩ = some (.int .i64 0) := by simp only [World.cell?, hA3]; rfl
  have f1 : (w2.alloc (.cells #[.int .i64 0, .int .i64 0, .int .i64 0, .int .i64 0, .int .i64 0, .int .i64 0, .int .i64 0, .int .i64 0, .int .i64 0, .int .u64 0] 24)).frozen? ⟨w.heap.size, 1, none⟩ = false := by simp only [World.frozen?, hA3]; rfl
  have s1 : (w2.alloc (.cells #[.int .i64 0, .int .i64 0, .int .i64 0, .int .i64 0, .int .i64 0, .int .i64 0, .int .i64 0, .int .i64 0, .int .i64 0, .int .u64 0] 24)).setCell ⟨w.heap.size, 1, none⟩ (.int .i64 0) = w2.alloc (.cells #[.int .i64 0, .int .i64 0, .int .i64 0, .int .i64 0, .int .i64 0, .int .i64 0, .int .i64 0, .int .i64 0, .int .i64 0, .int .u64 0] 24) := setCell_same hA3 rfl
  have k2 : (w2.alloc (.cells #[.int .i64 0, .int .i64 0, .int .i64 0, .int .i64 0, .int .i64 0, .int .i64 0, .int .i64 0, .int .i64 0, .int .i64 0, .int .u64 0] 24)).cell? ⟨w.heap.size, 2, none⟩ = some (.int .i64 0) := by simp only [World.cell?, hA3]; rfl
  have f2 : (w2.alloc (.cells #[.int .i64 0, .int .i64 0, .int .i64 0, .int .i64 0, .int .i64 0, .int .i64 0, .int .i64 0, .int .i64 0, .int .i64 0, .int .u64 0] 24)).frozen? ⟨w.heap.size, 2, none⟩ = false := by simp only [World.frozen?, hA3]; rfl
  have s2 : (w2.alloc (.cells #[.int .i64 0, .int .i64 0, .int .i64 0, .int .i64 0, .int .i64 0, .int .i64 0, .int .i64 0, .int .i64 0, .int .i64 0, .int .u64 0] 24)).setCell ⟨w.heap.size, 2, none⟩ (.int .i64 0) = w2.alloc (.cells #[.int .i64 0, .int .i64 0, .int .i64 0, .int .i64 0, .int .i64 0, .int .i64 0, .int .i64 0, .int .i64 0, .int .i64 0, .int .u64 0] 24) := setCell_same hA3 rfl
  have k3 : (w2.alloc (.cells #[.int .i64 0, .int .i64 0, .int .i64 0, .int .i64 0, .int .i64 0, .int .i64 0, .int .i64 0, .int .i64 0, .int .i64 0, .int .u64 0] 24)).cell? ⟨w.heap.size, 3, none⟩ = some (.int .i64 0) := by simp only [World.cell?, hA3]; rfl
  have f3 : (w2.alloc (.cells #[.int .i64 0, .int .i64 0, .int .i64 0, .int .i64 0, .int .i64 0, .int .i64 0, .int .i64 0, .int .i64 0, .int .i64 0, .int .u64 0] 24)).frozen? ⟨w.heap.size, 3, none⟩ = false := by simp only [World.frozen?, hA3]; rfl
  have s3 : (w2.alloc (.cells #[.int .i64 0, .int .i64 0, .int .i64 0, .int .i64 0, .int .i64 0, .int .i64 0, .int .i64 0, .int .i64 0, .int .i64 0, .int .u64 0] 24)).setCell ⟨w.heap.size, 3, none⟩ (.int .i64 0) = w2.alloc (.cells #[.int .i64 0, .int .i64 0, .int .i64 0, .int .i64 0, .int .i64 0, .int .i64 0, .int .i64 0, .int .i64 0, .int .i64 0, .int .u64 0] 24) := setCell_same hA3 rfl
  have k4 : (w2.alloc (.cells #[.int .i64 0, .int .i64 0, .int .i64 0, .int .i64 0, .int .i64 0, .int .i64 0, .int .i64 0, .int .i64 0, .int .i64 0, .int .u64 0] 24)).cell? ⟨w.heap.size, 4, none⟩ = some (.int .i64 0) := by simp only [World.cell?, hA3]; rfl
  have f4 : (w2.alloc (.cells #[.int .i64 0, .int .i64 0, .int .i64 0, .int .i64 0, .int .i64 0, .int .i64 0, .int .i64 0, .int .i64 0, .int .i64 0, .int .u64 0] 24)).frozen? ⟨w.heap.size, 4, none⟩ = false := by simp only [World.frozen?, hA3]; rfl
  have s4 : (w2.alloc (.cells #[.int .i64 0, .int .i64 0, .int .i64 0, .int .i64 0, .int .i64 0, .int .i64 0, .int .i64 0, .int .i64 0, .int .i64 0, .int .u64 0] 24)).setCell ⟨w.heap.size, 4, none⟩ (.int .i64 0) = w2.alloc (.cells #[.int .i64 0, .int .i64 0, .int .i64 0, .int .i64 0, .int .i64 0, .int .i64 0, .int .i64 0, .int .i64 0, .int .i64 0, .int .u64 0] 24) := setCell_same hA3 rfl
  have k5 : (w2.alloc (.cells #[.int .i64 0, .int .i64 0, .int .i64 0, .int .i64 0, .int .i64 0, .int .i64 0, .int .i64 0, .int .i64 0, .int .i64 0, .int .u64 0] 24)).cell? ⟨w.heap.size, 5, none⟩ = some (.int .i64 0) := by simp only [World.cell?, hA3]; rfl
  have f5 : (w2.alloc (.cells #[.int .i64 0, .int .i64 0, .int .i64 0, .int .i64 0, .int .i64 0, .int .i64 0, .int .i64 0, .int .i64 0, .int .i64 0, .int .u64 0] 24)).frozen? ⟨w.heap.size, 5, none⟩ = false := by simp only [World.frozen?, hA3]; rfl
  have s5 : (w2.alloc (.cells #[.int .i64 0, .int .i64 0, .int .i64 0, .int .i64 0, .int .i64 0, .int .i64 0, .int .i64 0, .int .i64 0, .int .i64 0, .int .u64 0] 24)).setCell ⟨w.heap.size, 5, none⟩ (.int .i64 0) = w2.alloc (.cells #[.int .i64 0, .int .i64 0, .int .i64 0, .int .i64 0, .int .i64 0, .int .i64 0, .int .i64 0, .int .i64 0, .int .i64 0, .int .u64 0] 24) := setCell_same hA3 rfl
  have k6 : (w2.alloc (.cells #[.int .i64 0, .int .i64 0, .int .i64 0, .int .i64 0, .int .i64 0, .int .i64 0, .int .i64 0, .int .i64 0, .int .i64 0, .int .u64 0] 24)).cell? ⟨w.heap.size, 6, none⟩ = some (.int .i64 0) := by simp only [World.cell?, hA3]; rfl
  have f6 : (w2.alloc (.cells #[.int .i64 0, .int .i64 0, .int .i64 0, .int .i64 0, .int .i64 0, .int .i64 0, .int .i64 0, .int .i64 0, .int .i64 0, .int .u64 0] 24)).frozen? ⟨w.heap.size, 6, none⟩ = false := by simp only [World.frozen?, hA3]; rfl
  have s6 : (w2.alloc (.cells #[.int .i64 0, .int .i64 0, .int .i64 0, .int .i64 0, .int .i64 0, .int .i64 0, .int .i64 0, .int .i64 0, .int .i64 0, .int .u64 0] 24)).setCell ⟨w.heap.size, 6, none⟩ (.int .i64 0) = w2.alloc (.cells #[.int .i64 0, .int .i64 0, .int .i64 0, .int .i64 0, .int .i64 0, .int .i64 0, .int .i64 0, .int .i64 0, .int .i64 0, .int .u64 0] 24) := setCell_same hA3 rfl
  have k7 : (w2.alloc (.cells #[.int .i64 0, .int .i64 0, .int .i64 0, .int .i64 0, .int .i64 0, .int .i64 0, .int .i64 0, .int .i64 0, .int .i64 0, .int .u64 0] 24)).cell? ⟨w.heap.size, 7, none⟩ = some (.int .i64 0) := by simp only [World.cell?, hA3]; rfl
  have f7 : (w2.alloc (.cells #[.int .i64 0, .int .i64 0, .int .i64 0, .int .i64 0, .int .i64 0, .int .i64 0, .int .i64 0, .int .i64 0, .int .i64 0, .int .u64 0] 24)).frozen? ⟨w.heap.size, 7, none⟩ = false := by simp only [World.frozen?, hA3]; rfl
  have s7 : (w2.alloc (.cells #[.int .i64 0, .int .i64 0, .int .i64 0, .int .i64 0, .int .i64 0, .int .i64 0, .int .i64 0, .int .i64 0, .int .i64 0, .int .u64 0] 24)).setCell ⟨w.heap.size, 7, none⟩ (.int .i64 0) = w2.alloc (.cells #[.int .i64 0, .int .i64 0, .int .i64 0, .int .i64 0, .int .i64 0, .int .i64 0, .int .i64 0, .int .i64 0, .int .i64 0, .int .u64 0] 24) := setCell_same hA3 rfl
  have k8 : (w2.alloc (.cells #[.int .i64 0, .int .i64 0, .int .i64 0, .int .i64 0, .int .i64 0, .int .i64 0, .int .i64 0, .int .i64 0, .int .i64 0, .int .u64 0] 24)).cell? ⟨w.heap.size, 8, none⟩ = some (.int .i64 0) := by simp only [World.cell?, hA3]; rfl
  have f8 : (w2.alloc (.cells #[.int .i64 0, .int .i64 0, .int .i64 0, .int .i64 0, .int .i64 0, .int .i64 0, .int .i64 0, .int .i64 0, .int .i64 0, .int .u64 0] 24)).frozen? ⟨w.heap.size, 8, none⟩ = false := by simp only [World.frozen?, hA3]; rfl
  have s8 : (w2.alloc (.cells #[.int .i64 0, .int .i64 0, .int .i64 0, .int .i64 0, .int .i64 0, .int .i64 0, .int .i64 0, .int .i64 0, .int .i64 0, .int .u64 0] 24)).setCell ⟨w.heap.size, 8, none⟩ (.int .i64 0) = w2.alloc (.cells #[.int .i64 0, .int .i64 0, .int .i64 0, .int .i64 0, .int .i64 0, .int .i64 0, .int .i64 0, .int .i64 0, .int .i64 0, .int .u64 0] 24) := setCell_same hA3 rfl
  have k9 : (w2.alloc (.cells #[.int .i64 0, .int .i64 0, .int .i64 0, .int .i64 0, .int .i64 0, .int .i64 0, .int .i64 0, .int .i64 0, .int .i64 0, .int .u64 0] 24)).cell? ⟨w.heap.size, 9, none⟩ = some (.int .u64 0) := by simp only [World.cell?, hA3]; rfl
  have f9 : (w2.alloc (.cells #[.int .i64 0, .int .i64 0, .int .i64 0, .int .i64 0, .int .i64 0, .int .i64 0, .int .i64 0, .int .i64 0, .int .i64 0, .int .u64 0] 24)).frozen? ⟨w.heap.size, 9, none⟩ = false := by simp only [World.frozen?, hA3]; rfl
  have s9 : (w2.alloc (.cells #[.int .i64 0, .int .i64 0, .int .i64 0, .int .i64 0, .int .i64 0, .int .i64 0, .int .i64 0, .int .i64 0, .int .i64 0, .int .u64 0] 24)).setCell ⟨w.heap.size, 9, none⟩ (.int .u64 0) = w2.alloc (.cells #[.int .i64 0, .int .i64 0, .int .i64 0, .int .i64 0, .int .i64 0, .int .i64 0, .int .i64 0, .int .i64 0, .int .i64 0, .int .u64 0] 24) := setCell_same hA3 rfl
  have hne : w.heap.size ≠ w2.heap.size := by omega
  have hA3 := Lib.hid hA3
  simp only [show encJ default = [.int .i64 0, .int .i64 0, .int .i64 0, .int .i64 0, .int .i64 0, .int .i64 0, .int .i64 0, .int .i64 0, .int .i64 0, .int .u64 0] from rfl]
  go_wp2_with fail
  (try simp only [Exit.inBlock, Exit.then])
  refine bodyPost_ret (ret_job (b := w.heap.size) (cs := encJ default) rfl rfl hA3.out rfl) rfl ?_
  exact ⟨rfl, hgw3.out⟩

set_option maxRecDepth 1000000 in
set_option maxHeartbeats 4000000 in
theorem Pop_some (h : QV w p (.slice (some ⟨g, 0, none⟩) n cap) L) (hH : HeapL L) (hL : 0 < L.length) (hl : L.length ≤ 1000) : Calls Try.prog 15 #[.pointer (some ⟨p, 0, none⟩)] w (PopPost w p g L) := by
  have hmix := mixedO
  have zE := zE_job
  obtain rfl := h.len
  have hb1 : Below w.heap.size w (w.alloc (.cells #[.int .i64 0, .int .i64 0, .int .i64 0, .int .i64 0, .int .i64 0, .int .i64 0, .int .i64 0, .int .i64 0, .int .i64 0, .int .u64 0] 24)) := (Below.refl w.heap.size w).alloc (Nat.le_refl _) _
  have h1 := h.kept hb1
  have hA1 := heap_alloc_new w (.cells #[.int .i64 0, .int .i64 0, .int .i64 0, .int .i64 0, .int .i64 0, .int .i64 0, .int .i64 0, .int .i64 0, .int .i64 0, .int .u64 0] 24)
  have hs1 : (w.alloc (.cells #[.int .i64 0, .int .i64 0, .int .i64 0, .int .i64 0, .int .i64 0, .int .i64 0, .int .i64 0, .int .i64 0, .int .i64 0, .int .u64 0] 24)).heap.size = w.heap.size + 1 := by simp
  have hpk := Peek_some h1 hL
  obtain ⟨m, hm⟩ : ∃ m, m = L.length - 1 := ⟨_, rfl⟩
  obtain ⟨n, hn⟩ : ∃ n, n = L.length := ⟨_, rfl⟩
  have wm : IntKind.i64.wrap ((n : Int) - 1) = (m : Int) := by rw [IntKind.wrap_i64]; omega
  have wn : IntKind.i64.wrap ((m : Int) + 1) = (n : Int) := by rw [IntKind.wrap_i64]; omega
  have hmn : m < n := by omega
  have hmi : (m : Int) < (n : Int) := by omega
  have hn0 : 0 < n := by omega
  have hm1 : m ≤ 1000 := by omega
  obtain ⟨k, hk⟩ : ∃ k, k = 10 := ⟨_, rfl⟩
  rw [← hk] at zE
  replace hk := Lib.hid hk
  have hplt := h.lt
  have hglt := h.glt
  have hpg := h.ne
  have lA0 := Lib.hid (encJ_len L[0]!)
  have lL0 := Lib.hid (encJ_len L[m]!)
  have FIN : Hid (∀ e w', PopPost w p g L e w' = ∃ L' m c, e = .returned (.tuple #[.agg (encJ L[0]!).toArray, .bool true]) ∧ QV w' p (.slice (some ⟨g, 0, none⟩) m c) L' ∧ HeapL L' ∧ L.Perm (L[0]! :: L') ∧ Off p g w w') := fun _ _ => rfl
  go_enter Try.func15, Try.ntmps15
  go_wp2_with fail
  go_at_call 14
  refine hpk.mono ?_
  clear hpk
  rintro e w2 ⟨rfl, hg2⟩
  have hb2 : Below (w.heap.size + 1) (w.alloc (.cells #[.int .i64 0, .int .i64 0, .int .i64 0, .int .i64 0, .int .i64 0, .int .i64 0, .int .i64 0, .int .i64 0, .int .i64 0, .int .u64 0] 24)) w2 := by have := hg2.below; rw [hs1] at this; exact this
  clear hg2
  have hs2 := hb2.size
  rw [hs1] at hs2
  have hA2 := (hb2.block _ (by omega)).trans hA1
  have h2 := h1.kept (by rw [hs1]; exact hb2)
  clear hA1 h1
  have hbw2 : Below w.heap.size w w2 := hb1.trans (hb2.mono (by omega))
  clear hb1 hb2 hs1
  -- the first one in a block of its own
  have st4 : Sem.run Try.prog (storeCells ⟨w2.heap.size, 0, none⟩ (encJ L[0]!) 0) (w2.alloc (.cells #[.int .i64 0, .int .i64 0, .int .i64 0, .int .i64 0, .int .i64 0, .int .i64 0, .int .i64 0, .int .i64 0, .int .i64 0, .int .u64 0] 24)) = .ok () (w2.alloc (.cells (encJ L[0]!).toArray 24)) := store_new w2 w2.heap.size (encJ L[0]!) (encJ default) 24 rfl (by rw [encJ_len, encJ_len]) (encJ_one _)
  have hb3 : Below w2.heap.size w2 (w2.alloc (.cells (encJ L[0]!).toArray 24)) := (Below.refl _ _).alloc (Nat.le_refl _) _
  have hB3 := heap_alloc_new w2 (.cells (encJ L[0]!).toArray 24)
  have hs3 : (w2.alloc (.cells (encJ L[0]!).toArray 24)).heap.size = w2.heap.size + 1 := by simp
  generalize hw3 : w2.alloc (.cells (encJ L[0]!).toArray 24) = w3 at *
  replace hw3 := Lib.hid hw3
  have h3 := h2.kept hb3
  have hA3 := (hb3.block _ (by omega)).trans hA2
  have hbw3 : Below w.heap.size w w3 := hbw2.trans (hb3.mono hbw2.size)
  clear h2 hA2 hb3 hbw2
  have c3 := h3.c0
  -- the last one in the first one's place
  have h3d : QV w3.drew p (.slice (some ⟨g, 0, none⟩) L.length cap) L := h3.kept ⟨rfl, rfl, rfl, Nat.le_refl _, fun _ _ => rfl⟩
  have c3d := h3d.c0
  have ld := h3d.row.load (k := k) hk.out (i := m) (by omega)
  simp only [Nat.zero_add] at ld
  obtain ⟨w4, st5, h4, off4⟩ := pop_put h3d hL L[m]!
  have c4 := h4.c0
  obtain ⟨D0, hD0⟩ : ∃ D, D = L.set 0 L[m]! := ⟨_, rfl⟩
  rw [← hD0] at h4
  have hl4 : n = D0.length := by rw [hD0, List.length_set, hn]
  rw [← hn] at c3 c3d c4 h4
  have ho4 := h4.own
  obtain ⟨D, hD⟩ : ∃ D, D = D0.take m := ⟨_, rfl⟩
  have hDl : D.length = m := by rw [hD, List.length_take]; omega
  have e1 : D0.take m ++ D0.drop n = D := by rw [List.drop_of_length_le (by omega), List.append_nil, hD]
  have hdn : Hp.Dn aheadJ m 0 D.toArray := by
    have := Hp.Dn.pop hH hL
    rw [← hm, ← hD0, ← hD] at this
    exact this
  have hper : L.Perm (L[0]! :: D) := by
    have := Hp.pop_perm hL
    rw [← hm, ← hD0, ← hD] at this
    exact this
  have hdel := Delete_any (w := w4) (g := g) (cap := cap) (L := D0) m n (by rw [← hl4]; rw [← hl4] at ho4; exact ho4) (by omega) (by omega) (by omega)
  rw [e1, hDl, ← hl4] at hdel
  replace ho4 := Lib.hid ho4
  have hp4 : w4.heap[p]? = _ := h4.cell
  have hplt3 := h3.lt
  have lA := encJ_len L[0]!
  have lL := encJ_len L[m]!
  rw [← hk.out] at lA lL
  have hB3' : w3.drew.heap[w2.heap.size]? = some (.cells (encJ L[0]!).toArray 24 (0, 0)) := hB3
  have hA3' : w3.drew.heap[w.heap.size]? = some (.cells #[.int .i64 0, .int .i64 0, .int .i64 0, .int .i64 0, .int .i64 0, .int .i64 0, .int .i64 0, .int .i64 0, .int .i64 0, .int .u64 0] 24 (0, 0)) := hA3
  have hs3d : w3.drew.heap.size = w2.heap.size + 1 := hs3
  have off3 : Off p g w w3.drew := (Off.of_below hbw3).drew
  clear h3 h3d h4 hB3 hA3 hs3 hbw3 hH e1 hD hD0 hw3
  replace hA3' := Lib.hid hA3'
  replace hB3' := Lib.hid hB3'
  replace hdn := Lib.hid hdn
  replace hper := Lib.hid hper
  replace hp4 := Lib.hid hp4
  replace off3 := Lib.hid off3
  replace off4 := Lib.hid off4
  replace hn := Lib.hid hn
  replace hl4 := Lib.hid hl4
  replace hm := Lib.hid hm
  replace hDl := Lib.hid hDl
  generalize hcA : encJ L[0]! = cA at *
  replace hcA := Lib.hid hcA
  generalize hcL : encJ L[m]! = cL at *
  replace hcL := Lib.hid hcL
  go_wp2_with fail
  go_region
  go_wp2_with fail
  go_at_call 23
  refine hdel.mono ?_
  clear hdel st5 ld c4 c3 c3d
  rintro e w5 ⟨rfl, ho5, off5⟩
  have hplt4 : p < w4.heap.size := Put.lt_of_heap hp4.out
  have hp5 : w5.heap[p]? = some (.cells #[.slice (some ⟨g, 0, none⟩) n cap] 36 (0, 0)) := (off5.block p hplt4 hpg hpg).trans hp4.out
  have c5 : w5.cell? ⟨p, 0, none⟩ = some (.slice (some ⟨g, 0, none⟩) n cap) := by simp [World.cell?, hp5]
  have f5 : w5.frozen? ⟨p, 0, none⟩ = false := by simp [World.frozen?, hp5]
  obtain ⟨h6, off6⟩ := put_slice (g' := g) (m := m) (c := cap) (D := D) hp5 (by rw [hDl.out]; exact ho5) hpg
  generalize hw6 : w5.setCell ⟨p, 0, none⟩ (.slice (some ⟨g, 0, none⟩) m cap) = w6 at *
  have hsink := sink_fn 10 zE_job m 0 0 #[] encJ_ok swoJ lessOk h6.hp (by simpa using hDl.out) (Nat.zero_le _) (by omega) hdn.out
  rw [sortWorldK_start encJ 10 w6 g 0 D.toArray h6.hp.holds] at hsink
  have hsink2 : Calls Try.prog 24 #[.pointer (some ⟨p, 0, none⟩), .int .i64 0] w6 (HeapPost encJ 10 w6 g 0 m aheadJ D.toArray) := hsink
  clear hsink
  replace ho5 := Lib.hid ho5
  replace hp5 := Lib.hid hp5
  replace h6 := Lib.hid h6
  replace off5 := Lib.hid off5
  replace off6 := Lib.hid off6
  go_wp2_with fail
  go_at_call 24
  refine hsink2.mono ?_
  clear hsink2
  replace c5 := Lib.hid c5
  replace f5 := Lib.hid f5
  rintro e w7 ⟨rfl, q7, os7, d7, hw7, hs7, hH7, hp7⟩
  obtain ⟨h7, off7⟩ := heap_done (q := q7) (os := os7) (d := d7) h6.out (by rw [hs7]; exact hDl.out.symm)
  rw [← hw7] at h7 off7
  have off47 : Off p g w3.drew w7 := ((off4.out.mono.trans off5.out.mono (.inl rfl)).trans off6.out (.inl rfl)).trans off7.mono (.inl rfl)
  have offw7 : Off p g w w7 := off3.out.trans off47 (.inl rfl)
  have hA7 := (off47.block w.heap.size (by omega) (by omega) (by omega)).trans hA3'.out
  have hB7 := (off47.block w2.heap.size (by omega) (by omega) (by omega)).trans hB3'.out
  have lb7 := load_box hB7 lA
  obtain ⟨st8, hA8, off8⟩ := put_box (x := L[0]!) (cs := encJ default) hA7 (encJ_len _)
  rw [hcA.out] at st8 hA8 off8
  have lA8 : cA.length = 10 := by rw [← hcA.out]; exact encJ_len _
  generalize w7.setRow w.heap.size cA.toArray = w8 at *
  have h8 := h7.off off8 (by omega) (by omega) (by omega) (by omega)
  have offw8 : Off p g w w8 := by
    refine ⟨off8.os.trans offw7.os, off8.tape.trans offw7.tape, off8.output.trans offw7.output, Nat.le_trans offw7.size off8.size, fun q hq h1 h2 => ?_⟩
    rw [off8.block q (Nat.lt_of_lt_of_le hq offw7.size) (by omega) (by omega)]
    exact offw7.block q hq h1 h2
  have hfin : Hid (PopPost w p g L (.returned (.tuple #[.agg cA.toArray, .bool true])) w8) := by
    refine ⟨d7.toList, m, cap, by rw [hcA.out], h8, ?_, ?_, offw8⟩
    · show Hp.Heap aheadJ d7.toList.length d7.toList.toArray
      simpa [hs7] using hH7
    · exact hper.out.trans (List.Perm.cons _ (by simpa using hp7.symm))
  replace hA8 := Lib.hid hA8
  clear hA7 hB7 h7 h8 offw7 offw8 off8 off7 off47 hw7 hH7 hp7 FIN
  go_wp2_with fail
  (try simp only [Exit.inBlock, Exit.then])
  refine bodyPost_ret (ret_job (b := w.heap.size) (cs := cA) rfl rfl hA8.out lA8) rfl ?_
  exact hfin.out

end
end Go.Proofs.Ytenpdglmmbkmkaa
