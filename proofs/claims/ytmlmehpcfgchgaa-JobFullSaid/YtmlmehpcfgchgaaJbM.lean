/-
  Own words and walks: one table, and both, side by side; the chapter's example.
-/
import Derived.Test.YtmlmehpcfgchgaaJbL
namespace Go.Proofs.Ytmlmehpcfgchgaa
open Go.RowKit Go.Sort Go.Lib Go.Shelf Put

/-- One table of the call's own. -/
structure OneV (w0 w : World) (p : Nat) (v : Value) (L : List Jb) : Prop where
  tv : TV w p v L
  lo : w0.heap.size ≤ p
  ol : ∀ k, v.ownBlock = some k → w0.heap.size ≤ k
  fr : Below w0.heap.size w0 w
/-- Both tables, of the same jobs. -/
structure TwoV (w0 w : World) (p : Nat) (v : Value) (q : Nat) (u : Value) (L : List Jb) : Prop where
  one : OneV w0 w p v L
  pv : PV w q u L
  lo : w0.heap.size ≤ q
  ol : ∀ k, u.ownBlock = some k → w0.heap.size ≤ k
  ap : ∀ k, v.ownBlock = some k → u.ownBlock ≠ some k

section
variable {w0 w w' : World} {p q : Nat} {v v' u u' : Value} {L L' : List Jb}
theorem OneV.kept (h : OneV w0 w p v L) (hb : Below w.heap.size w w') : OneV w0 w' p v L := ⟨h.tv.kept hb, h.lo, h.ol, h.fr.trans (hb.mono h.fr.size)⟩
theorem OneV.step (h : OneV w0 w p v L) (ht : TV w' p v' L') (hq : QOff p v.ownBlock w w') (hn : NewO w v.ownBlock v'.ownBlock) : OneV w0 w' p v' L' :=
  ⟨ht, h.lo, hn.lo h.ol h.fr.size, h.fr.trans (hq.below h.lo h.ol h.fr.size)⟩
theorem TwoV.kept (h : TwoV w0 w p v q u L) (hb : Below w.heap.size w w') : TwoV w0 w' p v q u L := ⟨h.one.kept hb, h.pv.kept hb, h.lo, h.ol, h.ap⟩
theorem TwoV.pq (h : TwoV w0 w p v q u L) : q ≠ p := Put.apart_types h.pv.cell h.one.tv.cell (by decide)
/-- The program's table has made a step, the law's not yet. -/
theorem TwoV.left (h : TwoV w0 w p v q u L) (hq : QOff p v.ownBlock w w') : PV w' q u L := BV.other (by decide) (by decide) h.one.tv h.pv h.pq h.ap hq
theorem PV.apart (hp : PV w q u L) (ha : ∀ k, v.ownBlock = some k → u.ownBlock ≠ some k) (hn : NewO w v.ownBlock v'.ownBlock) : ∀ k, v'.ownBlock = some k → u.ownBlock ≠ some k := by
  intro k hk e
  rcases hn with e1 | ⟨g, e1, hg⟩
  · exact ha k (e1 ▸ hk) e
  · rw [e1] at hk
    cases hk
    have := (hp.own.lt k e).2
    omega
theorem TV.apart (hp : TV w p v L) (ha : ∀ k, v.ownBlock = some k → u.ownBlock ≠ some k) (hn : NewO w u.ownBlock u'.ownBlock) : ∀ k, v.ownBlock = some k → u'.ownBlock ≠ some k := by
  intro k hk e
  rcases hn with e1 | ⟨g, e1, hg⟩
  · exact ha k hk (e1 ▸ e)
  · rw [e1] at e
    cases e
    have := (hp.own.lt k hk).2
    omega
/-- Both have made their step. -/
theorem TwoV.both {w2 : World} (h : TwoV w0 w p v q u L) (ht : TV w' p v' L') (hq : QOff p v.ownBlock w w') (hn : NewO w v.ownBlock v'.ownBlock) (hp : PV w2 q u' L') (hq2 : QOff q u.ownBlock w' w2) (hn2 : NewO w' u.ownBlock u'.ownBlock) : TwoV w0 w2 p v' q u' L' := by
  have o1 := h.one.step ht hq hn
  have p1 := h.left hq
  have a1 := PV.apart h.pv h.ap hn
  have a1' : ∀ k, u.ownBlock = some k → v'.ownBlock ≠ some k := fun k hk e => a1 k e hk
  have t2 : TV w2 p v' L' := BV.other (by decide) (by decide) p1 ht h.pq.symm a1' hq2
  exact ⟨⟨t2, h.one.lo, o1.ol, o1.fr.trans (hq2.below h.lo h.ol o1.fr.size)⟩, hp, h.lo, hn2.lo h.ol o1.fr.size, TV.apart ht a1 hn2⟩
theorem TwoV.new (w : World) : TwoV w ((w.alloc (.cells #[.bool true, .slice none 0 0] 61)).alloc (.cells #[.slice none 0 0] 35)) w.heap.size (.slice none 0 0) (w.heap.size + 1) (.slice none 0 0) [] := by
  have hb := (Below.refl w.heap.size w).alloc (Nat.le_refl _) (.cells #[.bool true, .slice none 0 0] 61)
  have hs : (w.alloc (.cells #[.bool true, .slice none 0 0] 61)).heap.size = w.heap.size + 1 := by simp
  refine ⟨⟨(BV.newT w).kept ((Below.refl _ _).alloc (Nat.le_refl _) _), Nat.le_refl _, fun k hk => by simp [Value.ownBlock] at hk, hb.alloc (by omega) _⟩, ⟨?_, by simpa using World.ownsRow_nil _ 0 52 10⟩, by omega, fun k hk => by simp [Value.ownBlock] at hk, fun k hk => by simp [Value.ownBlock] at hk⟩
  have := heap_alloc_new (w.alloc (.cells #[.bool true, .slice none 0 0] 61)) (.cells #[.slice none 0 0] 35)
  rw [hs] at this
  exact this
theorem OneV.new (w : World) : OneV w (w.alloc (.cells #[.bool true, .slice none 0 0] 61)) w.heap.size (.slice none 0 0) [] :=
  ⟨BV.newT w, Nat.le_refl _, fun k hk => by simp [Value.ownBlock] at hk, (Below.refl w.heap.size w).alloc (Nat.le_refl _) _⟩

def exR : Rq := ⟨1, 0, 0, 1, 10, 0, false, 0, 0⟩
def exJ : Jb := (1, 0, 1, 10, 0, 1, -1, -1, -1, 0)
def exK : Jb := (1, 0, 1, 10, 0, 3, 5, 15, -1, 1)
set_option maxRecDepth 100000 in
set_option maxHeartbeats 1000000 in
theorem awake_any (w : World) : Calls Try.prog 10 #[] w fun e w' => e = .returned (.bool true) ∧ Below w.heap.size w w' := by
  have hN := OneV.new w
  have hS := Submit_fn hN.tv (fun j hj => by simp at hj) (by simp) exR
  unfold SubPost at hS
  rw [show subId [] exR = 1 from by decide, show subE [] exR = 0 from by decide, show subL [] exR = [exJ] from by decide] at hS
  have HB : Hid (∀ (W : World) (v2 : Value), OneV w W w.heap.size v2 [exJ] → Calls Try.prog 29 #[.pointer (some ⟨w.heap.size, 0, none⟩), .int .i64 1, .int .i64 5, .int .u64 1] W fun e W' => e = .returned (.int .i64 0) ∧ OneV w W' w.heap.size v2 [exK]) := fun W v2 h => by
    refine (Begin_fn h.tv 1 5 1 (fun j hj => by rw [List.mem_singleton] at hj; subst hj; decide)).mono ?_
    rintro e W' ⟨h1, h2, h3⟩
    refine ⟨by rw [h1]; rfl, h.step ?_ h3 (NewO.refl _ _)⟩
    have e1 : stepL [exJ] (beginE 5) 1 (fun j : Jb => decide (j.state = 1)) (beginJ 5 1) = [exK] := by decide
    rw [e1] at h2
    exact h2
  have HG : Hid (∀ (W : World) (v2 : Value), OneV w W w.heap.size v2 [exK] → Calls Try.prog 25 #[.pointer (some ⟨w.heap.size, 0, none⟩), .int .i64 1] W fun e W' => e = .returned (.tuple #[.agg (encJ exK).toArray, .int .i64 0]) ∧ OneV w W' w.heap.size v2 [exK]) := fun W v2 h => by
    refine (Get_fn h.tv 1).mono ?_
    rintro e W' ⟨h1, h2⟩
    refine ⟨by rw [h1]; rfl, h.kept h2.below⟩
  simp only [exR, encR] at hS
  have zE := zE_job
  obtain ⟨k, hk⟩ : ∃ k, k = 10 := ⟨_, rfl⟩
  have lI := encJ_len exK
  rw [← hk] at zE lI
  have HS : Hid (∀ W : World, Sem.run Try.prog (storeCells ⟨W.heap.size, 0, none⟩ (encJ exK) 0) (W.alloc (.cells #[.int .i64 0, .int .i64 0, .int .i64 0, .int .i64 0, .int .i64 0, .int .i64 0, .int .i64 0, .int .i64 0, .int .i64 0, .int .u64 0] 52)) = .ok () (W.alloc (.cells (encJ exK).toArray 52))) := fun W => store_new W W.heap.size (encJ exK) (encJ default) 52 rfl (by rw [encJ_len, encJ_len]) (encJ_one _)
  have HC : Hid (∀ W : World, (W.alloc (.cells (encJ exK).toArray 52)).cell? ⟨W.heap.size, 5, none⟩ = some (.int .i64 3) ∧ (W.alloc (.cells (encJ exK).toArray 52)).cell? ⟨W.heap.size, 7, none⟩ = some (.int .i64 15)) := fun W => ⟨job_cells (heap_alloc_new W (.cells (encJ exK).toArray 52)) 5 _ rfl, job_cells (heap_alloc_new W (.cells (encJ exK).toArray 52)) 7 _ rfl⟩
  replace hk := Lib.hid hk
  have hnew := New_fn w
  generalize encJ exK = cI at *
  obtain ⟨w1, hw1⟩ : ∃ w1, w1 = w.alloc (.cells #[.bool true, .slice none 0 0] 61) := ⟨_, rfl⟩
  rw [← hw1] at hN hS hnew
  replace hw1 := Lib.hid hw1
  replace hN := Lib.hid hN
  replace zE := Lib.hid zE
  go_enter Try.func10, Try.ntmps10
  go_wp2_with fail
  go_at_call 11
  refine hnew.mono ?_
  clear hnew
  rintro e w1' ⟨rfl, rfl⟩
  go_wp2_with fail
  go_at_call 12
  refine hS.mono ?_
  clear hS
  rintro e w2 ⟨rfl, v2, h1, h2, h3⟩
  have o2 := hN.out.step h1 h2 h3
  have hB := HB.out w2 v2 o2
  clear HB o2 h1 h2 h3 hN
  go_wp2_with fail
  go_at_call 29
  refine hB.mono ?_
  clear hB
  rintro e w3 ⟨rfl, o3⟩
  have hG := HG.out w3 v2 o3
  clear HG o3
  replace zE := zE.out
  go_wp2_with fail
  go_at_call 25
  refine hG.mono ?_
  clear hG
  rintro e w4 ⟨rfl, o4⟩
  have st := HS.out w4
  obtain ⟨c5, c7⟩ := HC.out w4
  have o5 := Lib.hid (o4.kept ((Below.refl w4.heap.size w4).alloc (Nat.le_refl _) (.cells cI.toArray 52)))
  clear o4 HS HC
  go_wp2_with fail
  go_ret
  exact ⟨rfl, o5.out.fr⟩

end
end Go.Proofs.Ytmlmehpcfgchgaa
