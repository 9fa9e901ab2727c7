/-
  Own walks: a log in memory; Step, Tick, Note.
-/
import Derived.Test.YtdlfbkiihkhmmaaHiA
import Derived.Test.YtdlfbkiihkhmmaaReg
import Derived.Test.YtdlfbkiihkhmmaaOwn
import Derived.Test.YtdlfbkiihkhmmaaOwnK
import Derived.Test.YtdlfbkiihkhmmaaOwnP
import Derived.Test.YtdlfbkiihkhmmaaOwnF
import Derived.Test.YtdlfbkiihkhmmaaCel
import Derived.BigQuiet
import Derived.Shelf.GgSortFunc.RowK
namespace Go.Proofs.Ytdlfbkiihkhmmaa
set_option maxRecDepth 8000
open Go.RowKit Go.Lib Put

structure HOff (p : Nat) (o : Option Nat) (w w' : World) : Prop where
  os : w'.os = w.os
  tape : w'.tape = w.tape
  output : w'.output = w.output
  size : w.heap.size ≤ w'.heap.size
  block : ∀ k, k < w.heap.size → k ≠ p → o ≠ some k → w'.heap[k]? = w.heap[k]?
/-- The row lies where it lay, or in a new block. -/
def HNew (w : World) (o o' : Option Nat) : Prop := o' = o ∨ ∃ k, o' = some k ∧ w.heap.size ≤ k

section
variable {p : Nat} {o o1 o2 : Option Nat} {w w1 w2 : World}
theorem HOff.refl (p : Nat) (o : Option Nat) (w : World) : HOff p o w w := ⟨rfl, rfl, rfl, Nat.le_refl _, fun _ _ _ _ => rfl⟩
theorem HOff.of_below (h : Below w.heap.size w w1) : HOff p o w w1 := ⟨h.os, h.tape, h.output, h.size, fun k hk _ _ => h.block k hk⟩
theorem HOff.of_grown (h : w.grownBy w1 o) : HOff p o w w1 := ⟨h.os, h.tape, h.output, h.size, fun k hk _ h2 => h.block k hk (fun e => h2 e.symm)⟩
theorem HOff.trans (h : HOff p o w w1) (h' : HOff p o1 w1 w2) (hn : HNew w o o1) : HOff p o w w2 :=
  ⟨h'.os.trans h.os, h'.tape.trans h.tape, h'.output.trans h.output, Nat.le_trans h.size h'.size, fun k hk h1 h2 => by
    rw [h'.block k (Nat.lt_of_lt_of_le hk h.size) h1 (by
      rcases hn with rfl | ⟨q, rfl, hq⟩
      · exact h2
      · intro e; injection e with e; omega), h.block k hk h1 h2]⟩
theorem HOff.setCell {j : Nat} {v : Value} (h : HOff p o w w1) : HOff p o w (w1.setCell ⟨p, j, none⟩ v) :=
  ⟨h.os, h.tape, h.output, by simpa using h.size, fun k hk h1 h2 => by rw [Below.heap_setCell w1 ⟨p, j, none⟩ v k (fun e => h1 e)]; exact h.block k hk h1 h2⟩
theorem HOff.setNew {b j : Nat} {v : Value} (h : HOff p o w w1) (hb : w.heap.size ≤ b) : HOff p o w (w1.setCell ⟨b, j, none⟩ v) :=
  ⟨h.os, h.tape, h.output, by simpa using h.size, fun k hk h1 h2 => by rw [Below.heap_setCell w1 ⟨b, j, none⟩ v k (fun e => by simp only at e; omega)]; exact h.block k hk h1 h2⟩
theorem HOff.below {B : Nat} (h : HOff p o w w1) (hB : B ≤ w.heap.size) (hp : B ≤ p) (ho : ∀ k, o = some k → B ≤ k) : Below B w w1 :=
  ⟨h.os, h.tape, h.output, h.size, fun k hk => h.block k (by omega) (by omega) (fun e => by have := ho k e; omega)⟩
theorem HNew.refl (w : World) (o : Option Nat) : HNew w o o := .inl rfl
theorem HNew.trans (h : HNew w o o1) (h' : HNew w1 o1 o2) (hs : w.heap.size ≤ w1.heap.size) : HNew w o o2 := by
  rcases h' with rfl | ⟨q, rfl, hq⟩
  · exact h
  · exact .inr ⟨q, rfl, by omega⟩
theorem HOff.row {v : Value} {l : List Ev} (h : HOff p o w w1) (hr : RowAt encE 24 w v l) (hs : 0 < l.length → ∀ b off m c, v = .slice (some ⟨b, off, none⟩) m c → b ≠ p ∧ o ≠ some b) : RowAt encE 24 w1 v l := by
  obtain ⟨ao, cap, h1, h2, h3, h4⟩ := hr
  refine ⟨ao, cap, h1, h2, h3, fun hn => ?_⟩
  obtain ⟨b, off, e, hlt, hc⟩ := h4 hn
  subst e
  obtain ⟨a1, a2⟩ := hs hn b off _ _ h1
  refine ⟨b, off, rfl, Nat.lt_of_lt_of_le hlt h.size, fun i s j u hi hj => ?_⟩
  have := hc i s j u hi hj
  simp only [World.cell?] at this ⊢
  rw [h.block b hlt a1 a2]
  exact this
end

def stamp (st : Int) (x : Ev) : Ev := { x with st := st }
/-- A log in memory. -/
structure LG (B : Nat) (w : World) (s : Nat) (st : Int) (v : Value) (L : List Ev) : Prop where
  obj : w.heap[s]? = some (.cells #[.int .i64 st, v] 26 (0, 0))
  own : w.ownsRow B 36 24 v L.length (L.flatMap encE)
  bs : B ≤ s
section
variable {B s : Nat} {w w' : World} {st : Int} {v va : Value} {L l : List Ev}
theorem LG.c0 (h : LG B w s st v L) : w.cell? ⟨s, 0, none⟩ = some (.int .i64 st) := by simp [World.cell?, h.obj]
theorem LG.c1 (h : LG B w s st v L) : w.cell? ⟨s, 1, none⟩ = some v := by simp [World.cell?, h.obj]
theorem LG.fz (h : LG B w s st v L) (i : Nat) : w.frozen? ⟨s, i, none⟩ = false := by simp [World.frozen?, h.obj]
theorem LG.lt (h : LG B w s st v L) : s < w.heap.size := lt_of_at h.obj
theorem LG.below (h : LG B w s st v L) (hb : Below w.heap.size w w') : LG B w' s st v L := ⟨(hb.block _ h.lt).trans h.obj, Put.own_kept h.own hb, h.bs⟩
theorem LG.row (h : LG B w s st v L) : RowAt encE 24 w v L := RowAt.of_own h.own (fun _ => rfl) rfl rfl
theorem own_not {n : Nat} {xs : List Value} {cs : Array Value} {T : TypeId} (h : w.ownsRow B 36 24 v n xs) (hs : w.heap[s]? = some (.cells cs T (0, 0))) (hT : T ≠ 36) : v.ownBlock ≠ some s := by
  intro e
  rcases h.2 with ⟨e0, _⟩ | ⟨g', cap', cur, e0, _, hg, _⟩
  · rw [e0] at e; simp [Value.ownBlock] at e
  · rw [e0] at e
    simp [Value.ownBlock] at e
    subst e
    rw [hs] at hg
    injection hg with hg
    injection hg with _ h2
    exact hT h2
theorem LG.apart (h : LG B w s st v L) : v.ownBlock ≠ some s := own_not h.own h.obj (by decide)

theorem Step_fn (h : LG B w s st v L) : Calls Try.prog 12 #[.pointer (some ⟨s, 0, none⟩)] w fun e w' => e = .returned (.int .i64 st) ∧ w = w' := by
  have c0 := h.c0
  clear h
  go_enter Try.func12, Try.ntmps12
  go_wp2_with fail
  go_ret
  exact ⟨rfl, rfl⟩
theorem Step_nil (w : World) : Calls Try.prog 12 #[.pointer none] w fun e w' => e = .returned (.int .i64 0) ∧ w = w' := by
  go_enter Try.func12, Try.ntmps12
  go_wp2_with fail
  go_ret
  exact ⟨rfl, rfl⟩
theorem Tick_nil (w : World) : Calls Try.prog 6 #[.pointer none] w fun e w' => e = .returned (.tuple #[]) ∧ w = w' := by
  go_enter Try.func6, Try.ntmps6
  go_wp2_with fail
  go_end0
  exact ⟨rfl, rfl⟩
theorem Tick_fn (h : LG B w s st v L) (h0 : 0 ≤ st) (h1 : st ≤ 1000) : Calls Try.prog 6 #[.pointer (some ⟨s, 0, none⟩)] w fun e w' => e = .returned (.tuple #[]) ∧ LG B w' s (st + 1) v L ∧ HOff s none w w' := by
  have c0 := h.c0
  have f0 := h.fz 0
  have hw : IntKind.i64.wrap (st + 1) = st + 1 := IntWalk.i64_in _ (by omega)
  have hfin : Hid (LG B (w.setCell ⟨s, 0, none⟩ (.int .i64 (st + 1))) s (st + 1) v L ∧ HOff s none w (w.setCell ⟨s, 0, none⟩ (.int .i64 (st + 1)))) := by
    refine ⟨⟨?_, ?_, h.bs⟩, (HOff.refl _ _ _).setCell⟩
    · have := heap_put (i := 0) h.obj (.int .i64 (st + 1))
      simpa using this
    · exact ownsRow_block h.own fun k hk => Below.heap_setCell w ⟨s, 0, none⟩ _ k (fun e => h.apart (by rw [hk]; simp only at e; rw [e]))
  clear h
  go_enter Try.func6, Try.ntmps6
  go_wp2_with fail
  go_end0
  exact ⟨rfl, hfin.out⟩

theorem Note_nil (w : World) : Calls Try.prog 7 #[.pointer none, va] w fun e w' => e = .returned (.tuple #[]) ∧ w = w' := by
  go_enter Try.func7, Try.ntmps7
  go_wp2_with fail
  refine bodyPost_ret (results_none rfl _ _ _) rfl ?_
  exact ⟨rfl, rfl⟩

/-- What is known of a log's row while one is appended. -/
def NoteS (B : Nat) (w1 : World) (hq : Value) (L : List Ev) (x : Ev) (vs : List Value) (W : World) : Prop :=
  match vs with
  | [] => W.ownsRow B 36 24 hq L.length (L.flatMap encE)
  | v' :: _ => W.ownsRow B 36 24 v' (L.length + 1) (L.flatMap encE ++ encE x) ∧ HNew w1 hq.ownBlock v'.ownBlock
theorem NoteS_ext {w1 a b : World} {hq : Value} {x : Ev} {vs : List Value} (h : Below a.heap.size a b) (hs : NoteS B w1 hq L x vs a) : NoteS B w1 hq L x vs b := by
  unfold NoteS at *
  split at hs
  · exact Put.own_kept hs h
  · exact ⟨Put.own_kept hs.1 h, hs.2⟩
theorem infoE : (Try.prog.info? 36).map (fun i => (i.zero, i.size, i.bytes)) = some (some (.agg #[.int .i64 0, .int .i64 0, .int .i64 0, .int .i64 0, .int .i64 0, .int .i64 0, .int .i64 0, .int .i64 0, .int .i64 0, .bool false, .int .i64 0, .int .i64 0, .int .i64 0, .int .i64 0, .int .i64 0, .int .i64 0, .int .i64 0, .int .i64 0, .int .i64 0, .int .i64 0, .int .i64 0, .int .i64 0, .int .i64 0, .bool false]), 24, 192) := by kernel_rfl

def NotePost (B : Nat) (w : World) (s : Nat) (st : Int) (v : Value) (L l : List Ev) (e : Ending) (w' : World) : Prop :=
  e = .returned (.tuple #[]) ∧ ∃ v', LG B w' s st v' (L ++ l.map (stamp st)) ∧ HOff s v.ownBlock w w' ∧ HNew w v.ownBlock v'.ownBlock

set_option maxRecDepth 1000000 in
set_option maxHeartbeats 4000000 in
theorem Note_fn (h : LG B w s st v L) (hr : RowAt encE 24 w va l) (hsep : 0 < l.length → ∀ b off m c, va = .slice (some ⟨b, off, none⟩) m c → b ≠ s ∧ v.ownBlock ≠ some b) (hlen : L.length + l.length ≤ 900) :
    Calls Try.prog 7 #[.pointer (some ⟨s, 0, none⟩), va] w (NotePost B w s st v L l) := by
  have zE := zE_ev
  obtain ⟨i0, hi0, hz0, hz1, hz2⟩ := info_parts infoE
  obtain ⟨k, hk⟩ : ∃ k, k = 24 := ⟨_, rfl⟩
  rw [← hk] at zE
  replace hk := Lib.hid hk
  have hrH := Lib.hid hr
  obtain ⟨ao, cap, rfl, q1, q2, q3⟩ := hr
  obtain ⟨n, hn⟩ : ∃ n, l.length = n := ⟨_, rfl⟩
  rw [hn] at q1 q3 hlen hrH hsep ⊢
  have HA : Hid (0 < n → ∃ b off, ao = some ⟨b, off, none⟩) := fun hp => by
    obtain ⟨b, off, e1, _⟩ := q3 hp
    exact ⟨b, off, e1⟩
  have hsepH := Lib.hid hsep
  have hcM : cap ≤ 9223372036854775807 := by unfold maxLen at q2; omega
  have hnM : n ≤ 900 := by omega
  replace hn := Lib.hid hn
  replace hlen := Lib.hid hlen
  clear q2 q3 hsep
  replace h := Lib.hid h
  go_enter Try.func7, Try.ntmps7
  go_wp2_with fail
  go_loopw [10] (fun ii wr => ∃ (i : Nat) (hq : Value), i ≤ n ∧ ii = .int .i64 i ∧ Hid (LG B wr s st hq (L ++ (l.take i).map (stamp st))) ∧ Hid (HOff s v.ownBlock w wr) ∧ Hid (HNew w v.ownBlock hq.ownBlock)) (fun ii _ => n - (intOf ii).toNat)
  case atStart => exact ⟨0, v, Nat.zero_le _, rfl, Lib.hid (by simpa using h.out), HOff.refl _ _ _, HNew.refl _ _⟩
  case round =>
    clear h
    obtain ⟨i, hq, hin, rfl, hQ, hOq, hNq⟩ := hrel
    by_cases hlt : i < n
    · have b2 : (i : Int) < (n : Int) := by omega
      have wi : IntKind.i64.wrap ((i : Int) + 1) = (i : Int) + 1 := by rw [IntKind.wrap_i64]; omega
      obtain ⟨b, off, rfl⟩ := HA.out (by omega)
      have hiL : i < l.length := by have := hn.out; omega
      have hRq := hOq.out.row hrH.out (fun _ b' off' m' c' e => hsepH.out (by omega) b' off' m' c' e)
      obtain ⟨Lq, hLq⟩ : ∃ Lq, Lq = L ++ (l.take i).map (stamp st) := ⟨_, rfl⟩
      have hPl : Lq.length = L.length + i := by rw [hLq, List.length_append, List.length_map, List.length_take]; omega
      have hPL : Lq.length + 1 ≤ 901 := by have := hlen.out; omega
      replace hPl := Lib.hid hPl
      have LI := ev_row hRq hk.out hiL
      have hstp : Hid (Lq ++ [stamp st l[i]!] = L ++ (l.take (i + 1)).map (stamp st)) := by
        show _ = _
        rw [hLq, List.take_succ_eq_append_getElem hiL, List.map_append, List.append_assoc, getElem!_pos l i hiL]; rfl
      generalize l[i]! = y at *
      have lI := encE_len y
      have st1 : Sem.run Try.prog (storeCells ⟨wr.heap.size, 0, none⟩ (encE y) 0) (wr.alloc (.cells #[.int .i64 0, .int .i64 0, .int .i64 0, .int .i64 0, .int .i64 0, .int .i64 0, .int .i64 0, .int .i64 0, .int .i64 0, .bool false, .int .i64 0, .int .i64 0, .int .i64 0, .int .i64 0, .int .i64 0, .int .i64 0, .int .i64 0, .int .i64 0, .int .i64 0, .int .i64 0, .int .i64 0, .int .i64 0, .int .i64 0, .bool false] 36)) = .ok () (wr.alloc (.cells (encE y).toArray 36)) := store_new wr wr.heap.size (encE y) (encE default) 36 rfl (by rw [encE_len, encE_len]) (encE_one _)
      rw [← hk.out] at lI
      have hQ0 := hQ.out
      rw [← hLq] at hQ0
      have hb1 : Below wr.heap.size wr (wr.alloc (.cells (encE y).toArray 36)) := (Below.refl _ _).alloc (Nat.le_refl _) _
      have hnew := heap_alloc_new wr (.cells (encE y).toArray 36)
      have hQ1 := hQ0.below hb1
      have hO1 : HOff s v.ownBlock w (wr.alloc (.cells (encE y).toArray 36)) := hOq.out.trans (HOff.of_below hb1) hNq.out
      have hqlt : ∀ q, hq.ownBlock = some q → q < wr.heap.size := fun q hq' => (hQ0.own.lt q hq').2
      have hslt := hQ0.lt
      have hsw := hOq.out.size
      have hnw : w.heap.size ≤ wr.heap.size := by omega
      obtain ⟨cI, hcI⟩ : ∃ cI, cI = encE y := ⟨_, rfl⟩
      have hput : (cI.toArray.setIfInBounds 0 (.int .i64 st)) = (encE (stamp st y)).toArray := by rw [hcI]; rfl
      have f1 : (wr.alloc (.cells (encE y).toArray 36)).frozen? ⟨wr.heap.size, 0, none⟩ = false := by simp only [World.frozen?, hnew]; rfl
      have d1 : (wr.alloc (.cells (encE y).toArray 36)).cell? ⟨wr.heap.size, 0, none⟩ = some (.int .i64 y.st) := ev_cells hnew 0 _ rfl
      rw [← hcI] at hnew st1 f1 d1 hb1 hQ1 hO1 LI lI
      obtain ⟨w1, hw1⟩ : ∃ w1, w1 = wr.alloc (.cells cI.toArray 36) := ⟨_, rfl⟩
      rw [← hw1] at hnew st1 hQ1 hO1 f1 d1 hb1
      have c0 := hQ1.c0
      have hsz1 : w1.heap.size = wr.heap.size + 1 := by rw [hw1]; simp
      obtain ⟨w2, hw2⟩ : ∃ w2, w2 = w1.setCell ⟨wr.heap.size, 0, none⟩ (.int .i64 st) := ⟨_, rfl⟩
      have hn2 : w2.heap[wr.heap.size]? = some (.cells (encE (stamp st y)).toArray 36 (0, 0)) := by rw [hw2, ← hput]; exact heap_put hnew _
      have hQ2 : LG B w2 s st hq Lq := by
        rw [hw2]
        refine ⟨(Below.heap_setCell w1 ⟨wr.heap.size, 0, none⟩ _ s (by simp only; omega)).trans hQ1.obj, ?_, hQ1.bs⟩
        exact ownsRow_block hQ1.own fun q hq' => Below.heap_setCell w1 ⟨wr.heap.size, 0, none⟩ _ q (by have := hqlt q hq'; simp only; omega)
      have hO2 : HOff s v.ownBlock w w2 := by rw [hw2]; exact hO1.setNew hnw
      have hsz2 : w2.heap.size = wr.heap.size + 1 := by rw [hw2]; simpa using hsz1
      have c2 := hQ2.c1
      have hp2 := hQ2.obj
      have ho2 := hQ2.own
      have hap := hQ2.apart
      have hle2 := own_len hQ2.own
      have hbs := hQ2.bs
      have hp2g : ∀ W, w2.grownBy W hq.ownBlock → W.heap[s]? = some (.cells #[.int .i64 st, hq] 26 (0, 0)) := fun W hW => (hW.block s (by omega) (fun e => hap e.symm)).trans hp2
      have hn2g : ∀ W, w2.grownBy W hq.ownBlock → W.heap[wr.heap.size]? = some (.cells (encE (stamp st y)).toArray 36 (0, 0)) := fun W hW => (hW.block wr.heap.size (by omega) (fun e => by have := hqlt wr.heap.size e.symm; omega)).trans hn2
      replace hp2g := Lib.hid hp2g
      replace hn2g := Lib.hid hn2g
      have hqw : Hid (∀ q, hq.ownBlock = some q → q < w2.heap.size) := fun q e => by have := hqlt q e; omega
      replace hap := Lib.hid hap
      replace hO2 := Lib.hid hO2
      have hLql := Lib.hid hLq
      clear hQ hOq hQ0 hQ1 hO1 hRq hb1 hnew hn2 hQ2 hput hLq hqlt hsz1
      replace hw1 := Lib.hid hw1
      replace hw2 := Lib.hid hw2
      replace hcI := Lib.hid hcI
      go_wp2_with fail
      rw [← hw2.out]
      clear LI st1 d1 f1 c0 lI
      have hI0 : w2.grownBy w2.drew hq.ownBlock := ⟨rfl, rfl, rfl, Nat.le_refl _, fun _ _ _ => rfl⟩
      have hS0 : w2.drew.ownsRow B 36 24 hq Lq.length (Lq.flatMap encE) := ownsRow_block ho2 fun _ _ => rfl
      obtain ⟨z, hz⟩ : ∃ z, z = stamp st y := ⟨_, rfl⟩
      rw [← hz] at hn2g hstp
      have hencl : Hid ((encE z).length = 24) := encE_len z
      have henc1 : Hid (∀ u ∈ encE z, u.oneCell' = true) := encE_one z
      have hflx : Hid (Lq.flatMap encE ++ encE z = (Lq ++ [z]).flatMap encE) := by show _ = _; simp
      replace hz := Lib.hid hz
      obtain ⟨x0, x1, x2, x3, x4, x5, x6, x7, x8, x9, x10, x11, x12, x13, x14, x15, x16, x17, x18, x19, x20, x21, x22, x23⟩ := z
      have hB2 : B ≤ w2.heap.size := by omega
      refine Reg.region_mk 8 30 [[], [false], [false, true], [false, true, true], [false, true, true, true], [false, false, false, false, false], [false, false, false, false, false, true], [false, true, true, true, true, true, true]] [0, 0, 0, 0, 1, 1, 1, 3]
        [.pure, .pure, .pure, .pure, .minor Unit () (fun _ => hq) (fun _ _ => True), .minor Unit () (fun _ => .agg #[.int .i64 x0, .int .i64 x1, .int .i64 x2, .int .i64 x3, .int .i64 x4, .int .i64 x5, .int .i64 x6, .int .i64 x7, .int .i64 x8, .bool x9, .int .i64 x10, .int .i64 x11, .int .i64 x12, .int .i64 x13, .int .i64 x14, .int .i64 x15, .int .i64 x16, .int .i64 x17, .int .i64 x18, .int .i64 x19, .int .i64 x20, .int .i64 x21, .int .i64 x22, .bool x23]) (fun _ _ => True), .minor Nat 0 (fun x => .slice (some ⟨x, 0, none⟩) 1 1) (fun x W => W.heap[x]? = some (.cells (encE ⟨x0, x1, x2, x3, x4, x5, x6, x7, x8, x9, x10, x11, x12, x13, x14, x15, x16, x17, x18, x19, x20, x21, x22, x23⟩).toArray 36 (0, 0)) ∧ w2.heap.size ≤ x), .major Value undef id]
        (fun W => w2.grownBy W hq.ownBlock) (NoteS B w2 hq Lq ⟨x0, x1, x2, x3, x4, x5, x6, x7, x8, x9, x10, x11, x12, x13, x14, x15, x16, x17, x18, x19, x20, x21, x22, x23⟩) (fun a b => a.grownBy b hq.ownBlock) (by kernel_rfl) (by kernel_rfl) rfl rfl (fun vs a b h hs => NoteS_ext h hs) ?_ ?_ ?_ ?_ ?_ ?_
      · intro a b he hb
        exact ⟨he.os.trans hb.os, he.tape.trans hb.tape, he.output.trans hb.output, Nat.le_trans hb.size he.size, fun q hq' h2 => (he.block q (Nat.lt_of_lt_of_le hq' hb.size)).trans (hb.block q hq' h2)⟩
      · intro a b he hb
        exact ⟨he.os.trans hb.os, he.tape.trans hb.tape, he.output.trans hb.output, Nat.le_trans hb.size he.size, fun q hq' h2 => (he.block q (Nat.lt_of_lt_of_le hq' hb.size) h2).trans (hb.block q hq' h2)⟩
      · refine ⟨trivial, trivial, trivial, trivial, ⟨fun _ _ _ _ _ => trivial, fun _ _ _ _ _ => trivial⟩, ⟨fun _ _ _ _ _ => trivial, fun _ _ _ _ _ => trivial⟩, ⟨fun x a b he h => ⟨(he.block x (Put.lt_of_heap h.1)).trans h.1, h.2⟩, fun x a b he h => ⟨(he.block x (Put.lt_of_heap h.1) (fun e => by have := hqw.out x e.symm; have := h.2; omega)).trans h.1, h.2⟩⟩, trivial, trivial⟩
      · exact hI0
      · exact hS0
      dsimp only [Reg.mk, List.zip, List.zipWith, List.take]
      repeat (refine' Reg.pass_is _ (by rfl) (fun wz => ?_) ?_; rotate_left; (go_simp; first | rfl | rw [if_neg (by omega)]); simp only [Act.put, List.setIfInBounds_toArray, List.set_cons_zero, List.set_cons_succ]; (try simp only [List.nil_append]); (try simp only [List.cons_append]))
      refine Reg.pass_minor (by rfl) (fun wz hI hF => ?_) (fun r4 => ?_)
      · unfold Reg.One
        have d0 : wz.cell? ⟨s, 1, none⟩ = some hq := by simp [World.cell?, hp2g.out wz hI]
        go_wp2_with fail
        exact ⟨_, rfl, ⟨(), rfl, trivial⟩, Reg.Ext.refl _⟩
      simp only [Act.put, List.setIfInBounds_toArray, List.set_cons_zero, List.set_cons_succ]; (try simp only [List.nil_append]); (try simp only [List.cons_append]); (try simp only [id])
      refine Reg.pass_minor (by rfl) (fun wz hI hF => ?_) (fun r5 => ?_)
      · unfold Reg.One
        have LB := ev_load (hn2g.out wz hI) hk.out
        simp only [encE] at LB
        go_wp2_with fail
        exact ⟨_, rfl, ⟨(), rfl, trivial⟩, Reg.Ext.refl _⟩
      simp only [Act.put, List.setIfInBounds_toArray, List.set_cons_zero, List.set_cons_succ]; (try simp only [List.nil_append]); (try simp only [List.cons_append]); (try simp only [id])
      refine Reg.pass_minor (by rfl) (fun wz hI hF => ?_) (fun r6 => ?_)
      · unfold Reg.One
        obtain rfl := hk.out
        go_wp2_with fail
        exact ⟨_, rfl, ⟨wz.heap.size, rfl, heap_alloc_new wz (.cells (encE ⟨x0, x1, x2, x3, x4, x5, x6, x7, x8, x9, x10, x11, x12, x13, x14, x15, x16, x17, x18, x19, x20, x21, x22, x23⟩).toArray 36), by have := hI.size; omega⟩, (Below.refl wz.heap.size wz).alloc (Nat.le_refl _) _⟩
      simp only [Act.put, List.setIfInBounds_toArray, List.set_cons_zero, List.set_cons_succ]; (try simp only [List.nil_append]); (try simp only [List.cons_append]); (try simp only [id])
      refine Reg.pass_major (by rfl) (fun wz hI hS hF => ?_) (fun vv => ?_)
      · unfold Reg.One
        have hS1 : wz.ownsRow B 36 24 hq Lq.length (Lq.flatMap encE) := hS
        have hone := hF.2.2.2.2.2.1
        have hsrc : Src Try.prog 24 22 (.slice (some ⟨r6, 0, none⟩) 1 1) 1 (encE ⟨x0, x1, x2, x3, x4, x5, x6, x7, x8, x9, x10, x11, x12, x13, x14, x15, x16, x17, x18, x19, x20, x21, x22, x23⟩) wz := Src.ofSlice wz Try.underlying22 ⟨r6, 0, none⟩ 1 1 (encE ⟨x0, x1, x2, x3, x4, x5, x6, x7, x8, x9, x10, x11, x12, x13, x14, x15, x16, x17, x18, x19, x20, x21, x22, x23⟩) hencl.out (fun j u hj => by rw [Go.WideShapes.add_plain]; simpa using ev_cells hone.1 j u hj) henc1.out
        have hszI := hI.size
        go_wp2_with (at_builtin; go_must (refine wpList_append_new _ rfl (.tmp 23) (.tmp 25) 22 22 rfl B 36 i0 (.agg #[.int .i64 0, .int .i64 0, .int .i64 0, .int .i64 0, .int .i64 0, .int .i64 0, .int .i64 0, .int .i64 0, .int .i64 0, .bool false, .int .i64 0, .int .i64 0, .int .i64 0, .int .i64 0, .int .i64 0, .int .i64 0, .int .i64 0, .int .i64 0, .int .i64 0, .int .i64 0, .int .i64 0, .int .i64 0, .int .i64 0, .bool false]) 24 192 Try.underlying22 hi0 hz0 hz1 hz2 rfl hq Lq.length (Lq.flatMap encE) rfl hS1 (.slice (some ⟨r6, 0, none⟩) 1 1) 1 (encE ⟨x0, x1, x2, x3, x4, x5, x6, x7, x8, x9, x10, x11, x12, x13, x14, x15, x16, x17, x18, x19, x20, x21, x22, x23⟩) rfl hsrc ?c0 ?c1 (by omega) ?c2))
        case c0 => unfold maxLen; omega
        case c1 => omega
        case c2 =>
          intro v' w9 ho9 hg9 hnb
          have hnn : HNew w2 hq.ownBlock v'.ownBlock := by
            rcases hnb with e | e
            · exact .inl e
            · exact .inr ⟨_, e, hszI⟩
          go_wp2_with fail
          exact ⟨v', rfl, ⟨ho9, hnn⟩, hg9⟩
      simp only [Act.put, List.setIfInBounds_toArray, List.set_cons_zero, List.set_cons_succ]; (try simp only [List.nil_append]); (try simp only [List.cons_append]); (try simp only [id])
      refine Reg.pass_end ?_
      intro w3 HI3 HS3 HF3
      clear HF3 hI0 hS0 r4 r5
      obtain ⟨ho3, hn3⟩ : w3.ownsRow B 36 24 vv (Lq.length + 1) (Lq.flatMap encE ++ encE ⟨x0, x1, x2, x3, x4, x5, x6, x7, x8, x9, x10, x11, x12, x13, x14, x15, x16, x17, x18, x19, x20, x21, x22, x23⟩) ∧ HNew w2 hq.ownBlock vv.ownBlock := HS3
      rw [hflx.out] at ho3
      have hlx : (Lq ++ [(⟨x0, x1, x2, x3, x4, x5, x6, x7, x8, x9, x10, x11, x12, x13, x14, x15, x16, x17, x18, x19, x20, x21, x22, x23⟩ : Ev)]).length = Lq.length + 1 := by simp
      have hp3 := hp2g.out w3 HI3
      have c3 : w3.cell? ⟨s, 1, none⟩ = some hq := by simp [World.cell?, hp3]
      have f3 : w3.frozen? ⟨s, 1, none⟩ = false := by simp only [World.frozen?, hp3]; rfl
      have hps : vv.ownBlock ≠ some s := own_not ho3 hp3 (by decide)
      have hQ4 : Hid (LG B (w3.setCell ⟨s, 1, none⟩ vv) s st vv (L ++ (l.take (i + 1)).map (stamp st))) := by
        show LG _ _ _ _ _ _
        rw [← hstp.out]
        refine ⟨?_, ?_, hbs⟩
        · have := heap_put (i := 1) hp3 vv
          simpa using this
        · rw [hlx]; exact ownsRow_block ho3 fun q hq' => Below.heap_setCell w3 ⟨s, 1, none⟩ _ q (fun e => hps (by rw [hq']; simp only at e; rw [e]))
      have hO4 : Hid (HOff s v.ownBlock w (w3.setCell ⟨s, 1, none⟩ vv)) := (hO2.out.trans (HOff.of_grown HI3) hNq.out).setCell
      have hN4 : Hid (HNew w v.ownBlock vv.ownBlock) := hNq.out.trans hn3 hO2.out.size
      obtain ⟨ao', c', rfl, _⟩ := own_shape ho3
      dsimp only [List.drop]
      clear ho3 hn3 HI3 hlx hps
      go_wp2_with fail
      go_roundw
      case rel => exact ⟨i + 1, _, by omega, by go_num, hQ4, hO4, hN4⟩
      case measure => simp [intOf]; omega
    · obtain rfl : i = n := by omega
      have b2 : ¬ (i : Int) < (i : Int) := by omega
      have e1 : l.take i = l := List.take_of_length_le (by rw [hn.out]; exact Nat.le_refl _)
      rw [e1] at hQ
      have hfin : Hid (NotePost B w s st v L l (.returned (.tuple #[])) wr) := ⟨rfl, hq, hQ.out, hOq.out, hNq.out⟩
      clear hQ hOq hNq e1
      go_wp2_with fail
      go_end0
      exact hfin.out

end
end Go.Proofs.Ytdlfbkiihkhmmaa
