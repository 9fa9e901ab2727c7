/-
  Own walk: jobs put into a queue.
-/
import Derived.Test.YtenpdglmmbkmkaaQuD
import Derived.Test.YtenpdglmmbkmkaaHpR
import Derived.Test.YtenpdglmmbkmkaaReg
import Derived.Test.YtenpdglmmbkmkaaOwnF
namespace Go.Proofs.Ytenpdglmmbkmkaa
open Go.RowKit Go.Sort Go.Lib Go.Shelf Put

/-- As it was, but for the queue's block and its row's, and new ones. -/
structure QOff (p : Nat) (o : Option Nat) (w w' : World) : Prop where
  os : w'.os = w.os
  tape : w'.tape = w.tape
  output : w'.output = w.output
  size : w.heap.size ≤ w'.heap.size
  block : ∀ k, k < w.heap.size → k ≠ p → o ≠ some k → w'.heap[k]? = w.heap[k]?
/-- The row lies where it lay, or in a new block. -/
def NewO (w : World) (o o' : Option Nat) : Prop := o' = o ∨ ∃ k, o' = some k ∧ w.heap.size ≤ k

section
variable {p : Nat} {o o1 o2 : Option Nat} {w w1 w2 : World}
theorem QOff.refl (p : Nat) (o : Option Nat) (w : World) : QOff p o w w := ⟨rfl, rfl, rfl, Nat.le_refl _, fun _ _ _ _ => rfl⟩
theorem QOff.of_below (h : Below w.heap.size w w1) : QOff p o w w1 := ⟨h.os, h.tape, h.output, h.size, fun k hk _ _ => h.block k hk⟩
theorem QOff.of_off {g : Nat} (h : Off p g w w1) : QOff p (some g) w w1 := ⟨h.os, h.tape, h.output, h.size, fun k hk h1 h2 => h.block k hk h1 (fun e => h2 (by rw [e]))⟩
theorem QOff.of_grown (h : w.grownBy w1 o) : QOff p o w w1 := ⟨h.os, h.tape, h.output, h.size, fun k hk _ h2 => h.block k hk (fun e => h2 e.symm)⟩
theorem QOff.trans (h : QOff p o w w1) (h' : QOff p o1 w1 w2) (hn : NewO w o o1) : QOff p o w w2 :=
  ⟨h'.os.trans h.os, h'.tape.trans h.tape, h'.output.trans h.output, Nat.le_trans h.size h'.size, fun k hk h1 h2 => by
    rw [h'.block k (Nat.lt_of_lt_of_le hk h.size) h1 (by
      rcases hn with rfl | ⟨q, rfl, hq⟩
      · exact h2
      · intro e; injection e with e; omega), h.block k hk h1 h2]⟩
theorem NewO.refl (w : World) (o : Option Nat) : NewO w o o := .inl rfl
theorem NewO.trans (h : NewO w o o1) (h' : NewO w1 o1 o2) (hs : w.heap.size ≤ w1.heap.size) : NewO w o o2 := by
  rcases h' with rfl | ⟨q, rfl, hq⟩
  · exact h
  · exact .inr ⟨q, rfl, by omega⟩
theorem QOff.row {b off : Nat} {l : List Jb} (h : QOff p o w w1) (hJ : JRow w b off l) (h1 : b ≠ p) (h2 : o ≠ some b) : JRow w1 b off l :=
  ⟨Nat.lt_of_lt_of_le hJ.lt h.size, fun i s j u hi hj => by
    have := hJ.cell i s j u hi hj
    simp only [World.cell?] at this ⊢
    rw [h.block b hJ.lt h1 h2]
    exact this⟩
end

section
variable {w w' : World} {p g n cap : Nat} {v hv : Value} {L l : List Jb}

/-- What is known of a queue's row while one is appended: as it was, or with one more, where it lay or in a new block. -/
def PushS (w1 : World) (hq : Value) (L : List Jb) (x : Jb) (vs : List Value) (W : World) : Prop :=
  match vs with
  | [] => W.ownsRow 0 24 10 hq L.length (L.flatMap encJ)
  | v' :: _ => W.ownsRow 0 24 10 v' (L.length + 1) (L.flatMap encJ ++ encJ x) ∧ NewO w1 hq.ownBlock v'.ownBlock
theorem PushS_ext {w1 a b : World} {hq : Value} {x : Jb} {vs : List Value} (h : Below a.heap.size a b) (hs : PushS w1 hq L x vs a) : PushS w1 hq L x vs b := by
  unfold PushS at *
  split at hs
  · exact Put.own_kept hs h
  · exact ⟨Put.own_kept hs.1 h, hs.2⟩

def PushPost (w : World) (p : Nat) (hv : Value) (L l : List Jb) (e : Ending) (w' : World) : Prop :=
  e = .returned (.tuple #[]) ∧ ∃ hv' L', QV w' p hv' L' ∧ HeapL L' ∧ L'.Perm (L ++ l) ∧ QOff p hv.ownBlock w w' ∧ NewO w hv.ownBlock hv'.ownBlock

theorem Push_nil (v : Value) (w : World) : Calls Try.prog 17 #[.pointer none, v] w fun e w' => e = .returned (.tuple #[]) ∧ w = w' := by
  go_enter Try.func17, Try.ntmps17
  go_wp2_with fail
  refine bodyPost_ret (results_none rfl _ _ _) rfl ?_
  exact ⟨rfl, rfl⟩

set_option maxRecDepth 1000000 in
set_option maxHeartbeats 600000 in
theorem Push_any (h : QV w p hv L) (hH : HeapL L) (hr : RowAt encJ 10 w v l) (hsep : 0 < l.length → ∀ b off m c, v = .slice (some ⟨b, off, none⟩) m c → b ≠ p ∧ hv.ownBlock ≠ some b) (hlen : L.length + l.length ≤ 900) :
    Calls Try.prog 17 #[.pointer (some ⟨p, 0, none⟩), v] w (PushPost w p hv L l) := by
  have hmix := mixedO
  have zE := zE_job
  obtain ⟨i0, hi0, hz0, hz1, hz2⟩ := info_parts infoJob
  obtain ⟨k, hk⟩ : ∃ k, k = 10 := ⟨_, rfl⟩
  rw [← hk] at zE
  replace hk := Lib.hid hk
  obtain ⟨ao, cap, rfl, q1, q2, q3⟩ := hr
  obtain ⟨n, hn⟩ : ∃ n, l.length = n := ⟨_, rfl⟩
  rw [hn] at q1 q3 hlen hsep ⊢
  have HQ : Hid (0 < n → ∃ b off, ao = some ⟨b, off, none⟩ ∧ JRow w b off l ∧ b ≠ p ∧ hv.ownBlock ≠ some b) := fun hp => by
    obtain ⟨b, off, e1, e2, e3⟩ := q3 hp
    subst e1
    exact ⟨b, off, rfl, ⟨e2, e3⟩, hsep hp b off n cap rfl⟩
  have hcM : cap ≤ 9223372036854775807 := by unfold maxLen at q2; omega
  have hnM : n ≤ 900 := by omega
  replace hn := Lib.hid hn
  replace hlen := Lib.hid hlen
  clear q2 q3 hsep
  replace h := Lib.hid h
  replace hH := Lib.hid hH
  go_enter Try.func17, Try.ntmps17
  go_wp2_with fail
  go_loopw [10] (fun ii wr => ∃ (i : Nat) (hq : Value) (Lq : List Jb), i ≤ n ∧ ii = .int .i64 i ∧ QV wr p hq Lq ∧ HeapL Lq ∧ Lq.Perm (L ++ l.take i) ∧ QOff p hv.ownBlock w wr ∧ NewO w hv.ownBlock hq.ownBlock) (fun ii _ => n - (intOf ii).toNat)
  case atStart => exact ⟨0, hv, L, Nat.zero_le _, rfl, h.out, hH.out, by simp, QOff.refl _ _ _, NewO.refl _ _⟩
  case round =>
    clear h hH
    obtain ⟨i, hq, Lq, hin, rfl, hQ, hHq, hPq, hOq, hNq⟩ := hrel
    by_cases hlt : i < n
    · have b2 : (i : Int) < (n : Int) := by omega
      have wi : IntKind.i64.wrap ((i : Int) + 1) = (i : Int) + 1 := by rw [IntKind.wrap_i64]; omega
      obtain ⟨b, off, rfl, hJ, hbp, hbo⟩ := HQ.out (by omega)
      have hJq := hOq.row hJ hbp hbo
      have hiL : i < l.length := by have := hn.out; omega
      have hPl : Lq.length = L.length + i := by have := hPq.length_eq; rw [List.length_append, List.length_take] at this; omega
      have hPL : Lq.length + 1 ≤ 901 := by have := hlen.out; omega
      replace hPl := Lib.hid hPl
      have LI := hJq.load hk.out hiL
      have lI := encJ_len l[i]!
      have st : Sem.run Try.prog (storeCells ⟨wr.heap.size, 0, none⟩ (encJ l[i]!) 0) (wr.alloc (.cells #[.int .i64 0, .int .i64 0, .int .i64 0, .int .i64 0, .int .i64 0, .int .i64 0, .int .i64 0, .int .i64 0, .int .i64 0, .int .u64 0] 24)) = .ok () (wr.alloc (.cells (encJ l[i]!).toArray 24)) := store_new wr wr.heap.size (encJ l[i]!) (encJ default) 24 rfl (by rw [encJ_len, encJ_len]) (encJ_one _)
      rw [← hk.out] at lI
      have hb1 : Below wr.heap.size wr (wr.alloc (.cells (encJ l[i]!).toArray 24)) := (Below.refl _ _).alloc (Nat.le_refl _) _
      have hsz1 : (wr.alloc (.cells (encJ l[i]!).toArray 24)).heap.size = wr.heap.size + 1 := by simp
      have hnew := heap_alloc_new wr (.cells (encJ l[i]!).toArray 24)
      have hQ1 := hQ.kept hb1
      have hO1 : QOff p hv.ownBlock w (wr.alloc (.cells (encJ l[i]!).toArray 24)) := hOq.trans (QOff.of_below hb1) hNq
      generalize hcI : encJ l[i]! = cI at *
      replace hcI := Lib.hid hcI
      generalize hw1 : wr.alloc (.cells cI.toArray 24) = w1 at *
      replace hw1 := Lib.hid hw1
      have c1 := hQ1.c0
      have hqw : ∀ q, hq.ownBlock = some q → q < w1.heap.size := fun q hq' => (hQ1.own.lt q hq').2
      have hqp : hq.ownBlock ≠ some p := by
        intro e
        rcases hQ1.own.2 with ⟨e0, _⟩ | ⟨g', cap', cur, e0, _⟩
        · rw [e0] at e; simp [Value.ownBlock] at e
        · rw [e0] at hQ1 e
          have := hQ1.ne
          simp [Value.ownBlock] at e
          exact this e.symm
      have hp1 : w1.heap[p]? = _ := hQ1.cell
      have hqold : ∀ q, hq.ownBlock = some q → q < wr.heap.size := fun q hq' => (hQ.own.lt q hq').2
      have hpl := hQ1.lt
      have ho1 := hQ1.own
      have hle1 := own_len hQ1.own
      clear hQ hQ1 hOq hJ hJq hb1
      have hp1g : ∀ W, w1.grownBy W hq.ownBlock → W.heap[p]? = some (.cells #[hq] 36 (0, 0)) := fun W hW => (hW.block p hpl (fun e => hqp e.symm)).trans hp1
      have hwq : hq.ownBlock ≠ some wr.heap.size := by
        intro e
        have h1 := hqold _ e
        omega
      have hn1g : ∀ W, w1.grownBy W hq.ownBlock → W.heap[wr.heap.size]? = some (.cells cI.toArray 24 (0, 0)) := fun W hW => (hW.block _ (by omega) (fun e => hwq e.symm)).trans hnew
      replace hp1g := Lib.hid hp1g
      replace hn1g := Lib.hid hn1g
      go_wp2_with fail
      obtain rfl := hk.out
      have hcI2 := hcI.out
      have hLx := Lib.hid (take_snoc (l := l) hiL)
      clear hcI hwq hqold hnew hp1
      generalize l[i]! = y at *
      have hI0 : w1.grownBy w1.drew hq.ownBlock := ⟨rfl, rfl, rfl, Nat.le_refl _, fun _ _ _ => rfl⟩
      have hS0 : w1.drew.ownsRow 0 24 10 hq Lq.length (Lq.flatMap encJ) := ownsRow_block ho1 fun _ _ => rfl
      have hencl : Hid ((encJ y).length = 10) := encJ_len y
      have henc1 : Hid (∀ u ∈ encJ y, u.oneCell' = true) := encJ_one y
      have hflx : Hid (Lq.flatMap encJ ++ encJ y = (Lq ++ [y]).flatMap encJ) := by show _ = _; simp
      obtain ⟨x1, x2, x3, x4, x5, x6, x7, x8, x9, x0⟩ := y
      subst hcI2
      have hup := Lib.hid (Hp.Up.push (lt := aheadJ) (x1, x2, x3, x4, x5, x6, x7, x8, x9, x0) hHq)
      replace hPq := Lib.hid hPq
      replace hO1 := Lib.hid hO1
      replace hNq := Lib.hid hNq
      replace hHq := Lib.hid hHq
      replace hqp := Lib.hid hqp
      replace hqw := Lib.hid hqw
      refine Reg.region_mk 8 33 [[], [false], [false, true], [false, true, true], [false, true, true, true], [false, false, false, false, false], [false, false, false, false, false, true], [false, true, true, true, true, true, true]] [0, 0, 0, 0, 1, 1, 1, 3]
        [.pure, .pure, .pure, .pure, .minor Unit () (fun _ => hq) (fun _ _ => True), .minor Unit () (fun _ => .agg #[.int .i64 x1, .int .i64 x2, .int .i64 x3, .int .i64 x4, .int .i64 x5, .int .i64 x6, .int .i64 x7, .int .i64 x8, .int .i64 x9, .int .u64 x0]) (fun _ _ => True), .minor Nat 0 (fun x => .slice (some ⟨x, 0, none⟩) 1 1) (fun x W => W.heap[x]? = some (.cells (encJ (x1, x2, x3, x4, x5, x6, x7, x8, x9, x0)).toArray 24 (0, 0)) ∧ w1.heap.size ≤ x), .major Value undef id]
        (fun W => w1.grownBy W hq.ownBlock) (PushS w1 hq Lq (x1, x2, x3, x4, x5, x6, x7, x8, x9, x0)) (fun a b => a.grownBy b hq.ownBlock) (by kernel_rfl) (by kernel_rfl) rfl rfl (fun vs a b h hs => PushS_ext h hs) ?_ ?_ ?_ ?_ ?_ ?_
      · intro a b he hb
        exact ⟨he.os.trans hb.os, he.tape.trans hb.tape, he.output.trans hb.output, Nat.le_trans hb.size he.size, fun q hq' h2 => (he.block q (Nat.lt_of_lt_of_le hq' hb.size)).trans (hb.block q hq' h2)⟩
      · intro a b he hb
        exact ⟨he.os.trans hb.os, he.tape.trans hb.tape, he.output.trans hb.output, Nat.le_trans hb.size he.size, fun q hq' h2 => (he.block q (Nat.lt_of_lt_of_le hq' hb.size) h2).trans (hb.block q hq' h2)⟩
      · refine ⟨trivial, trivial, trivial, trivial, ⟨fun _ _ _ _ _ => trivial, fun _ _ _ _ _ => trivial⟩, ⟨fun _ _ _ _ _ => trivial, fun _ _ _ _ _ => trivial⟩, ⟨fun x a b he h => ⟨(he.block x (Put.lt_of_heap h.1)).trans h.1, h.2⟩, fun x a b he h => ⟨(he.block x (Put.lt_of_heap h.1) (fun e => by have := hqw.out x e.symm; have := h.2; omega)).trans h.1, h.2⟩⟩, trivial, trivial⟩
      · exact hI0
      · exact hS0
      dsimp only [Reg.mk, List.zip, List.zipWith, List.take]
      repeat (refine' Reg.pass_is _ (by rfl) (fun wz => ?_) ?_; rotate_left; (go_simp; first | rfl | rw [if_neg (by omega)]); simp only [Act.put, List.setIfInBounds_toArray, List.set_cons_zero, List.set_cons_succ]; (try simp only [List.nil_append]); (try simp only [List.cons_append]))
      refine Reg.pass_minor (by rfl) (fun wz hI hF => ?_) (fun r4 => ?_)
      · unfold Reg.One
        have d0 : wz.cell? ⟨p, 0, none⟩ = some hq := by simp [World.cell?, hp1g.out wz hI]
        go_wp2_with fail
        exact ⟨_, rfl, rfl, Reg.Ext.refl _⟩
      simp only [Act.put, List.setIfInBounds_toArray, List.set_cons_zero, List.set_cons_succ]; (try simp only [List.nil_append]); (try simp only [List.cons_append]); (try simp only [id])
      refine Reg.pass_minor (by rfl) (fun wz hI hF => ?_) (fun r5 => ?_)
      · unfold Reg.One
        have kk := job_cells (hn1g.out wz hI)
        have k0 := kk 0 _ rfl
        have k1 := kk 1 _ rfl
        have k2 := kk 2 _ rfl
        have k3 := kk 3 _ rfl
        have k4 := kk 4 _ rfl
        have k5 := kk 5 _ rfl
        have k6 := kk 6 _ rfl
        have k7 := kk 7 _ rfl
        have k8 := kk 8 _ rfl
        have k9 := kk 9 _ rfl
        clear kk
        go_wp2_with fail
        exact ⟨_, rfl, rfl, Reg.Ext.refl _⟩
      simp only [Act.put, List.setIfInBounds_toArray, List.set_cons_zero, List.set_cons_succ]; (try simp only [List.nil_append]); (try simp only [List.cons_append]); (try simp only [id])
      refine Reg.pass_minor (by rfl) (fun wz hI hF => ?_) (fun r6 => ?_)
      · unfold Reg.One
        go_wp2_with fail
        exact ⟨_, rfl, ⟨wz.heap.size, rfl, heap_alloc_new wz (.cells (encJ (x1, x2, x3, x4, x5, x6, x7, x8, x9, x0)).toArray 24), by have := hI.size; omega⟩, (Below.refl wz.heap.size wz).alloc (Nat.le_refl _) _⟩
      simp only [Act.put, List.setIfInBounds_toArray, List.set_cons_zero, List.set_cons_succ]; (try simp only [List.nil_append]); (try simp only [List.cons_append]); (try simp only [id])
      refine Reg.pass_major (by rfl) (fun wz hI hS hF => ?_) (fun vv => ?_)
      · unfold Reg.One
        have hS1 : wz.ownsRow 0 24 10 hq Lq.length (Lq.flatMap encJ) := hS
        have hone := hF.2.2.2.2.2.1
        have hsrc : Src Try.prog 10 28 (.slice (some ⟨r6, 0, none⟩) 1 1) 1 (encJ (x1, x2, x3, x4, x5, x6, x7, x8, x9, x0)) wz := Src.ofSlice wz Try.underlying28 ⟨r6, 0, none⟩ 1 1 (encJ (x1, x2, x3, x4, x5, x6, x7, x8, x9, x0)) hencl.out (fun j u hj => by rw [Go.WideShapes.add_plain]; simpa using job_cells hone.1 j u hj) henc1.out
        have hszI := hI.size
        go_wp2_with (at_builtin; go_must (refine wpList_append_new _ rfl (.tmp 18) (.tmp 20) 28 28 rfl 0 24 i0 (.agg (encJ default).toArray) 10 80 Try.underlying28 hi0 hz0 hz1 hz2 rfl hq Lq.length (Lq.flatMap encJ) rfl hS1 (.slice (some ⟨r6, 0, none⟩) 1 1) 1 (encJ (x1, x2, x3, x4, x5, x6, x7, x8, x9, x0)) rfl hsrc ?c0 ?c1 (Nat.zero_le _) ?c2))
        case c0 => unfold maxLen; omega
        case c1 => omega
        case c2 =>
          intro v' w9 ho9 hg9 hnb
          have hnn : NewO w1 hq.ownBlock v'.ownBlock := by
            rcases hnb with e | e
            · exact .inl e
            · exact .inr ⟨_, e, hszI⟩
          go_wp2_with fail
          exact ⟨v', rfl, ⟨ho9, hnn⟩, hg9⟩
      simp only [Act.put, List.setIfInBounds_toArray, List.set_cons_zero, List.set_cons_succ]; (try simp only [List.nil_append]); (try simp only [List.cons_append]); (try simp only [id])
      refine Reg.pass_end ?_
      intro w3 HI3 HS3 HF3
      clear HF3 st LI lI hI0 hS0 r4 r5
      obtain ⟨ho3, hn3⟩ : w3.ownsRow 0 24 10 vv (Lq.length + 1) (Lq.flatMap encJ ++ encJ (x1, x2, x3, x4, x5, x6, x7, x8, x9, x0)) ∧ NewO w1 hq.ownBlock vv.ownBlock := HS3
      rw [hflx.out] at ho3
      have hlx : (Lq ++ [(x1, x2, x3, x4, x5, x6, x7, x8, x9, x0)]).length = Lq.length + 1 := by simp
      obtain ⟨g', c', rfl⟩ : ∃ g' c', vv = .slice (some ⟨g', 0, none⟩) (Lq.length + 1) c' := by
        obtain ⟨ao', c', e, hp'⟩ := own_shape ho3
        obtain ⟨g', e2⟩ := hp' (by omega)
        exact ⟨g', c', by rw [e, e2]⟩
      have hp3 := hp1g.out w3 HI3
      have c3 : w3.cell? ⟨p, 0, none⟩ = some hq := by simp [World.cell?, hp3]
      have f3 : w3.frozen? ⟨p, 0, none⟩ = false := by simp [World.frozen?, hp3]
      have hpg : p ≠ g' := by
        rcases ho3.2 with ⟨e0, _⟩ | ⟨g2, c2, cur, e0, _, hg2, _⟩
        · cases e0
        · cases e0
          exact Put.apart_types hp3 hg2 (by decide)
      dsimp only [List.drop]
      go_wp2_with fail
      obtain ⟨h4, off4⟩ := put_slice (g' := g') (m := Lq.length + 1) (c := c') (D := Lq ++ [(x1, x2, x3, x4, x5, x6, x7, x8, x9, x0)]) hp3 (by rw [hlx]; exact ho3) hpg
      have hoff13 : QOff p hq.ownBlock w1 w3 := QOff.of_grown HI3
      obtain ⟨w4, hw4⟩ : ∃ w4, w3.setCell ⟨p, 0, none⟩ (.slice (some ⟨g', 0, none⟩) (Lq.length + 1) c') = w4 := ⟨_, rfl⟩
      rw [hw4] at h4 off4
      rw [hw4]
      have hrise := rise_fn (d := (Lq ++ [(x1, x2, x3, x4, x5, x6, x7, x8, x9, x0)]).toArray) 10 zE_job (Lq.length + 1) Lq.length 0 #[] encJ_ok swoJ lessOk h4.hp (by simp) (by omega) (by omega) hup.out
      rw [sortWorldK_start encJ 10 w4 g' 0 _ h4.hp.holds] at hrise
      go_at_call 25
      refine hrise.mono ?_
      clear hrise
      rintro e w7 ⟨rfl, q7, os7, d7, hw7, hs7, hH7, hp7⟩
      obtain ⟨h7, off7⟩ := heap_done (q := q7) (os := os7) (d := d7) h4 (by rw [hs7, hlx])
      rw [← hw7] at h7 off7
      have hO7 : QOff p hv.ownBlock w w7 := by
        have a1 : QOff p hv.ownBlock w w3 := hO1.out.trans hoff13 hNq.out
        have n3 : NewO w hv.ownBlock (some g') := hNq.out.trans (w1 := w1) hn3 hO1.out.size
        exact (a1.trans (QOff.of_off off4) n3).trans (QOff.of_off off7.mono) n3
      have hN7 : Hid (NewO w hv.ownBlock (Value.ownBlock (.slice (some ⟨g', 0, none⟩) (Lq.length + 1) c'))) := hNq.out.trans (w1 := w1) hn3 hO1.out.size
      have hP7 : d7.toList.Perm (L ++ l.take (i + 1)) := by
        rw [hLx.out, ← List.append_assoc]
        exact (show d7.toList.Perm (Lq ++ [(x1, x2, x3, x4, x5, x6, x7, x8, x9, x0)]) from by simpa using hp7).trans (hPq.out.append_right _)
      have hHh : HeapL d7.toList := by
        show Hp.Heap aheadJ d7.toList.length d7.toList.toArray
        simpa [hs7] using hH7
      replace h7 := Lib.hid h7
      replace hO7 := Lib.hid hO7
      replace hP7 := Lib.hid hP7
      replace hHh := Lib.hid hHh
      clear hH7 hp7 hw7 off7 hs7
      go_wp2_with fail
      go_roundw
      case rel => exact ⟨i + 1, _, d7.toList, by omega, by go_num, h7.out, hHh.out, hP7.out, hO7.out, hN7.out⟩
      case measure => simp [intOf]; omega
    · obtain rfl : i = n := by omega
      have b2 : ¬ (i : Int) < (i : Int) := by omega
      have e1 : l.take i = l := List.take_of_length_le (by rw [hn.out]; exact Nat.le_refl _)
      rw [e1] at hPq
      have hfin : Hid (PushPost w p hv L l (.returned (.tuple #[])) wr) := ⟨rfl, hq, Lq, hQ, hHq, hPq, hOq, hNq⟩
      clear hQ hHq hPq hOq hNq e1
      go_wp2_with fail
      go_end0
      exact hfin.out

end
end Go.Proofs.Ytenpdglmmbkmkaa
