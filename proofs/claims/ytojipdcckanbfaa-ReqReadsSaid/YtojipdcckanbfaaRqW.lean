/-
  Own walks: a request's bytes, by the program.
-/
import Derived.Test.YtojipdcckanbfaaRqV
import Derived.Test.YtojipdcckanbfaaRqD
namespace Go.Proofs.Ytojipdcckanbfaa
open Go.RowKit

theorem BBuf.read {w : World} {B : Nat} {v : Value} {l : List UInt8} (h : BBuf w B v l) (hp : 0 < l.length) : BRead w v l := by
  rcases h with h | ⟨⟨b, off, sp⟩, rfl, h1, h2⟩
  · exact BOwn.read h
  · have h0 := h2 0 (.int .u8 ((l[0]'hp).toNat : Int)) (by simp [bv, hp])
    have hsp : sp = Option.none := by simpa [Addr.add] using World.cell?_spot h0
    subst hsp
    refine .inr ⟨b, off, _, rfl, fun i hi => ?_⟩
    have h3 := h2 i (.int .u8 ((l[i]'hi).toNat : Int)) (by simp [bv, hi])
    rw [Go.WideShapes.add_plain] at h3
    rw [h3]
    simp [List.getD, hi]

set_option maxRecDepth 100000 in
set_option maxHeartbeats 1000000 in
theorem bad_fn (r : Rq) (w : World) (hr : rightQ r = false) : Calls Try.prog 6 #[.agg (encR r).toArray] w fun e w' => e = .returned (.tuple #[.slice none 0 0, .int .i64 1]) ∧ Below w.heap.size w w' := by
  have zR := zE_req
  have lR := encR_len r
  obtain ⟨k9, hk9⟩ : ∃ k, k = 9 := ⟨_, rfl⟩
  rw [← hk9] at zR lR
  replace hk9 := Lib.hid hk9
  obtain ⟨wA, hwA⟩ : ∃ wA, wA = w.alloc (.cells (encR r).toArray 23) := ⟨_, rfl⟩
  have hb1 : Hid (Below w.heap.size w wA) := by show Below _ _ _; rw [hwA]; exact (Below.refl _ _).alloc (Nat.le_refl _) _
  have hR1 : wA.heap[w.heap.size]? = some (.cells (encR r).toArray 23 (0, 0)) := by rw [hwA]; exact heap_alloc_new w _
  have hld := req_load (k := k9) hR1 lR
  rw [hwA] at hld
  have hrt := Right_fn r wA
  rw [hr, hwA] at hrt
  clear hR1
  go_enter Try.func6, Try.ntmps6
  go_wp2_with fail
  go_at_call 7
  refine hrt.mono ?_
  clear hrt
  rintro e w1 ⟨rfl, hb2⟩
  rw [← hwA] at hb2
  replace hwA := Lib.hid hwA
  have hb3 : Hid (Below w.heap.size w w1) := hb1.out.trans (hb2.mono hb1.out.size)
  clear hb2
  go_wp2_with fail
  go_ret2
  exact ⟨rfl, hb3.out⟩

set_option maxRecDepth 100000 in
set_option maxHeartbeats 1000000 in
theorem put_fn (r : Rq) (w : World) (hf : FitsR r) (hr : rightQ r = true) : Calls Try.prog 6 #[.agg (encR r).toArray] w fun e w' => ∃ v, e = .returned (.tuple #[v, .int .i64 0]) ∧ RowAt encB 1 w' v (encQ r) ∧ Below w.heap.size w w' := by
  obtain ⟨i0, hi, hz0, hz1, hz2⟩ := info_parts infoB
  obtain ⟨n, hn⟩ : ∃ n : Nat, r.kind = (n : Int) ∧ n ≤ 13 := ⟨r.kind.toNat, by have := hr; unfold rightQ at this; simp at this; omega⟩
  have zR := zE_req
  have lR := encR_len r
  obtain ⟨k9, hk9⟩ : ∃ k, k = 9 := ⟨_, rfl⟩
  rw [← hk9] at zR lR
  replace hk9 := Lib.hid hk9
  obtain ⟨wA, hwA⟩ : ∃ wA, wA = w.alloc (.cells (encR r).toArray 23) := ⟨_, rfl⟩
  have hsA : wA.heap.size = w.heap.size + 1 := by rw [hwA]; simp
  have hb1 : Hid (Below w.heap.size w wA) := by show Below _ _ _; rw [hwA]; exact (Below.refl _ _).alloc (Nat.le_refl _) _
  have hR1 : wA.heap[w.heap.size]? = some (.cells (encR r).toArray 23 (0, 0)) := by rw [hwA]; exact heap_alloc_new w _
  have hld := req_load (k := k9) hR1 lR
  rw [hwA] at hld
  have hrt := Right_fn r wA
  rw [hr, hwA] at hrt
  have hbq : bodyQ r = [byt 183, byt n] ++ fieldsQ r := by unfold bodyQ; rw [hn.1]; rfl
  have hel : encQ r = bodyQ r ++ [byt (ckF (bodyQ r))] := rfl
  rw [hel]
  clear hel
  have hlb : (bodyQ r).length ≤ 100 := by
    have := fieldsQ_length r
    rw [hbq, List.length_append]
    simp only [List.length_cons, List.length_nil]
    omega
  have hlp : 0 < (bodyQ r).length := by rw [hbq, List.length_append]; simp only [List.length_cons, List.length_nil]; omega
  have hck : ckF (bodyQ r) < 256 := ckK_lt _ _
  have hby := byt_val hck
  have hsm := fun (W : World) (B : Nat) (v : Value) (h : BBuf W B v (bodyQ r)) => sum_fn (h.read hlp) (by omega)
  generalize ckF (bodyQ r) = s at *
  generalize bodyQ r = L at *
  have hwr : IntKind.u8.wrap (n : Int) = (n : Int) := by rw [IntKind.wrap_u8']; omega
  have hcs : #[Value.int .u8 183, .int .u8 (n : Int)] = (bv [byt 183, byt n]).toArray := by simp [bv, byt_val, byt_val (show n < 256 by omega)]
  have hkd : (encR r)[0]? = some (.int .i64 (n : Int)) := by rw [← hn.1]; rfl
  clear hn
  replace hR1 := Lib.hid hR1
  replace hr := Lib.hid hr
  replace hf := Lib.hid hf
  replace hcs := Lib.hid hcs
  replace hlb := Lib.hid hlb
  replace hlp := Lib.hid hlp
  replace hbq := Lib.hid hbq
  replace hby := Lib.hid hby
  go_enter Try.func6, Try.ntmps6
  go_wp2_with fail
  go_at_call 7
  refine hrt.mono ?_
  clear hrt hld
  rintro e w1 ⟨rfl, hb2⟩
  rw [← hwA] at hb2
  replace hwA := Lib.hid hwA
  have hR2 : w1.heap[w.heap.size]? = some (.cells (encR r).toArray 23 (0, 0)) := (hb2.block _ (by omega)).trans hR1.out
  have hb3 : Hid (Below w.heap.size w w1) := hb1.out.trans (hb2.mono hb1.out.size)
  have hs1 : w.heap.size < w1.heap.size := by have := hb2.size; omega
  clear hb2 hb1
  have hc0 := req_cells hR2 0 _ hkd
  obtain ⟨wB, hwB⟩ : ∃ wB, wB = w1.alloc (.cells #[.int .u8 183, .int .u8 (n : Int)] 5) := ⟨_, rfl⟩
  have hR3 : wB.heap[w.heap.size]? = some (.cells (encR r).toArray 23 (0, 0)) := by rw [hwB]; exact heap_past hR2
  have hld := req_load (k := k9) hR3 lR
  have hbB : Hid (Below w.heap.size w wB) := by show Below _ _ _; rw [hwB]; exact hb3.out.alloc (by omega) _
  have hRB : wB.heap[w1.heap.size]? = some (.cells #[.int .u8 183, .int .u8 (n : Int)] 5 (0, 0)) := by rw [hwB]; exact heap_alloc_new w1 _
  have hfl := fields_fn hf.out (v := .slice (some ⟨w1.heap.size, 0, none⟩) 2 2) (l := [byt 183, byt n]) (w := wB) (fun B => new_buf hRB hcs.out) (by simp)
  rw [← hbq.out] at hfl
  rw [hwB] at hfl hld
  clear hRB hR3 hR2
  go_wp2_with fail
  go_at_call 14
  refine hfl.mono ?_
  clear hfl hld hc0
  rintro e w2 ⟨v2, rfl, hB2, hE2⟩
  rw [← hwB] at hB2 hE2
  replace hwB := Lib.hid hwB
  have hs2 := hE2.size
  have hbF : Hid (Below w.heap.size w w2) := hbB.out.trans (hE2.mono hbB.out.size)
  have hsum := hsm w2 wB.heap.size v2 hB2
  have hw2 : w.heap.size < w2.heap.size := by
    have h4 : wB.heap.size = w1.heap.size + 1 := by rw [hwB.out]; simp
    omega
  have hbB2 : wB.heap.size ≤ w2.heap.size := hs2
  clear hE2 hs2 hsm hs1 hb3
  obtain ⟨w3, hw3⟩ : ∃ w3, w3 = w2.alloc (.cells #[.int .u8 (s : Int)] 5) := ⟨_, rfl⟩
  have hb33 : Hid (Below w.heap.size w w3) := by show Below _ _ _; rw [hw3]; exact hbF.out.alloc (by omega) _
  have hs3 : w3.heap.size = w2.heap.size + 1 := by rw [hw3]; simp
  have hbuf3 : BBuf w3 wB.heap.size v2 L := by rw [hw3]; exact hB2.alloc _
  have hc3 : ∀ j u, [Value.int .u8 (((byt s).toNat : Nat) : Int)][j]? = some u → w3.cell? ((⟨w2.heap.size, 0, none⟩ : Addr).add j) = some u := by rw [hw3, hby.out]; exact cell_one_new _ _ _
  have hb3l : wB.heap.size ≤ w3.heap.size := by omega
  have hll := hlb.out
  rw [hw3] at hbuf3 hc3 hb3l
  clear hs3 hB2
  go_wp2_with (first | (go_at_call 15; go_must (refine hsum.mono ?_); rintro e w' ⟨rfl, rfl⟩) | (at_builtin; go_must (refine wpList_append_buf _ rfl (.tmp 14) (.tmp 17) 24 rfl wB.heap.size 5 i0 (.int .u8 0) 1 1 Try.underlying24 hi hz0 hz1 hz2 rfl (by decide) v2 L.length (bv L) rfl hbuf3 ⟨w2.heap.size, 0, none⟩ 1 1 [.int .u8 (((byt s).toNat : Nat) : Int)] rfl rfl hc3 ?d1 (by omega) ?d2 ?d3 ?d4 ?d5)))
  case d5 =>
    intro v' w4 hown1 hb4
    rw [← hw3] at hb4
    have hby4 : Hid (BOwn w4 wB.heap.size v' (L ++ [byt s])) := by
      show w4.ownsRow _ _ _ _ _ _
      rw [bv_append, List.length_append]
      exact hown1
    have hfin : Hid (Below w.heap.size w w4) := hb33.out.trans (hb4.mono (by have := hbB.out.size; omega))
    clear hown1 hb4
    go_wp2
    go_ret2
    exact ⟨v', rfl, hby4.out.row, hfin.out⟩
  case d1 => simp [Value.oneCell']
  case d2 => unfold maxLen; omega
  case d3 => omega
  case d4 => exact hb3l

end Go.Proofs.Ytojipdcckanbfaa
