/-
  Own walks: a lane as an argument; the statement on the next lock and how many there are.
-/
import Derived.Test.YthofobldpnoclaaRuB
import Derived.Laws.IdiomArrays
import Derived.ProofKit
import Derived.OpenShut
namespace Go.Proofs.Ythofobldpnoclaa
open Go.RowKit Go.Lib
open Go.ChangeShapes Go.WideShapes Go.ChangeAt Go.Deep

/-- An array of three truths by value. -/
theorem lane_of {H : Type} {enc : TypeId × Value → H} {P : Program} {w : World} {base : Nat} {t e : TypeId} {v : Value} {d : DataW H} {ps : List MemPlace} (ht : P.underlying t = some (.array 3 e)) (he : P.underlying e = some .bool) (hce : P.cellsOf e = 1) (hct : P.cellsOf t = 3)
    (hval : Value.okWide P w .any base t v) (hd : DataW.Trod enc P w 0 (fun _ => true) true t v d ps) : ∃ a b c : Bool, v = .agg #[.bool a, .bool b, .bool c] := by
  have h1 : ∃ cs, v = .agg cs ∧ cs.size = 3 := by
    simp only [Value.okWide, ht] at hval
    obtain ⟨cs, h1, h2, _⟩ := hval
    exact ⟨cs, h1, by rw [h2]; first | exact hct | rfl⟩
  obtain ⟨cs, rfl, hsz⟩ := h1
  obtain ⟨fuel, hf⟩ := hd
  obtain ⟨l⟩ := cs
  match l, hsz with
  | [c0, c1, c2], _ =>
    obtain ⟨y0, y1, y2, n, _, t0, t1, t2⟩ := trod_array3 ht hce hf
    obtain ⟨x0, e0, _⟩ := DataW.trod_bool he t0
    obtain ⟨x1, e1, _⟩ := DataW.trod_bool he t1
    obtain ⟨x2, e2, _⟩ := DataW.trod_bool he t2
    simp at e0 e1 e2
    subst e0 e1 e2
    exact ⟨x0, x1, x2, rfl⟩

set_option maxRecDepth 100000 in
set_option maxHeartbeats 2000000 in
theorem walkLanes (a b c : Bool) (f : Int) (w : World) (hf : -9223372036854775808 ≤ f ∧ f ≤ 9223372036854775807) : Calls Try.prog 5 #[.agg #[.bool a, .bool b, .bool c], .int .i64 f] w fun e w' => e = .returned (.bool true) ∧ Below w.heap.size w w' := by
  have n1 := fun W => Next_fn a b c f hf W
  have n2 := fun W => Len_fn a b c W
  have n3 := fun W => awake_any W
  unfold laneV at n1 n2
  obtain ⟨hf1, hf2⟩ := hf
  obtain ⟨N2, hN2⟩ : ∃ n : Int, n = if f ≤ 2 ∧ c = true then 2 else 3 := ⟨_, rfl⟩
  obtain ⟨N1, hN1⟩ : ∃ n : Int, n = if f ≤ 1 ∧ b = true then 1 else N2 := ⟨_, rfl⟩
  have hN0 : nextF a b c f = if f ≤ 0 ∧ a = true then 0 else N1 := by rw [hN1, hN2]; rfl
  obtain ⟨N0, hN⟩ : ∃ n, n = nextF a b c f := ⟨_, rfl⟩
  rw [← hN] at hN0 n1
  clear hN
  have hL : lenF a b c = (a.toNat : Int) + b.toNat + c.toNat := rfl
  obtain ⟨L, hL'⟩ : ∃ n, n = lenF a b c := ⟨_, rfl⟩
  rw [← hL'] at hL n2
  clear hL'
  obtain ⟨na, hna⟩ : ∃ n : Int, n = (a.toNat : Int) := ⟨_, rfl⟩
  obtain ⟨nb, hnb⟩ : ∃ n : Int, n = (b.toNat : Int) := ⟨_, rfl⟩
  obtain ⟨nc, hnc⟩ : ∃ n : Int, n = (c.toNat : Int) := ⟨_, rfl⟩
  have la : 0 ≤ na ∧ na ≤ 1 := by rw [hna]; cases a <;> decide
  have lb : 0 ≤ nb ∧ nb ≤ 1 := by rw [hnb]; cases b <;> decide
  have lc : 0 ≤ nc ∧ nc ≤ 1 := by rw [hnc]; cases c <;> decide
  obtain ⟨la0, la1⟩ := la
  obtain ⟨lb0, lb1⟩ := lb
  obtain ⟨lc0, lc1⟩ := lc
  rw [← hna, ← hnb, ← hnc] at hL
  replace hna := Lib.hid hna
  replace hnb := Lib.hid hnb
  replace hnc := Lib.hid hnc
  replace hN2 := Lib.hid hN2
  replace hN1 := Lib.hid hN1
  replace hN0 := Lib.hid hN0
  replace hL := Lib.hid hL
  obtain ⟨w1, hw1⟩ : ∃ w1, w1 = w.alloc (.cells #[.bool a, .bool b, .bool c] 23) := ⟨_, rfl⟩
  have hb1 : Below w.heap.size w w1 := by rw [hw1]; exact (Below.refl _ _).alloc (Nat.le_refl _) _
  have hs1 : w1.heap.size = w.heap.size + 1 := by rw [hw1]; simp
  have hA1 : w1.heap[w.heap.size]? = some (.cells #[.bool a, .bool b, .bool c] 23 (0, 0)) := by rw [hw1]; exact heap_alloc_new w _
  have k0 : w1.cell? ⟨w.heap.size, 0, none⟩ = some (.bool a) := by simp [World.cell?, hA1]
  have k1 : w1.cell? ⟨w.heap.size, 1, none⟩ = some (.bool b) := by simp [World.cell?, hA1]
  have k2 : w1.cell? ⟨w.heap.size, 2, none⟩ = some (.bool c) := by simp [World.cell?, hA1]
  clear hA1
  go_enter Try.func5, Try.ntmps5
  go_wp2_with fail
  rw [← hw1]
  replace hw1 := Lib.hid hw1
  go_loopw [5, 6, 7] (fun nn mm ii wr => ∃ k n m : Int, ii = .int .i64 k ∧ nn = .int .i64 n ∧ mm = .int .i64 m ∧ Hid ((k = 2 ∧ n = 3 ∧ m = 0) ∨ (k = 1 ∧ n = N2 ∧ m = nc) ∨ (k = 0 ∧ n = N1 ∧ m = nc + nb) ∨ (k = -1 ∧ n = N0 ∧ m = nc + nb + na)) ∧ w1 = wr) (fun _ _ ii _ => (intOf ii + 1).toNat)
  case atStart => exact ⟨2, 3, 0, rfl, rfl, rfl, .inl ⟨rfl, rfl, rfl⟩, rfl⟩
  case round =>
    obtain ⟨k, n, m, rfl, rfl, rfl, hm, rfl⟩ := hrel
    rcases hm.out with ⟨rfl, rfl, rfl⟩ | ⟨rfl, hn, hmm⟩ | ⟨rfl, hn, hmm⟩ | ⟨rfl, hn, hmm⟩
    · clear hm
      cases c
      · have e : Hid (nc = 0) := hnc.out
        have e2 : Hid (N2 = 3) := by show _ = _; rw [hN2.out]; simp
        go_wp2_with fail
        go_roundw
        case rel => exact ⟨1, 3, 0, by go_num, rfl, rfl, .inr (.inl ⟨rfl, e2.out.symm, e.out.symm⟩), trivial⟩
        case measure => simp [intOf]
      · have e : Hid (nc = 1) := hnc.out
        by_cases hf2 : f ≤ 2
        · have e2 : Hid (N2 = 2) := by show _ = _; rw [hN2.out]; simp [hf2]
          go_wp2_with fail
          go_roundw
          case rel => exact ⟨1, 2, 1, by go_num, rfl, by go_num, .inr (.inl ⟨rfl, e2.out.symm, e.out.symm⟩), trivial⟩
          case measure => simp [intOf]
        · have e2 : Hid (N2 = 3) := by show _ = _; rw [hN2.out]; simp [hf2]
          go_wp2_with fail
          go_roundw
          case rel => exact ⟨1, 3, 1, by go_num, rfl, by go_num, .inr (.inl ⟨rfl, e2.out.symm, e.out.symm⟩), trivial⟩
          case measure => simp [intOf]
    · clear hm
      have wi : IntKind.i64.wrap (m + 1) = m + 1 := by rw [IntKind.wrap_i64]; omega
      replace hn := Lib.hid hn
      replace hmm := Lib.hid hmm
      cases b
      · have e : Hid (nb = 0) := hnb.out
        have e2 : Hid (N1 = N2) := by show _ = _; rw [hN1.out]; simp
        go_wp2_with fail
        go_roundw
        case rel => exact ⟨0, n, m, by go_num, rfl, rfl, .inr (.inr (.inl ⟨rfl, by rw [e2.out, hn.out], by rw [e.out, hmm.out]; simp⟩)), trivial⟩
        case measure => simp [intOf]
      · have e : Hid (nb = 1) := hnb.out
        by_cases hf2 : f ≤ 1
        · have e2 : Hid (N1 = 1) := by show _ = _; rw [hN1.out]; simp [hf2]
          go_wp2_with fail
          go_roundw
          case rel => exact ⟨0, 1, m + 1, by go_num, rfl, by go_num, .inr (.inr (.inl ⟨rfl, e2.out.symm, by rw [e.out, hmm.out]⟩)), trivial⟩
          case measure => simp [intOf]
        · have e2 : Hid (N1 = N2) := by show _ = _; rw [hN1.out]; simp [hf2]
          go_wp2_with fail
          go_roundw
          case rel => exact ⟨0, n, m + 1, by go_num, rfl, by go_num, .inr (.inr (.inl ⟨rfl, by rw [e2.out, hn.out], by rw [e.out, hmm.out]⟩)), trivial⟩
          case measure => simp [intOf]
    · clear hm
      have wi : IntKind.i64.wrap (m + 1) = m + 1 := by rw [IntKind.wrap_i64]; omega
      replace hn := Lib.hid hn
      replace hmm := Lib.hid hmm
      cases a
      · have e : Hid (na = 0) := hna.out
        have e2 : Hid (N0 = N1) := by show _ = _; rw [hN0.out]; simp
        go_wp2_with fail
        go_roundw
        case rel => exact ⟨-1, n, m, by go_num, rfl, rfl, .inr (.inr (.inr ⟨rfl, by rw [e2.out, hn.out], by rw [e.out, hmm.out]; simp⟩)), trivial⟩
        case measure => simp [intOf]
      · have e : Hid (na = 1) := hna.out
        by_cases hf2 : f ≤ 0
        · have e2 : Hid (N0 = 0) := by show _ = _; rw [hN0.out]; simp [hf2]
          go_wp2_with fail
          go_roundw
          case rel => exact ⟨-1, 0, m + 1, by go_num, rfl, by go_num, .inr (.inr (.inr ⟨rfl, e2.out.symm, by rw [e.out, hmm.out]⟩)), trivial⟩
          case measure => simp [intOf]
        · have e2 : Hid (N0 = N1) := by show _ = _; rw [hN0.out]; simp [hf2]
          go_wp2_with fail
          go_roundw
          case rel => exact ⟨-1, n, m + 1, by go_num, rfl, by go_num, .inr (.inr (.inr ⟨rfl, by rw [e2.out, hn.out], by rw [e.out, hmm.out]⟩)), trivial⟩
          case measure => simp [intOf]
    · clear hm
      obtain rfl : m = L := by rw [hL.out]; omega
      obtain rfl : n = N0 := hn
      clear hmm hN0 hN1 hN2 hL
      have hb2 : Below w.heap.size w (w1.alloc (.cells #[.bool a, .bool b, .bool c] 24)) := hb1.alloc (by omega) _
      go_wp2_with fail
      go_at_call 15
      refine (n1 _).mono ?_
      clear n1
      rintro e w2 ⟨rfl, hb3⟩
      have hB := heap_alloc_new w1 (.cells #[.bool a, .bool b, .bool c] 24)
      have hB2 := (hb3.block _ (by simp)).trans hB
      have j0 : w2.cell? ⟨w1.heap.size, 0, none⟩ = some (.bool a) := by simp [World.cell?, hB2]
      have j1 : w2.cell? ⟨w1.heap.size, 1, none⟩ = some (.bool b) := by simp [World.cell?, hB2]
      have j2 : w2.cell? ⟨w1.heap.size, 2, none⟩ = some (.bool c) := by simp [World.cell?, hB2]
      rw [hs1] at j0 j1 j2
      have g2 := hb2.trans (hb3.mono hb2.size)
      clear hb2 hb3 hB hB2
      go_wp2_with fail
      go_at_call 16
      refine (n2 _).mono ?_
      clear n2
      rintro e w3 ⟨rfl, hb3⟩
      have g3 := g2.trans (hb3.mono g2.size)
      clear g2 hb3 j0 j1 j2
      go_wp2_with fail
      go_at_call 11
      refine (n3 _).mono ?_
      clear n3
      rintro e w4 ⟨rfl, hb4⟩
      have g4 := g3.trans (hb4.mono g3.size)
      clear g3 hb4
      go_wp2_with fail
      go_ret
      exact ⟨rfl, g4⟩

end Go.Proofs.Ythofobldpnoclaa
