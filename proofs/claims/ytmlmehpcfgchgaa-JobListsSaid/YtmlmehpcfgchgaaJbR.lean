/-
  Own walk: the statement on which jobs are in any states, and which wait.
-/
import Derived.Test.YtmlmehpcfgchgaaJbP
namespace Go.Proofs.Ytmlmehpcfgchgaa
open Go.RowKit Go.Sort Go.Lib Go.Shelf Put

theorem cnt_filter (s : Int) (L : List Jb) : (L.filter (twoP s s)).length = cnt s L := by
  unfold cnt
  rw [List.countP_eq_length_filter]
  congr 2
  funext j
  simp [twoP]
theorem two_mem (a b : Int) : (fun j : Jb => decide (j.state ∈ ([a, b] : List Int))) = twoP a b := by
  funext j
  unfold twoP
  by_cases h1 : j.state = a <;> by_cases h2 : j.state = b <;> simp [h1, h2]

section
variable {w w' : World} {p : Nat} {v u : Value} {L r : List Jb}
theorem in_len (h : PV w p u L) (hL : L.length ≤ 1000) (s : Int) : Calls Try.prog 23 #[.pointer (some ⟨p, 0, none⟩), .int .i64 s, .int .i64 s] w fun e w' => (∃ ao cap, e = .returned (.slice ao (cnt s L) cap)) ∧ Below w.heap.size w w' := by
  refine (in_fn h hL s s).mono ?_
  rintro e w' ⟨v', rfl, ho, hb⟩
  obtain ⟨ao, cap, rfl, _⟩ := own_shape ho
  exact ⟨⟨ao, cap, by rw [cnt_filter]⟩, hb⟩

/-- Those that wait are jobs of the table, one behind the other. -/
theorem wait_at (hG : Good L) (hp : r.Perm (L.filter fun j => decide (j.state = 1))) {i : Nat} (hi : i < r.length) : getE L (r[i]!).id = 0 ∧ getJ L (r[i]!).id = r[i]! ∧ (r[i]!).state = 1 := by
  have hm : r[i]! ∈ r := by rw [getElem!_pos r i hi]; exact List.getElem_mem _
  have hf := hp.mem_iff.1 hm
  rw [List.mem_filter] at hf
  obtain ⟨hL, hs⟩ := hf
  obtain ⟨k, hk, e⟩ := List.mem_iff_getElem.1 hL
  have hid := hG.id k hk
  rw [getElem!_pos L k hk, e] at hid
  refine ⟨?_, ?_, of_decide_eq_true hs⟩
  · unfold getE; rw [if_neg (by omega), if_neg (by omega)]
  · unfold getJ
    rw [if_neg (by omega), if_neg (by omega), hid, show ((k : Int) + 1 - 1).toNat = k from by omega, getElem!_pos L k hk, e]
theorem wait_order (hG : Good L) (hp : r.Perm (L.filter fun j => decide (j.state = 1))) (hw : r.Pairwise fun x y => aheadJ y x = false) {q : Nat} (hq : q + 1 < r.length) : ¬ (r[q]!).prio < (r[q + 1]!).prio ∧ ((r[q]!).prio = (r[q + 1]!).prio → ¬ (r[q + 1]!).id ≤ (r[q]!).id) := by
  have hd : L.Pairwise fun x y => x.id ≠ y.id := by
    rw [List.pairwise_iff_getElem]
    intro a b ha hb hab e
    have h1 := hG.id a ha
    have h2 := hG.id b hb
    rw [getElem!_pos L a ha] at h1
    rw [getElem!_pos L b hb] at h2
    omega
  have hd2 : r.Pairwise fun x y => x.id ≠ y.id := (hp.pairwise_iff (fun h e => h e.symm)).2 (hd.filter _)
  rw [List.pairwise_iff_getElem] at hd2 hw
  have h1 := hd2 q (q + 1) (by omega) hq (by omega)
  have h2 := hw q (q + 1) (by omega) hq (by omega)
  rw [getElem!_pos r q (by omega), getElem!_pos r (q + 1) hq]
  rw [aheadJ_nif] at h2
  omega

set_option maxRecDepth 1000000 in
set_option maxHeartbeats 8000000 in
theorem lists_walk (v0 : Value) (l : List Cl) (a b0 : Int) (w : World) (hr : RowAt encC 14 w v0 l) : Calls Try.prog 5 #[v0, .int .i64 a, .int .i64 b0] w fun e w' => e = .returned (.bool true) ∧ Below w.heap.size w w' := by
  have hmix := mixedO
  have zO := zE_op
  have zR := zE_req
  obtain ⟨k14, hk14⟩ : ∃ k, k = 14 := ⟨_, rfl⟩
  rw [← hk14] at zO
  replace hk14 := Lib.hid hk14
  obtain ⟨k9, hk9⟩ : ∃ k, k = 9 := ⟨_, rfl⟩
  rw [← hk9] at zR
  have hk90 : ¬ k9 = 0 := by rw [hk9]; decide
  replace hk9 := Lib.hid hk9
  obtain ⟨ao, cap, rfl, q1, q2, q3⟩ := hr
  obtain ⟨n, hn⟩ : ∃ n, l.length = n := ⟨_, rfl⟩
  have HQ : Hid (∀ i, i < n → ∃ b off, ao = some ⟨b, off, none⟩ ∧ ∀ W, Below w.heap.size w W → Sem.run Try.prog (loadCellsFrom ⟨b, off + i * k14, none⟩ 0 k14 #[]) W = .ok (encC l[i]!).toArray W) := fun i hi => by
    obtain ⟨b, off, e1, e2, e3⟩ := q3 (by omega)
    exact ⟨b, off, e1, fun W hW => lop l w W e2 e3 hW hk14.out (by omega)⟩
  have hcM : cap ≤ 9223372036854775807 := by unfold maxLen at q2; omega
  have hnM : n ≤ 9223372036854775807 := by omega
  rw [hn] at q1 ⊢
  replace hn := Lib.hid hn
  clear q2 q3
  have hnew := New_fn w
  have hT0 := TwoV.new w
  have hs1 : (w.alloc (.cells #[.bool true, .slice none 0 0] 61)).heap.size = w.heap.size + 1 := by simp
  obtain ⟨w1, hw1⟩ : ∃ w1, w1 = w.alloc (.cells #[.bool true, .slice none 0 0] 61) := ⟨_, rfl⟩
  rw [← hw1] at hnew hT0 hs1
  obtain ⟨w2, hw2⟩ : ∃ w2, w2 = w1.alloc (.cells #[.slice none 0 0] 35) := ⟨_, rfl⟩
  rw [← hw2] at hT0
  replace hw1 := Lib.hid hw1
  replace hT0 := Lib.hid hT0
  replace zO := Lib.hid zO
  replace zR := Lib.hid zR
  go_enter Try.func5, Try.ntmps5
  go_wp2_with fail
  go_at_call 11
  refine hnew.mono ?_
  clear hnew
  rintro e w1' ⟨rfl, rfl⟩
  go_wp2_with fail
  rw [← hw2]
  replace hw2 := Lib.hid hw2
  go_loopw [9] (fun ii wr => ∃ (i : Nat) (L : List Jb) (v u : Value), i ≤ n ∧ i ≤ 80 ∧ ii = .int .i64 i ∧ Good L ∧ L.length ≤ i ∧ TwoV w wr w.heap.size v (w.heap.size + 1) u L) (fun ii _ => n - (intOf ii).toNat)
  case atStart => exact ⟨0, [], _, _, Nat.zero_le _, Nat.zero_le _, rfl, Good.nil, Nat.le_refl _, hT0.out⟩
  case round =>
    obtain ⟨i, L, v, u, hin, hi80, rfl, hG, hLi, hT⟩ := hrel
    clear hT0
    by_cases hcond : i < n ∧ i < 80
    · obtain ⟨hlt, h80⟩ := hcond
      have b2 : (i : Int) < (n : Int) := by omega
      have b3 : (i : Int) < 80 := by omega
      have wi : IntKind.i64.wrap ((i : Int) + 1) = (i : Int) + 1 := by rw [IntKind.wrap_i64]; omega
      obtain ⟨b, off, rfl, hld⟩ := HQ.out i hlt
      have LI := hld wr hT.one.fr
      clear hld
      generalize l[i]! = o at *
      have lI := encC_len o
      rw [← hk14.out] at lI
      have st : Sem.run Try.prog (storeCells ⟨wr.heap.size, 0, none⟩ (encC o) 0) (wr.alloc (.cells #[.int .i64 0, .int .i64 0, .int .i64 0, .int .i64 0, .int .i64 0, .int .i64 0, .int .i64 0, .bool false, .int .i64 0, .int .i64 0, .int .i64 0, .int .i64 0, .int .i64 0, .int .u64 0] 38)) = .ok () (wr.alloc (.cells (encC o).toArray 38)) := store_new wr wr.heap.size (encC o) (encC default) 38 rfl (by rw [encC_len, encC_len]) (encC_one _)
      have hT3 := hT.kept ((Below.refl wr.heap.size wr).alloc (Nat.le_refl _) (.cells (encC o).toArray 38))
      have hC3 := heap_alloc_new wr (.cells (encC o).toArray 38)
      have hs3 : (wr.alloc (.cells (encC o).toArray 38)).heap.size = wr.heap.size + 1 := by simp
      have hop : wr.heap.size ≠ w.heap.size := fun e => by have := hT.one.tv.lt; omega
      have hoq : wr.heap.size ≠ w.heap.size + 1 := fun e => by have := hT.pv.lt; omega
      have hov : v.ownBlock ≠ some wr.heap.size := fun e => by have := (hT.one.tv.own.lt _ e).2; omega
      have hou : u.ownBlock ≠ some wr.heap.size := fun e => by have := (hT.pv.own.lt _ e).2; omega
      obtain ⟨w3, hw3⟩ : ∃ w3, w3 = wr.alloc (.cells (encC o).toArray 38) := ⟨_, rfl⟩
      rw [← hw3] at st hT3 hC3 hs3
      replace hw3 := Lib.hid hw3
      have p0 := op_cells hC3 0 _ rfl
      have lr := req_load hC3 hk9.out
      have lc := op_load hC3 lI
      have lRr : (encR o.r).length = k9 := by rw [hk9.out]; rfl
      clear hT
      have hs3' := hs3
      replace hs3 := Lib.hid hs3'
      have hslt : wr.heap.size < w3.heap.size := by omega
      clear hs3'
      obtain ⟨ob, hob⟩ : ∃ ob, ob = wr.heap.size := ⟨_, rfl⟩
      have zO := zO.out
      by_cases hk : 0 ≤ o.kind ∧ o.kind ≤ 2
      · have d1 : decide (0 ≤ o.kind) = true := decide_eq_true hk.1
        have d2 : decide (o.kind ≤ 2) = true := decide_eq_true hk.2
        have zR := zR.out
        have hS := Submit_fn hT3.one.tv hG.st (by omega) o.r
        have hGM := Good.sub hG o.r
        have hM : (subL L o.r).length ≤ i + 1 := Nat.le_trans (subL_len L o.r) (by omega)
        unfold SubPost at hS
        replace hGM := Lib.hid hGM
        replace hT3 := Lib.hid hT3
        replace hC3 := Lib.hid hC3

        clear hk lc hG
        go_wp2_with fail
        go_at_call 12
        refine hS.mono ?_
        clear hS lr p0 st LI
        rintro e w4 ⟨rfl, vM, ht, hq, hn1⟩
        have hP4 := hT3.out.left hq
        have hC4 := (hq.block _ hslt hop hov).trans hC3.out
        have lr4 := req_load hC4 hk9.out
        have hS2 := submit_fn hP4 (by omega) o.r
        unfold SubPost at hS2
        replace hP4 := Lib.hid hP4
        replace ht := Lib.hid ht
        replace hq := Lib.hid hq
        replace hn1 := Lib.hid hn1
        clear hC4
        generalize subId L o.r = z1 at hS2 ⊢
        generalize subE L o.r = z2 at hS2 ⊢
        go_wp2_with fail
        go_at_call 13
        refine hS2.mono ?_
        clear hS2 lr4
        rintro e w5 ⟨rfl, uM, hp, hq2, hn2⟩
        have hT := hT3.out.both ht.out hq.out hn1.out hp hq2 hn2
        clear hT3 ht hq hn1 hp hq2 hn2 hP4 hC3 zR
        generalize subL L o.r = M at *
        replace hT := Lib.hid hT
        go_wp2_with fail
        go_roundw
        case rel => exact ⟨i + 1, M, vM, uM, by omega, by omega, by go_num, hGM.out, by omega, hT.out⟩
        case measure => simp [intOf]; omega
      · have hM0 := stepL_len L (earlyF o) o.id (okF o) (chF o)
        have hGM := Good.step hG o
        obtain ⟨M, hMe⟩ : ∃ M, M = stepL L (earlyF o) o.id (okF o) (chF o) := ⟨_, rfl⟩
        rw [← hMe] at hM0 hGM
        have hM : M.length ≤ i + 1 := by omega
        clear hM0
        obtain ⟨z, hz⟩ : ∃ z, z = stepE L (earlyF o) o.id (okF o) := ⟨_, rfl⟩
        have hcl := call_fn hT3.one.tv hG o
        unfold CallPost at hcl
        rw [← hz, ← hMe] at hcl
        replace hGM := Lib.hid hGM
        replace hT3 := Lib.hid hT3
        replace hC3 := Lib.hid hC3
        replace hMe := Lib.hid hMe
        replace hz := Lib.hid hz
        replace hG := Lib.hid hG
        clear lr
        have HK : decide (0 ≤ o.kind) = false ∨ (decide (0 ≤ o.kind) = true ∧ decide (o.kind ≤ 2) = false) := by
          by_cases h : 0 ≤ o.kind
          · exact .inr ⟨decide_eq_true h, decide_eq_false (by omega)⟩
          · exact .inl (decide_eq_false h)
        clear hk
        rcases HK with d1 | ⟨d1, d2⟩
        all_goals
          go_wp2_with fail
          go_at_call 14
          refine hcl.mono ?_
          clear hcl lc p0 st LI
          rintro e w4 ⟨rfl, ht, hq⟩
          have hP4 := hT3.out.left hq
          have hC4 := (hq.block _ hslt hop hov).trans hC3.out
          have lc4 := op_load hC4 lI
          have hc := turn_fn hP4 hG.out o
          unfold TurnPost at hc
          rw [← hz.out, ← hMe.out] at hc
          replace hP4 := Lib.hid hP4
          replace ht := Lib.hid ht
          replace hq := Lib.hid hq
          clear hC4
          go_wp2_with fail
          go_at_call 15
          refine hc.mono ?_
          clear hc lc4
          rintro e w6 ⟨rfl, hp, hq2⟩
          have hT := hT3.out.both ht.out hq.out (NewO.refl _ _) hp hq2 (NewO.refl _ _)
          clear hT3 ht hq hp hq2 hP4 hC3 hG
          replace hT := Lib.hid hT
          go_wp2_with fail
          go_roundw
          case rel => exact ⟨i + 1, M, v, u, by omega, by omega, by go_num, hGM.out, by omega, hT.out⟩
          case measure => simp [intOf]; omega
    · have HD : ((i : Int) < (n : Int) ∧ ¬ (i : Int) < 80) ∨ ¬ (i : Int) < (n : Int) := by omega
      have hL80 : L.length ≤ 80 := by omega
      have hcn := Counts_fn hT.one.tv (by omega)
      clear hcond HQ
      have hfr0 : w.heap.size ≤ wr.heap.size := hT.one.fr.size
      replace hT := Lib.hid hT
      replace zR := zR.out
      rcases HD with ⟨b2, b3⟩ | b2
      all_goals
        go_wp2_with fail
        go_at_call 21
        refine hcn.mono ?_
        clear hcn
        rintro e wB ⟨rfl, hbB⟩
        have hTB := hT.out.kept hbB
        have hbn := (Below.refl wB.heap.size wB).alloc (Nat.le_refl _) (.cells #[.int .i64 a, .int .i64 b0] 3)
        have hTn := hTB.kept hbn
        have hri : RowAt enc1 1 (wB.alloc (.cells #[.int .i64 a, .int .i64 b0] 3)) (.slice (some ⟨wB.heap.size, 0, none⟩) 2 2) [a, b0] := ints_new wB wB.heap.size [a, b0] rfl (by simp)
        have hIn := In_fn hTn.one.tv (by omega) hri
        rw [two_mem] at hIn
        unfold InPost at hIn
        clear hbB hT hbn hTB hri
        obtain ⟨wC, hwC⟩ : ∃ wC, wC = wB.alloc (.cells #[.int .i64 a, .int .i64 b0] 3) := ⟨_, rfl⟩
        rw [← hwC] at hTn hIn
        replace hTn := Lib.hid hTn
        go_wp2_with fail
        go_at_call 22
        rw [← hwC]
        replace hwC := Lib.hid hwC
        refine hIn.mono ?_
        clear hIn
        rintro e wD ⟨vD, rfl, hoD, hbD⟩
        have hTD := hTn.out.kept hbD
        have hIn := in_fn hTD.pv (by omega) a b0
        unfold InPost at hIn
        have hrD : RowAt encJ 10 wD vD (L.filter (twoP a b0)) := RowAt.of_own hoD encJ_len rfl rfl
        replace hTD := Lib.hid hTD
        replace hrD := Lib.hid hrD
        clear hTn hbD hoD
        go_wp2_with fail
        go_at_call 23
        refine hIn.mono ?_
        clear hIn
        rintro e wE ⟨vE, rfl, hoE, hbE⟩
        have hTE := hTD.out.kept hbE
        have hsm := same_fn (hrD.out.below hbE) (RowAt.of_own hoE encJ_len rfl rfl)
        rw [decide_eq_true (rfl : L.filter (twoP a b0) = L.filter (twoP a b0))] at hsm
        clear hTD hrD hoE hbE
        go_wp2_with fail
        go_at_call 16
        refine hsm.mono ?_
        clear hsm
        rintro e wF' ⟨rfl, mF, hmF⟩
        have hTF := hTE.kept (show Below wE.heap.size wE wF' by rw [hmF]; exact ⟨rfl, rfl, rfl, Nat.le_refl _, fun _ _ => rfl⟩)
        clear hTE hmF
        have h1 := in_len hTF.pv (by omega) 1
        have hmc := cnt_le 1 L
        obtain ⟨n1, hn1⟩ : ∃ n1, n1 = cnt 1 L := ⟨_, rfl⟩
        obtain ⟨n2, hn2⟩ : ∃ n2, n2 = cnt 2 L := ⟨_, rfl⟩
        obtain ⟨n3, hn3⟩ : ∃ n3, n3 = cnt 3 L := ⟨_, rfl⟩
        rw [← hn1] at h1 hmc
        rw [← hn1, ← hn2, ← hn3]
        replace hTF := Lib.hid hTF
        replace hn1 := Lib.hid hn1
        replace hn2 := Lib.hid hn2
        replace hn3 := Lib.hid hn3
        go_wp2_with fail
        go_at_call 23
        refine h1.mono ?_
        clear h1
        rintro e wG ⟨⟨ao1, cp1, rfl⟩, hbG⟩
        have hTG := hTF.out.kept hbG
        have h2 := in_len hTG.pv (by omega) 2
        rw [← hn2.out] at h2
        replace hTG := Lib.hid hTG
        clear hTF hbG
        go_wp2_with fail
        go_at_call 23
        refine h2.mono ?_
        clear h2
        rintro e wH ⟨⟨ao2, cp2, rfl⟩, hbH⟩
        have hTH := hTG.out.kept hbH
        have h3 := in_len hTH.pv (by omega) 3
        rw [← hn3.out] at h3
        replace hTH := Lib.hid hTH
        clear hTG hbH
        go_wp2_with fail
        go_at_call 23
        refine h3.mono ?_
        clear h3
        rintro e wI ⟨⟨ao3, cp3, rfl⟩, hbI⟩
        have hTI := hTH.out.kept hbI
        have hwt := Waiting_fn hTI.one.tv (by omega)
        replace hTI := Lib.hid hTI
        clear hTH hbI
        go_wp2_with fail
        go_at_call 24
        refine hwt.mono ?_
        clear hwt
        rintro e wJ ⟨vJ, r, rfl, hrJ, hpm, hpw, hbJ⟩
        have hTJ := hTI.out.kept hbJ
        have hrl : r.length = n1 := by
          rw [hpm.length_eq, hn1.out]
          unfold cnt
          rw [List.countP_eq_length_filter]
        have h1 := in_len hTJ.pv (by omega) 1
        rw [← hn1.out] at h1
        obtain ⟨aoJ, cpJ, rfl, hJ1, hJ2, hJ3⟩ := hrJ
        rw [hrl] at hJ1 hJ3
        rw [hrl]
        have hcJ : cpJ ≤ 9223372036854775807 := by unfold maxLen at hJ2; omega
        replace hrl := Lib.hid hrl
        replace hTJ := Lib.hid hTJ
        replace hJ3 := Lib.hid hJ3
        replace hpm := Lib.hid hpm
        replace hpw := Lib.hid hpw
        clear hTI hbJ hJ2
        go_wp2_with fail
        go_at_call 23
        refine h1.mono ?_
        clear h1
        rintro e wK ⟨⟨ao4, cp4, rfl⟩, hbK⟩
        have hTK := hTJ.out.kept hbK
        have HR : Hid (∀ q, q < n1 → ∃ bw off, aoJ = some ⟨bw, off, none⟩ ∧ JRow wK bw off r) := fun q hq => by
          obtain ⟨bw, off, e1, e2, e3⟩ := hJ3.out (by omega)
          exact ⟨bw, off, e1, (show JRow wJ bw off r from ⟨e2, e3⟩).below hbK⟩
        clear hTJ hJ3 hbK
        have hdn : ((n1 : Int) != (n1 : Int)) = false := by simp
        have zE := zE_job
        obtain ⟨k, hk⟩ : ∃ k, k = 10 := ⟨_, rfl⟩
        rw [← hk] at zE
        replace hk := Lib.hid hk
        have hfrK := hTK.one.fr
        replace hTK := Lib.hid hTK
        replace hfrK := Lib.hid hfrK
        go_wp2_with fail
        go_loopw [15] (fun ii wr2 => ∃ (q : Nat), q ≤ n1 ∧ ii = .int .i64 q ∧ Below wK.heap.size wK wr2) (fun ii _ => n1 - (intOf ii).toNat)
        case atStart => exact ⟨0, Nat.zero_le _, rfl, Below.refl _ _⟩
        case round =>
          obtain ⟨q, hqn, rfl, hb2⟩ := hrel
          by_cases hqlt : q < n1
          · have c2 : (q : Int) < (n1 : Int) := by omega
            have wq : IntKind.i64.wrap ((q : Int) + 1) = (q : Int) + 1 := by rw [IntKind.wrap_i64]; omega
            obtain ⟨bw, off, rfl, hJr⟩ := HR.out q hqlt
            have hqr : q < r.length := by have := hrl.out; omega
            have hJq := hJr.below hb2
            have kid : wr.cell? ⟨bw, off + q * k, none⟩ = some (.int .i64 (r[q]!).id) := by
              have := hJq.cell q (r[q]!) 0 _ (by rw [List.getElem?_eq_getElem hqr, getElem!_pos r q hqr]) rfl
              rw [hk.out]
              rw [Nat.add_zero] at this
              exact this
            obtain ⟨ge, gj, gs⟩ := wait_at hG hpm.out hqr
            have hGt := Get_fn (hTK.out.kept hb2).one.tv (r[q]!).id
            unfold GetPost at hGt
            rw [ge, gj] at hGt
            clear ge gj
            obtain ⟨y, hy⟩ : ∃ y, y = r[q]! := ⟨_, rfl⟩
            rw [← hy] at kid hGt gs
            replace hy := Lib.hid hy
            have HS : Hid (∀ W : World, Sem.run Try.prog (storeCells ⟨W.heap.size, 0, none⟩ (encJ y) 0) (W.alloc (.cells #[.int .i64 0, .int .i64 0, .int .i64 0, .int .i64 0, .int .i64 0, .int .i64 0, .int .i64 0, .int .i64 0, .int .i64 0, .int .u64 0] 52)) = .ok () (W.alloc (.cells (encJ y).toArray 52))) := fun W => store_new W W.heap.size (encJ y) (encJ default) 52 rfl (by rw [encJ_len, encJ_len]) (encJ_one _)
            have lJ := encJ_len y
            rw [← hk.out] at lJ
            replace gs := Lib.hid gs
            have hq1 := fun W => job_neq y y W
            rw [decide_eq_true (rfl : y = y)] at hq1
            have hgd := job_guard
            go_wp2_with fail
            go_at_call 25
            refine hGt.mono ?_
            clear hGt kid
            rintro e w4 ⟨rfl, hg4⟩
            have st := HS.out w4
            clear HS
            have hb4 := hb2.trans ((Gr_trans hg4 (Gr.one w4 (.cells (encJ y).toArray 52))).below.mono hb2.size)
            have hbx := heap_alloc_new w4 (.cells (encJ y).toArray 52)
            obtain ⟨w5, hw5⟩ : ∃ w5, w5 = w4.alloc (.cells (encJ y).toArray 52) := ⟨_, rfl⟩
            rw [← hw5] at st hb4 hbx
            replace hw5 := Lib.hid hw5
            clear hg4 hb2 hJq
            have hdW : ∀ n', Below wK.heap.size wK (w5.drewN n') := fun n' => ⟨hb4.os, hb4.tape, hb4.output, hb4.size, hb4.block⟩
            have l1 := fun n' => load_box (W := w5.drewN n') (show (w5.drewN n').heap[w4.heap.size]? = _ from hbx) lJ
            have l2 : ∀ n', Sem.run Try.prog (loadCellsFrom ⟨bw, off + q * k, none⟩ 0 k #[]) (w5.drewN n') = .ok (encJ y).toArray (w5.drewN n') := fun n' => by
              rw [hy.out]
              exact (hJr.below (hdW n')).load hk.out hqr
            have x0 : ∀ n', (w5.drewN n').cell? ⟨w4.heap.size, 0, none⟩ = some (.int .i64 (y).id) := fun n' => job_cells (show (w5.drewN n').heap[w4.heap.size]? = _ from hbx) 0 _ rfl
            have x4 : ∀ n', (w5.drewN n').cell? ⟨w4.heap.size, 4, none⟩ = some (.int .i64 (y).prio) := fun n' => job_cells (show (w5.drewN n').heap[w4.heap.size]? = _ from hbx) 4 _ rfl
            have x5 : ∀ n', (w5.drewN n').cell? ⟨w4.heap.size, 5, none⟩ = some (.int .i64 1) := fun n' => by
              rw [← gs.out]
              exact job_cells (show (w5.drewN n').heap[w4.heap.size]? = _ from hbx) 5 _ rfl
            have hbx := Lib.hid hbx
            rcases q with _ | q
            · clear wq
              simp only [Nat.zero_mul, Nat.add_zero] at l2
              generalize encJ y = cJ at *
              generalize y.id = xid at *
              generalize y.prio = xpr at *
              go_wp2_with fail
              go_quiet (fail)
              go_wp2_with fail
              go_roundw
              case rel => exact ⟨0 + 1, by omega, by go_num, hdW nq⟩
              case measure => simp [intOf]; omega
            · have hoK := wait_order hG hpm.out hpw.out hqr
              rw [← hy.out] at hoK
              obtain ⟨x, hx⟩ : ∃ x, x = r[q]! := ⟨_, rfl⟩
              rw [← hx] at hoK
              replace hx := Lib.hid hx
              have y4 : ∀ n', (w5.drewN n').cell? ⟨bw, off + q * k + 4, none⟩ = some (.int .i64 x.prio) := fun n' => by
                rw [hx.out]
                have := (hJr.below (hdW n')).cell q (r[q]!) 4 _ (by rw [List.getElem?_eq_getElem (by omega), getElem!_pos r q (by omega)]) rfl
                rw [hk.out]
                rw [← Nat.add_assoc] at this
                exact this
              have y0 : ∀ n', (w5.drewN n').cell? ⟨bw, off + q * k, none⟩ = some (.int .i64 x.id) := fun n' => by
                rw [hx.out]
                have := (hJr.below (hdW n')).cell q (r[q]!) 0 _ (by rw [List.getElem?_eq_getElem (by omega), getElem!_pos r q (by omega)]) rfl
                rw [hk.out]
                rw [Nat.add_zero] at this
                exact this
              have wm : IntKind.i64.wrap (q : Int) = (q : Int) := by rw [IntKind.wrap_i64]; omega
              have dlt : decide (x.prio < y.prio) = false := decide_eq_false hoK.1
              have d0 : decide ((0 : Int) < (q : Int) + 1) = true := decide_eq_true (by omega)
              have c3 : (q : Int) < (n1 : Int) := by omega
              have hqn' : q < n1 := by omega
              have HO : (x.prio == y.prio) = false ∨ ((x.prio == y.prio) = true ∧ decide (y.id ≤ x.id) = false) := by
                by_cases h : x.prio = y.prio
                · exact .inr ⟨beq_iff_eq.2 h, decide_eq_false (hoK.2 h)⟩
                · exact .inl (beq_eq_false_iff_ne.2 h)
              clear hoK
              generalize encJ y = cJ at *
              generalize y.id = xid at *
              generalize y.prio = xpr at *
              generalize x.id = yid at *
              generalize x.prio = ypr at *
              rcases HO with g1 | ⟨g1, g2⟩
              all_goals
                go_wp2_with fail
                go_quiet (fail)
                go_wp2_with fail
                go_roundw
                case rel => exact ⟨q + 1 + 1, by omega, by go_num, hdW nq⟩
                case measure => simp [intOf]; omega
          · obtain rfl : q = n1 := by omega
            have c2 : ¬ (q : Int) < (q : Int) := by omega
            have hT2 := hTK.out.kept hb2
            have hcp := Copy_fn hT2.one.tv (by omega)
            replace hT2 := Lib.hid hT2
            clear hTK HR zE
            go_wp2_with fail
            go_at_call 26
            refine hcp.mono ?_
            clear hcp
            rintro e w4 ⟨pc, vc, rfl, hTc, hlc, hoc, hbc⟩
            have hS := Submit_fn hTc hG.st (by omega) ⟨0, 0, 0, 1, 1, 0, false, 0, 0⟩
            unfold SubPost at hS
            have hGs := Good.sub hG ⟨0, 0, 0, 1, 1, 0, false, 0, 0⟩
            simp only [encR] at hS
            replace hbc := Lib.hid hbc
            generalize subId L ⟨0, 0, 0, 1, 1, 0, false, 0, 0⟩ = z1 at *
            generalize subE L ⟨0, 0, 0, 1, 1, 0, false, 0, 0⟩ = z2 at *
            generalize subL L ⟨0, 0, 0, 1, 1, 0, false, 0, 0⟩ = Lc at *
            clear zR hTc
            go_wp2_with fail
            go_at_call 12
            refine hS.mono ?_
            clear hS
            rintro e w5 ⟨rfl, vc2, hTc2, hq5, hn5⟩
            have hsz4 := hbc.out.size
            have hb5 := hbc.out.trans (hq5.below hlc hoc hsz4)
            have hoc2 := hn5.lo hoc hsz4
            have hH := Hold_fn hTc2 1
            unfold CallPost at hH
            replace hb5 := Lib.hid hb5
            replace hTc2 := Lib.hid hTc2
            clear hq5 hn5 hbc
            generalize stepE Lc 0 1 (fun j : Jb => decide (j.state = 1)) = z3 at *
            go_wp2_with fail
            go_at_call 27
            refine hH.mono ?_
            clear hH
            rintro e w6 ⟨rfl, _, hq6⟩
            have hb6 := hb5.out.trans (hq6.below hlc hoc2 hb5.out.size)
            have hT6 := hT2.out.kept hb6
            obtain ⟨wA, hwA⟩ : ∃ wA, wA = w6 := ⟨_, rfl⟩
            rw [← hwA] at hT6 ⊢
            replace hwA := Lib.hid hwA
            replace hT := Lib.hid hT6
            clear hT6 hb6 hq6 hb5 hT2 hTc2 hoc2 hlc hoc
            go_wp2_with fail
            refine Reg.region_mk 6 189 [[], [true], [false, false], [false, false, true], [false, false, true, true], [false, false, true, true, true]] [0, 1, 0, 0, 0, 1]
              [.pure, .minor Value undef id (fun x W => RowAt encJ 10 W x L), .pure, .pure, .pure, .minor Unit () (fun _ => u) (fun _ _ => True)]
              (fun W => Below wA.heap.size wA W) (fun _ _ => True) (fun a b => Below a.heap.size a b) (by kernel_rfl) (by kernel_rfl) rfl rfl (fun vs a b h hs => trivial) ?_ ?_ ?_ ?_ ?_ ?_
            · intro a b he hb; exact hb.trans (Below.mono he hb.size)
            · intro a b he hb; exact hb.trans (Below.mono he hb.size)
            · exact ⟨trivial, ⟨fun x a b he h => RowAt.below h he, fun x a b he h => RowAt.below h he⟩, trivial, trivial, trivial, ⟨fun _ _ _ _ _ => trivial, fun _ _ _ _ _ => trivial⟩, trivial⟩
            · exact ⟨rfl, rfl, rfl, Nat.le_refl _, fun _ _ => rfl⟩
            · trivial
            dsimp only [Reg.mk, List.zip, List.zipWith, List.take]
            repeat (refine' Reg.pass_is _ (by rfl) (fun wz => ?_) ?_; rotate_left; (go_simp; first | rfl | rw [if_neg (by omega)]); simp only [Act.put, List.setIfInBounds_toArray, List.set_cons_zero, List.set_cons_succ]; (try simp only [List.nil_append]); (try simp only [List.cons_append]); (try simp only [id]))
            refine Reg.pass_minor (by rfl) (fun wz hI hF => ?_) (fun r1 => ?_)
            · unfold Reg.One
              have hc := All_fn (hT.out.kept hI).one.tv (by omega)
              unfold ClonePost at hc
              go_wp2_with (go_at_call 17; go_must (refine hc.mono ?_); rintro e w' ⟨v8, rfl, ho, hb⟩)
              exact ⟨_, rfl, ⟨v8, rfl, RowAt.of_own ho encJ_len rfl rfl⟩, hb⟩
            simp only [Act.put, List.setIfInBounds_toArray, List.set_cons_zero, List.set_cons_succ]; (try simp only [List.nil_append]); (try simp only [List.cons_append]); (try simp only [id])
            repeat (refine' Reg.pass_is _ (by rfl) (fun wz => ?_) ?_; rotate_left; (go_simp; first | rfl | rw [if_neg (by omega)]); simp only [Act.put, List.setIfInBounds_toArray, List.set_cons_zero, List.set_cons_succ]; (try simp only [List.nil_append]); (try simp only [List.cons_append]); (try simp only [id]))
            refine Reg.pass_minor (by rfl) (fun wz hI hF => ?_) (fun r5 => ?_)
            · unfold Reg.One
              have d0 := (hT.out.kept hI).pv.c0
              go_wp2_with fail
              first | exact ⟨_, rfl, rfl, Reg.Ext.refl _⟩ | exact ⟨_, rfl, ⟨(), rfl, trivial⟩, Reg.Ext.refl _⟩
            simp only [Act.put, List.setIfInBounds_toArray, List.set_cons_zero, List.set_cons_succ]; (try simp only [List.nil_append]); (try simp only [List.cons_append]); (try simp only [id])
            refine Reg.pass_end ?_
            intro w7 HI7 _ HF7
            have hr7 : RowAt encJ 10 w7 r1 L := HF7.2.1
            have hT7 := hT.out.kept HI7
            have hsm := same_fn hr7 hT7.pv.rowAt
            rw [decide_eq_true (rfl : L = L)] at hsm
            have hfr := hT7.one.fr
            clear HF7 hr7 hT7 hT HI7 r5
            dsimp only [List.drop]
            go_wp2_with fail
            go_at_call 16
            refine hsm.mono ?_
            clear hsm
            rintro e w8 ⟨rfl, m8, hm8⟩
            have hb8 : Below w7.heap.size w7 w8 := by rw [hm8]; exact ⟨rfl, rfl, rfl, Nat.le_refl _, fun _ _ => rfl⟩
            have haw := awake_any w8
            have hfr8 := Lib.hid (hfr.trans (hb8.mono hfr.size))
            clear hm8 hb8 hfr
            go_wp2_with (go_at_call 10; go_must (refine haw.mono ?_); rintro e w' ⟨rfl, hb⟩)
            go_ret
            exact ⟨rfl, hfr8.out.trans (hb.mono hfr8.out.size)⟩

end
end Go.Proofs.Ytmlmehpcfgchgaa
