/-
 OpLocks of the Go text returns true for every input, and each argument reads afterwards as it read before. No condition.
-/
import Derived.Deep.CutRange
import Derived.Test.YtelnhablglomjaaGreatRows
import Derived.ProofKit
import Derived.OpenShut
import Derived.Test.YtelnhablglomjaaGreatZl8
set_option maxRecDepth 1000000
set_option maxHeartbeats 8000000
set_option linter.all false
namespace Go.Proofs.YtelnhablglomjaaGreat
open Go.RowKit Go.Lib Go.Sort
theorem zK {W : World} {G : Nat} {x y z : Bool} {T : TypeId} (e : W.heap[G]? = some (.cells #[.bool x, .bool y, .bool z] T (0, 0))) {k : Nat} (h : k < 3) : W.cell? ⟨G, k, none⟩ = some (.bool (if (k : Int) = 0 then x else if (k : Int) = 1 then y else z)) := by
 have hk : k = 0 ∨ k = 1 ∨ k = 2 := by omega
 rcases hk with rfl | rfl | rfl <;> simp [World.cell?, e]
theorem OW (j : Int) : (⟨0, 0, 0, 0⟩ : Lk).own j = 0 := by unfold Lk.own; (repeat' split) <;> rfl
def R8 (a b c d e : Bool) : Bool := (!a || b) && !(c && a) && (!(d || e) || a == b) && !(d && e)
theorem R9 {a b c d e : Bool} (h1 : a = true → b = true) (h2 : c = true → a = false) (h3 : d = true ∨ e = true → a = b) (h4 : ¬ (d = true ∧ e = true)) : R8 a b c d e = true := by
 cases a <;> cases b <;> cases c <;> cases d <;> cases e <;> simp_all [R8]
section
variable {w : World} {u : Value} {l : List De}
theorem Ju (h : aD rV 12 w u l) (hfit : ∀ x ∈ l, yL x) (r : Rq) (hr : Fg r) (n : Int) : Calls Tryz.prog 4 #[.int .i64 n, u, .agg (encR r).toArray] w fun e w' => e = .returned (.bool true) ∧ Below w.heap.size w w' := by
 have zR := jY
 have lR := gI r
 obtain ⟨k9, bO⟩ : ∃ k, k = 9 := ⟨_, rfl⟩
 rw [← bO] at zR lR
 have hk0 : ¬ k9 = 0 := by omega
 replace bO := Lib.hid bO
 obtain ⟨wA, aJ⟩ : ∃ wA, wA = w.alloc (.cells (encR r).toArray 24) := ⟨_, rfl⟩
 have bR : Hid (Below w.heap.size w wA) := by show Below _ _ _; rw [aJ]; exact (Below.refl _ _).alloc (Nat.le_refl _) _
 have nR : wA.heap[w.heap.size]? = some (.cells (encR r).toArray 24 (0, 0)) := by rw [aJ]; exact heap_alloc_new w _
 have hlA : Hid (w.heap.size < wA.heap.size) := aC nR
 have hA := h.below bR.out
 have hki := jd nR 0 _ rfl
 have hz := Lib.hid nR
 have hld : Hid (∀ W, Below wA.heap.size wA W → Sem.run Tryz.prog (loadCellsFrom ⟨w.heap.size, 0, none⟩ 0 k9 #[]) W = .ok (encR r).toArray W) := fun W hW => eZ ((hW.block _ hlA.out).trans hz.out) lR
 have hkd : Hid (∀ W, Below wA.heap.size wA W → W.cell? ⟨w.heap.size, 0, none⟩ = some (.int .i64 r.kind)) := fun W hW => jd ((hW.block _ hlA.out).trans hz.out) 0 _ rfl
 have Sa := Lib.hid (Eu r 5)
 obtain ⟨cR, hcR⟩ : ∃ cR, cR = encR r := ⟨_, rfl⟩
 rw [← hcR] at hld Sa aJ ⊢
 replace hcR := Lib.hid hcR
 clear nR lR hki hz
 by_cases hn : n < 1 ∨ 64 < n
 ·have hm := OT hA n hn
  have haw := Ci wA
  go_enter Tryz.func4, Tryz.ntmps4
  go_wp2_with fail
  rw [← aJ]
  replace aJ := Lib.hid aJ
  go_at_call 6
  refine hm.mono ?_
  clear hm
  rintro e w1 ⟨rfl, rfl⟩
  go_wp2_with fail
  go_at_call 7
  refine haw.mono ?_
  clear haw
  rintro e w2 ⟨rfl, hb2⟩
  go_wp2_with fail
  go_ret
  exact ⟨rfl, bR.out.trans (hb2.mono bR.out.size)⟩
 obtain ⟨N, rfl⟩ := Int.eq_ofNat_of_zero_le (show 0 ≤ n by omega)
 have hm := R4 hA hfit N (by omega) (by omega)
 obtain ⟨M, hM⟩ : ∃ M, M = mQ (dI N) (l.take 60) := ⟨_, rfl⟩
 have hpl := Ew (Ok.new (show N ≤ 64 by omega)) (l.take 60)
 rw [← hM] at hm hpl
 have hdr : M.dr.length = N := by rw [hpl.2.2]; simp [dI]
 have hd1 : 1 ≤ M.dr.length := by omega
 have Zn : M.L.length ≤ 60 := by
  have h1 := hpl.2.1
  have h2 : (dI N).L.length = 0 := rfl
  have h3 : (l.take 60).length ≤ 60 := by rw [List.length_take]; omega
  omega
 have hok := hpl.1
 obtain ⟨Q, hQ⟩ : ∃ Q, Q = Fin (60000 + 1000) (fD M (toW r)).2 (lZ (fD M (toW r)).1) false := ⟨_, rfl⟩
 have hrun : fo 1000 (1 + 2 * M.L.length) 60000 (jR r) (ah M) Q := by rw [hQ]; exact Jk r hok hd1 (by omega) (by decide) (by have := hr; exact ⟨by cases hr; omega, by cases hr; omega⟩)
 clear hpl hdr hfit h hM hA hQ
 replace hn := Lib.hid hn
 obtain ⟨K, hK, hrun⟩ := hrun
 have hinv := hok.inv
 replace hrun := Lib.hid hrun
 replace hinv := Lib.hid hinv
 have hsl := uj M
 go_enter Tryz.func4, Tryz.ntmps4
 go_wp2_with fail
 rw [← aJ]
 replace aJ := Lib.hid aJ
 go_at_call 6
 refine hm.mono ?_
 clear hm
 rintro e w1 ⟨s, c, t, d, p, v, g, rfl, S1, hb1⟩
 have hf1 : Hid (∀ k, dP c t d p v g k → k < w1.heap.size) := fun k => S1.cw.lt
 have hlo := S1.lo
 replace hlo := Lib.hid hlo
 have q0 := S1.at'.c0
 have q1 := S1.cw.c0
 have h1 := Jt S1.cw (by omega)
 go_wp2_with fail
 go_at_call 24
 refine h1.mono ?_
 clear h1 q0 q1
 rintro e w2 ⟨uJ, rfl, hJ2, hb2⟩
 have S2 := S1.kept hb2
 have q0 := S2.at'.c0
 have q1 := S2.cw.c2
 have h1 := Co S2.cw hinv.out (by omega)
 go_wp2_with fail
 go_at_call 26
 refine h1.mono ?_
 clear h1 q0 q1
 rintro e w3 ⟨uS, rfl, bW, hb3⟩
 have S3 := S2.kept hb3
 have hJ3 := Lib.hid (hJ2.kept hb3)
 have hs1 : Hid (w1.heap.size ≤ w2.heap.size ∧ w2.heap.size ≤ w3.heap.size ∧ wA.heap.size ≤ w1.heap.size) := ⟨hb2.size, hb3.size, hb1.size⟩
 obtain ⟨w4, hw4⟩ : ∃ w4, w4 = w3.alloc (.cells #[.int .i64 0, .int .i64 0, .int .i64 0, .int .i64 0] 32) := ⟨_, rfl⟩
 have hb4 : Below w3.heap.size w3 w4 := by rw [hw4]; exact (Below.refl _ _).alloc (Nat.le_refl _) _
 have hL4 : bT 32 w4 w3.heap.size ⟨0, 0, 0, 0⟩ := by rw [hw4]; exact heap_alloc_new w3 _
 obtain ⟨kk, hkk⟩ : ∃ kk, kk = w3.heap.size := ⟨_, rfl⟩
 rw [← hkk] at hL4
 have S4 := Lib.hid (S3.kept hb4)
 have uq : Hid (Below wA.heap.size wA w4) := hb1.trans ((hb2.trans ((hb3.trans (hb4.mono hb3.size)).mono hb2.size)).mono hb1.size)
 have XA : Hid (∀ k, k < w3.heap.size → w4.heap[k]? = w3.heap[k]?) := hb4.block
 have ld := hld.out w4 uq.out
 have TR := Sa.out w4
 have hk4 : Hid (kk < w4.heap.size ∧ kk = w3.heap.size) := ⟨hL4.lt, hkk⟩
 rw [hw4] at ld TR
 replace hL4 := Lib.hid hL4
 replace bW := Lib.hid bW
 clear S1 S2 S3 hJ2 hb1 hb2 hb3 hb4 Sa
 go_wp2_with fail
 rw [← hw4] at TR ⊢
 rw [← hkk]
 replace hw4 := Lib.hid hw4
 replace hkk := Lib.hid hkk
 go_at_call 9
 refine TR.mono ?_
 clear TR ld
 rintro e w5 ⟨o, hh, b, rfl, hO, hH, hW, lo, lh, lb, hb5⟩
 have Uu : Hid (Below wA.heap.size wA w5) := uq.out.trans (hb5.mono uq.out.size)
 have hki := hkd.out w5 Uu.out
 have hnd := wD r.kind w5
 obtain ⟨x, hx⟩ : ∃ x, x = qd r.kind := ⟨_, rfl⟩
 obtain ⟨y, hy⟩ : ∃ y, y = qf r.kind := ⟨_, rfl⟩
 obtain ⟨z, hzz⟩ : ∃ z, z = qg r.kind := ⟨_, rfl⟩
 rw [← hx, ← hy, ← hzz] at hnd
 unfold bK at hnd
 go_wp2_with fail
 go_at_call 13
 refine hnd.mono ?_
 clear hnd hki
 rintro e w6 ⟨rfl, hb6⟩
 obtain ⟨w7, hw7⟩ : ∃ w7, w7 = w6.alloc (.cells #[.bool x, .bool y, .bool z] 42) := ⟨_, rfl⟩
 have jZ : Below w5.heap.size w5 w7 := by rw [hw7]; exact hb6.alloc hb6.size _
 have Sc : w7.heap[w6.heap.size]? = some (.cells #[.bool x, .bool y, .bool z] 42 (0, 0)) := by rw [hw7]; exact heap_alloc_new w6 _
 obtain ⟨GL, TS⟩ : ∃ GL, GL = w6.heap.size := ⟨_, rfl⟩
 rw [← TS] at Sc
 have Ey : Below w4.heap.size w4 w7 := hb5.trans (jZ.mono hb5.size)
 have hup := Hd.VE (ma b 5 r)
 have hln := Hd.TI (ma b 5 r)
 have Uv := Hd.RO b 5 (qd r.kind) (qf r.kind) (qg r.kind) K
 have Uw := Jm (⟨b, 5, qd r.kind, qf r.kind, qg r.kind, 0, 0⟩ : Hd) 0
 obtain ⟨S0, hS0⟩ : ∃ S0 : Sd, S0 = ⟨v, g, 1 + 2 * M.L.length, 60000, jR r, ah M⟩ := ⟨_, rfl⟩
 have X7 : Hid (Rn wA.heap.size w7 o hh kk b c t d p S0 S0 (ma b 5 r) ⟨0, 0, 0, 0⟩ ⟨0, 0, 0, 0⟩ (gW r) K Q) := by
  rw [hS0]
  exact ⟨(jZ.block _ hO.lt).trans hO, hH.below jZ hH.lt, rfl, hL4.out.below Ey hL4.out.lt, ⟨by decide, fun _ => by show (0 : Int) + _ ≤ 10; omega⟩, dE.new b _ _ _ (by decide) (by decide) (by decide) (by decide), Hd.TJ _ _ _ _ _ _,
   ⟨(jZ.block _ hW.lt).trans hW, S4.out.cw.kept Ey⟩, fun _ => hrun.out, fun h3 => by
     have : (ma b 5 r).st = 0 ∨ (ma b 5 r).st = 1 := Uw
     omega, fun _ => rfl, fun k hk => hk.elim (fun e => by have := uq.out.size; omega) (hlo.out k), by have := uq.out.size; omega, by have := hs1.out; have := hk4.out; omega⟩
 have hr0 : 0 + (ma b 5 r).rem K ≤ 1010 := by
  have : (ma b 5 r).rem K = 2 * (ma b 5 r).len + K + 1 := Uv
  omega
 have Sg : Hid (Below wA.heap.size wA w7) := uq.out.trans (Ey.mono uq.out.size)
 have XB := Lib.hid (S4.out.at'.kept Ey)
 have XC : Hid (∀ k, k < w3.heap.size → w7.heap[k]? = w3.heap[k]?) := fun k hk => (Ey.block k (by have := hk4.out; omega)).trans (XA.out k hk)
 have Nv : Hid (w3.heap.size ≤ hh ∧ w3.heap.size ≤ kk) := by have := hk4.out; exact ⟨by omega, by omega⟩
 obtain ⟨H0, hH0⟩ : ∃ H0, H0 = ma b 5 r := ⟨_, rfl⟩
 have zL : Hid (H0.who = 5 ∧ H0.x = x ∧ H0.y = y ∧ H0.z = z) := by rw [hH0, hx, hy, hzz]; exact ⟨rfl, rfl, rfl, rfl⟩
 rw [← hH0] at X7 hr0
 replace hS0 := Lib.hid hS0
 replace Sc := Lib.hid Sc
 clear hH0 Uw hup hln Uv hO hH hW uq Uu hb5 hb6 jZ Ey hL4 hrun hlo S4 XA hk4 hx hy hzz hld hkd lo lh lb
 go_wp2_with fail
 rw [← hw7, ← TS]
 replace hw7 := Lib.hid hw7
 replace TS := Lib.hid TS
 go_loopw [13] (fun ii wr => ∃ (i : Nat) (S : Sd) (H : Hd) (l1 : Lk) (K1 : Nat), ii = .int .i64 i ∧ i + H.rem K1 ≤ 1010 ∧ Hid (Rn wA.heap.size wr o hh kk b c t d p S0 S H l1 ⟨0, 0, 0, 0⟩ (gW r) K1 Q) ∧ Hid (Below wA.heap.size wA wr) ∧ Hid (kW wr s c) ∧ Hid (wr.heap[GL]? = some (.cells #[.bool x, .bool y, .bool z] 42 (0, 0))) ∧ Hid (H.st ≤ 1 → ∀ k, k < w3.heap.size → w1.heap.size ≤ k → wr.heap[k]? = w3.heap[k]?) ∧ Hid (w3.heap.size ≤ wr.heap.size) ∧ Hid (H.who = 5 ∧ H.x = x ∧ H.y = y ∧ H.z = z)) (fun ii _ => 3000 - (intOf ii).toNat)
 case atStart => exact ⟨0, S0, H0, _, K, rfl, hr0, X7, Sg, XB, Sc, fun _ k hk _ => XC.out k hk, by have := Sg.out.size; have := X7.out.lk.lt; have := Nv.out; exact Lib.hid (by omega), zL⟩
 case round =>
  clear X7 Sg XB Sc XC zL hr0
  obtain ⟨i, S, H, l1, K1, rfl, hir, hX, hbr, hat, OX, TT, Ae, zL⟩ := hrel
  obtain ⟨wo, rfl⟩ : ∃ wo : World, wo = wr := ⟨_, rfl⟩
  have b3 : (i : Int) < 3000 := by omega
  have hf := rU hX.out.op hX.out.hd
  have c0 := hX.out.op.c0
  by_cases h5 : H.st = 5
  ·rw [h5] at hf
   have hid := Gm hX.out.lk
   have hov := hX.out.lock.over (.inl h5)
   rw [show l1.free = true by unfold Lk.free; rw [hov.1, hov.2.1, hov.2.2]; rfl] at hid
   have haw := Ci wo
   clear hov
   go_wp2_with (first
    | (go_at_call 14; go_must (refine hf.mono ?_); rintro e w' ⟨rfl, rfl⟩)
    | (go_at_call 19; go_must (refine hid.mono ?_); rintro e w' ⟨rfl, rfl⟩)
    | (go_at_call 7; go_must (refine haw.mono ?_); rintro e w8 ⟨rfl, pE⟩))
   go_ret
   exact ⟨rfl, bR.out.trans ((hbr.out.trans (pE.mono hbr.out.size)).mono bR.out.size)⟩
  rw [show (H.st == 5) = false from beq_eq_false_iff_ne.2 h5] at hf
  have hst := nT hX.out.hd
  have Si := wH 5 hX.out.lk
  obtain ⟨e0, e1, e2⟩ := hX.out.lock.held
  rw [zL.out.1] at e0 e1 e2
  unfold Ai bK at Si
  rw [e0, e1, e2] at Si
  obtain ⟨p1, hp1⟩ : ∃ b, b = H.has 0 := ⟨_, rfl⟩
  obtain ⟨p2, hp2⟩ : ∃ b, b = H.has 1 := ⟨_, rfl⟩
  obtain ⟨p3, hp3⟩ : ∃ b, b = H.has 2 := ⟨_, rfl⟩
  rw [← hp1, ← hp2, ← hp3] at Si
  have VH : Hid (∀ k : Nat, k < 3 → (if (k : Int) = 0 then p1 else if (k : Int) = 1 then p2 else p3) = H.has k ∧ (if (k : Int) = 0 then x else if (k : Int) = 1 then y else z) = H.lane k) := fun k hk => by
   obtain ⟨_, x1, x2, x3⟩ := zL.out
   have : k = 0 ∨ k = 1 ∨ k = 2 := by omega
   rcases this with rfl | rfl | rfl
   ·exact ⟨hp1, x1.symm⟩
   ·exact ⟨hp2, x2.symm⟩
   ·exact ⟨hp3, x3.symm⟩
  replace h5 := Lib.hid h5
  clear e0 e1 e2 hp1 hp2 hp3
  go_wp2_with (first
   | (go_at_call 14; go_must (refine hf.mono ?_); rintro e w' ⟨rfl, rfl⟩)
   | (go_at_call 27; go_must (refine hst.mono ?_); rintro e w' ⟨rfl, rfl⟩)
   | (go_at_call 28; go_must (refine Si.mono ?_); rintro e w8 ⟨rfl, pE⟩))
  obtain ⟨w9, rA⟩ : ∃ w9, w9 = w8.alloc (.cells #[.bool p1, .bool p2, .bool p3] 42) := ⟨_, rfl⟩
  have xy : Hid (Below wo.heap.size wo w9) := by show Below _ _ _; rw [rA]; exact pE.alloc pE.size _
  have OY : w9.heap[w8.heap.size]? = some (.cells #[.bool p1, .bool p2, .bool p3] 42 (0, 0)) := by rw [rA]; exact heap_alloc_new w8 _
  have Sj := (xy.out.block GL (aC OX.out)).trans OX.out
  obtain ⟨GH, TU⟩ : ∃ GH, GH = w8.heap.size := ⟨_, rfl⟩
  rw [← TU] at OY
  rw [← rA, ← TU]
  replace rA := Lib.hid rA
  replace TU := Lib.hid TU
  replace OY := Lib.hid OY
  replace Sj := Lib.hid Sj
  clear hst Si hf pE c0
  go_loopw [16, 17] (fun ll jj wr => ∃ (j : Nat) (la : Bool), j ≤ 3 ∧ jj = .int .i64 j ∧ ll = .bool la ∧ Hid (la = true → ∀ q : Int, (j : Int) ≤ q → H.has q = false) ∧ Hid (Below w9.heap.size w9 wr)) (fun _ jj _ => 3 - (intOf jj).toNat)
  case atStart => exact ⟨0, false, by decide, rfl, rfl, fun h => absurd h (by decide), Below.refl _ _⟩
  case round =>
   obtain ⟨j, la, Zo, rfl, rfl, hla, hbj⟩ := hrel
   by_cases hj : j < 3
   ·have b2 : (j : Int) < 3 := by omega
    have wj : IntKind.i64.wrap ((j : Int) + 1) = (j : Int) + 1 := IntWalk.i64_in _ (by omega)
    have cg := zK ((hbj.out.block GH (aC OY.out)).trans OY.out) hj
    have cl := zK ((hbj.out.block GL (aC Sj.out)).trans Sj.out) hj
    rw [(VH.out j hj).1] at cg
    rw [(VH.out j hj).2] at cl
    obtain ⟨d1, hd1⟩ : ∃ b, b = (H.st == 1) := ⟨_, rfl⟩
    obtain ⟨d2, hd2⟩ : ∃ b, b = (H.st == 2) := ⟨_, rfl⟩
    have hfe : R8 (H.has j) (H.lane j) la d1 d2 = true := by
     refine R9 Hd.OO (fun h => hla.out h j (Int.le_refl _)) (fun h => Hd.xh ?_) fun h => ?_
     ·rw [hd1, hd2, beq_iff_eq, beq_iff_eq] at h
      exact h
     ·rw [hd1, hd2, beq_iff_eq, beq_iff_eq] at h
      omega
    have hln : Hid ((la || (H.lane j && !H.has j)) = true → ∀ q : Int, ((j + 1 : Nat) : Int) ≤ q → H.has q = false) := fun h q hq => by
     rw [Bool.or_eq_true, Bool.and_eq_true, Bool.not_eq_true'] at h
     rcases h with h | ⟨h1, h2⟩
     ·exact hla.out h q (by omega)
     ·exact Hd.RS (i := (j : Int)) (by omega) h1 h2
    replace hd1 := Lib.hid hd1.symm
    have e1 := hd1.out
    replace hd2 := Lib.hid hd2.symm
    have e2 := hd2.out
    clear hla
    generalize H.has j = a1 at *
    generalize H.lane j = a2 at *
    generalize H.st = g0 at e1 e2 ⊢
    cases a1 <;> cases a2 <;> cases la <;> cases d1 <;> cases d2
    all_goals first
     | (exact absurd hfe (by decide))
     | (clear hfe
        go_wp2_with fail
        go_region
        go_wp2_with fail
        go_roundw
        case rel => exact ⟨j + 1, _, by omega, by go_num, rfl, hln, by first | exact hbj | exact Lib.hid hbj.out.drew⟩
        case measure => simp [intOf]; omega)
   ·obtain rfl : j = 3 := by omega
    have b2 : ¬ (((3 : Nat) : Int) < 3) := by decide
    have hb2 : Hid (Below wo.heap.size wo wr) := xy.out.trans (hbj.out.mono xy.out.size)
    clear hbj hla OY Sj VH
    go_upto_region 21 with fail
    go_cut [140] from 113 to 140 (fun vb wc => vb = .bool false ∧ Hid (Below wo.heap.size wo wc))
    case first =>
     by_cases hg : H.st ≤ 1
     ·have dg : decide (H.st ≤ 1) = true := decide_eq_true hg
      obtain rfl : S = S0 := hX.out.bg hg
      have Q7 := hS0.out
      have Xj := hX.out.kept hb2.out
      have hcw := Xj.sw.cw
      rw [Q7] at hcw
      have VI : Hid (∀ W, Below wr.heap.size wr W → aD ai 10 W uJ M.L ∧ aD Dj 2 W uS (nK M)) := fun W hW => by
       have hs := hs1.out
       have Ux := Ae.out
       have hbW := hb2.out.trans (hW.mono hb2.out.size)
       have e : ∀ k, w1.heap.size ≤ k → k < w3.heap.size → W.heap[k]? = w3.heap[k]? := fun k a b => (hbW.block k (by omega)).trans (TT.out hg k b a)
       exact ⟨hJ3.out W e (Nat.le_trans Ux hbW.size), bW.out W (fun k a b => e k (by omega) b) (Nat.le_trans Ux hbW.size)⟩
      have h1 := Jt hcw (by omega)
      have q0 := (hat.out.kept hb2.out).c0
      have q1 := hcw.c0
      have hAt := Lib.hid (hat.out.kept hb2.out)
      replace hcw := Lib.hid hcw
      clear Xj hX hat OX TT Ae zL
      go_wp2_with fail
      go_at_call 24
      refine h1.mono ?_
      clear h1 q0 q1
      rintro e Yr ⟨uK, rfl, hK, Ez⟩
      have h2 := Gf hK.now (VI.out Yr Ez).1 (by omega)
      rw [decide_eq_true rfl] at h2
      replace Ez := Lib.hid Ez
      clear hK
      go_wp2_with fail
      go_at_call 23
      refine h2.mono ?_
      clear h2
      rintro e Vt ⟨rfl, Uy⟩
      have yM : Hid (Below wr.heap.size wr Vt) := Ez.out.trans (Uy.mono Ez.out.size)
      have q0 := (hAt.out.kept yM.out).c0
      have q1 := (hcw.out.kept yM.out).c2
      have h3 := Co (hcw.out.kept yM.out) hinv.out (by omega)
      clear Uy Ez
      go_wp2_with fail
      go_at_call 26
      refine h3.mono ?_
      clear h3 q0 q1
      rintro e XD ⟨uT, rfl, hT, Uz⟩
      have Gg : Hid (Below wr.heap.size wr XD) := yM.out.trans (Uz.mono yM.out.size)
      have h4 := Dc hT.now (VI.out XD Gg.out).2 (by omega)
      rw [decide_eq_true rfl] at h4
      clear hT yM Uz
      go_wp2_with fail
      go_at_call 25
      refine h4.mono ?_
      clear h4
      rintro e Yt ⟨rfl, UA⟩
      have VJ : Hid (Below wo.heap.size wo Yt) := hb2.out.trans ((Gg.out.trans (UA.mono Gg.out.size)).mono hb2.out.size)
      clear UA Gg VI hAt hcw
      go_wp2_with fail
      go_meet
      case rel => exact ⟨rfl, VJ⟩
     ·have dg : decide (H.st ≤ 1) = false := decide_eq_false hg
      go_wp2_with fail
      go_meet
      case rel => exact ⟨rfl, hb2⟩
    case rest =>
     obtain ⟨rfl, hbc⟩ := hcut
     have XE := Lib.hid (hX.out.kept hbc.out)
     have UB := Lib.hid (hat.out.kept hbc.out)
     clear hb2 xy
     go_wp2_with fail
     refine Reg2.ro wc 9 160 [.p 0, .p 1, .p 3, .m 7, .p 0, .p 16, .p 48, .m 112, .p 0] [.pointer (some ⟨hh, 0, none⟩), .pointer (some ⟨c, 0, none⟩)] (by kernel_rfl) (by kernel_rfl) rfl rfl ⟨rfl, rfl, rfl, Nat.le_refl _, fun _ _ => rfl⟩ ?_
     dsimp only [Reg2.gM]
     repeat ((first
      | (refine' Reg2.ak _ (by rfl) (fun wz => ?_) ?_; rotate_left; (go_simp; first | rfl | rw [if_neg (by omega)]))
      | (refine Reg2.az (by rfl) (fun wz hI hF => ?_) (fun _ => ?_)
         ·unfold Reg2.One
          have d0 := (XE.out.kept hI).op.c0
          have d1 := (UB.out.kept hI).c0
          go_wp2_with fail
          first | exact ⟨_, rfl, rfl, Reg2.Ext.refl _⟩ | exact ⟨_, rfl, ⟨(), rfl, trivial⟩, Reg2.Ext.refl _⟩)); simp only [Act.put, xA, xB, xC, xD, xE, id])
     refine Reg2.aA ?_
     intro w16 HI _ dW
     clear dW XE UB
     dsimp only [List.drop]
     have Cq : Below wo.heap.size wo w16 := hbc.out.trans (HI.mono hbc.out.size)
     have yN := hX.out.kept Cq
     have at16 := hat.out.kept Cq
     have Gh := (Cq.block GL (aC OX.out)).trans OX.out
     have Lu : Hid (Below wA.heap.size wA w16) := hbr.out.trans (Cq.mono hbr.out.size)
     have UC : Hid (H.st ≤ 1 → ∀ k, k < w3.heap.size → w1.heap.size ≤ k → w16.heap[k]? = w3.heap[k]?) := fun h k a b => (Cq.block k (by have := Ae.out; omega)).trans (TT.out h k a b)
     have Sk : Hid (w3.heap.size ≤ w16.heap.size) := Nat.le_trans Ae.out Cq.size
     have hs := RX yN h5.out (fun _ => OW _) Lu.out.size
     replace yN := Lib.hid yN
     replace at16 := Lib.hid at16
     replace Gh := Lib.hid Gh
     clear hX hat OX hbr TT Ae HI Cq hbc
     go_wp2_with fail
     go_at_call 16
     refine hs.mono ?_
     clear hs
     rintro e Sl ⟨rfl, UD, UE, Mo, S', H', l', K', VK, YH, hle, hge, hy1, hy2, hy3, hy4⟩
     have VL : Hid (Below wA.heap.size wA Sl) := Lu.out.trans UD
     have XF : Hid (kW Sl s c) := by
      refine (Mo.block s at16.out.lt ?_).trans at16.out
      rintro ((e | hf) | e | e)
      ·exact Put.aI at16.out yN.out.sw.wk (by decide) e
      ·exact yN.out.sw.cw.other at16.out (by decide) hf
      ·exact Put.aI at16.out yN.out.hd (by decide) e
      ·exact Put.aI at16.out yN.out.lk (by decide) e
     have Yu : Hid (Sl.heap[GL]? = some (.cells #[.bool x, .bool y, .bool z] 42 (0, 0))) := by
      refine (Mo.block GL (aC Gh.out) ?_).trans Gh.out
      rintro ((e | hf) | e | e)
      ·exact Put.aI Gh.out yN.out.sw.wk (by decide) e
      ·exact yN.out.sw.cw.other Gh.out (by decide) hf
      ·exact Put.aI Gh.out yN.out.hd (by decide) e
      ·exact Put.aI Gh.out yN.out.lk (by decide) e
     have XG : Hid (H'.st ≤ 1 → ∀ k, k < w3.heap.size → w1.heap.size ≤ k → Sl.heap[k]? = w3.heap[k]?) := fun h k a b => by
      have hst := yN.out.lock.st
      have h0 : H.st = 0 := by omega
      exact ((UE h0).block k (by have := Sk.out; omega) (by have := Nv.out; omega)).trans (UC.out (by omega) k a b)
     have XH : Hid (w3.heap.size ≤ Sl.heap.size) := Nat.le_trans Sk.out Mo.size
     have VM : Hid (H'.who = 5 ∧ H'.x = x ∧ H'.y = y ∧ H'.z = z) := by rw [hy1, hy2, hy3, hy4]; exact zL
     replace VK := Lib.hid VK
     clear yN Lu at16 Gh UC Sk UD UE Mo zL hle hge hy1 hy2 hy3 hy4
     have wi : IntKind.i64.wrap ((i : Int) + 1) = (i : Int) + 1 := IntWalk.i64_in _ (by omega)
     go_wp2_with fail
     go_roundw
     case rel => exact ⟨i + 1, S', H', l', K', by go_num, by omega, VK, VL, XF, Yu, XG, XH, VM⟩
     case measure => simp [intOf]; omega
theorem Lv (n : Int) (u : Value) (l : List De) (r : Rq) (w : World) (_ : -9223372036854775808 ≤ n ∧ n ≤ 9223372036854775807) (h : aD rV 12 w u l) (hf : ∀ x ∈ l, yL x) (hr : Fg r) :
 Calls Tryz.prog 4 #[.int .i64 n, u, .agg (encR r).toArray] w fun e w' => e = .returned (.bool true) ∧ Below w.heap.size w w' := Ju h hf r hr n
end
end Go.Proofs.YtelnhablglomjaaGreat


namespace Go.Proofs.YtelnhablglomjaaGreat.opLocks
open Go.ChangeShapes Go.WideShapes Go.ChangeAt Go.RowKit
theorem own : ownKnob Tryz.prog.godebug = none := by kernel_rfl
theorem laid : laidOutB Tryz.prog = true := by kernel_rfl
theorem readable : (Tryz.f4.params.toList.all fun t => Tryz.prog.readableRec t && decide (t < Tryz.prog.types.size)) = true := by kernel_rfl
theorem lifted (os : Os) (started : os.Started) (H : Type) (enc : TypeId × Value → H) :
 ReturnsInHanded {} Tryz.checked os 4 .any (Rows.opLocksSpec.pre6 enc Tryz.prog Tryz.f4 Rows.opLocksRow.domain false) (Rows.opLocksSpec.post enc Tryz.prog Tryz.f4 false true false false) := by
 refine returnsInHanded_of_change (C := Tryz.checked) own started (by kernel_rfl) Tryz.func4
  (ChangeSpec.witness6 (enc := enc) (C := Tryz.checked) false ⟨#[], #[.int .i64 0, .slice none 0 0, .agg #[.int .i64 0, .int .i64 0, .int .i64 0, .int .i64 0, .int .i64 0, .int .i64 0, .bool false, .int .i64 0, .int .i64 0]], []⟩ 8 (by kernel_rfl) (by kernel_rfl) (by kernel_rfl) (by kernel_rfl)) ?_
 intro W base args ds gs before hval0 hW hcnd _
 have hval : ∀ (j : Nat) t v, Tryz.f4.params[j]? = some t → args[j]? = some v → Value.okWide Tryz.prog W .any base t v := hval0
 have hW' := hW
 obtain ⟨p, q, SX, hV, hpq, hfz, hnd⟩ := hW
 have hA : DataW.TrodAll enc Tryz.prog W 0 (fun _ => true) true Tryz.f4.params.toList args.toList ds p := SX
 rw [Tryz.params4] at hA hval
 obtain ⟨v0, Zp, d0, ds0, p0, q0, hargs, rfl, rfl, h0, r0⟩ := trodAll_cons hA
 obtain ⟨v1, vs1, d1, ds1, p1, q1, rfl, rfl, rfl, h1, r1⟩ := trodAll_cons r0
 obtain ⟨v2, vs2, d2, Zq, p2, q2, rfl, rfl, rfl, h2, r2⟩ := trodAll_cons r1
 obtain ⟨rfl, rfl, rfl⟩ := trodAll_nil r2
 obtain rfl : args = #[v0, v1, v2] := by cases args; simp_all
 obtain ⟨rfl, rfl⟩ := trodVars_none hV
 obtain ⟨a0, rfl, rfl, rfl, w0⟩ := open_int Tryz.underlying3 (hval 0 3 v0 rfl rfl) h0
 obtain ⟨l1, hl1, hf1⟩ := OV (hval 1 22 v1 rfl rfl) h1
 obtain ⟨l2, rfl, hf2⟩ := MO (hval 2 24 v2 rfl rfl) h2
 clear SX hval0
 refine (Lv a0 v1 l1 l2 W (bounds_i64 w0) hl1 hf1 hf2).mono fun e W' ⟨he, hg⟩ => ?_
 subst he
 exact ⟨_, rfl, Mq hW' rfl rfl rfl Tryz.underlying4 laid (Sn readable) hg⟩
theorem over : Rows.opLocksRow.holds Tryz.pinned (OpenSpec.ofChange Rows.opLocksSpec) :=
 OpenClaim.holds_of_wide 4 Tryz.f4 rfl rfl rfl rfl rfl rfl rfl ⟨rfl, rfl, rfl, rfl, rfl⟩ rfl rfl rfl rfl rfl (by kernel_rfl) Tryz.func4 (by kernel_rfl)
  (of_decide_eq_true (by kernel_rfl)) (by unfold Func.isWrapper; first | (rw [if_pos (by decide +kernel)]; kernel_rfl) | (rw [if_neg (by decide +kernel)]; exact ⟨rfl, rfl⟩))
  (fun os started H enc _ => lifted os started H enc)
theorem proved : Rows.OpLocksSaid := over
#print axioms proved
end Go.Proofs.YtelnhablglomjaaGreat.opLocks
