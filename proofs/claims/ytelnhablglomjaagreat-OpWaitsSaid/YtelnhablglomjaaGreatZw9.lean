/-
 OpWaits of the Go text returns true for every input, and each argument reads afterwards as it read before. No condition.
-/
import Derived.Test.YtelnhablglomjaaGreatRows
import Derived.ProofKit
import Derived.OpenShut
import Derived.Test.YtelnhablglomjaaGreatZw8
set_option maxRecDepth 1000000
set_option maxHeartbeats 8000000
set_option linter.all false
namespace Go.Proofs.YtelnhablglomjaaGreat
open Go.RowKit Go.Lib Go.Sort
def u9 (k : Int) : Lk := (⟨0, 0, 0, 0⟩ : Lk).kT k 9
theorem TI {k j : Int} (h : k = 0 ∨ k = 1 ∨ k = 2) (hj : j = 0 ∨ j = 1 ∨ j = 2) : (u9 k).own j = if j = k then 9 else 0 := by
 rcases h with rfl | rfl | rfl <;> rcases hj with rfl | rfl | rfl <;> decide
theorem TJ {k : Int} (h : k = 0 ∨ k = 1 ∨ k = 2) : (⟨0, 0, 0, 0⟩ : Lk).kF k 9 = 0 ∧ (u9 k).a ≠ 5 ∧ (u9 k).b ≠ 5 ∧ (u9 k).c ≠ 5 ∧ (u9 k).n = 1 ∧ 0 ≤ (u9 k).own k := by
 rcases h with rfl | rfl | rfl <;> decide
theorem Ck (W : World) (x y z : Bool) (T : TypeId) {k : Nat} (h : (k : Int) = 0 ∨ (k : Int) = 1 ∨ (k : Int) = 2) : (W.alloc (.cells #[.bool x, .bool y, .bool z] T)).cell? ⟨W.heap.size, k, none⟩ = some (.bool (if (k : Int) = 0 then x else if (k : Int) = 1 then y else z)) := by
 have hk : k = 0 ∨ k = 1 ∨ k = 2 := by omega
 have e := heap_alloc_new W (.cells #[.bool x, .bool y, .bool z] T)
 generalize W.alloc (.cells #[.bool x, .bool y, .bool z] T) = V at *
 rcases hk with rfl | rfl | rfl <;> simp [World.cell?, e]
section
variable {w : World} {u : Value} {l : List De}
theorem Jp (h : aC sj 12 w u l) (hfit : ∀ x ∈ l, yQ x) (r : Rq) (hr : Fb r) (n which : Int) : Calls Tryz.prog 5 #[.int .i64 n, u, .agg (encR r).toArray, .int .i64 which] w fun e w' => e = .returned (.bool true) ∧ Below w.heap.size w w' := by
 have zR := jZ
 have lR := gK r
 obtain ⟨k9, bP⟩ : ∃ k, k = 9 := ⟨_, rfl⟩
 rw [← bP] at zR lR
 have hk0 : ¬ k9 = 0 := by omega
 replace bP := Lib.hid bP
 obtain ⟨wA, aJ⟩ : ∃ wA, wA = w.alloc (.cells (encR r).toArray 24) := ⟨_, rfl⟩
 have bN : Hid (Below w.heap.size w wA) := by show Below _ _ _; rw [aJ]; exact (Below.refl _ _).alloc (Nat.le_refl _) _
 have nW : wA.heap[w.heap.size]? = some (.cells (encR r).toArray 24 (0, 0)) := by rw [aJ]; exact heap_alloc_new w _
 have hlA : Hid (w.heap.size < wA.heap.size) := aD nW
 have hA := h.below bN.out
 have hki := je nW 0 _ rfl
 have hz := Lib.hid nW
 have hld : Hid (∀ W, Below wA.heap.size wA W → Sem.run Tryz.prog (loadCellsFrom ⟨w.heap.size, 0, none⟩ 0 k9 #[]) W = .ok (encR r).toArray W) := fun W hW => eZ ((hW.block _ hlA.out).trans hz.out) lR
 have hkd : Hid (∀ W, Below wA.heap.size wA W → W.cell? ⟨w.heap.size, 0, none⟩ = some (.int .i64 r.kind)) := fun W hW => je ((hW.block _ hlA.out).trans hz.out) 0 _ rfl
 have R4 := Lib.hid (Ep r 5)
 obtain ⟨cR, hcR⟩ : ∃ cR, cR = encR r := ⟨_, rfl⟩
 rw [← hcR] at hld R4 aJ ⊢
 replace hcR := Lib.hid hcR
 clear nW lR hki hz
 by_cases hn : n < 1 ∨ 64 < n
 ·have hm := OT hA n hn
  have haw := si wA
  go_enter Tryz.func5, Tryz.ntmps5
  go_wp2_with fail
  rw [← aJ]
  replace aJ := Lib.hid aJ
  go_at_call 6
  refine hm.mono ?_
  clear hm
  rintro e w1 ⟨rfl, rfl⟩
  go_wp2_with fail
  go_at_call 7
  refine haw.mono ?_
  clear haw
  rintro e w2 ⟨rfl, hb2⟩
  go_wp2_with fail
  go_ret
  exact ⟨rfl, bN.out.trans (hb2.mono bN.out.size)⟩
 obtain ⟨N, rfl⟩ := Int.eq_ofNat_of_zero_le (show 0 ≤ n by omega)
 have hm := RY hA hfit N (by omega) (by omega)
 obtain ⟨M, hM⟩ : ∃ M, M = mY (dI N) (l.take 60) := ⟨_, rfl⟩
 have hpl := Es (Ok.new (show N ≤ 64 by omega)) (l.take 60)
 rw [← hM] at hm hpl
 have hdr : M.dr.length = N := by rw [hpl.2.2]; simp [dI]
 have hd1 : 1 ≤ M.dr.length := by omega
 have Ze : M.L.length ≤ 60 := by
  have h1 := hpl.2.1
  have h2 : (dI N).L.length = 0 := rfl
  have h3 : (l.take 60).length ≤ 60 := by rw [List.length_take]; omega
  omega
 have hok := hpl.1
 obtain ⟨Q, hQ⟩ : ∃ Q, Q = Fin (60000 + 1000) (fC M (toW r)).2 (ma (fC M (toW r)).1) false := ⟨_, rfl⟩
 have hrun : fo 1000 (1 + 2 * M.L.length) 60000 (jy r) (ah M) Q := by rw [hQ]; exact Jh r hok hd1 (by omega) (by decide) (by have := hr; exact ⟨by cases hr; omega, by cases hr; omega⟩)
 clear hpl hdr hfit h hM hA hQ
 replace hn := Lib.hid hn
 by_cases R5 : which < 0 ∨ 2 < which
 ·go_enter Tryz.func5, Tryz.ntmps5
  go_wp2_with fail
  rw [← aJ]
  replace aJ := Lib.hid aJ
  go_at_call 6
  refine hm.mono ?_
  clear hm
  rintro e w1 ⟨s, c, t, d, p, v, g, rfl, S1, hb1⟩
  have haw := si w1
  clear S1
  rcases R5 with R5 | R5
  ·have d1 : decide (which < 0) = true := decide_eq_true R5
   go_wp2_with fail
   go_at_call 7
   refine haw.mono ?_
   clear haw
   rintro e w2 ⟨rfl, hb2⟩
   go_wp2_with fail
   go_ret
   exact ⟨rfl, bN.out.trans ((hb1.trans (hb2.mono hb1.size)).mono bN.out.size)⟩
  ·have d1 : decide (which < 0) = false := decide_eq_false (by omega)
   have d2 : decide (2 < which) = true := decide_eq_true R5
   go_wp2_with fail
   go_at_call 7
   refine haw.mono ?_
   clear haw
   rintro e w2 ⟨rfl, hb2⟩
   go_wp2_with fail
   go_ret
   exact ⟨rfl, bN.out.trans ((hb1.trans (hb2.mono hb1.size)).mono bN.out.size)⟩
 obtain ⟨wh, rfl⟩ := Int.eq_ofNat_of_zero_le (show 0 ≤ which by omega)
 have hw3 : (wh : Int) = 0 ∨ (wh : Int) = 1 ∨ (wh : Int) = 2 := by omega
 have d1 : decide ((wh : Int) < 0) = false := decide_eq_false (by omega)
 have d2 : decide (2 < (wh : Int)) = false := decide_eq_false (by omega)
 obtain ⟨e9, na, nb, nc, nn, _⟩ := TJ hw3
 have hown := Lib.hid (fun j hj => TI (k := wh) (j := j) hw3 hj)
 obtain ⟨K, hK, hrun⟩ := hrun
 replace hrun := Lib.hid hrun
 replace hok := Lib.hid hok
 go_enter Tryz.func5, Tryz.ntmps5
 go_wp2_with fail
 rw [← aJ]
 replace aJ := Lib.hid aJ
 go_at_call 6
 refine hm.mono ?_
 clear hm
 rintro e w1 ⟨s, c, t, d, p, v, g, rfl, S1, hb1⟩
 obtain ⟨w2, hw2⟩ : ∃ w2, w2 = w1.alloc (.cells #[.int .i64 0, .int .i64 0, .int .i64 0, .int .i64 0] 32) := ⟨_, rfl⟩
 have hb2 : Below w1.heap.size w1 w2 := by rw [hw2]; exact (Below.refl _ _).alloc (Nat.le_refl _) _
 have hL2 : bS 32 w2 w1.heap.size ⟨0, 0, 0, 0⟩ := by rw [hw2]; exact heap_alloc_new w1 _
 obtain ⟨kk, hkk⟩ : ∃ kk, kk = w1.heap.size := ⟨_, rfl⟩
 rw [← hkk] at hL2
 have ht := LA wh 9 hL2 (by decide)
 rw [e9] at ht
 have S2 := Lib.hid (S1.kept hb2)
 have xJ : Hid (Below wA.heap.size wA w2) := hb1.trans (hb2.mono hb1.size)
 have hk1 : Hid (wA.heap.size ≤ kk) := by show _ ≤ _; rw [hkk]; exact hb1.size
 replace hL2 := Lib.hid hL2
 clear S1 hb1 hb2 e9
 go_wp2_with fail
 rw [← hw2, ← hkk]
 replace hw2 := Lib.hid hw2
 replace hkk := Lib.hid hkk
 go_at_call 29
 refine ht.mono ?_
 clear ht
 rintro e w3 ⟨rfl, hL3, ho3⟩
 replace hL3 : bS 32 w3 kk (u9 wh) := hL3
 have TK : CW w3 c t d p v g (1 + 2 * M.L.length) 60000 (ah M) := S2.out.cw.Li fun k hk => by
  have hne : k ≠ kk := fun e => S2.out.cw.other hL2.out (by decide) (e ▸ hk)
  exact ho3.block k (S2.out.cw.lt hk) hne hne
 have at3 : kv w3 s c := by
  have hne : s ≠ kk := Put.aG S2.out.at' hL2.out (by decide)
  exact (ho3.block s S2.out.at'.lt hne hne).trans S2.out.at'
 have hb3 : Hid (Below wA.heap.size wA w3) := xJ.out.trans (ho3.below hk1.out hk1.out xJ.out.size)
 have hlo := S2.out.lo
 have ld := hld.out w3 hb3.out
 have He := R4.out w3
 replace hL3 := Lib.hid hL3
 replace TK := Lib.hid TK
 replace at3 := Lib.hid at3
 replace hlo := Lib.hid hlo
 clear S2 hL2 ho3 xJ
 go_wp2_with fail
 go_at_call 9
 refine He.mono ?_
 clear He ld R4
 rintro e w4 ⟨o, hh, b, rfl, hO, hH, hW, lo, lh, lb, hb4⟩
 have at4 := at3.out.kept hb4
 have OV := TK.out.kept hb4
 have q0 := at4.c0
 have q1 := OV.c0
 have h1 := Jo OV (by omega)
 have hL4 := Lib.hid (hL3.out.below hb4 hL3.out.lt)
 have Eu : Hid (Below wA.heap.size wA w4) := hb3.out.trans (hb4.mono hb3.out.size)
 have hbl : Hid (wA.heap.size ≤ b ∧ wA.heap.size ≤ hh ∧ hh < w4.heap.size ∧ kk < w4.heap.size) := by
  have := hb3.out.size
  exact ⟨by omega, by omega, hH.lt, hL4.out.lt⟩
 replace hO := Lib.hid hO
 replace hH := Lib.hid hH
 replace hW := Lib.hid hW
 replace at4 := Lib.hid at4
 replace OV := Lib.hid OV
 clear hb4 hL3 TK at3 lo lh lb hb3
 go_wp2_with fail
 go_at_call 24
 refine h1.mono ?_
 clear h1 q0 q1
 rintro e w5 ⟨uJ, rfl, Ic, hb5⟩
 have Uo := Jj (⟨b, 5, mh r.kind, mo r.kind, mq r.kind, 0, 0⟩ : Hd) 0
 have hup := Hd.Vx (kR b 5 r)
 have hln := Hd.TA (kR b 5 r)
 have Uq := Hd.RJ b 5 (mh r.kind) (mo r.kind) (mq r.kind) K
 have X5 : Hid (Rn wA.heap.size w5 o hh kk b c t d p ⟨v, g, 1 + 2 * M.L.length, 60000, jy r, ah M⟩ ⟨v, g, 1 + 2 * M.L.length, 60000, jy r, ah M⟩ (kR b 5 r) (u9 wh) (u9 wh) (gu r) K Q) :=
  ⟨(hb5.block _ hO.out.lt).trans hO.out, hH.out.below hb5 hH.out.lt, rfl, hL4.out.below hb5 hL4.out.lt, ⟨by omega, fun _ => by omega⟩, dG.new b _ _ _ (by decide) na nb nc, Hd.TB _ _ _ _ _ _,
    ⟨(hb5.block _ hW.out.lt).trans hW.out, OV.out.kept hb5⟩, fun _ => hrun.out, fun h3 => by
      have : (kR b 5 r).st = 0 ∨ (kR b 5 r).st = 1 := Uo
      omega, fun _ => rfl, fun k hk => hk.elim (fun e => e ▸ hbl.out.1) (hlo.out k), hbl.out.2.1, hk1.out⟩
 have hr0 : 0 + (kR b 5 r).rem K ≤ 1010 := by
  have : (kR b 5 r).rem K = 2 * (kR b 5 r).len + K + 1 := Uq
  omega
 have Ur : Hid (Below wA.heap.size wA w5) := Eu.out.trans (hb5.mono Eu.out.size)
 have Xn := Lib.hid (at4.out.kept hb5)
 have hJ0 : Hid ((kR b 5 r).st ≤ 1 → qV w4.heap.size w5 (fun W => aC ai 10 W uJ M.L)) := fun _ => Ic
 obtain ⟨H0, hH0⟩ : ∃ H0, H0 = kR b 5 r := ⟨_, rfl⟩
 have xL : Hid (H0.who = 5 ∧ H0.x = mh r.kind ∧ H0.y = mo r.kind ∧ H0.z = mq r.kind) := by rw [hH0]; exact ⟨rfl, rfl, rfl, rfl⟩
 rw [← hH0] at X5 hr0 hJ0
 obtain ⟨S0, hS0⟩ : ∃ S0 : Sd, S0 = ⟨v, g, 1 + 2 * M.L.length, 60000, jy r, ah M⟩ := ⟨_, rfl⟩
 rw [← hS0] at X5
 replace hS0 := Lib.hid hS0
 clear hH0 Uo hup hln Uq hO hH hW at4 OV Eu hb5 hL4 Ic hrun hlo
 go_wp2_with fail
 go_loopw [13] (fun ii wr => ∃ (i : Nat) (S : Sd) (H : Hd) (l1 : Lk) (K1 : Nat), ii = .int .i64 i ∧ i + H.rem K1 ≤ 1010 ∧ Hid (Rn wA.heap.size wr o hh kk b c t d p S0 S H l1 (u9 wh) (gu r) K1 Q) ∧ Hid (Below wA.heap.size wA wr) ∧ Hid (kv wr s c) ∧ Hid (H.st ≤ 1 → qV w4.heap.size wr (fun W => aC ai 10 W uJ M.L)) ∧ Hid (H.who = 5 ∧ H.x = mh r.kind ∧ H.y = mo r.kind ∧ H.z = mq r.kind)) (fun ii _ => 3000 - (intOf ii).toNat)
 case atStart => exact ⟨0, S0, H0, u9 wh, K, rfl, hr0, X5, Ur, Xn, hJ0, xL⟩
 case round =>
  clear X5 Ur Xn hJ0 xL hr0
  obtain ⟨i, S, H, l1, K1, rfl, hir, hX, hbr, hat, hJ, xL⟩ := hrel
  have b3 : (i : Int) < 3000 := by omega
  have hf := nX hX.out.op hX.out.hd
  have hwt := xS hX.out.hd hX.out.lk
  rw [hX.out.waits] at hwt
  have c0 := hX.out.op.c0
  have kd := hkd.out wr hbr.out
  by_cases h5 : H.st = 5
  ·rw [h5] at hf
   clear hwt
   have hnd := rZ r.kind wr
   obtain ⟨x, hx⟩ : ∃ x, x = mh r.kind := ⟨_, rfl⟩
   obtain ⟨y, hy⟩ : ∃ y, y = mo r.kind := ⟨_, rfl⟩
   obtain ⟨z, hzz⟩ : ∃ z, z = mq r.kind := ⟨_, rfl⟩
   have hlv : (if (wh : Int) = 0 then x else if (wh : Int) = 1 then y else z) = false := by
    obtain ⟨f0, f1, f2⟩ := hX.out.fr (by omega)
    obtain ⟨_, g0, g1, g2⟩ := xL.out
    have ow := hown.out wh hw3
    rw [if_pos rfl] at ow
    rw [g0, ← hx] at f0
    rw [g1, ← hy] at f1
    rw [g2, ← hzz] at f2
    rcases hw3 with e | e | e
    ·rw [if_pos e]
     rw [e] at f0 ow
     cases x
     ·rfl
     ·exact absurd ((f0 rfl).symm.trans ow) (by decide)
    ·rw [if_neg (by omega), if_pos e]
     rw [e] at f1 ow
     cases y
     ·rfl
     ·exact absurd ((f1 rfl).symm.trans ow) (by decide)
    ·rw [if_neg (by omega), if_neg (by omega)]
     rw [e] at f2 ow
     cases z
     ·rfl
     ·exact absurd ((f2 rfl).symm.trans ow) (by decide)
   rw [← hx, ← hy, ← hzz] at hnd
   unfold bI at hnd
   have hcl := fun W => Ck W x y z 42 hw3
   rw [hlv] at hcl
   have CR : Hid (∀ W, Below wr.heap.size wr W → Calls Tryz.prog 14 #[.pointer (some ⟨o, 0, none⟩)] W fun e w' => e = .returned (.bool true) ∧ W = w') := fun W hW => by
    have := nX (hX.out.kept hW).op (hX.out.kept hW).hd
    rw [h5] at this
    exact this
   clear hlv hx hy hzz hir hJ xL h5
   go_wp2_with (first
    | (go_at_call 14; refine hf.mono ?_; rintro e w' ⟨rfl, rfl⟩; clear hf)
    | (go_at_call 13; go_must (refine hnd.mono ?_); rintro e w6 ⟨rfl, hb6⟩
       have Us := hcl w6
       have iO : Hid (Below wr.heap.size wr (w6.alloc (.cells #[.bool x, .bool y, .bool z] 42))) := hb6.alloc hb6.size _
       have FZ := CR.out _ iO.out
       have haw := si (w6.alloc (.cells #[.bool x, .bool y, .bool z] 42))
       clear CR)
    | (go_at_call 14; go_must (refine FZ.mono ?_); rintro e w' ⟨rfl, rfl⟩)
    | (go_at_call 7; go_must (refine haw.mono ?_); rintro e w8 ⟨rfl, pK⟩))
   go_ret
   exact ⟨rfl, bN.out.trans ((hbr.out.trans ((iO.out.trans (pK.mono iO.out.size)).mono hbr.out.size)).mono bN.out.size)⟩
  by_cases hw0 : H.st = 0 ∧ (u9 wh).own H.lk ≠ 0
  ·obtain ⟨h0, hne⟩ := hw0
   obtain rfl : S = S0 := hX.out.bg (by omega)
   have hcw : Hid (∀ W l', Rn wA.heap.size W o hh kk b c t d p S S H l' (u9 wh) (gu r) K1 Q → CW W c t d p v g (1 + 2 * M.L.length) 60000 (ah M)) := fun W l' X => by
    have := X.sw.cw
    rw [hS0.out] at this
    exact this
   have hlk := hX.out.lock.st
   have hl2 : H.lk = 0 ∨ H.lk = 1 ∨ H.lk = 2 := by omega
   have how := hown.out H.lk hl2
   have VA : H.lk = wh := Classical.byContradiction fun hc => hne (how.trans (if_neg hc))
   rw [if_pos VA] at how
   have hnd := rZ r.kind wr
   obtain ⟨x, hx⟩ : ∃ x, x = mh r.kind := ⟨_, rfl⟩
   obtain ⟨y, hy⟩ : ∃ y, y = mo r.kind := ⟨_, rfl⟩
   obtain ⟨z, hzz⟩ : ∃ z, z = mq r.kind := ⟨_, rfl⟩
   have hlv : (if (wh : Int) = 0 then x else if (wh : Int) = 1 then y else z) = true := by
    obtain ⟨_, g0, g1, g2⟩ := xL.out
    rw [← hx] at g0
    rw [← hy] at g1
    rw [← hzz] at g2
    rcases hlk with ⟨_, ⟨e, e2⟩ | ⟨e, e2⟩ | ⟨e, e2⟩⟩ | hs | hs | ⟨hs, _⟩ | hs | hs <;> (try omega)
    ·rw [if_pos (by omega), ← g0, e2]
    ·rw [if_neg (by omega), if_pos (by omega), ← g1, e2]
    ·rw [if_neg (by omega), if_neg (by omega), ← g2, e2]
   rw [← hx, ← hy, ← hzz] at hnd
   unfold bI at hnd
   have hcl := fun W => Ck W x y z 42 hw3
   rw [hlv] at hcl
   rw [show (H.st == 5) = false by rw [h0]; rfl] at hf
   rw [show (decide (H.st = 0) && !decide ((u9 wh).own H.lk = 0)) = true by rw [h0, how]; rfl] at hwt
   have TL := (hJ.out (by omega))
   replace TL := Lib.hid TL
   clear hlv hx hy hzz hir hJ xL hlk hl2 hne
   go_wp2_with (first
    | (go_at_call 14; refine hf.mono ?_; rintro e w' ⟨rfl, rfl⟩; clear hf)
    | (go_at_call 15; refine hwt.mono ?_; rintro e w' ⟨rfl, rfl⟩; clear hwt)
    | (go_at_call 13; go_must (refine hnd.mono ?_); rintro e w6 ⟨rfl, hb6⟩
       have Us := hcl w6
       obtain ⟨w7, hw7⟩ : ∃ w7, w7 = w6.alloc (.cells #[.bool x, .bool y, .bool z] 42) := ⟨_, rfl⟩
       have iO : Below wr.heap.size wr w7 := by rw [hw7]; exact hb6.alloc hb6.size _
       have X7 := Lib.hid (hX.out.kept iO)
       have c7 := X7.out.op.c0
       have hst := kV X7.out.hd
       have Gd := sU 5 X7.out.lk
       rw [h0] at hst
       rw [hw7] at c7 hst Gd))
   rw [← hw7] at hst Gd ⊢
   unfold xM bI at Gd
   obtain ⟨p1, hp1⟩ : ∃ b, b = l1.has 0 5 := ⟨_, rfl⟩
   obtain ⟨q1, hq1⟩ : ∃ b, b = l1.has 1 5 := ⟨_, rfl⟩
   obtain ⟨z1, hz1⟩ : ∃ b, b = l1.has 2 5 := ⟨_, rfl⟩
   rw [← hp1, ← hq1, ← hz1] at Gd
   have Xo : Hid (xM l1 5 = .agg #[.bool p1, .bool q1, .bool z1]) := by show _ = _; rw [hp1, hq1, hz1]; rfl
   replace hw7 := Lib.hid hw7
   clear hp1 hq1 hz1 c7 c0 hcl Us hnd kd
   have Jq : Hid (Below wA.heap.size wA w7) := hbr.out.trans (iO.mono hbr.out.size)
   have TM := Lib.hid (hat.out.kept iO)
   have TN := Lib.hid (TL.out.kept iO)
   clear hX iO hb6 hat TL hbr
   go_at_call 27
   refine hst.mono ?_
   clear hst
   rintro e w' ⟨rfl, rfl⟩
   go_wp2_with fail
   go_at_call 28
   refine Gd.mono ?_
   clear Gd
   rintro e w8 ⟨rfl, pK⟩
   obtain ⟨w9, rH⟩ : ∃ w9, w9 = w8.alloc (.cells #[.bool p1, .bool q1, .bool z1] 42) := ⟨_, rfl⟩
   have vY : Below w7.heap.size w7 w9 := by rw [rH]; exact pK.alloc pK.size _
   have yJ : w9.heap[w8.heap.size]? = some (.cells #[.bool p1, .bool q1, .bool z1] 42 (0, 0)) := by rw [rH]; exact heap_alloc_new w8 _
   obtain ⟨G, hG⟩ : ∃ G, G = w8.heap.size := ⟨_, rfl⟩
   rw [← hG] at yJ
   have X9 := Lib.hid (X7.out.kept vY)
   have at9 := Lib.hid (TM.out.kept vY)
   have Xp := Lib.hid (TN.out.kept vY)
   have R6 : Hid (Below wA.heap.size wA w9) := Jq.out.trans (vY.mono Jq.out.size)
   replace yJ := Lib.hid yJ
   clear X7 TM TN Jq pK vY
   go_wp2_with fail
   rw [← rH, ← hG]
   replace rH := Lib.hid rH
   replace hG := Lib.hid hG
   refine Reg2.ro w9 9 163 [.p 0, .p 1, .p 3, .m 7, .p 0, .p 16, .p 48, .m 112, .p 0] [.pointer (some ⟨hh, 0, none⟩), .pointer (some ⟨c, 0, none⟩)] (by kernel_rfl) (by kernel_rfl) rfl rfl ⟨rfl, rfl, rfl, Nat.le_refl _, fun _ _ => rfl⟩ ?_
   dsimp only [Reg2.gJ]
   repeat ((first
    | (refine' Reg2.ak _ (by rfl) (fun wz => ?_) ?_; rotate_left; (go_simp; first | rfl | rw [if_neg (by omega)]))
    | (refine Reg2.az (by rfl) (fun wz hI hF => ?_) (fun _ => ?_)
       ·unfold Reg2.One
        have d0 := (X9.out.kept hI).op.c0
        have d1 := (at9.out.kept hI).c0
        go_wp2_with fail
        first | exact ⟨_, rfl, rfl, Reg2.Ext.refl _⟩ | exact ⟨_, rfl, ⟨(), rfl, trivial⟩, Reg2.Ext.refl _⟩)); simp only [Act.put, xA, xB, xC, xD, xE, id])
   refine Reg2.aA ?_
   intro Yh Ev _ dQ
   clear dQ
   dsimp only [List.drop]
   have Jr := X9.out.kept Ev
   have Cm := at9.out.kept Ev
   have Mr := Xp.out.kept Ev
   have Cn := (Ev.block G (aD yJ.out)).trans yJ.out
   have Lr : Hid (Below wA.heap.size wA Yh) := R6.out.trans (Ev.mono R6.out.size)
   have hs := RQ Jr h0 (by rw [how]; decide)
   replace Jr := Lib.hid Jr
   replace Cm := Lib.hid Cm
   replace Mr := Lib.hid Mr
   replace Cn := Lib.hid Cn
   clear X9 at9 Xp yJ R6 Ev
   go_wp2_with fail
   go_at_call 16
   refine hs.mono ?_
   clear hs
   rintro e OW ⟨rfl, OX, Ew⟩
   have Ut : Hid (kv OW s c) := (Ew.block s Cm.out.lt (fun e => e.elim (Put.aG Cm.out Jr.out.hd (by decide)) (Put.aG Cm.out Jr.out.lk (by decide)))).trans Cm.out
   have hq11 : Hid (OW.heap[G]? = some (.cells #[.bool p1, .bool q1, .bool z1] 42 (0, 0))) := (Ew.block G (aD Cn.out) (fun e => e.elim (Put.aG Cn.out Jr.out.hd (by decide)) (Put.aG Cn.out Jr.out.lk (by decide)))).trans Cn.out
   have Uu : Hid (aC ai 10 OW uJ M.L) := (Mr.out.off (fun k hB hk => Ew.block k hk (by have := hbl.out; omega)) Ew.size).now
   have Ls : Hid (Below wA.heap.size wA OW) := Lr.out.trans (Ew.below (fun k hk => by have := hbl.out; have := hk1.out; omega) Lr.out.size)
   replace OX := Lib.hid OX
   clear Jr Cm Mr Cn Lr Ew
   go_wp2_with fail
   have hneq := MI p1 q1 z1 p1 q1 z1
   rw [show (!(p1 == p1 && q1 == q1 && z1 == z1)) = false by simp] at hneq
   refine Reg2.sJ 39 163 (Reg2.rows 0 [.p 0, .p 1, .p 3, .m 7, .p 0, .m 31, .p 63, .p 127, .p 255, .p 511, .p 1023, .p 2047, .p 4095, .p 8191, .m 16383, .m 32767, .p 2047, .p 131071, .p 262143, .p 524287, .p 1048575, .p 2097151, .p 4194303, .p 8388607, .p 16777215, .m 33554431, .m 16777215, .p 134217727, .p 268435455, .p 536870911, .p 1073741823, .p 2147483647, .p 4294967295, .m 8589934591, .p 17179869183, .p 34359738367, .m 68719476735, .m 137438953471, .p 1073741823]) [0, 0, 0, 1, 0, 1, 0, 0, 0, 0, 0, 0, 0, 0, 1, 1, 0, 0, 0, 0, 0, 0, 0, 0, 0, 1, 1, 0, 0, 0, 0, 0, 0, 1, 0, 0, 1, 1, 0]
    [.pure, .pure, .pure, .mU (.pointer (some ⟨hh, 0, none⟩)), .pure, .mU (.bool true), .pure, .pure, .pure, .pure, .pure, .pure, .pure, .pure, .mU (.pointer (some ⟨hh, 0, none⟩)), .mU (.int .i64 0), .pure, .pure, .pure, .pure, .pure, .pure, .pure, .pure, .pure, .mU (.agg #[.bool p1, .bool q1, .bool z1]), .mU (.agg #[.bool p1, .bool q1, .bool z1]), .pure, .pure, .pure, .pure, .pure, .pure, .mU (.pointer (some ⟨c, 0, none⟩)), .pure, .pure, .mU (.pointer (some ⟨t, 0, none⟩)), .minor Value .nilFunc (fun u => u) (fun u W => aC ai 10 W u M.L), .pure]
    (fun W => Below OW.heap.size OW W) (fun _ _ => True) (fun a b => Below a.heap.size a b) (by kernel_rfl) (by kernel_rfl) rfl rfl (fun vs a b h hs => trivial) ?_ ?_ ?_ ?_ ?_ ?_
   ·intro a b he hb; exact hb.trans (Below.mono he hb.size)
   ·intro a b he hb; exact hb.trans (Below.mono he hb.size)
   ·have kJ : ∀ (x : Value) (a b : World), Below a.heap.size a b → aC ai 10 a x M.L → aC ai 10 b x M.L := fun x a b he h => h.below he
    have k0 : ∀ (v : Value), Reg2.qY (fun a b => Below a.heap.size a b) (.minor Unit () (fun _ => v) (fun _ _ => True)) := fun _ => ⟨fun _ _ _ _ _ => trivial, fun _ _ _ _ _ => trivial⟩
    exact ⟨trivial, trivial, trivial, k0 _, trivial, k0 _, trivial, trivial, trivial, trivial, trivial, trivial, trivial, trivial, k0 _, k0 _, trivial, trivial, trivial, trivial, trivial, trivial, trivial, trivial, trivial, k0 _, k0 _, trivial, trivial, trivial, trivial, trivial, trivial, k0 _, trivial, trivial, k0 _, ⟨kJ, kJ⟩, trivial, trivial⟩
   ·exact ⟨rfl, rfl, rfl, Nat.le_refl _, fun _ _ => rfl⟩
   ·trivial
   dsimp only [Reg2.mk, Reg2.rows, List.zip, List.zipWith, List.take]
   repeat ((first
    | (refine' Reg2.ak _ (by rfl) (fun wz => ?_) ?_; rotate_left; (go_simp; first | rfl | rw [if_neg (by omega)]))
    | (refine Reg2.az (by rfl) (fun wz hI hF => ?_) (fun _ => ?_)
       ·unfold Reg2.One
        have Xz := OX.out.kept hI
        have d0 := Xz.op.c0
        have d1 := (Ut.out.kept hI).c0
        have d2 := (hcw.out _ _ Xz).c0
        have hX := (hI.block G (aD hq11.out)).trans hq11.out
        have g0 : wz.cell? ⟨G, 0, none⟩ = some (.bool p1) := by simp [World.cell?, hX]
        have g1 : wz.cell? ⟨G, 1, none⟩ = some (.bool q1) := by simp [World.cell?, hX]
        have g2 : wz.cell? ⟨G, 2, none⟩ = some (.bool z1) := by simp [World.cell?, hX]
        have hwt := xS Xz.hd Xz.lk
        rw [Xz.waits, show (decide (H.st = 0) && !decide ((u9 wh).own H.lk = 0)) = true by rw [h0, how]; rfl] at hwt
        have hst := kV Xz.hd
        rw [h0] at hst
        have Gd := sU 5 Xz.lk
        rw [Xo.out] at Gd
        clear Xz hX
        go_wp2_with (first
         | (go_at_call 15; go_must (refine hwt.mono ?_); rintro e w' ⟨rfl, rfl⟩)
         | (go_at_call 27; go_must (refine hst.mono ?_); rintro e w' ⟨rfl, rfl⟩)
         | (go_at_call 28; go_must (refine Gd.mono ?_); rintro e w5 ⟨rfl, hb5⟩))
        first | exact ⟨_, rfl, ⟨(), rfl, trivial⟩, Reg2.Ext.refl _⟩ | exact ⟨_, rfl, ⟨(), rfl, trivial⟩, hb5⟩)); simp only [Act.put, xA, xB, xC, xD, xE, id])
   refine Reg2.pm (fun wz hI hF => ?_) (fun u2 => ?_) (by rfl)
   ·have h1 := Jo (hcw.out _ _ (OX.out.kept hI)) (by omega)
    go_wp2_with fail
    go_at_call 24
    refine h1.mono ?_
    rintro e w5 ⟨uK, rfl, Yi, hb5⟩
    go_wp2_with fail
    exact ⟨_, rfl, ⟨uK, rfl, Yi.now⟩, hb5⟩
   simp only [Act.put, xA, xB, xC, xD, xE, id]
   repeat (refine' Reg2.ak _ (by rfl) (fun wz => ?_) ?_; rotate_left; (go_simp; first | rfl | rw [if_neg (by omega)]); simp only [Act.put, xA, xB, xC, xD, xE, id])
   refine Reg2.aA ?_
   intro Vl zF _ HF
   have hu2 := HF.2.2.2.2.2.2.2.2.2.2.2.2.2.2.2.2.2.2.2.2.2.2.2.2.2.2.2.2.2.2.2.2.2.2.2.2.2.1
   clear HF
   dsimp only [List.drop]
   have hsj := Gc hu2 (Uu.out.below zF) (by omega)
   rw [decide_eq_true rfl] at hsj
   have VB := Lib.hid (OX.out.kept zF)
   have Lt : Hid (Below wA.heap.size wA Vl) := Ls.out.trans (zF.mono Ls.out.size)
   clear hu2 OX Ut hq11 Uu Ls zF
   have Uv : l1.own (wh : Int) = 9 := by rw [← VA, VB.out.lock.own h0]; exact how
   have hfe : l1.iL (wh : Int) 9 = 0 := by
    unfold Lk.iL
    rw [if_neg (by rw [show gM (wh : Int) 9 = false by rcases hw3 with e | e | e <;> rw [e] <;> rfl]; decide), if_pos Uv]
   have hfw : xR H (l1.ic (wh : Int) 9) = false := by
    have e : (l1.ic (wh : Int) 9).own H.lk = 0 := by
     unfold Lk.ic
     rw [if_pos hfe, VA]
     rcases hw3 with e | e | e <;> rw [e] <;> rfl
    unfold xR
    rw [e]
    simp
   clear Uv hneq Xo hcw
   go_wp2_with fail
   go_at_call 23
   refine hsj.mono ?_
   clear hsj
   rintro e Yj ⟨rfl, R7⟩
   have Aa := VB.out.kept R7
   have Lu : Hid (Below wA.heap.size wA Yj) := Lt.out.trans (R7.mono Lt.out.size)
   have hfr := yR wh 9 Aa.lk
   rw [hfe] at hfr
   replace Aa := Lib.hid Aa
   clear VB Lt R7
   go_wp2_with fail
   go_at_call 30
   refine hfr.mono ?_
   clear hfr
   rintro e TP ⟨rfl, Uw, Ms⟩
   have Xq : bB TP hh H := (Ms.block hh Aa.out.hd.lt Aa.out.hs Aa.out.hs).trans Aa.out.hd
   have Xr : qU TP o hh (gu r) := (Ms.block o Aa.out.op.lt Aa.out.oh.2 Aa.out.oh.2).trans Aa.out.op
   have R8 : Hid (Below wA.heap.size wA TP) := Lu.out.trans (Ms.below hk1.out hk1.out Lu.out.size)
   have hwt := xS Xq Uw
   rw [hfw] at hwt
   have c14 := Xr.c0
   have haw := si TP
   clear Xq Xr Uw Ms Aa Lu
   go_wp2_with (first
    | (go_at_call 15; go_must (refine hwt.mono ?_); rintro e w' ⟨rfl, rfl⟩)
    | (go_at_call 7; go_must (refine haw.mono ?_); rintro e Zf ⟨rfl, Xt⟩))
   go_ret
   exact ⟨rfl, bN.out.trans ((R8.out.trans (Xt.mono R8.out.size)).mono bN.out.size)⟩
  have hfree : Hid (H.st = 0 → (u9 wh).own H.lk = 0) := fun h0 => Classical.byContradiction fun hc => hw0 ⟨h0, hc⟩
  rw [show (H.st == 5) = false from beq_eq_false_iff_ne.2 h5] at hf
  rw [show (decide (H.st = 0) && !decide ((u9 wh).own H.lk = 0)) = false by
   by_cases h0 : H.st = 0
   ·rw [decide_eq_true (hfree.out h0)]; simp
   ·rw [decide_eq_false h0]; rfl] at hwt
  replace h5 := Lib.hid h5
  clear hw0 kd
  go_wp2_with (first | (go_at_call 14; go_must (refine hf.mono ?_); rintro e w' ⟨rfl, rfl⟩) | (go_at_call 15; go_must (refine hwt.mono ?_); rintro e w' ⟨rfl, rfl⟩))
  refine Reg2.ro wr 9 163 [.p 0, .p 1, .p 3, .m 7, .p 0, .p 16, .p 48, .m 112, .p 0] [.pointer (some ⟨hh, 0, none⟩), .pointer (some ⟨c, 0, none⟩)] (by kernel_rfl) (by kernel_rfl) rfl rfl ⟨rfl, rfl, rfl, Nat.le_refl _, fun _ _ => rfl⟩ ?_
  dsimp only [Reg2.gJ]
  clear c0
  repeat ((first
   | (refine' Reg2.ak _ (by rfl) (fun wz => ?_) ?_; rotate_left; (go_simp; first | rfl | rw [if_neg (by omega)]))
   | (refine Reg2.az (by rfl) (fun wz hI hF => ?_) (fun _ => ?_)
      ·unfold Reg2.One
       have d0 := (hX.out.kept hI).op.c0
       have d1 := (hat.out.kept hI).c0
       go_wp2_with fail
       first | exact ⟨_, rfl, rfl, Reg2.Ext.refl _⟩ | exact ⟨_, rfl, ⟨(), rfl, trivial⟩, Reg2.Ext.refl _⟩)); simp only [Act.put, xA, xB, xC, xD, xE, id])
  refine Reg2.aA ?_
  intro w6 xn _ dQ
  clear dQ hf hwt
  dsimp only [List.drop]
  have X6 := hX.out.kept xn
  have hb6 : Hid (Below wA.heap.size wA w6) := hbr.out.trans (xn.mono hbr.out.size)
  have Lv := Lib.hid (hat.out.kept xn)
  have Xu : Hid (H.st ≤ 1 → qV w4.heap.size w6 (fun W => aC ai 10 W uJ M.L)) := fun h => (hJ.out h).kept xn
  have hs := RP X6 h5.out hfree.out hb6.out.size
  replace X6 := Lib.hid X6
  clear hX hbr hat hJ xn
  go_wp2_with fail
  go_at_call 16
  refine hs.mono ?_
  clear hs
  rintro e w7 ⟨rfl, iO, uZ, GZ, S', H', l', K', X7, Tt, hle, hge, hy1, hy2, hy3, hy4⟩
  have Jq : Hid (Below wA.heap.size wA w7) := hb6.out.trans iO
  have TM : Hid (kv w7 s c) := by
   refine (GZ.block s Lv.out.lt ?_).trans Lv.out
   rintro ((e | hf) | e | e)
   ·exact Put.aG Lv.out X6.out.sw.wk (by decide) e
   ·exact X6.out.sw.cw.other Lv.out (by decide) hf
   ·exact Put.aG Lv.out X6.out.hd (by decide) e
   ·exact Put.aG Lv.out X6.out.lk (by decide) e
  have TN : Hid (H'.st ≤ 1 → qV w4.heap.size w7 (fun W => aC ai 10 W uJ M.L)) := fun h => by
   have hst := X6.out.lock.st
   have h0 : H.st = 0 := by omega
   exact (Xu.out (by omega)).off (fun k hB hk => (uZ h0).block k hk (by have := hbl.out; omega)) (uZ h0).size
  have VC : Hid (H'.who = 5 ∧ H'.x = mh r.kind ∧ H'.y = mo r.kind ∧ H'.z = mq r.kind) := by rw [hy1, hy2, hy3, hy4]; exact xL
  replace X7 := Lib.hid X7
  clear X6 hb6 Lv Xu iO uZ GZ xL hfree hle hge hy1 hy2 hy3 hy4
  have wi : IntKind.i64.wrap ((i : Int) + 1) = (i : Int) + 1 := IntWalk.i64_in _ (by omega)
  go_wp2_with fail
  go_roundw
  case rel => exact ⟨i + 1, S', H', l', K', by go_num, by omega, X7, Jq, TM, TN, VC⟩
  case measure => simp [intOf]; omega
theorem Lx (n : Int) (u : Value) (l : List De) (r : Rq) (k : Int) (w : World) (_ : -9223372036854775808 ≤ n ∧ n ≤ 9223372036854775807) (h : aC sj 12 w u l) (hf : ∀ x ∈ l, yQ x) (hr : Fb r) (_ : -9223372036854775808 ≤ k ∧ k ≤ 9223372036854775807) :
 Calls Tryz.prog 5 #[.int .i64 n, u, .agg (encR r).toArray, .int .i64 k] w fun e w' => e = .returned (.bool true) ∧ Below w.heap.size w w' := Jp h hf r hr n k
end
end Go.Proofs.YtelnhablglomjaaGreat


namespace Go.Proofs.YtelnhablglomjaaGreat.opWaits
open Go.ChangeShapes Go.WideShapes Go.ChangeAt Go.RowKit
theorem own : ownKnob Tryz.prog.godebug = none := by kernel_rfl
theorem laid : laidOutB Tryz.prog = true := by kernel_rfl
theorem readable : (Tryz.f5.params.toList.all fun t => Tryz.prog.readableRec t && decide (t < Tryz.prog.types.size)) = true := by kernel_rfl
theorem lifted (os : Os) (started : os.Started) (H : Type) (enc : TypeId × Value → H) :
 ReturnsInHanded {} Tryz.checked os 5 .any (Rows.opWaitsSpec.pre6 enc Tryz.prog Tryz.f5 Rows.opWaitsRow.domain false) (Rows.opWaitsSpec.post enc Tryz.prog Tryz.f5 false true false false) := by
 refine returnsInHanded_of_change (C := Tryz.checked) own started (by kernel_rfl) Tryz.func5
  (ChangeSpec.witness6 (enc := enc) (C := Tryz.checked) false ⟨#[], #[.int .i64 0, .slice none 0 0, .agg #[.int .i64 0, .int .i64 0, .int .i64 0, .int .i64 0, .int .i64 0, .int .i64 0, .bool false, .int .i64 0, .int .i64 0], .int .i64 0], []⟩ 8 (by kernel_rfl) (by kernel_rfl) (by kernel_rfl) (by kernel_rfl)) ?_
 intro W base args ds gs before hval0 hW hcnd _
 have hval : ∀ (j : Nat) t v, Tryz.f5.params[j]? = some t → args[j]? = some v → Value.okWide Tryz.prog W .any base t v := hval0
 have hW' := hW
 obtain ⟨p, q, SF, hV, hpq, hfz, hnd⟩ := hW
 have hA : DataW.TrodAll enc Tryz.prog W 0 (fun _ => true) true Tryz.f5.params.toList args.toList ds p := SF
 rw [Tryz.params5] at hA hval
 obtain ⟨v0, Zg, d0, ds0, p0, q0, hargs, rfl, rfl, h0, r0⟩ := trodAll_cons hA
 obtain ⟨v1, vs1, d1, ds1, p1, q1, rfl, rfl, rfl, h1, r1⟩ := trodAll_cons r0
 obtain ⟨v2, vs2, d2, Zh, p2, q2, rfl, rfl, rfl, h2, r2⟩ := trodAll_cons r1
 obtain ⟨v3, vs3, d3, ds3, p3, q3, rfl, rfl, rfl, h3, r3⟩ := trodAll_cons r2
 obtain ⟨rfl, rfl, rfl⟩ := trodAll_nil r3
 obtain rfl : args = #[v0, v1, v2, v3] := by cases args; simp_all
 obtain ⟨rfl, rfl⟩ := trodVars_none hV
 obtain ⟨a0, rfl, rfl, rfl, w0⟩ := open_int Tryz.underlying3 (hval 0 3 v0 rfl rfl) h0
 obtain ⟨l1, hl1, hf1⟩ := OU (hval 1 22 v1 rfl rfl) h1
 obtain ⟨l2, rfl, hf2⟩ := MS (hval 2 24 v2 rfl rfl) h2
 obtain ⟨a3, rfl, rfl, rfl, w3⟩ := open_int Tryz.underlying3 (hval 3 3 v3 rfl rfl) h3
 clear SF hval0
 refine (Lx a0 v1 l1 l2 a3 W (bounds_i64 w0) hl1 hf1 hf2 (bounds_i64 w3)).mono fun e W' ⟨he, hg⟩ => ?_
 subst he
 exact ⟨_, rfl, Mt hW' rfl rfl rfl Tryz.underlying4 laid (R9 readable) hg⟩
theorem over : Rows.opWaitsRow.holds Tryz.pinned (OpenSpec.ofChange Rows.opWaitsSpec) :=
 OpenClaim.holds_of_wide 5 Tryz.f5 rfl rfl rfl rfl rfl rfl rfl ⟨rfl, rfl, rfl, rfl, rfl⟩ rfl rfl rfl rfl rfl (by kernel_rfl) Tryz.func5 (by kernel_rfl)
  (of_decide_eq_true (by kernel_rfl)) (by unfold Func.isWrapper; first | (rw [if_pos (by decide +kernel)]; kernel_rfl) | (rw [if_neg (by decide +kernel)]; exact ⟨rfl, rfl⟩))
  (fun os started H enc _ => lifted os started H enc)
theorem proved : Rows.OpWaitsSaid := over
#print axioms proved
end Go.Proofs.YtelnhablglomjaaGreat.opWaits
