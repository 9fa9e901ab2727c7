/-
 Own words and walks, merged: part 7 of 8.
-/
import Derived.Test.YtkhfejihijdipaaGreatVNobody6
set_option maxRecDepth 1000000
set_option maxHeartbeats 8000000
set_option linter.all false
namespace Go.Proofs.YtkhfejihijdipaaGreat
open Go.RowKit Go.Lib Go.Sort
theorem NU {w : World} {b : Nat} {R : Wk} (h : bK w b R) (v0 v1 v2 v3 v4 v5 v6 v7 v8 : Int) : ∃ W, W = (((((((((w).setCell ⟨b, 24, none⟩ (.int .i64 v0)).setCell ⟨b, 25, none⟩ (.int .i64 v1)).setCell ⟨b, 26, none⟩ (.int .i64 v2)).setCell ⟨b, 27, none⟩ (.int .i64 v3)).setCell ⟨b, 28, none⟩ (.int .i64 v4)).setCell ⟨b, 29, none⟩ (.int .i64 v5)).setCell ⟨b, 30, none⟩ (.int .i64 v6)).setCell ⟨b, 31, none⟩ (.int .i64 v7)).setCell ⟨b, 32, none⟩ (.int .i64 v8) ∧ bK W b { R with rep := ⟨v0, v1, v2, v3, v4, v5, v6, v7, v8⟩ } ∧ fM (fun k => k = b) w W := by
 refine ⟨_, rfl, ?_, ?_⟩
 ·have h0 := h.put 24 (.int .i64 v0) (R' := { R with rep := { R.rep with err := v0 } }) rfl
  have h1 := h0.put 25 (.int .i64 v1) (R' := { R with rep := { R.rep with err := v0, id := v1 } }) rfl
  have h2 := h1.put 26 (.int .i64 v2) (R' := { R with rep := { R.rep with err := v0, id := v1, state := v2 } }) rfl
  have h3 := h2.put 27 (.int .i64 v3) (R' := { R with rep := { R.rep with err := v0, id := v1, state := v2, start := v3 } }) rfl
  have h4 := h3.put 28 (.int .i64 v4) (R' := { R with rep := { R.rep with err := v0, id := v1, state := v2, start := v3, stop := v4 } }) rfl
  have h5 := h4.put 29 (.int .i64 v5) (R' := { R with rep := { R.rep with err := v0, id := v1, state := v2, start := v3, stop := v4, plan := v5 } }) rfl
  have h6 := h5.put 30 (.int .i64 v6) (R' := { R with rep := { R.rep with err := v0, id := v1, state := v2, start := v3, stop := v4, plan := v5, a := v6 } }) rfl
  have h7 := h6.put 31 (.int .i64 v7) (R' := { R with rep := { R.rep with err := v0, id := v1, state := v2, start := v3, stop := v4, plan := v5, a := v6, b := v7 } }) rfl
  have h8 := h7.put 32 (.int .i64 v8) (R' := { R with rep := { R.rep with err := v0, id := v1, state := v2, start := v3, stop := v4, plan := v5, a := v6, b := v7, c := v8 } }) rfl
  exact h8
 ·exact eF (eF (eF (eF (eF (eF (eF (eF (bT _ 24 _) (bT _ 25 _)) (bT _ 26 _)) (bT _ 27 _)) (bT _ 28 _)) (bT _ 29 _)) (bT _ 30 _)) (bT _ 31 _)) (bT _ 32 _)
def gH (P : Pg) (n : Int) : Int := if (jU P.J n).st = 3 then max (jU P.J n).fin (P.now + 1) else P.now
section
variable {w : World} {b c t d p g a : Nat} {v : Value} {m : Int} {P : Pg} {R : Wk}
theorem KZ (h : CW w c t d p v g a m P) (hk : PK P) (j : Jb) : Calls Tryz.prog 52 #[.pointer (some ⟨c, 0, none⟩), .agg (ah j).toArray] w fun e w' => e = .returned (.int .i64 (max j.fin (P.now + 1))) ∧ Below w.heap.size w w' := by
 obtain ⟨wA, aM⟩ : ∃ wA, wA = w.alloc (.cells (ah j).toArray 55) := ⟨_, rfl⟩
 have cZ : Hid (Below w.heap.size w wA) := by show Below _ _ _; rw [aM]; exact (Below.refl _ _).alloc (Nat.le_refl _) _
 have sM : Hid (wA.heap[w.heap.size]? = some (.cells (ah j).toArray 55 (0, 0))) := by show _ = _; rw [aM]; exact heap_alloc_new w _
 have iy := Lib.hid (h.kept cZ.out)
 have e7 : (ah j)[7]? = some (.int .i64 j.fin) := rfl
 have zE := bC
 obtain ⟨k, hk1⟩ : ∃ k, k = 10 := ⟨_, rfl⟩
 rw [← hk1] at zE
 have hk0 : ¬ k = 0 := by omega
 replace hk1 := Lib.hid hk1
 have jG := hk.now
 have wn : IntKind.i64.wrap (P.now + 1) = P.now + 1 := by rw [IntKind.wrap_i64]; omega
 generalize ah j = cJ at *
 generalize j.fin = jf at *
 clear h
 go_enter Tryz.func52, Tryz.ntmps52
 go_wp2_with fail
 rw [← aM]
 replace aM := Lib.hid aM
 refine Reg2.rd wA 8 14 [[],[ae],[af,af],[af,af,ae],[af,af,ae,ae],[af,af,ae,ae,ae],[af,af,ae,ae,ae,ae],[af,af,ae,ae,ae,ae,ae]] [0, 1, 0, 0, 0, 1, 1, 0] [.pure, .mU (.int .i64 jf), .pure, .pure, .pure, .mU (.pointer (some ⟨p, 0, none⟩)), .mU (.int .i64 P.now), .pure] (by kernel_rfl) (by kernel_rfl) rfl rfl ⟨trivial, Reg2.tt, trivial, trivial, trivial, Reg2.tt, Reg2.tt, trivial, trivial⟩ ⟨rfl, rfl, rfl, Nat.le_refl _, fun _ _ => rfl⟩ ?_
 dsimp only [Reg2.mk, List.zip, List.zipWith, List.take]
 repeat (refine' Reg2.ai _ (by rfl) (fun wz => ?_) ?_; rotate_left; (go_simp; first | rfl | rw [if_neg (by omega)]); simp only [Act.put, xA, xB, xC]; (try simp only [xD]); (try simp only [xE]); (try simp only [id]))
 refine Reg2.pm (fun wz hI hF => ?_) (fun r1 => ?_) (by rfl)
 ·have q0 : wz.cell? ⟨w.heap.size, 7, none⟩ = some (.int .i64 jf) := by simp [World.cell?, (hI.block _ (aB sM.out)).trans sM.out, e7]
  go_wp2_with fail
  first | exact ⟨_, rfl, rfl, Reg2.Ext.refl _⟩ | exact ⟨_, rfl, ⟨(), rfl, trivial⟩, Reg2.Ext.refl _⟩
 simp only [Act.put, xA, xB, xC]; (try simp only [xD]); (try simp only [xE]); (try simp only [id])
 repeat (refine' Reg2.ai _ (by rfl) (fun wz => ?_) ?_; rotate_left; (go_simp; first | rfl | rw [if_neg (by omega)]); simp only [Act.put, xA, xB, xC]; (try simp only [xD]); (try simp only [xE]); (try simp only [id]))
 refine Reg2.pm (fun wz hI hF => ?_) (fun r5 => ?_) (by rfl)
 ·have c0 := (iy.out.kept hI).c2
  go_wp2_with fail
  first | exact ⟨_, rfl, rfl, Reg2.Ext.refl _⟩ | exact ⟨_, rfl, ⟨(), rfl, trivial⟩, Reg2.Ext.refl _⟩
 simp only [Act.put, xA, xB, xC]; (try simp only [xD]); (try simp only [xE]); (try simp only [id])
 refine Reg2.pm (fun wz hI hF => ?_) (fun r6 => ?_) (by rfl)
 ·go_wp2_with (go_at_call 43; go_must (refine (fO (iy.out.kept hI)).mono ?_); rintro e w' ⟨rfl, rfl⟩)
  first | exact ⟨_, rfl, rfl, Reg2.Ext.refl _⟩ | exact ⟨_, rfl, ⟨(), rfl, trivial⟩, Reg2.Ext.refl _⟩
 simp only [Act.put, xA, xB, xC]; (try simp only [xD]); (try simp only [xE]); (try simp only [id])
 repeat (refine' Reg2.ai _ (by rfl) (fun wz => ?_) ?_; rotate_left; (go_simp; first | rfl | rw [if_neg (by omega)]); simp only [Act.put, xA, xB, xC]; (try simp only [xD]); (try simp only [xE]); (try simp only [id]))
 refine Reg2.aA ?_
 intro w7 jF _ dU
 clear dU
 dsimp only [List.drop]
 have iX := cZ.out.trans (jF.mono cZ.out.size)
 go_wp2_with fail
 go_ret
 exact ⟨rfl, iX⟩
theorem K3 (h : CW w c t d p v g a m P) (hk : PK P) (hnd : ∀ j ∈ P.J, 0 ≤ j.bG ∧ j.bG ≤ 18446744073709551615) (n : Int) (hn : -9223372036854775808 ≤ n ∧ n ≤ 9223372036854775807) : Calls Tryz.prog 172 #[.pointer (some ⟨c, 0, none⟩), .int .i64 n] w fun e w' => e = .returned (.int .i64 (gH P n)) ∧ Below w.heap.size w w' := by
 have hho := FQ h (hk.few) hnd n hn
 unfold gH
 generalize jU P.J n = y at *
 obtain ⟨sv, hsv⟩ : ∃ sv, sv = if y.st = 3 then max y.fin (P.now + 1) else P.now := ⟨_, rfl⟩
 rw [← hsv]
 replace hsv := Lib.hid hsv
 have zE := bC
 obtain ⟨k, hk1⟩ : ∃ k, k = 10 := ⟨_, rfl⟩
 rw [← hk1] at zE
 have hk0 : ¬ k = 0 := by omega
 have lY := ay y
 rw [← hk1] at lY
 replace hk1 := Lib.hid hk1
 have e5 : (ah y)[5]? = some (.int .i64 y.st) := rfl
 have ST : Hid (∀ W : World, Sem.run Tryz.prog (storeCells ⟨W.heap.size, 0, none⟩ (ah y) 0) (W.alloc (.cells #[.int .i64 0, .int .i64 0, .int .i64 0, .int .i64 0, .int .i64 0, .int .i64 0, .int .i64 0, .int .i64 0, .int .i64 0, .int .u64 0] 55)) = .ok () (W.alloc (.cells (ah y).toArray 55))) := fun W => cz W W.heap.size (ah y) (ah gB) 55 rfl rfl (df y)
 have hun := fun (W : World) (hW : CW W c t d p v g a m P) => KZ hW hk y
 have hC := Lib.hid h
 generalize ah y = cY at *
 clear h
 go_enter Tryz.func172, Tryz.ntmps172
 go_wp2_with fail
 go_at_call 20
 refine hho.mono ?_
 clear hho
 rintro e w1 ⟨rfl, hb1⟩
 have st1 := ST.out w1
 obtain ⟨w2, hw2⟩ : ∃ w2, w2 = w1.alloc (.cells cY.toArray 55) := ⟨_, rfl⟩
 rw [← hw2] at st1
 have hb2 : Below w.heap.size w w2 := by rw [hw2]; exact hb1.alloc hb1.size _
 have hz2 : w2.heap[w1.heap.size]? = some (.cells cY.toArray 55 (0, 0)) := by rw [hw2]; exact heap_alloc_new w1 _
 have c5 : w2.cell? ⟨w1.heap.size, 5, none⟩ = some (.int .i64 y.st) := by simp [World.cell?, hz2, e5]
 have TG := eu hz2 lY
 have hC2 := hC.out.kept hb2
 have hu2 := hun w2 hC2
 have hnw := fO hC2
 have c2 := hC2.c2
 replace hw2 := Lib.hid hw2
 replace hz2 := Lib.hid hz2
 by_cases hs : y.st = 3
 ·have d0 : (y.st == 3) = true := by simp [hs]
  replace hs := Lib.hid hs
  go_wp2_with fail
  go_at_call 52
  refine hu2.mono ?_
  rintro e w3 ⟨rfl, hb3⟩
  go_wp2_with fail
  go_ret
  exact ⟨by rw [hsv.out, if_pos hs.out]; rfl, hb2.trans (hb3.mono hb2.size)⟩
 ·have d0 : (y.st == 3) = false := by simp [hs]
  go_wp2_with (go_at_call 43; go_must (refine hnw.mono ?_); rintro e w' ⟨rfl, rfl⟩)
  go_ret
  exact ⟨by rw [hsv.out, if_neg hs]; rfl, hb2⟩
theorem BP (h : SW w b c t d p v g a m R P) (e0 by' : Int) (he : e0 ≠ 0) : Calls Tryz.prog 142 #[.pointer (some ⟨b, 0, none⟩), .pointer (some ⟨c, 0, none⟩), .int .i64 e0, .int .i64 by'] w (au w b c t d p v g a m .nilFunc { R with rep := jJ e0, ok := false } P) := by
 have hf := gF h.wk e0
 have d0 : (e0 != 0) = true := by simp [he]
 go_enter Tryz.func142, Tryz.ntmps142
 go_wp2_with (go_at_call 67; go_must (refine hf.mono ?_); rintro e w8 ⟨rfl, dE, fA⟩)
 go_ret
 exact ⟨rfl, v, g, h.work dE fA, WS.bu fA⟩
theorem Iq (h : SW w b c t d p v g a m R P) (hk : PK P) (ha : a ≤ 800) (hm : m ≤ 1000000) (hnd : ∀ j ∈ P.J, 0 ≤ j.bG ∧ j.bG ≤ 18446744073709551615) (hn : -9223372036854775808 ≤ R.ag.node ∧ R.ag.node ≤ 9223372036854775807) (by' : Int) (hby : -64 ≤ by' ∧ by' ≤ 64) (F : Int → Int)
  (hF : ∀ u, P.now ≤ u → F u = P.f u + had (max (gH P R.ag.node) P.now) 1152921504606846976 by' u) (hr : ∀ u, P.now ≤ u → 0 ≤ F u ∧ F u ≤ 64) (hs : gH P R.ag.node < 1152921504606846976) :
  Calls Tryz.prog 142 #[.pointer (some ⟨b, 0, none⟩), .pointer (some ⟨c, 0, none⟩), .int .i64 0, .int .i64 by'] w (au w b c t d p v g (a + 2) (m + 1) .nilFunc { R with rep := ⟨0, R.ag.node, oq P.T R.ag.node, 0, 0, 0, 0, 0, 0⟩ } { P with f := F }) := by
 have hS := Lib.hid h
 have q7 := h.wk.at 7 (.int .i64 R.ag.node) rfl
 have hsi := fun (W : World) (hW : CW W c t d p v g a m P) => K3 hW hk hnd R.ag.node hn
 generalize hsx : gH P R.ag.node = sx at *
 generalize hnx : R.ag.node = nx at *
 replace hsx := Lib.hid hsx
 replace hnx := Lib.hid hnx
 clear h
 go_enter Tryz.func142, Tryz.ntmps142
 go_wp2_with fail
 refine Reg2.rd w 8 40 [[],[ae],[ae,ae],[ae,ae,ae],[af,af,af,af],[af,af,af,af,af],[af,af,af,af,ae,ae],[af,af,af,af,af,af,af]] [0, 0, 0, 1, 0, 0, 1, 0] [.pure, .pure, .pure, .mU (.pointer (some ⟨p, 0, none⟩)), .pure, .pure, .mU (.int .i64 sx), .pure] (by kernel_rfl) (by kernel_rfl) rfl rfl ⟨trivial, trivial, trivial, Reg2.tt, trivial, trivial, Reg2.tt, trivial, trivial⟩ ⟨rfl, rfl, rfl, Nat.le_refl _, fun _ _ => rfl⟩ ?_
 dsimp only [Reg2.mk, List.zip, List.zipWith, List.take]
 repeat (refine' Reg2.ai _ (by rfl) (fun wz => ?_) ?_; rotate_left; (go_simp; first | rfl | rw [if_neg (by omega)]); simp only [Act.put, xA, xB, xC]; (try simp only [xD]); (try simp only [xE]); (try simp only [id]))
 refine Reg2.pm (fun wz hI hF => ?_) (fun r3 => ?_) (by rfl)
 ·have c0 := (hS.out.cw.kept hI).c2
  go_wp2_with fail
  first | exact ⟨_, rfl, rfl, Reg2.Ext.refl _⟩ | exact ⟨_, rfl, ⟨(), rfl, trivial⟩, Reg2.Ext.refl _⟩
 simp only [Act.put, xA, xB, xC]; (try simp only [xD]); (try simp only [xE]); (try simp only [id])
 repeat (refine' Reg2.ai _ (by rfl) (fun wz => ?_) ?_; rotate_left; (go_simp; first | rfl | rw [if_neg (by omega)]); simp only [Act.put, xA, xB, xC]; (try simp only [xD]); (try simp only [xE]); (try simp only [id]))
 refine Reg2.pm (fun wz hI hF => ?_) (fun r6 => ?_) (by rfl)
 ·go_wp2_with (go_at_call 172; go_must (refine (hsi wz (hS.out.kept hI).cw).mono ?_); rintro e w' ⟨rfl, hb5⟩)
  first | exact ⟨_, rfl, ⟨(), rfl, trivial⟩, hb5⟩ | exact ⟨_, rfl, rfl, hb5⟩
 simp only [Act.put, xA, xB, xC]; (try simp only [xD]); (try simp only [xE]); (try simp only [id])
 repeat (refine' Reg2.ai _ (by rfl) (fun wz => ?_) ?_; rotate_left; (go_simp; first | rfl | rw [if_neg (by omega)]); simp only [Act.put, xA, xB, xC]; (try simp only [xD]); (try simp only [xE]); (try simp only [id]))
 refine Reg2.aA ?_
 intro w4 HI4 _ dU
 clear dU
 dsimp only [List.drop]
 have bD := hS.out.kept HI4
 have hadd := Jw bD.cw hk ha hm sx 1152921504606846976 by' F hs (by omega) hby hF hr
 go_wp2_with fail
 go_at_call 170
 refine hadd.mono ?_
 clear hadd
 rintro e w5 ⟨rfl, v5, g5, fV, hS5⟩
 have Sv := bD.core fV hS5
 have AJ := (WS.of_below HI4 : WS w w4 b c t d p v g v g).trans (WS.bZ hS5)
 have hst := uk nx hn fV.nodes hk.p9
 rw [show ({ P with f := F } : Pg).T = P.T from rfl] at hst
 have c1 := fV.c1
 go_wp2_with fail
 go_at_call 46
 refine hst.mono ?_
 clear hst c1
 rintro e w6 ⟨rfl, mm, uX⟩
 have hb6 : Below w5.heap.size w5 w6 := by rw [uX]; exact below_drewN (Below.refl _ _) _
 have dM := Sv.kept hb6
 have rE := AJ.trans (WS.of_below hb6)
 obtain ⟨w7, hw7, wH, NV⟩ := NU dM.wk 0 nx (oq P.T nx) 0 0 0 0 0 0
 have a24 := dM.wk.at 24 (.int .i64 R.rep.err) rfl
 have f24 := dM.wk.free 24
 have a25 := dM.wk.at 25 (.int .i64 R.rep.id) rfl
 have f25 := dM.wk.free 25
 have a26 := dM.wk.at 26 (.int .i64 R.rep.state) rfl
 have f26 := dM.wk.free 26
 have a27 := dM.wk.at 27 (.int .i64 R.rep.start) rfl
 have f27 := dM.wk.free 27
 have a28 := dM.wk.at 28 (.int .i64 R.rep.stop) rfl
 have f28 := dM.wk.free 28
 have a29 := dM.wk.at 29 (.int .i64 R.rep.plan) rfl
 have f29 := dM.wk.free 29
 have a30 := dM.wk.at 30 (.int .i64 R.rep.a) rfl
 have f30 := dM.wk.free 30
 have a31 := dM.wk.at 31 (.int .i64 R.rep.b) rfl
 have f31 := dM.wk.free 31
 have a32 := dM.wk.at 32 (.int .i64 R.rep.c) rfl
 have f32 := dM.wk.free 32
 have fQ := dM.work wH NV
 have Ir := rE.trans (WS.bu NV)
 replace uX := Lib.hid uX
 go_wp2_with fail
 rw [← hw7]
 go_ret
 have en := hnx.out
 subst en
 exact ⟨rfl, v5, g5, fQ, Ir⟩
end
end Go.Proofs.YtkhfejihijdipaaGreat

namespace Go.Proofs.YtkhfejihijdipaaGreat
open Go.RowKit Go.Lib Go.Sort
def Early (M : Md) : Prop := ∀ j ∈ M.L, j.st ≤ 2 → j.fin = -1
theorem foldl_min (l : List Int) : ∀ x : Int, (l.foldl min x = x ∨ l.foldl min x ∈ l) ∧ l.foldl min x ≤ x ∧ ∀ z ∈ l, l.foldl min x ≤ z := by
 induction l with
 | nil => exact fun x => ⟨.inl rfl, Int.le_refl _, fun z hz => nomatch hz⟩
 | cons a l ih =>
  intro x
  obtain ⟨h1, h2, h3⟩ := ih (min x a)
  refine ⟨?_, by show l.foldl min (min x a) ≤ x; omega, fun z hz => ?_⟩
  ·show l.foldl min (min x a) = x ∨ l.foldl min (min x a) ∈ a :: l
   rcases h1 with h1 | h1
   ·rw [h1]
    rcases Int.le_total x a with h | h
    ·exact .inl (Int.min_eq_left h)
    ·exact .inr (by rw [Int.min_eq_right h]; exact List.mem_cons_self ..)
   ·exact .inr (List.mem_cons_of_mem _ h1)
  ·show l.foldl min (min x a) ≤ z
   rcases List.mem_cons.1 hz with rfl | hz
   ·omega
   ·exact h3 z hz
theorem zT (l : List Int) : jT l = 1152921504606846976 ∨ jT l ∈ l := (foldl_min l _).1
theorem Iu {l : List Int} {z : Int} (h : z ∈ l) : jT l ≤ z := (foldl_min l _).2.2 z h
section
variable {M : Md}
theorem FT (hI : aC M) (hE : Early M) : jT (qf M.now (M.L.filter fun j : Jb => decide (j.state ∈ [(1 : Int), 3]))) = if aP M < 0 then 1152921504606846976 else aP M := by
 have h0 := hI.mb.now
 have hL := pO (M := M) h0.1
 have key : ∀ t, t ∈ qf M.now (M.L.filter fun j : Jb => decide (j.state ∈ [(1 : Int), 3])) ↔ (t ∈ M.L.flatMap uR ∧ M.now < t) := by
  intro t
  unfold qf
  simp only [List.mem_flatMap]
  constructor
  ·rintro ⟨j, hj, ht⟩
   obtain ⟨hjm, hjs⟩ := List.mem_filter.1 hj
   unfold Im at ht
   obtain ⟨ht1, ht2⟩ := List.mem_filter.1 ht
   have ht2 : M.now < t := of_decide_eq_true ht2
   refine ⟨⟨j, hjm, ?_⟩, ht2⟩
   have hs : j.st = 1 ∨ j.st = 3 := by
    have : j.state = 1 ∨ j.state = 3 := by simpa using hjs
    exact this
   have ht3 : t = j.fin ∨ t = j.aJ := by simpa using ht1
   unfold uR
   rcases hs with hs | hs
   ·have he := hE j hjm (by omega)
    have htp : t = j.aJ := by rcases ht3 with h | h <;> omega
    have hpl : ak j = true := aY.2 ⟨hs, by omega⟩
    rw [hpl]
    simp [htp]
   ·have hr := hI.rest j hjm (by omega)
    have htp : t = j.fin := by rcases ht3 with h | h <;> omega
    simp [hs, htp]
  ·rintro ⟨⟨j, hjm, ht⟩, ht2⟩
   unfold uR at ht
   rcases List.mem_append.1 ht with h | h
   ·by_cases hs : j.st = 3
    ·rw [if_pos hs] at h
     refine ⟨j, List.mem_filter.2 ⟨hjm, ?_⟩, ?_⟩
     ·have : j.state = 3 := hs
      simp [this]
     ·unfold Im
      rw [List.mem_singleton.1 h] at ht2 ⊢
      exact List.mem_filter.2 ⟨by simp, decide_eq_true ht2⟩
    ·rw [if_neg hs] at h; cases h
   ·by_cases hs : ak j = true
    ·rw [if_pos hs] at h
     refine ⟨j, List.mem_filter.2 ⟨hjm, ?_⟩, ?_⟩
     ·have : j.state = 1 := (aY.1 hs).1
      simp [this]
     ·unfold Im
      rw [List.mem_singleton.1 h] at ht2 ⊢
      exact List.mem_filter.2 ⟨by simp, decide_eq_true ht2⟩
    ·rw [if_neg hs] at h; cases h
 have hbig : ∀ t ∈ M.L.flatMap uR, t ≤ 1099512676352 := by
  intro t ht
  obtain ⟨j, hjm, ht⟩ := List.mem_flatMap.1 ht
  have h1 := hI.mb.fin j hjm
  have h2 := hI.mb.aJ j hjm
  unfold uR at ht
  rcases List.mem_append.1 ht with h | h
  ·split at h
   ·rw [List.mem_singleton.1 h]; omega
   ·cases h
  ·split at h
   ·rw [List.mem_singleton.1 h]; omega
   ·cases h
 rcases hL with ⟨h1, h2⟩ | ⟨h1, h2, h3, h4⟩
 ·rw [if_pos h1]
  rcases zT (qf M.now (M.L.filter fun j : Jb => decide (j.state ∈ [(1 : Int), 3]))) with h | h
  ·exact h
  ·have := (key _).1 h
   have := h2 _ this.1
   omega
 ·rw [if_neg (by omega)]
  have h5 := Iu ((key _).2 ⟨h3, h2⟩)
  have h6 := hbig _ h3
  rcases zT (qf M.now (M.L.filter fun j : Jb => decide (j.state ∈ [(1 : Int), 3]))) with h | h
  ·omega
  ·have h7 := (key _).1 h
   have := h4 _ h7.1 h7.2
   omega
end
section
variable {w : World} {b c t d p g a : Nat} {v : Value} {m : Int} {P : Pg} {M : Md} {R : Wk}
theorem K4 (h : CW w c t d p v g a m P) (ha : a ≤ 1000) : Calls Tryz.prog 133 #[.pointer (some ⟨p, 0, none⟩), .int .i64 P.now] w fun e w' => e = .returned (.int .i64 (P.f P.now)) ∧ Below w.heap.size w w' := by
 obtain ⟨S, aG, hp, hC, hl, _⟩ := h.kQ
 obtain ⟨i, hi⟩ := hC.sm.ix P.now
 rw [hi.val hC.sm (Int.le_refl _)]
 exact Kw P.now hi hC.sm (by omega) hp
theorem BQ (h : SW w b c t d p v g a m R P) (ha : a ≤ 1000) : Calls Tryz.prog 116 #[.pointer (some ⟨b, 0, none⟩), .pointer (some ⟨c, 0, none⟩)] w (au w b c t d p v g a m (.tuple #[]) { R with rep := ⟨0, 0, 0, P.now, 0, 0, P.f P.now, 0, 0⟩ } P) := by
 have hS := Lib.hid h
 have hfr := fun (W : World) (hW : SW W b c t d p v g a m R P) => K4 hW.cw ha
 obtain ⟨fn, hfn⟩ : ∃ fn, fn = P.f P.now := ⟨_, rfl⟩
 rw [← hfn] at hfr ⊢
 replace hfn := Lib.hid hfn
 clear h
 go_enter Tryz.func116, Tryz.ntmps116
 go_wp2_with fail
 refine Reg2.rd w 17 23 [[],[af],[af,ae],[af,ae,ae],[af,ae,ae,ae],[af,ae,ae,ae,ae],[af,af,af,af,af,af],[af,af,af,af,af,af,ae],[af,af,af,af,af,af,ae,ae],[af,af,af,af,af,af,ae,ae,ae],[af,af,af,af,af,af,af,af,af,af],[af,af,af,af,af,af,af,af,af,af,ae],[af,af,af,af,af,af,af,af,af,af,ae,ae],[af,af,af,af,af,af,af,af,af,af,ae,ae,ae],[af,ae,ae,ae,ae,ae,af,af,af,af,ae,ae,ae,ae],[af,ae,ae,ae,ae,ae,ae,ae,ae,ae,ae,ae,ae,ae,ae],[af,ae,ae,ae,ae,ae,ae,ae,ae,ae,ae,ae,ae,ae,ae,ae]] [0, 0, 0, 0, 1, 1, 0, 0, 0, 1, 0, 0, 0, 1, 1, 1, 0] [.pure, .pure, .pure, .pure, .mU (.pointer (some ⟨p, 0, none⟩)), .mU (.int .i64 P.now), .pure, .pure, .pure, .mU (.pointer (some ⟨p, 0, none⟩)), .pure, .pure, .pure, .mU (.pointer (some ⟨p, 0, none⟩)), .mU (.int .i64 P.now), .mU (.int .i64 fn), .pure] (by kernel_rfl) (by kernel_rfl) rfl rfl ⟨trivial, trivial, trivial, trivial, Reg2.tt, Reg2.tt, trivial, trivial, trivial, Reg2.tt, trivial, trivial, trivial, Reg2.tt, Reg2.tt, Reg2.tt, trivial, trivial⟩ ⟨rfl, rfl, rfl, Nat.le_refl _, fun _ _ => rfl⟩ ?_
 dsimp only [Reg2.mk, List.zip, List.zipWith, List.take]
 repeat (refine' Reg2.ai _ (by rfl) (fun wz => ?_) ?_; rotate_left; (go_simp; first | rfl | rw [if_neg (by omega)]); simp only [Act.put, xA, xB, xC]; (try simp only [xD]); (try simp only [xE]); (try simp only [id]))
 refine Reg2.pm (fun wz hI hF => ?_) (fun r4 => ?_) (by rfl)
 ·have c0 := (hS.out.cw.kept hI).c2
  go_wp2_with fail
  first | exact ⟨_, rfl, rfl, Reg2.Ext.refl _⟩ | exact ⟨_, rfl, ⟨(), rfl, trivial⟩, Reg2.Ext.refl _⟩
 simp only [Act.put, xA, xB, xC]; (try simp only [xD]); (try simp only [xE]); (try simp only [id])
 refine Reg2.pm (fun wz hI hF => ?_) (fun r5 => ?_) (by rfl)
 ·go_wp2_with (go_at_call 43; go_must (refine (fO (hS.out.kept hI).cw).mono ?_); rintro e w' ⟨rfl, rfl⟩)
  first | exact ⟨_, rfl, rfl, Reg2.Ext.refl _⟩ | exact ⟨_, rfl, ⟨(), rfl, trivial⟩, Reg2.Ext.refl _⟩
 simp only [Act.put, xA, xB, xC]; (try simp only [xD]); (try simp only [xE]); (try simp only [id])
 repeat (refine' Reg2.ai _ (by rfl) (fun wz => ?_) ?_; rotate_left; (go_simp; first | rfl | rw [if_neg (by omega)]); simp only [Act.put, xA, xB, xC]; (try simp only [xD]); (try simp only [xE]); (try simp only [id]))
 refine Reg2.pm (fun wz hI hF => ?_) (fun r9 => ?_) (by rfl)
 ·have c0 := (hS.out.cw.kept hI).c2
  go_wp2_with fail
  first | exact ⟨_, rfl, rfl, Reg2.Ext.refl _⟩ | exact ⟨_, rfl, ⟨(), rfl, trivial⟩, Reg2.Ext.refl _⟩
 simp only [Act.put, xA, xB, xC]; (try simp only [xD]); (try simp only [xE]); (try simp only [id])
 repeat (refine' Reg2.ai _ (by rfl) (fun wz => ?_) ?_; rotate_left; (go_simp; first | rfl | rw [if_neg (by omega)]); simp only [Act.put, xA, xB, xC]; (try simp only [xD]); (try simp only [xE]); (try simp only [id]))
 refine Reg2.pm (fun wz hI hF => ?_) (fun FK => ?_) (by rfl)
 ·have c0 := (hS.out.cw.kept hI).c2
  go_wp2_with fail
  first | exact ⟨_, rfl, rfl, Reg2.Ext.refl _⟩ | exact ⟨_, rfl, ⟨(), rfl, trivial⟩, Reg2.Ext.refl _⟩
 simp only [Act.put, xA, xB, xC]; (try simp only [xD]); (try simp only [xE]); (try simp only [id])
 refine Reg2.pm (fun wz hI hF => ?_) (fun Ig => ?_) (by rfl)
 ·go_wp2_with (go_at_call 43; go_must (refine (fO (hS.out.kept hI).cw).mono ?_); rintro e w' ⟨rfl, rfl⟩)
  first | exact ⟨_, rfl, rfl, Reg2.Ext.refl _⟩ | exact ⟨_, rfl, ⟨(), rfl, trivial⟩, Reg2.Ext.refl _⟩
 simp only [Act.put, xA, xB, xC]; (try simp only [xD]); (try simp only [xE]); (try simp only [id])
 refine Reg2.pm (fun wz hI hF => ?_) (fun Sw => ?_) (by rfl)
 ·go_wp2_with (go_at_call 133; go_must (refine (hfr wz (hS.out.kept hI)).mono ?_); rintro e w' ⟨rfl, hb5⟩)
  first | exact ⟨_, rfl, ⟨(), rfl, trivial⟩, hb5⟩ | exact ⟨_, rfl, rfl, hb5⟩
 simp only [Act.put, xA, xB, xC]; (try simp only [xD]); (try simp only [xE]); (try simp only [id])
 repeat (refine' Reg2.ai _ (by rfl) (fun wz => ?_) ?_; rotate_left; (go_simp; first | rfl | rw [if_neg (by omega)]); simp only [Act.put, xA, xB, xC]; (try simp only [xD]); (try simp only [xE]); (try simp only [id]))
 refine Reg2.aA ?_
 intro w4 HI4 _ dU
 clear dU
 dsimp only [List.drop]
 have bD := hS.out.kept HI4
 obtain ⟨w7, hw7, wH, NV⟩ := NU bD.wk 0 0 0 P.now 0 0 fn 0 0
 have a24 := bD.wk.at 24 (.int .i64 R.rep.err) rfl
 have f24 := bD.wk.free 24
 have a25 := bD.wk.at 25 (.int .i64 R.rep.id) rfl
 have f25 := bD.wk.free 25
 have a26 := bD.wk.at 26 (.int .i64 R.rep.state) rfl
 have f26 := bD.wk.free 26
 have a27 := bD.wk.at 27 (.int .i64 R.rep.start) rfl
 have f27 := bD.wk.free 27
 have a28 := bD.wk.at 28 (.int .i64 R.rep.stop) rfl
 have f28 := bD.wk.free 28
 have a29 := bD.wk.at 29 (.int .i64 R.rep.plan) rfl
 have f29 := bD.wk.free 29
 have a30 := bD.wk.at 30 (.int .i64 R.rep.a) rfl
 have f30 := bD.wk.free 30
 have a31 := bD.wk.at 31 (.int .i64 R.rep.b) rfl
 have f31 := bD.wk.free 31
 have a32 := bD.wk.at 32 (.int .i64 R.rep.c) rfl
 have f32 := bD.wk.free 32
 have fQ := bD.work wH NV
 have Ir := (WS.of_below HI4 : WS w w4 b c t d p v g v g).trans (WS.bu NV)
 go_wp2_with fail
 rw [← hw7]
 go_end0
 exact ⟨rfl, v, g, fQ, Ir⟩
theorem sW (h : SW w b c t d p v g a m R (aj M)) (hI : aC M) (hE : Early M) (h1 : 1 ≤ M.dr.length) (hll : M.L.length ≤ 900) (ha : a ≤ 800) (hm : m ≤ 1000000) (hnx : aP M < 0 ∨ R.target < aP M) (qK : M.now ≤ R.target ∧ R.target ≤ 1099511627776) :
  Calls Tryz.prog 145 #[.pointer (some ⟨b, 0, none⟩), .pointer (some ⟨c, 0, none⟩)] w (au w b c t d p v g a (m + 1) .nilFunc { R with rep := ⟨0, 0, 0, R.target, 0, 0, ax M R.target 0, 0, 0⟩ } (aj { M with now := R.target })) := by
 have qC := ed hI h1 hll
 have hne := BM h.cw qC (fun j hj => hI.mb.fin j hj) (fun j hj => hI.mb.aJ j hj)
 rw [show (aj M).now = M.now from rfl, show (aj M).J = M.L from rfl, FT hI hE] at hne
 obtain ⟨x, hx⟩ : ∃ x, x = if aP M < 0 then 1152921504606846976 else aP M := ⟨_, rfl⟩
 rw [← hx] at hne
 have hgt : R.target < x := by rw [hx]; split <;> omega
 have d1 : decide (x > R.target) = true := decide_eq_true hgt
 replace hx := Lib.hid hx
 replace hgt := Lib.hid hgt
 have Jy := fun (W : World) (hW : SW W b c t d p v g a m R (aj M)) => xy hW.cw qC ha hm R.target qK.1 qK.2
 have Iw := fun (W : World) (hW : SW W b c t d p v g a m R (aj M)) => hW.wk.at 23 (.int .i64 R.target) rfl
 generalize hrt : R.target = rt at *
 have hS := Lib.hid h
 clear h
 go_enter Tryz.func145, Tryz.ntmps145
 go_wp2_with fail
 go_at_call 175
 refine hne.mono ?_
 clear hne
 rintro e w1 ⟨rfl, hb1⟩
 have hS1 := Lib.hid (hS.out.kept hb1)
 have q1 := Iw w1 hS1.out
 replace Iw := Lib.hid Iw
 replace hrt := Lib.hid hrt
 go_wp2_with fail
 refine Reg2.rd w1 8 44 [[],[ae],[ae,ae],[ae,ae,ae],[af,af,af,af],[af,af,af,af,ae],[af,af,af,af,ae,ae],[af,af,af,af,ae,ae,ae]] [0, 0, 0, 1, 0, 0, 0, 1] [.pure, .pure, .pure, .mU (.pointer (some ⟨p, 0, none⟩)), .pure, .pure, .pure, .mU (.int .i64 rt)] (by kernel_rfl) (by kernel_rfl) rfl rfl ⟨trivial, trivial, trivial, Reg2.tt, trivial, trivial, trivial, Reg2.tt, trivial⟩ ⟨rfl, rfl, rfl, Nat.le_refl _, fun _ _ => rfl⟩ ?_
 dsimp only [Reg2.mk, List.zip, List.zipWith, List.take]
 repeat (refine' Reg2.ai _ (by rfl) (fun wz => ?_) ?_; rotate_left; (go_simp; first | rfl | rw [if_neg (by omega)]); simp only [Act.put, xA, xB, xC]; (try simp only [xD]); (try simp only [xE]); (try simp only [id]))
 refine Reg2.pm (fun wz hI hF => ?_) (fun r3 => ?_) (by rfl)
 ·have c0 := (hS1.out.cw.kept hI).c2
  go_wp2_with fail
  first | exact ⟨_, rfl, rfl, Reg2.Ext.refl _⟩ | exact ⟨_, rfl, ⟨(), rfl, trivial⟩, Reg2.Ext.refl _⟩
 simp only [Act.put, xA, xB, xC]; (try simp only [xD]); (try simp only [xE]); (try simp only [id])
 repeat (refine' Reg2.ai _ (by rfl) (fun wz => ?_) ?_; rotate_left; (go_simp; first | rfl | rw [if_neg (by omega)]); simp only [Act.put, xA, xB, xC]; (try simp only [xD]); (try simp only [xE]); (try simp only [id]))
 refine Reg2.pm (fun wz hI hF => ?_) (fun r7 => ?_) (by rfl)
 ·have q0 := Iw.out wz (hS1.out.kept hI)
  go_wp2_with fail
  first | exact ⟨_, rfl, rfl, Reg2.Ext.refl _⟩ | exact ⟨_, rfl, ⟨(), rfl, trivial⟩, Reg2.Ext.refl _⟩
 simp only [Act.put, xA, xB, xC]; (try simp only [xD]); (try simp only [xE]); (try simp only [id])
 refine Reg2.aA ?_
 intro w4 HI4 _ dU
 clear dU
 dsimp only [List.drop]
 have bD := hS1.out.kept HI4
 have Sy := Jy w4 bD
 go_wp2_with fail
 go_at_call 176
 refine Sy.mono ?_
 clear Sy
 rintro e w5 ⟨rfl, v5, g5, fV, hS5⟩
 have NW := bD.core fV hS5
 have AJ := (WS.of_below (hb1.trans (HI4.mono hb1.size)) : WS w w4 b c t d p v g v g).trans (WS.bZ hS5)
 have hck := BQ NW (by omega)
 rw [show ({ aj M with now := rt } : Pg).f = fun u => ax M u 0 from rfl, show ({ aj M with now := rt } : Pg).now = rt from rfl] at hck
 go_wp2_with fail
 go_at_call 116
 refine hck.mono ?_
 clear hck
 rintro e w6 ⟨rfl, v6, g6, dM, QM⟩
 have rE := AJ.trans QM
 go_wp2_with fail
 go_ret
 have er := hrt.out
 clear hrt
 subst er
 exact ⟨rfl, v6, g6, dM, rE⟩
theorem xK (h : SW w b c t d p v g a m R (aj M)) (hI : aC M) (TM : Calm M) (hE : Early M) (h1 : 1 ≤ M.dr.length) (hll : M.L.length ≤ 900) (ha : a ≤ 800) (hm : m ≤ 1000000) (hnx : 0 ≤ aP M ∧ aP M ≤ R.target) (qK : R.target ≤ 1099511627776) :
  Calls Tryz.prog 145 #[.pointer (some ⟨b, 0, none⟩), .pointer (some ⟨c, 0, none⟩)] w (au w b c t d p v g a (m + 1) (eH 145) R (aj (dw { M with now := aP M }))) := by
 have qC := ed hI h1 hll
 have hne := BM h.cw qC (fun j hj => hI.mb.fin j hj) (fun j hj => hI.mb.aJ j hj)
 rw [show (aj M).now = M.now from rfl, show (aj M).J = M.L from rfl, FT hI hE, if_neg (by omega)] at hne
 obtain ⟨hlt, Pk, _⟩ := hI.step TM hnx.1 (by omega)
 have hf0 : ∀ u, aP M ≤ u → 0 ≤ ax M u 0 ∧ ax M u 0 ≤ 64 := fun u hu => uo hI u (by omega)
 have hov := Pk.over
 have Jy := fun (W : World) (hW : SW W b c t d p v g a m R (aj M)) => xy hW.cw qC ha hm (aP M) (by show M.now ≤ _; omega) (by omega)
 have NY := fun (W : World) (v1 : Value) (g1 : Nat) (hW : CW W c t d p v1 g1 a (m + 1) { aj ({ M with now := aP M } : Md) with f := fun u => ax M u 0 }) => Ik (M := { M with now := aP M }) (fun u => ax M u 0) hW Pk h1 hll hf0
 have vB := fun (W : World) (v1 : Value) (g1 : Nat) (hW : CW W c t d p v1 g1 a (m + 1) { aj ({ ({ M with now := aP M } : Md) with L := M.L.map (aQ (aP M)) } : Md) with f := fun u => ax M u 0 }) => KU (M := { ({ M with now := aP M } : Md) with L := M.L.map (aQ (aP M)) }) (fun u => ax M u 0) hW hov.1 hov.2 M.L.length (by
  have := kU (fun j => if bY (aP M) j = true then (1 : Int) else 0) 1 (M.L.map (aQ (aP M))) (fun j _ => by split <;> omega)
  rw [List.length_map] at this
  have e : kN ({ ({ M with now := aP M } : Md) with L := M.L.map (aQ (aP M)) } : Md) = ((M.L.map (aQ (aP M))).map fun j => if bY (aP M) j = true then (1 : Int) else 0).sum := rfl
  rw [e]; omega) h1 (by rw [List.length_map]; exact hll) hf0
 have NZ : startGo M.L.length ({ ({ M with now := aP M } : Md) with L := M.L.map (aQ (aP M)) } : Md) = dw { M with now := aP M } := rfl
 rw [NZ] at vB
 rw [show ({ M with now := aP M } : Md).now = aP M from rfl, show ({ M with now := aP M } : Md).L = M.L from rfl] at NY
 rw [show ({ ({ M with now := aP M } : Md) with L := M.L.map (aQ (aP M)) } : Md).now = aP M from rfl] at vB
 have hfin : Hid (∀ {W : World} {v1 : Value} {g1 : Nat}, CW W c t d p v1 g1 a (m + 1) { aj (dw { M with now := aP M }) with f := fun u => ax M u 0 } → CW W c t d p v1 g1 a (m + 1) (aj (dw { M with now := aP M }))) := fun {W v1 g1} hW => by
  have jG : (dw { M with now := aP M }).now = aP M := by rw [← NZ]; exact (sQ M.L.length hov.1.mb).2.2.1
  exact hW.QJ (fun u => ax (dw { M with now := aP M }) u 0) fun u hu => (Ah Pk u (by
   have hu2 : (dw { M with now := aP M }).now ≤ u := hu
   rw [jG] at hu2; exact hu2)).symm
 obtain ⟨H, hH⟩ : ∃ H, H = dw { M with now := aP M } := ⟨_, rfl⟩
 rw [← hH] at vB hfin ⊢
 have d1 : decide (aP M > R.target) = false := decide_eq_false (by omega)
 replace hH := Lib.hid hH
 generalize KE : aP M = x at *
 replace KE := Lib.hid KE
 have Iw := fun (W : World) (hW : SW W b c t d p v g a m R (aj M)) => hW.wk.at 23 (.int .i64 R.target) rfl
 generalize R.target = rt at *
 have hS := Lib.hid h
 clear h hov Pk NZ
 go_enter Tryz.func145, Tryz.ntmps145
 go_wp2_with fail
 go_at_call 175
 refine hne.mono ?_
 clear hne
 rintro e w1 ⟨rfl, hb1⟩
 have hS1 := hS.out.kept hb1
 have q1 := Iw w1 hS1
 have c2 := hS1.cw.c2
 have ha1 := Jy w1 hS1
 clear Iw Jy
 go_wp2_with fail
 go_at_call 176
 refine ha1.mono ?_
 clear ha1
 rintro e w5 ⟨rfl, v5, g5, fV, hS5⟩
 have NW := hS1.core fV hS5
 have AJ := (WS.of_below hb1 : WS w w1 b c t d p v g v g).trans (WS.bZ hS5)
 have Sz := NY w5 v5 g5 fV
 clear NY q1 c2
 go_wp2_with fail
 go_at_call 177
 refine Sz.mono ?_
 clear Sz
 rintro e w6 ⟨rfl, v6, g6, Fx, dM⟩
 have SA := NW.core Fx dM
 have rE := AJ.trans (WS.bZ dM)
 have hs6 := vB w6 v6 g6 Fx
 clear vB
 go_wp2_with fail
 go_at_call 178
 refine hs6.mono ?_
 clear hs6
 rintro e w7 ⟨rfl, v7, g7, xY, fQ⟩
 have SB := SA.core (hfin.out xY) fQ
 have Ir := rE.trans (WS.bZ fQ)
 go_wp2_with fail
 go_ret
 exact ⟨rfl, v7, g7, SB, Ir⟩
end
end Go.Proofs.YtkhfejihijdipaaGreat

namespace Go.Proofs.YtkhfejihijdipaaGreat
open Go.RowKit Go.Lib
section
variable {M : Md}
def l8 (j : Jb) (x : Int) : Int := if ak j = true then min (x + j.lim) j.aJ else x + j.lim
theorem N7 {id : Int} (h : fU M.L id ≠ 0) : (getM M id).2 = false := by
 unfold fU at h
 unfold getM
 by_cases h1 : id < 1
 ·rw [if_pos (.inl h1)]
 ·rw [if_neg h1] at h
  by_cases h2 : (M.L.length : Int) < id
  ·rw [if_pos (.inr h2)]
  ·rw [if_neg h2] at h; exact absurd rfl h
theorem sF {id : Int} (h : fU M.L id = 0) : ∃ i : Nat, i < M.L.length ∧ id = (i : Int) + 1 ∧ bF M.L id = M.L.getD i default ∧ getM M id = (M.L.getD i default, true) := by
 unfold fU at h
 by_cases h1 : id < 1
 ·rw [if_pos h1] at h; cases h
 ·rw [if_neg h1] at h
  by_cases h2 : (M.L.length : Int) < id
  ·rw [if_pos h2] at h; cases h
  ·refine ⟨(id - 1).toNat, by omega, by omega, ?_, ?_⟩
   ·unfold bF
    have hq : (id - 1).toNat < M.L.length := by omega
    rw [if_neg h1, if_neg h2, getElem!_pos M.L _ hq]
    generalize (id - 1).toNat = q at *
    simp [List.getD, hq]
   ·unfold getM
    rw [if_neg (by omega)]
theorem N8 (h : M.cl = true) (id x : Int) : eQ M id x = false := by unfold eQ; rw [if_pos (.inl h)]
theorem K5 {id x : Int} (h : x < M.now) : eQ M id x = false := by unfold eQ; rw [if_pos (.inr (.inr (.inr (.inl h))))]
theorem Iy {id x : Int} (h : 1099511627776 < x) : eQ M id x = false := by unfold eQ; rw [if_pos (.inr (.inr (.inr (.inr (.inl h)))))]
theorem Iz {id x : Int} (h : fU M.L id ≠ 0) : eQ M id x = false := by unfold eQ; rw [if_pos (.inr (.inl (N7 h)))]
theorem FU {id x : Int} (h : fU M.L id = 0) (hs : (bF M.L id).st ≠ 1) : eQ M id x = false := by
 obtain ⟨i, _, _, h3, h4⟩ := sF h
 unfold eQ
 rw [if_pos]
 exact .inr (.inr (.inl (by rw [h4, ← h3]; exact hs)))
theorem IA {id x : Int} (h : fU M.L id = 0) (hp : ak (bF M.L id) = true) (hl : (bF M.L id).aJ ≤ x) : eQ M id x = false := by
 obtain ⟨i, _, _, h3, h4⟩ := sF h
 unfold eQ
 rw [if_pos]
 exact .inr (.inr (.inr (.inr (.inr (by rw [h4, ← h3]; exact ⟨(aY.1 hp).2, hl⟩)))))
theorem Pm {x long width but : Int} (hx : 1 ≤ long) (h : ∀ t, x ≤ t → t < x + long → width ≤ ax M t but) : vH M x long width but = true := by
 unfold vH
 rw [Bool.and_eq_true, List.all_eq_true]
 refine ⟨decide_eq_true (h x (Int.le_refl _) (by omega)), fun t _ => ?_⟩
 rw [Bool.not_eq_true', Bool.and_eq_false_iff, Bool.and_eq_false_iff]
 by_cases h1 : x < t
 ·by_cases h2 : t < x + long
  ·refine .inr (decide_eq_false ?_)
   have := h t (by omega) h2
   omega
  ·exact .inl (.inr (decide_eq_false h2))
 ·exact .inl (.inl (decide_eq_false h1))
theorem IB (hI : aC M) {id x m : Int} (hcl : M.cl = false) (h1 : M.now ≤ x) (h2 : x ≤ 1099511627776) (h : fU M.L id = 0) (hs : (bF M.L id).st = 1) (hl : ak (bF M.L id) = true → x < (bF M.L id).aJ)
  (hm : BL (fun u => ax M u 0) x (l8 (bF M.L id) x) m) : eQ M id x = decide ((bF M.L id).wid ≤ m) := by
 obtain ⟨i, hi, hid, h3, h4⟩ := sF h
 have hmem := aV hi
 rw [h3] at hs hl hm ⊢
 have hone := hI.one _ hmem
 have SE := hI.ids i hi
 have e : eQ M id x = vH M x (M.L.getD i default).lim (M.L.getD i default).wid ((i : Int) + 1) := by
  unfold eQ
  rw [h4]
  show (if M.cl = true ∨ true = false ∨ _ then _ else _) = _
  rw [if_neg, SE]
  have h5 := hs
  rintro (a1 | a1 | a1 | a1 | a1 | a1)
  ·rw [hcl] at a1; cases a1
  ·cases a1
  ·exact a1 hs
  ·omega
  ·omega
  ·have := hl (aY.2 ⟨h5, a1.1⟩)
   have h6 : (M.L.getD i default).aJ ≤ x := a1.2
   omega
 rw [e]
 have wS := kT hi hI.ids
 have hto : x < l8 (M.L.getD i default) x := by
  unfold l8
  split
  ·rename_i hp; have := hl hp; omega
  ·omega
 have LZ := hI.mb.wid _ hmem
 have hcon : ∀ u, x ≤ u → u < x + (M.L.getD i default).lim → (u < l8 (M.L.getD i default) x → dA u 0 (M.L.getD i default) = 0) ∧ (l8 (M.L.getD i default) x ≤ u → dA u 0 (M.L.getD i default) = (M.L.getD i default).wid) := by
  intro u hu1 hu2
  unfold l8
  cases hp : ak (M.L.getD i default) with
  | false =>
   refine ⟨fun _ => dB hp, fun h6 => ?_⟩
   rw [if_neg (by decide)] at h6
   omega
  | true =>
   have h7 := hl hp
   rw [if_pos rfl, kS hp (by omega)]
   refine ⟨fun h6 => if_neg (by omega), fun h6 => if_pos (by omega)⟩
 have hsub : l8 (M.L.getD i default) x ≤ x + (M.L.getD i default).lim := by unfold l8; split <;> omega
 rw [Bool.eq_iff_iff, decide_eq_true_eq]
 constructor
 ·intro hr
  have hall := vL hI.mb.now.1 h1 hr
  rcases hm.one with e1 | ⟨u, u1, u2, u3⟩
  ·omega
  ·have h6 := hall u u1 (by omega)
   rw [wS, (hcon u u1 (by omega)).1 u2] at h6
   have h7 : ax M u 0 = m := u3
   omega
 ·intro hw
  refine Pm (by omega) fun u ht1 ht2 => ?_
  rw [wS]
  rcases Int.lt_or_le u (l8 (M.L.getD i default) x) with h6 | h6
  ·have h7 : m ≤ ax M u 0 := hm.all u ht1 h6
   rw [(hcon u ht1 ht2).1 h6]
   omega
  ·have h7 := hI.free u (by omega)
   rw [(hcon u ht1 ht2).2 h6]
   omega
end
end Go.Proofs.YtkhfejihijdipaaGreat

namespace Go.Proofs.YtkhfejihijdipaaGreat
open Go.RowKit Go.Lib Go.Sort
def gQ (w0 : World) (y : Jb) (vs : List Value) (W : World) : Prop := Below w0.heap.size w0 W ∧ (match vs with
 | [] => True
 | [u] => ∃ k, u = .pointer (some ⟨k, 0, none⟩) ∧ w0.heap.size ≤ k ∧ W.heap[k]? = some (.cells (ah gB).toArray 55 (0, 0))
 | u :: _ :: _ => ∃ k, u = .pointer (some ⟨k, 0, none⟩) ∧ w0.heap.size ≤ k ∧ W.heap[k]? = some (.cells (ah y).toArray 55 (0, 0)))
theorem gQ.ext {w0 a b : World} {y : Jb} {vs : List Value} (h : Below a.heap.size a b) (hs : gQ w0 y vs a) : gQ w0 y vs b := by
 obtain ⟨h1, h2⟩ := hs
 refine ⟨h1.trans (h.mono h1.size), ?_⟩
 match vs, h2 with
 | [], _ => trivial
 | [u], ⟨k, e, hk, hz⟩ => exact ⟨k, e, hk, (h.block k (aB hz)).trans hz⟩
 | u :: _ :: _, ⟨k, e, hk, hz⟩ => exact ⟨k, e, hk, (h.block k (aB hz)).trans hz⟩
theorem gQ.alloc {w0 W : World} {y : Jb} (hs : gQ w0 y [] W) : gQ w0 y ([] ++ [.pointer (some ⟨W.heap.size, 0, none⟩)]) (W.alloc (.cells #[.int .i64 0, .int .i64 0, .int .i64 0, .int .i64 0, .int .i64 0, .int .i64 0, .int .i64 0, .int .i64 0, .int .i64 0, .int .u64 0] 55)) :=
 ⟨hs.1.alloc hs.1.size _, _, rfl, hs.1.size, heap_alloc_new W _⟩
theorem gQ.zero {w0 W : World} {y : Jb} {k : Nat} (hs : gQ w0 y [.pointer (some ⟨k, 0, none⟩)] W) : W.heap[k]? = some (.cells (ah gB).toArray 55 (0, 0)) ∧ w0.heap.size ≤ k := by
 obtain ⟨_, k', e, h1, h2⟩ := hs
 injection e with e
 injection e with e
 injection e with e
 subst e
 exact ⟨h2, h1⟩
theorem gQ.store {w0 W : World} {y : Jb} {k : Nat} (hs : gQ w0 y [.pointer (some ⟨k, 0, none⟩)] W) : gQ w0 y ([.pointer (some ⟨k, 0, none⟩)] ++ [undef]) (W.setRow k (ah y).toArray) := by
 obtain ⟨hz, hk⟩ := hs.zero
 exact ⟨oV hs.1 hk _, k, rfl, hk, u7 hz _⟩
theorem gQ.full {w0 W : World} {y : Jb} {k : Nat} {u : Value} (hs : gQ w0 y [.pointer (some ⟨k, 0, none⟩), u] W) : W.heap[k]? = some (.cells (ah y).toArray 55 (0, 0)) ∧ w0.heap.size ≤ k := by
 obtain ⟨_, k', e, h1, h2⟩ := hs
 injection e with e
 injection e with e
 injection e with e
 subst e
 exact ⟨h2, h1⟩
section
variable {w : World} {b c t d p g a : Nat} {v : Value} {m : Int} {P : Pg} {M : Md} {R : Wk}
theorem IC (h : CW w c t d p v g a m P) (hk : PK P) (ha : a ≤ 1000) (lo hi : Int) (h0 : P.now ≤ lo) (hh : -9223372036854775808 ≤ hi ∧ hi ≤ 9223372036854775807) : Calls Tryz.prog 71 #[.pointer (some ⟨p, 0, none⟩), .int .i64 lo, .int .i64 hi] w fun e w' => ∃ r : Int, e = .returned (.int .i64 r) ∧ BL P.f lo hi r ∧ Below w.heap.size w w' := by
 obtain ⟨S, aG, hp, hC, hl, _⟩ := h.kQ
 have := Ay lo hi hh hC.sm hk.now.1 (by omega) hp
 rwa [Int.max_eq_left h0] at this
theorem DJ (h : CW w c t d p v g a m (aj M)) (hI : aC M) (h1 : 1 ≤ M.dr.length) (hll : M.L.length ≤ 900) (ha : a ≤ 800) (xi xt : Int) (hxt : -9223372036854775808 ≤ xt ∧ xt ≤ 9223372036854775807) (hc : M.cl = true) :
  Calls Tryz.prog 36 #[.pointer (some ⟨c, 0, none⟩), .agg #[.int .i64 xi, .int .i64 xt]] w fun e w' => e = .returned (.bool (eQ M xi xt)) ∧ Below w.heap.size w w' := by
 have qC := Lib.hid (ed hI h1 hll)
 have zJ := bC
 have zS := jO
 obtain ⟨k, hk1⟩ : ∃ k, k = 10 := ⟨_, rfl⟩
 obtain ⟨k3, hk3⟩ : ∃ k, k = 3 := ⟨_, rfl⟩
 rw [← hk1] at zJ
 rw [← hk3] at zS
 have hk0 : ¬ k = 0 := by omega
 have xG : ¬ k3 = 0 := by omega
 replace hk1 := Lib.hid hk1
 replace hk3 := Lib.hid hk3
 obtain ⟨wA, aM⟩ : ∃ wA, wA = w.alloc (.cells #[.int .i64 xi, .int .i64 xt] 35) := ⟨_, rfl⟩
 have cZ : Hid (Below w.heap.size w wA) := by show Below _ _ _; rw [aM]; exact (Below.refl _ _).alloc (Nat.le_refl _) _
 have sM : Hid (wA.heap[w.heap.size]? = some (.cells #[.int .i64 xi, .int .i64 xt] 35 (0, 0))) := by show _ = _; rw [aM]; exact heap_alloc_new w _
 have iy := Lib.hid (h.kept cZ.out)
 have hcl := fun (W : World) (hW : Below wA.heap.size wA W) => iJ (iy.out.kept hW)
 rw [show (aj M).cl = M.cl from rfl] at hcl
 have hnw := fun (W : World) (hW : Below wA.heap.size wA W) => fO (iy.out.kept hW)
 rw [show (aj M).now = M.now from rfl] at hnw
 rw [hc] at hcl
 have hres := N8 hc xi xt
 rw [hres]
 replace hres := Lib.hid hres
 replace hc := Lib.hid hc
 clear h
 go_enter Tryz.func36, Tryz.ntmps36
 go_wp2_with fail
 rw [← aM]
 replace aM := Lib.hid aM
 refine Reg2.rd wA 10 76 [[],[ae],[ae,ae],[ae,ae,ae],[ae,ae,ae,ae],[ae,ae,ae,af,af],[ae,ae,ae,af,af,ae],[ae,ae,ae,af,af,ae,ae],[ae,ae,ae,af,af,ae,ae,ae],[ae,ae,ae,af,af,ae,ae,ae,ae]] [0, 1, 0, 0, 1, 0, 0, 0, 1, 1] [.pure, .mU (.bool true), .pure, .pure, .mU (.int .i64 xt), .pure, .pure, .pure, .mU (.pointer (some ⟨p, 0, none⟩)), .mU (.int .i64 M.now)] (by kernel_rfl) (by kernel_rfl) rfl rfl ⟨trivial, Reg2.tt, trivial, trivial, Reg2.tt, trivial, trivial, trivial, Reg2.tt, Reg2.tt, trivial⟩ ⟨rfl, rfl, rfl, Nat.le_refl _, fun _ _ => rfl⟩ ?_
 dsimp only [Reg2.mk, List.zip, List.zipWith, List.take]
 repeat (refine' Reg2.ai _ (by rfl) (fun wz => ?_) ?_; rotate_left; (go_simp; first | rfl | rw [if_neg (by omega)]); simp only [Act.put, xA, xB, xC]; (try simp only [xD]); (try simp only [xE]); (try simp only [id]))
 refine Reg2.pm (fun wz hI hF => ?_) (fun r1 => ?_) (by rfl)
 ·go_wp2_with (go_at_call 26; go_must (refine (hcl wz hI).mono ?_); rintro e w' ⟨rfl, rfl⟩)
  first | exact ⟨_, rfl, rfl, Reg2.Ext.refl _⟩ | exact ⟨_, rfl, ⟨(), rfl, trivial⟩, Reg2.Ext.refl _⟩
 simp only [Act.put, xA, xB, xC]; (try simp only [xD]); (try simp only [xE]); (try simp only [id])
 repeat (refine' Reg2.ai _ (by rfl) (fun wz => ?_) ?_; rotate_left; (go_simp; first | rfl | rw [if_neg (by omega)]); simp only [Act.put, xA, xB, xC]; (try simp only [xD]); (try simp only [xE]); (try simp only [id]))
 refine Reg2.bP (by rfl) ?_
 simp only [Act.put, xA, xB, xC]; (try simp only [xD]); (try simp only [xE]); (try simp only [id])
 refine Reg2.bB (by rfl) ?_
 simp only [Act.put, xA, xB, xC]; (try simp only [xD]); (try simp only [xE]); (try simp only [id])
 refine Reg2.bP (by rfl) ?_
 simp only [Act.put, xA, xB, xC]; (try simp only [xD]); (try simp only [xE]); (try simp only [id])
 refine Reg2.bP (by rfl) ?_
 simp only [Act.put, xA, xB, xC]; (try simp only [xD]); (try simp only [xE]); (try simp only [id])
 refine Reg2.bP (by rfl) ?_
 simp only [Act.put, xA, xB, xC]; (try simp only [xD]); (try simp only [xE]); (try simp only [id])
 refine Reg2.bB (by rfl) ?_
 simp only [Act.put, xA, xB, xC]; (try simp only [xD]); (try simp only [xE]); (try simp only [id])
 refine Reg2.bB (by rfl) ?_
 simp only [Act.put, xA, xB, xC]; (try simp only [xD]); (try simp only [xE]); (try simp only [id])
 refine Reg2.aA ?_
 intro w4 HI4 _ dU
 clear dU
 dsimp only [List.drop]
 go_wp2_with fail
 go_ret
 exact ⟨rfl, cZ.out.trans (HI4.mono cZ.out.size)⟩
theorem IE (h : CW w c t d p v g a m (aj M)) (hI : aC M) (h1 : 1 ≤ M.dr.length) (hll : M.L.length ≤ 900) (ha : a ≤ 800) (xi xt : Int) (hxt : -9223372036854775808 ≤ xt ∧ xt ≤ 9223372036854775807) (hc : M.cl = false) :
  Calls Tryz.prog 36 #[.pointer (some ⟨c, 0, none⟩), .agg #[.int .i64 xi, .int .i64 xt]] w fun e w' => e = .returned (.bool (eQ M xi xt)) ∧ Below w.heap.size w w' := by
 have qC := Lib.hid (ed hI h1 hll)
 have zJ := bC
 have zS := jO
 obtain ⟨k, hk1⟩ : ∃ k, k = 10 := ⟨_, rfl⟩
 obtain ⟨k3, hk3⟩ : ∃ k, k = 3 := ⟨_, rfl⟩
 rw [← hk1] at zJ
 rw [← hk3] at zS
 have hk0 : ¬ k = 0 := by omega
 have xG : ¬ k3 = 0 := by omega
 replace hk1 := Lib.hid hk1
 replace hk3 := Lib.hid hk3
 obtain ⟨wA, aM⟩ : ∃ wA, wA = w.alloc (.cells #[.int .i64 xi, .int .i64 xt] 35) := ⟨_, rfl⟩
 have cZ : Hid (Below w.heap.size w wA) := by show Below _ _ _; rw [aM]; exact (Below.refl _ _).alloc (Nat.le_refl _) _
 have sM : Hid (wA.heap[w.heap.size]? = some (.cells #[.int .i64 xi, .int .i64 xt] 35 (0, 0))) := by show _ = _; rw [aM]; exact heap_alloc_new w _
 have iy := Lib.hid (h.kept cZ.out)
 have hcl := fun (W : World) (hW : Below wA.heap.size wA W) => iJ (iy.out.kept hW)
 rw [show (aj M).cl = M.cl from rfl] at hcl
 have hnw := fun (W : World) (hW : Below wA.heap.size wA W) => fO (iy.out.kept hW)
 rw [show (aj M).now = M.now from rfl] at hnw
 rw [hc] at hcl
 have his := fun (W : World) => O9 xt W hxt
 have hget := Lib.hid (fun (W : World) (hW : Below wA.heap.size wA W) => gu (iy.out.kept hW).dZ xi)
 obtain ⟨rb, hrb⟩ : ∃ rb, rb = eQ M xi xt := ⟨_, rfl⟩
 rw [← hrb]
 replace hrb := Lib.hid hrb
 replace hc := Lib.hid hc
 clear h
 go_enter Tryz.func36, Tryz.ntmps36
 go_wp2_with fail
 rw [← aM]
 replace aM := Lib.hid aM
 refine Reg2.rd wA 10 76 [[],[ae],[ae,ae],[ae,ae,ae],[ae,ae,ae,ae],[ae,ae,ae,af,af],[ae,ae,ae,af,af,ae],[ae,ae,ae,af,af,ae,ae],[ae,ae,ae,af,af,ae,ae,ae],[ae,ae,ae,af,af,ae,ae,ae,ae]] [0, 1, 0, 0, 1, 0, 0, 0, 1, 1] [.pure, .mU (.bool false), .pure, .pure, .mU (.int .i64 xt), .pure, .pure, .pure, .mU (.pointer (some ⟨p, 0, none⟩)), .mU (.int .i64 M.now)] (by kernel_rfl) (by kernel_rfl) rfl rfl ⟨trivial, Reg2.tt, trivial, trivial, Reg2.tt, trivial, trivial, trivial, Reg2.tt, Reg2.tt, trivial⟩ ⟨rfl, rfl, rfl, Nat.le_refl _, fun _ _ => rfl⟩ ?_
 dsimp only [Reg2.mk, List.zip, List.zipWith, List.take]
 repeat (refine' Reg2.ai _ (by rfl) (fun wz => ?_) ?_; rotate_left; (go_simp; first | rfl | rw [if_neg (by omega)]); simp only [Act.put, xA, xB, xC]; (try simp only [xD]); (try simp only [xE]); (try simp only [id]))
 refine Reg2.pm (fun wz hI hF => ?_) (fun r1 => ?_) (by rfl)
 ·go_wp2_with (go_at_call 26; go_must (refine (hcl wz hI).mono ?_); rintro e w' ⟨rfl, rfl⟩)
  first | exact ⟨_, rfl, rfl, Reg2.Ext.refl _⟩ | exact ⟨_, rfl, ⟨(), rfl, trivial⟩, Reg2.Ext.refl _⟩
 simp only [Act.put, xA, xB, xC]; (try simp only [xD]); (try simp only [xE]); (try simp only [id])
 repeat (refine' Reg2.ai _ (by rfl) (fun wz => ?_) ?_; rotate_left; (go_simp; first | rfl | rw [if_neg (by omega)]); simp only [Act.put, xA, xB, xC]; (try simp only [xD]); (try simp only [xE]); (try simp only [id]))
 refine Reg2.pm (fun wz hI hF => ?_) (fun r4 => ?_) (by rfl)
 ·have q0 : wz.cell? ⟨w.heap.size, 1, none⟩ = some (.int .i64 xt) := by simp [World.cell?, (hI.block _ (aB sM.out)).trans sM.out]
  go_wp2_with fail
  first | exact ⟨_, rfl, rfl, Reg2.Ext.refl _⟩ | exact ⟨_, rfl, ⟨(), rfl, trivial⟩, Reg2.Ext.refl _⟩
 simp only [Act.put, xA, xB, xC]; (try simp only [xD]); (try simp only [xE]); (try simp only [id])
 repeat (refine' Reg2.ai _ (by rfl) (fun wz => ?_) ?_; rotate_left; (go_simp; first | rfl | rw [if_neg (by omega)]); simp only [Act.put, xA, xB, xC]; (try simp only [xD]); (try simp only [xE]); (try simp only [id]))
 refine Reg2.pm (fun wz hI hF => ?_) (fun r8 => ?_) (by rfl)
 ·have c0 := (iy.out.kept hI).c2
  go_wp2_with fail
  first | exact ⟨_, rfl, rfl, Reg2.Ext.refl _⟩ | exact ⟨_, rfl, ⟨(), rfl, trivial⟩, Reg2.Ext.refl _⟩
 simp only [Act.put, xA, xB, xC]; (try simp only [xD]); (try simp only [xE]); (try simp only [id])
 refine Reg2.pm (fun wz hI hF => ?_) (fun r9 => ?_) (by rfl)
 ·go_wp2_with (go_at_call 43; go_must (refine (hnw wz hI).mono ?_); rintro e w' ⟨rfl, rfl⟩)
  first | exact ⟨_, rfl, rfl, Reg2.Ext.refl _⟩ | exact ⟨_, rfl, ⟨(), rfl, trivial⟩, Reg2.Ext.refl _⟩
 simp only [Act.put, xA, xB, xC]; (try simp only [xD]); (try simp only [xE]); (try simp only [id])
 refine Reg2.aA ?_
 intro w4 HI4 _ dU
 clear dU
 dsimp only [List.drop]
 have hb4 := cZ.out.trans (HI4.mono cZ.out.size)
 have vk : w4.heap[w.heap.size]? = some (.cells #[.int .i64 xi, .int .i64 xt] 35 (0, 0)) := (HI4.block _ (aB sM.out)).trans sM.out
 have x1 : w4.cell? ⟨w.heap.size, 1, none⟩ = some (.int .i64 xt) := by simp [World.cell?, vk]
 by_cases hlow : xt < M.now
 ·have d1 : decide (xt < M.now) = true := decide_eq_true hlow
  have hfin : Hid (rb = false) := hrb.out.trans (K5 hlow)
  replace hlow := Lib.hid hlow
  obtain rfl := hfin.out
  go_wp2_with fail
  go_ret
  exact ⟨rfl, hb4⟩
 have d1 : decide (xt < M.now) = false := decide_eq_false hlow
 by_cases hhi : 1099511627776 < xt
 ·have d2 : decide (0 ≤ xt ∧ xt ≤ 1099511627776) = false := decide_eq_false (by omega)
  rw [d2] at his
  have hfin : Hid (rb = false) := hrb.out.trans (Iy hhi)
  replace hhi := Lib.hid hhi
  obtain rfl := hfin.out
  go_wp2_with (go_at_call 69; go_must (refine (his _).mono ?_); rintro e w' ⟨rfl, rfl⟩)
  go_ret
  exact ⟨rfl, hb4⟩
 have d2 : decide (0 ≤ xt ∧ xt ≤ 1099511627776) = true := decide_eq_true (by have := hI.mb.now; omega)
 rw [d2] at his
 have x0 : w4.cell? ⟨w.heap.size, 0, none⟩ = some (.int .i64 xi) := by simp [World.cell?, vk]
 have c0 := (iy.out.kept HI4).c0
 obtain ⟨y, hy⟩ : ∃ y, y = bF M.L xi := ⟨_, rfl⟩
 obtain ⟨e0, he0⟩ : ∃ e0, e0 = fU M.L xi := ⟨_, rfl⟩
 have hgo : Hid (∀ W, Below wA.heap.size wA W → Calls Tryz.prog 70 #[.pointer (some ⟨t, 0, none⟩), .int .i64 xi] W fun e w' => e = .returned (.tuple #[.agg (ah y).toArray, .int .i64 e0]) ∧ Gr W w') := fun W hW => by
  have := hget.out W hW
  unfold ik at this
  rw [show (aj M).J = M.L from rfl, ← hy, ← he0] at this
  exact this
 have lY := ay y
 rw [← hk1.out] at lY
 have y2 : (ah y)[2]? = some (.int .i64 y.wid) := rfl
 have y3 : (ah y)[3]? = some (.int .i64 y.lim) := rfl
 have y5 : (ah y)[5]? = some (.int .i64 y.st) := rfl
 have hpy : Hid (∀ W, y.aJ ≤ 1099511627776 → 0 ≤ y.lim ∧ y.lim ≤ 1048576 → Calls Tryz.prog 68 #[.agg (ah y).toArray] W fun e w' => e = .returned (.tuple #[.agg (aI y).toArray, .bool (ak y)]) ∧ Below W.heap.size W w') := fun W a1 a2 => kg y a1 a2
 replace hy := Lib.hid hy
 replace he0 := Lib.hid he0
 have Jz := Lib.hid vk
 have nK := Lib.hid (iy.out.kept HI4)
 clear vk hget x0 c0
 go_wp2_with (go_at_call 69; go_must (refine (his _).mono ?_); rintro e w' ⟨rfl, rfl⟩)
 go_wp2_with fail
 refine Reg2.pF 12 76 [[],[ae],[ae,ae],[ae,ae,ae],[af,af,af,af],[af,af,af,af,ae],[ae,ae,ae,ae,ae,ae],[ae,ae,ae,ae,ae,ae,ae],[ae,ae,ae,ae,ae,ae,ae,ae],[ae,ae,ae,ae,ae,ae,ae,ae,af],[af,af,af,af,af,af,af,af,af,af],[ae,ae,ae,ae,ae,ae,ae,ae,ae,af,ae]] [0, 0, 0, 1, 0, 1, 1, 0, 0, 0, 3, 3]
  [.pure, .pure, .pure, .mU (.pointer (some ⟨t, 0, none⟩)), .pure, .mU (.int .i64 xi), .mU (.tuple #[.agg (ah y).toArray, .int .i64 e0]), .pure, .pure, .pure, .major Nat 0 (fun k => .pointer (some ⟨k, 0, none⟩)), .major Unit () (fun _ => undef)]
  (fun W => Below w4.heap.size w4 W) (gQ w4 y) (fun a b => Below w4.heap.size a b) (by kernel_rfl) (by kernel_rfl) rfl rfl (fun vs a b h hs => gQ.ext h hs) ?_ ?_ ?_ ?_ ?_ ?_ ?_
 ·intro a b he hb; exact hb.trans (Below.mono he hb.size)
 ·intro a b he hb; exact hb.trans he
 ·exact ⟨trivial, trivial, trivial, ⟨fun _ _ _ _ _ => trivial, fun _ _ _ _ _ => trivial⟩, trivial, ⟨fun _ _ _ _ _ => trivial, fun _ _ _ _ _ => trivial⟩, ⟨fun _ _ _ _ _ => trivial, fun _ _ _ _ _ => trivial⟩, trivial, trivial, trivial, trivial, trivial, trivial⟩
 ·exact ⟨(fun h => nomatch h), (fun h => nomatch h), (fun h => nomatch h), (fun h => nomatch h), (fun h => nomatch h), (fun h => nomatch h), (fun h => nomatch h), (fun h => nomatch h), (fun h => nomatch h), (fun h => nomatch h), (fun h => nomatch h), (fun _ _ => rfl), trivial⟩
 ·exact ⟨rfl, rfl, rfl, Nat.le_refl _, fun _ _ => rfl⟩
 ·exact ⟨⟨rfl, rfl, rfl, Nat.le_refl _, fun _ _ => rfl⟩, trivial⟩
 dsimp only [Reg2.mk, List.zip, List.zipWith, List.take]
 repeat (refine' Reg2.ai _ (by rfl) (fun wz => ?_) ?_; rotate_left; (go_simp; first | rfl | rw [if_neg (by omega)]); simp only [Act.put, xA, xB, xC]; (try simp only [xD]); (try simp only [xE]); (try simp only [id]))
 refine Reg2.pm (fun wz hI hF => ?_) (fun r3 => ?_) (by rfl)
 ·have c0 := (nK.out.kept hI).c0
  go_wp2_with fail
  first | exact ⟨_, rfl, rfl, Reg2.Ext.refl _⟩ | exact ⟨_, rfl, ⟨(), rfl, trivial⟩, Reg2.Ext.refl _⟩
 simp only [Act.put, xA, xB, xC]; (try simp only [xD]); (try simp only [xE]); (try simp only [id])
 repeat (refine' Reg2.ai _ (by rfl) (fun wz => ?_) ?_; rotate_left; (go_simp; first | rfl | rw [if_neg (by omega)]); simp only [Act.put, xA, xB, xC]; (try simp only [xD]); (try simp only [xE]); (try simp only [id]))
 refine Reg2.pm (fun wz hI hF => ?_) (fun r5 => ?_) (by rfl)
 ·have q0 : wz.cell? ⟨w.heap.size, 0, none⟩ = some (.int .i64 xi) := by simp [World.cell?, (hI.block _ (aB Jz.out)).trans Jz.out]
  go_wp2_with fail
  first | exact ⟨_, rfl, rfl, Reg2.Ext.refl _⟩ | exact ⟨_, rfl, ⟨(), rfl, trivial⟩, Reg2.Ext.refl _⟩
 simp only [Act.put, xA, xB, xC]; (try simp only [xD]); (try simp only [xE]); (try simp only [id])
 refine Reg2.pm (fun wz hI hF => ?_) (fun r6 => ?_) (by rfl)
 ·go_wp2_with (go_at_call 70; go_must (refine (hgo.out wz (HI4.trans (hI.mono HI4.size))).mono ?_); rintro e w' ⟨rfl, hg5⟩; have hb5 := hg5.below)
  first | exact ⟨_, rfl, ⟨(), rfl, trivial⟩, hb5⟩ | exact ⟨_, rfl, rfl, hb5⟩
 simp only [Act.put, xA, xB, xC]; (try simp only [xD]); (try simp only [xE]); (try simp only [id])
 repeat (refine' Reg2.ai _ (by rfl) (fun wz => ?_) ?_; rotate_left; (go_simp; first | rfl | rw [if_neg (by omega)]); simp only [Act.put, xA, xB, xC]; (try simp only [xD]); (try simp only [xE]); (try simp only [id]))
 refine Reg2.pj (fun wz hI hS hF => ?_) (fun xU => ?_) (by rfl)
 ·go_wp2_with fail
  exact ⟨_, rfl, ⟨⟨_, rfl⟩, gQ.alloc hS⟩, (Below.refl _ _).alloc hI.size _⟩
 simp only [Act.put, xA, xB, xC]; (try simp only [xD]); (try simp only [xE]); (try simp only [id])
 refine Reg2.pj (fun wz hI hS hF => ?_) (fun Nn => ?_) (by rfl)
 ·obtain ⟨hz, hge⟩ := gQ.zero hS
  have yc := mO (x := y) hz
  have hfin := gQ.store hS
  have hbw : Below w4.heap.size wz (wz.setRow xU (ah y).toArray) := oV (Below.refl _ _) hge _
  generalize ah y = cY at *
  go_wp2_with fail
  exact ⟨_, rfl, ⟨⟨(), rfl⟩, hfin⟩, hbw⟩
 simp only [Act.put, xA, xB, xC]; (try simp only [xD]); (try simp only [xE]); (try simp only [id])
 refine Reg2.aA ?_
 intro w7 jF qD jP
 clear jP
 dsimp only [List.drop]
 obtain ⟨xZ, Un⟩ := gQ.full qD
 have iX := hb4.trans (jF.mono hb4.size)
 have QN := (jF.block _ (aB Jz.out)).trans Jz.out
 have x1 : w7.cell? ⟨w.heap.size, 1, none⟩ = some (.int .i64 xt) := by simp [World.cell?, QN]
 have b5 : w7.cell? ⟨xU, 5, none⟩ = some (.int .i64 y.st) := by simp [World.cell?, xZ, y5]
 have b3 : w7.cell? ⟨xU, 3, none⟩ = some (.int .i64 y.lim) := by simp [World.cell?, xZ, y3]
 have Pf := eu xZ lY
 clear qD
 by_cases hne : e0 ≠ 0
 ·have d3 : (e0 != 0) = true := by simp [hne]
  have hfin : Hid (rb = false) := hrb.out.trans (Iz (by rw [← he0.out]; exact hne))
  obtain rfl := hfin.out
  replace hne := Lib.hid hne
  go_wp2_with fail
  go_ret
  exact ⟨rfl, iX⟩
 have he1 : e0 = 0 := by omega
 subst he1
 clear hne
 by_cases hst : y.st ≠ 1
 ·have d4 : (y.st != 1) = true := by simp [hst]
  have hfin : Hid (rb = false) := hrb.out.trans (FU he0.out.symm (by rw [← hy.out]; exact hst))
  obtain rfl := hfin.out
  replace hst := Lib.hid hst
  go_wp2_with fail
  go_ret
  exact ⟨rfl, iX⟩
 have hs1 : y.st = 1 := by omega
 have d4 : (y.st != 1) = false := by simp [hs1]
 clear hst
 have hym : y ∈ M.L := by
  obtain ⟨i, hi, _, h3, _⟩ := sF he0.out.symm
  rw [hy.out, h3]
  exact aV hi
 have SF := hI.mb.lim y hym
 have PO := hI.mb.aJ y hym
 have hpl := hpy.out w7 PO.2 SF
 have lS : (aI y).length = 3 := by unfold aI; split <;> rfl
 have oS : ∀ u ∈ aI y, u.oneCell' = true := by unfold aI; split <;> (intro u hu; simp at hu; rcases hu with rfl | rfl | rfl <;> rfl)
 have SS : Hid (∀ W : World, Sem.run Tryz.prog (storeCells ⟨W.heap.size, 0, none⟩ (aI y) 0) (W.alloc (.cells #[.int .i64 0, .int .i64 0, .int .i64 0] 97)) = .ok () (W.alloc (.cells (aI y).toArray 97))) := fun W => cz W W.heap.size (aI y) [.int .i64 0, .int .i64 0, .int .i64 0] 97 rfl lS oS
 rw [← hk3.out] at lS
 have TN := hI.mb.now
 have TP : IntKind.i64.wrap (xt + y.lim) = xt + y.lim := by rw [IntKind.wrap_i64]; omega
 have hro := fun (mm : Int) (hl : ak y = true → xt < y.aJ) (hB : BL (fun u => ax M u 0) xt (l8 y xt) mm) => IB (id := xi) hI hc.out (by omega) (by omega) he0.out.symm (by rw [← hy.out]; exact hs1) (by rw [← hy.out]; exact hl) (by rw [← hy.out]; exact hB)
 rw [← hrb.out, ← hy.out] at hro
 have PQ := Lib.hid (fun (W : World) (hW : Below wA.heap.size wA W) (hi : Int) (hh : -9223372036854775808 ≤ hi ∧ hi ≤ 9223372036854775807) => IC (iy.out.kept hW) qC.out (by omega) xt hi (by show M.now ≤ xt; omega) hh)
 have LZ := hI.mb.wid y hym
 have hs0 : (aI y)[0]? = some (.int .i64 (if ak y = true then y.aJ else 0)) := by unfold aI; split <;> rfl
 obtain ⟨yw, IG⟩ : ∃ yw, yw = y.wid := ⟨_, rfl⟩
 rw [← IG] at y2 hro
 obtain ⟨yl, hyl⟩ : ∃ yl, yl = y.lim := ⟨_, rfl⟩
 rw [← hyl] at b3 TP SF
 obtain ⟨yp, hyp⟩ : ∃ yp, yp = y.aJ := ⟨_, rfl⟩
 rw [← hyp] at hro hs0 PO
 have hft : Hid (l8 y xt = if ak y = true then min (xt + yl) yp else xt + yl) := by show _ = _; unfold l8; rw [hyl, hyp]
 replace IG := Lib.hid IG
 replace hyl := Lib.hid hyl
 replace hyp := Lib.hid hyp
 replace hro := Lib.hid hro
 replace hs1 := Lib.hid hs1
 have FV := Lib.hid xZ
 have JA := Lib.hid QN
 clear xZ QN
 generalize kr : aI y = cS at *
 replace kr := Lib.hid kr
 generalize xS : ah y = cY at *
 replace xS := Lib.hid xS
 have hrs := aB FV.out
 cases hP : ak y with
 | false =>
  rw [hP] at hpl
  replace hP := Lib.hid hP
  go_wp2_with fail
  go_at_call 68
  refine hpl.mono ?_
  clear hpl Pf b5 b3 x1
  rintro e w8 ⟨rfl, qB⟩
  have QO := SS.out w8
  obtain ⟨w9, vS⟩ : ∃ w9, w9 = w8.alloc (.cells cS.toArray 97) := ⟨_, rfl⟩
  rw [← vS] at QO
  have zU : Below w7.heap.size w7 w9 := by rw [vS]; exact qB.alloc qB.size _
  have N9 := Lib.hid ((zU.block _ (aB FV.out)).trans FV.out)
  have K6 := Lib.hid ((zU.block _ (aB JA.out)).trans JA.out)
  have II := (HI4.trans (jF.mono HI4.size)).trans (zU.mono (HI4.trans (jF.mono HI4.size)).size)
  have BR := iX.trans (zU.mono iX.size)
  have FM := Lib.hid (iy.out.kept II)
  replace vS := Lib.hid vS
  go_wp2_with fail
  refine Reg2.rd w9 10 76 [[],[ae],[ae,ae],[ae,ae,ae],[af,af,af,af],[af,af,af,af,ae],[af,af,af,af,af,af],[ae,ae,ae,ae,ae,ae,ae],[af,af,af,af,af,af,af,af],[af,af,af,af,af,af,af,af,ae]] [0, 0, 0, 1, 0, 1, 0, 1, 0, 1] [.pure, .pure, .pure, .mU (.pointer (some ⟨p, 0, none⟩)), .pure, .mU (.int .i64 xt), .pure, .minor Int 0 (fun x => .int .i64 x) (fun x _ => BL (fun u => ax M u 0) xt (xt + yl) x), .pure, .mU (.int .i64 yw)] (by kernel_rfl) (by kernel_rfl) rfl rfl ⟨trivial, trivial, trivial, Reg2.tt, trivial, Reg2.tt, trivial, ⟨fun _ _ _ _ h => h, fun _ _ _ _ h => h⟩, trivial, Reg2.tt, trivial⟩ ⟨rfl, rfl, rfl, Nat.le_refl _, fun _ _ => rfl⟩ ?_
  dsimp only [Reg2.mk, List.zip, List.zipWith, List.take]
  repeat (refine' Reg2.ai _ (by rfl) (fun wz => ?_) ?_; rotate_left; (go_simp; first | rfl | rw [if_neg (by omega)]); simp only [Act.put, xA, xB, xC]; (try simp only [xD]); (try simp only [xE]); (try simp only [id]))
  refine Reg2.pm (fun wz hI hF => ?_) (fun r3 => ?_) (by rfl)
  ·have c0 := (FM.out.kept hI).c2
   go_wp2_with fail
   first | exact ⟨_, rfl, rfl, Reg2.Ext.refl _⟩ | exact ⟨_, rfl, ⟨(), rfl, trivial⟩, Reg2.Ext.refl _⟩
  simp only [Act.put, xA, xB, xC]; (try simp only [xD]); (try simp only [xE]); (try simp only [id])
  repeat (refine' Reg2.ai _ (by rfl) (fun wz => ?_) ?_; rotate_left; (go_simp; first | rfl | rw [if_neg (by omega)]); simp only [Act.put, xA, xB, xC]; (try simp only [xD]); (try simp only [xE]); (try simp only [id]))
  refine Reg2.pm (fun wz hI hF => ?_) (fun r5 => ?_) (by rfl)
  ·have q0 : wz.cell? ⟨w.heap.size, 1, none⟩ = some (.int .i64 xt) := by simp [World.cell?, (hI.block _ (aB K6.out)).trans K6.out]
   go_wp2_with fail
   first | exact ⟨_, rfl, rfl, Reg2.Ext.refl _⟩ | exact ⟨_, rfl, ⟨(), rfl, trivial⟩, Reg2.Ext.refl _⟩
  simp only [Act.put, xA, xB, xC]; (try simp only [xD]); (try simp only [xE]); (try simp only [id])
  repeat (refine' Reg2.ai _ (by rfl) (fun wz => ?_) ?_; rotate_left; (go_simp; first | rfl | rw [if_neg (by omega)]); simp only [Act.put, xA, xB, xC]; (try simp only [xD]); (try simp only [xE]); (try simp only [id]))
  refine Reg2.pm (fun wz hI hF => ?_) (fun r7 => ?_) (by rfl)
  ·go_wp2_with (go_at_call 71; go_must (refine (PQ.out wz (II.trans (hI.mono II.size)) (xt + yl) (by omega)).mono ?_); rintro e w' ⟨mm, rfl, hB, hb5⟩)
   exact ⟨_, rfl, ⟨mm, rfl, hB⟩, hb5⟩
  simp only [Act.put, xA, xB, xC]; (try simp only [xD]); (try simp only [xE]); (try simp only [id])
  repeat (refine' Reg2.ai _ (by rfl) (fun wz => ?_) ?_; rotate_left; (go_simp; first | rfl | rw [if_neg (by omega)]); simp only [Act.put, xA, xB, xC]; (try simp only [xD]); (try simp only [xE]); (try simp only [id]))
  refine Reg2.pm (fun wz hI hF => ?_) (fun r9 => ?_) (by rfl)
  ·have q0 : wz.cell? ⟨xU, 2, none⟩ = some (.int .i64 yw) := by simp [World.cell?, (hI.block _ (aB N9.out)).trans N9.out, y2]
   go_wp2_with fail
   first | exact ⟨_, rfl, rfl, Reg2.Ext.refl _⟩ | exact ⟨_, rfl, ⟨(), rfl, trivial⟩, Reg2.Ext.refl _⟩
  simp only [Act.put, xA, xB, xC]; (try simp only [xD]); (try simp only [xE]); (try simp only [id])
  refine Reg2.aA ?_
  intro TQ Oa _ FW
  have hB := FW.2.2.2.2.2.2.2.1
  clear FW
  dsimp only [List.drop]
  have hfin := hro.out r7 (fun hp => by rw [hP.out] at hp; cases hp) (by rw [hft.out, hP.out, if_neg (by decide)]; exact hB)
  have QP : Hid (rb = decide (r7 ≥ yw)) := by show _ = _; rw [hfin]
  obtain rfl := QP.out
  go_wp2_with fail
  go_ret
  exact ⟨rfl, BR.trans (Oa.mono BR.size)⟩
 | true =>
  rw [hP] at hpl
  have TR := (aY.1 hP).2
  rw [← hyp.out] at TR
  have SG : Hid (cS[0]? = some (.int .i64 yp)) := by show _ = _; rw [hs0, if_pos hP]
  replace hP := Lib.hid hP
  replace hs0 := Lib.hid hs0
  go_wp2_with fail
  go_at_call 68
  refine hpl.mono ?_
  clear hpl Pf b5 b3 x1
  rintro e w8 ⟨rfl, qB⟩
  have QO := SS.out w8
  obtain ⟨w9, vS⟩ : ∃ w9, w9 = w8.alloc (.cells cS.toArray 97) := ⟨_, rfl⟩
  have hzs : w9.heap[w8.heap.size]? = some (.cells cS.toArray 97 (0, 0)) := by rw [vS]; exact heap_alloc_new w8 _
  rw [← vS] at QO
  have zU : Below w7.heap.size w7 w9 := by rw [vS]; exact qB.alloc qB.size _
  have N9 := Lib.hid ((zU.block _ (aB FV.out)).trans FV.out)
  have K6 := Lib.hid ((zU.block _ (aB JA.out)).trans JA.out)
  have II := (HI4.trans (jF.mono HI4.size)).trans (zU.mono (HI4.trans (jF.mono HI4.size)).size)
  have BR := iX.trans (zU.mono iX.size)
  have FM := Lib.hid (iy.out.kept II)
  have cs0 : w9.cell? ⟨w8.heap.size, 0, none⟩ = some (.int .i64 yp) := by simp [World.cell?, hzs, SG.out]
  have UZ : w9.cell? ⟨w.heap.size, 1, none⟩ = some (.int .i64 xt) := by simp [World.cell?, K6.out]
  replace hzs := Lib.hid hzs
  replace vS := Lib.hid vS
  by_cases hlt : yp ≤ xt
  ·have d5 : decide (xt ≥ yp) = true := decide_eq_true hlt
   have hfin : Hid (rb = false) := hrb.out.trans (IA he0.out.symm (by rw [← hy.out]; exact hP.out) (by rw [← hy.out, ← hyp.out]; exact hlt))
   obtain rfl := hfin.out
   replace hlt := Lib.hid hlt
   go_wp2_with fail
   go_ret
   exact ⟨rfl, BR⟩
  ·have d5 : decide (xt ≥ yp) = false := decide_eq_false hlt
   go_wp2_with fail
   refine Reg2.rd w9 10 76 [[],[ae],[ae,ae],[ae,ae,ae],[af,af,af,af],[af,af,af,af,ae],[af,af,af,af,af,af],[ae,ae,ae,ae,ae,ae,ae],[af,af,af,af,af,af,af,af],[af,af,af,af,af,af,af,af,ae]] [0, 0, 0, 1, 0, 1, 0, 1, 0, 1] [.pure, .pure, .pure, .mU (.pointer (some ⟨p, 0, none⟩)), .pure, .mU (.int .i64 xt), .pure, .minor Int 0 (fun x => .int .i64 x) (fun x _ => BL (fun u => ax M u 0) xt (min (xt + yl) yp) x), .pure, .mU (.int .i64 yw)] (by kernel_rfl) (by kernel_rfl) rfl rfl ⟨trivial, trivial, trivial, Reg2.tt, trivial, Reg2.tt, trivial, ⟨fun _ _ _ _ h => h, fun _ _ _ _ h => h⟩, trivial, Reg2.tt, trivial⟩ ⟨rfl, rfl, rfl, Nat.le_refl _, fun _ _ => rfl⟩ ?_
   dsimp only [Reg2.mk, List.zip, List.zipWith, List.take]
   repeat (refine' Reg2.ai _ (by rfl) (fun wz => ?_) ?_; rotate_left; (go_simp; first | rfl | rw [if_neg (by omega)]); simp only [Act.put, xA, xB, xC]; (try simp only [xD]); (try simp only [xE]); (try simp only [id]))
   refine Reg2.pm (fun wz hI hF => ?_) (fun r3 => ?_) (by rfl)
   ·have c0 := (FM.out.kept hI).c2
    go_wp2_with fail
    first | exact ⟨_, rfl, rfl, Reg2.Ext.refl _⟩ | exact ⟨_, rfl, ⟨(), rfl, trivial⟩, Reg2.Ext.refl _⟩
   simp only [Act.put, xA, xB, xC]; (try simp only [xD]); (try simp only [xE]); (try simp only [id])
   repeat (refine' Reg2.ai _ (by rfl) (fun wz => ?_) ?_; rotate_left; (go_simp; first | rfl | rw [if_neg (by omega)]); simp only [Act.put, xA, xB, xC]; (try simp only [xD]); (try simp only [xE]); (try simp only [id]))
   refine Reg2.pm (fun wz hI hF => ?_) (fun r5 => ?_) (by rfl)
   ·have q0 : wz.cell? ⟨w.heap.size, 1, none⟩ = some (.int .i64 xt) := by simp [World.cell?, (hI.block _ (aB K6.out)).trans K6.out]
    go_wp2_with fail
    first | exact ⟨_, rfl, rfl, Reg2.Ext.refl _⟩ | exact ⟨_, rfl, ⟨(), rfl, trivial⟩, Reg2.Ext.refl _⟩
   simp only [Act.put, xA, xB, xC]; (try simp only [xD]); (try simp only [xE]); (try simp only [id])
   repeat (refine' Reg2.ai _ (by rfl) (fun wz => ?_) ?_; rotate_left; (go_simp; first | rfl | rw [if_neg (by omega)]); simp only [Act.put, xA, xB, xC]; (try simp only [xD]); (try simp only [xE]); (try simp only [id]))
   refine Reg2.pm (fun wz hI hF => ?_) (fun r7 => ?_) (by rfl)
   ·go_wp2_with (go_at_call 71; go_must (refine (PQ.out wz (II.trans (hI.mono II.size)) (min (xt + yl) yp) (by omega)).mono ?_); rintro e w' ⟨mm, rfl, hB, hb5⟩)
    exact ⟨_, rfl, ⟨mm, rfl, hB⟩, hb5⟩
   simp only [Act.put, xA, xB, xC]; (try simp only [xD]); (try simp only [xE]); (try simp only [id])
   repeat (refine' Reg2.ai _ (by rfl) (fun wz => ?_) ?_; rotate_left; (go_simp; first | rfl | rw [if_neg (by omega)]); simp only [Act.put, xA, xB, xC]; (try simp only [xD]); (try simp only [xE]); (try simp only [id]))
   refine Reg2.pm (fun wz hI hF => ?_) (fun r9 => ?_) (by rfl)
   ·have q0 : wz.cell? ⟨xU, 2, none⟩ = some (.int .i64 yw) := by simp [World.cell?, (hI.block _ (aB N9.out)).trans N9.out, y2]
    go_wp2_with fail
    first | exact ⟨_, rfl, rfl, Reg2.Ext.refl _⟩ | exact ⟨_, rfl, ⟨(), rfl, trivial⟩, Reg2.Ext.refl _⟩
   simp only [Act.put, xA, xB, xC]; (try simp only [xD]); (try simp only [xE]); (try simp only [id])
   refine Reg2.aA ?_
   intro TQ Oa _ FW
   have hB := FW.2.2.2.2.2.2.2.1
   clear FW
   dsimp only [List.drop]
   have hfin := hro.out r7 (fun _ => by omega) (by rw [hft.out, hP.out, if_pos rfl]; exact hB)
   have QP : Hid (rb = decide (r7 ≥ yw)) := by show _ = _; rw [hfin]
   obtain rfl := QP.out
   go_wp2_with fail
   go_ret
   exact ⟨rfl, BR.trans (Oa.mono BR.size)⟩
theorem BS (h : CW w c t d p v g a m (aj M)) (hI : aC M) (h1 : 1 ≤ M.dr.length) (hll : M.L.length ≤ 900) (ha : a ≤ 800) (xi xt : Int) (hxt : -9223372036854775808 ≤ xt ∧ xt ≤ 9223372036854775807) :
  Calls Tryz.prog 36 #[.pointer (some ⟨c, 0, none⟩), .agg #[.int .i64 xi, .int .i64 xt]] w fun e w' => e = .returned (.bool (eQ M xi xt)) ∧ Below w.heap.size w w' := by
 cases hc : M.cl with
 | true => exact DJ h hI h1 hll ha xi xt hxt hc
 | false => exact IE h hI h1 hll ha xi xt hxt hc
end
end Go.Proofs.YtkhfejihijdipaaGreat

namespace Go.Proofs.YtkhfejihijdipaaGreat
open Go.RowKit Go.Lib Go.Sort
section
variable {w : World} {b c t d p g a : Nat} {v : Value} {m : Int} {P : Pg} {M : Md} {R : Wk}
theorem FX (h : SW w b c t d p v g a m R P) (hk : PK P) (ha : a ≤ 800) (hm : m ≤ 1000000) (hP : ak R.az = true) (hb1 : R.az.aJ ≤ 1099511627776) (hb2 : 0 ≤ R.az.lim ∧ R.az.lim ≤ 1048576) (hb3 : 1 ≤ R.az.lim) (hb4 : 0 ≤ R.az.wid ∧ R.az.wid ≤ 64) (F : Int → Int)
  (hF : ∀ t, P.now ≤ t → F t = P.f t + had (max R.az.aJ P.now) (R.az.aJ + R.az.lim) R.az.wid t) (hr : ∀ t, P.now ≤ t → 0 ≤ F t ∧ F t ≤ 64) :
  Calls Tryz.prog 94 #[.pointer (some ⟨b, 0, none⟩), .pointer (some ⟨c, 0, none⟩)] w (au w b c t d p v g (a + 2) (m + 1) (eH 125) R { P with f := F }) := by
 have zJ := bC
 have zS := jO
 obtain ⟨k, hk1⟩ : ∃ k, k = 10 := ⟨_, rfl⟩
 obtain ⟨k3, hk3⟩ : ∃ k, k = 3 := ⟨_, rfl⟩
 rw [← hk1] at zJ
 rw [← hk3] at zS
 have hk0 : ¬ k = 0 := by omega
 have xG : ¬ k3 = 0 := by omega
 have lJ := ay R.az
 rw [← hk1] at lJ
 replace hk1 := Lib.hid hk1
 have hS := Lib.hid h
 have oZ := h.wk.lU lJ
 have hpl := kg (w := w) R.az hb1 hb2
 have lS : (aI R.az).length = 3 := by unfold aI; split <;> rfl
 have oS : ∀ u ∈ aI R.az, u.oneCell' = true := by unfold aI; split <;> (intro u hu; simp at hu; rcases hu with rfl | rfl | rfl <;> rfl)
 have ST : Hid (∀ W : World, Sem.run Tryz.prog (storeCells ⟨W.heap.size, 0, none⟩ (aI R.az) 0) (W.alloc (.cells #[.int .i64 0, .int .i64 0, .int .i64 0] 97)) = .ok () (W.alloc (.cells (aI R.az).toArray 97))) := fun W => cz W W.heap.size (aI R.az) [.int .i64 0, .int .i64 0, .int .i64 0] 97 rfl lS oS
 rw [← hk3] at lS
 replace hk3 := Lib.hid hk3
 generalize kr : aI R.az = cS at *
 replace kr := Lib.hid kr
 generalize ah R.az = cJ at *
 clear h
 have kR : cS = [.int .i64 R.az.aJ, .int .i64 (R.az.aJ + R.az.lim), .int .i64 R.az.wid] := by rw [← kr.out]; unfold aI; rw [if_pos hP]
 rw [hP] at hpl
 replace hP := Lib.hid hP
 replace kR := Lib.hid kR
 go_enter Tryz.func94, Tryz.ntmps94
 go_wp2_with fail
 go_at_call 68
 refine hpl.mono ?_
 clear hpl oZ
 rintro e w1 ⟨rfl, hb⟩
 have st1 := ST.out w1
 obtain ⟨w2, hw2⟩ : ∃ w2, w2 = w1.alloc (.cells cS.toArray 97) := ⟨_, rfl⟩
 rw [← hw2] at st1
 have hb2' : Below w.heap.size w w2 := by rw [hw2]; exact hb.alloc hb.size _
 have hy2 : Hid (w2.heap[w1.heap.size]? = some (.cells cS.toArray 97 (0, 0))) := by show _ = _; rw [hw2]; exact heap_alloc_new w1 _
 have hs2 : w2.heap.size = w1.heap.size + 1 := by rw [hw2]; simp
 replace hw2 := Lib.hid hw2
 have hS2 := Lib.hid (hS.out.kept hb2')
 go_wp2_with fail
 refine Reg2.rd w2 5 22 [[],[ae],[ae,ae],[ae,ae,ae],[af,af,af,af]] [0, 0, 0, 1, 1] [.pure, .pure, .pure, .mU (.pointer (some ⟨p, 0, none⟩)), .mU (.agg cS.toArray)] (by kernel_rfl) (by kernel_rfl) rfl rfl ⟨trivial, trivial, trivial, Reg2.tt, Reg2.tt, trivial⟩ ⟨rfl, rfl, rfl, Nat.le_refl _, fun _ _ => rfl⟩ ?_
 dsimp only [Reg2.mk, List.zip, List.zipWith, List.take]
 repeat (refine' Reg2.ai _ (by rfl) (fun wz => ?_) ?_; rotate_left; (go_simp; first | rfl | rw [if_neg (by omega)]); simp only [Act.put, xA, xB, xC]; (try simp only [xD]); (try simp only [xE]); (try simp only [id]))
 refine Reg2.pm (fun wz hI hF => ?_) (fun r3 => ?_) (by rfl)
 ·have c0 := (hS2.out.cw.kept hI).c2
  go_wp2_with fail
  first | exact ⟨_, rfl, rfl, Reg2.Ext.refl _⟩ | exact ⟨_, rfl, ⟨(), rfl, trivial⟩, Reg2.Ext.refl _⟩
 simp only [Act.put, xA, xB, xC]; (try simp only [xD]); (try simp only [xE]); (try simp only [id])
 refine Reg2.pm (fun wz hI hF => ?_) (fun r4 => ?_) (by rfl)
 ·have d0 := eu ((hI.block _ (aB hy2.out)).trans hy2.out) lS
  go_wp2_with fail
  first | exact ⟨_, rfl, rfl, Reg2.Ext.refl _⟩ | exact ⟨_, rfl, ⟨(), rfl, trivial⟩, Reg2.Ext.refl _⟩
 simp only [Act.put, xA, xB, xC]; (try simp only [xD]); (try simp only [xE]); (try simp only [id])
 refine Reg2.aA ?_
 intro w4 HI4 _ dU
 clear dU
 dsimp only [List.drop]
 have bD := hS2.out.kept HI4
 have hrel := ru bD.cw hk ha hm R.az.aJ (R.az.aJ + R.az.lim) R.az.wid F (by omega) (by omega) hb4 hF hr
 have FI := kR.out
 clear kr kR
 subst FI
 go_wp2_with fail
 go_at_call 124
 refine hrel.mono ?_
 clear hrel
 rintro e w5 ⟨rfl, v5, g5, fV, hS5⟩
 have dM := bD.core fV hS5
 have hfin := (WS.of_below (hb2'.trans (HI4.mono hb2'.size)) : WS w w4 b c t d p v g v g).trans (WS.bZ hS5)
 go_wp2_with fail
 go_ret
 exact ⟨rfl, v5, g5, dM, hfin⟩
theorem FY (h : SW w b c t d p v g a m R P) (hP : ak R.az = false) (hb1 : R.az.aJ ≤ 1099511627776) (hb2 : 0 ≤ R.az.lim ∧ R.az.lim ≤ 1048576) :
  Calls Tryz.prog 94 #[.pointer (some ⟨b, 0, none⟩), .pointer (some ⟨c, 0, none⟩)] w (au w b c t d p v g a m (eH 125) R P) := by
 have zJ := bC
 have zS := jO
 obtain ⟨k, hk1⟩ : ∃ k, k = 10 := ⟨_, rfl⟩
 obtain ⟨k3, hk3⟩ : ∃ k, k = 3 := ⟨_, rfl⟩
 rw [← hk1] at zJ
 rw [← hk3] at zS
 have hk0 : ¬ k = 0 := by omega
 have xG : ¬ k3 = 0 := by omega
 have lJ := ay R.az
 rw [← hk1] at lJ
 replace hk1 := Lib.hid hk1
 have hS := Lib.hid h
 have oZ := h.wk.lU lJ
 have hpl := kg (w := w) R.az hb1 hb2
 have lS : (aI R.az).length = 3 := by unfold aI; split <;> rfl
 have oS : ∀ u ∈ aI R.az, u.oneCell' = true := by unfold aI; split <;> (intro u hu; simp at hu; rcases hu with rfl | rfl | rfl <;> rfl)
 have ST : Hid (∀ W : World, Sem.run Tryz.prog (storeCells ⟨W.heap.size, 0, none⟩ (aI R.az) 0) (W.alloc (.cells #[.int .i64 0, .int .i64 0, .int .i64 0] 97)) = .ok () (W.alloc (.cells (aI R.az).toArray 97))) := fun W => cz W W.heap.size (aI R.az) [.int .i64 0, .int .i64 0, .int .i64 0] 97 rfl lS oS
 rw [← hk3] at lS
 replace hk3 := Lib.hid hk3
 generalize kr : aI R.az = cS at *
 replace kr := Lib.hid kr
 generalize ah R.az = cJ at *
 clear h
 rw [hP] at hpl
 go_enter Tryz.func94, Tryz.ntmps94
 go_wp2_with fail
 go_at_call 68
 refine hpl.mono ?_
 clear hpl oZ
 rintro e w1 ⟨rfl, hb⟩
 have st1 := ST.out w1
 obtain ⟨w2, hw2⟩ : ∃ w2, w2 = w1.alloc (.cells cS.toArray 97) := ⟨_, rfl⟩
 rw [← hw2] at st1
 have hb2' : Below w.heap.size w w2 := by rw [hw2]; exact hb.alloc hb.size _
 have hy2 : Hid (w2.heap[w1.heap.size]? = some (.cells cS.toArray 97 (0, 0))) := by show _ = _; rw [hw2]; exact heap_alloc_new w1 _
 have hs2 : w2.heap.size = w1.heap.size + 1 := by rw [hw2]; simp
 replace hw2 := Lib.hid hw2
 have hS2 := Lib.hid (hS.out.kept hb2')
 go_wp2_with fail
 go_ret
 exact ⟨rfl, v, g, hS2.out, WS.of_below hb2'⟩
theorem K7 (h : SW w b c t d p v g a m R P) (hk : PK P) (ha : a ≤ 800) (hm : m ≤ 1000000) (hst : R.az.st = 1) (hx : 0 ≤ R.dD ∧ R.dD ≤ 1099511627776) (hb2 : 1 ≤ R.az.lim ∧ R.az.lim ≤ 1048576) (hb4 : 0 ≤ R.az.wid ∧ R.az.wid ≤ 64) (F : Int → Int)
  (hF : ∀ t, P.now ≤ t → F t = P.f t + had (max R.dD P.now) (R.dD + R.az.lim) (-R.az.wid) t) (hr : ∀ t, P.now ≤ t → 0 ≤ F t ∧ F t ≤ 64) :
  Calls Tryz.prog 125 #[.pointer (some ⟨b, 0, none⟩), .pointer (some ⟨c, 0, none⟩)] w (au w b c t d p v g (a + 2) (m + 1) (eH 148) { R with az := R.az.aD R.dD } { P with f := F }) := by
 have zJ := bC
 have zS := jO
 obtain ⟨k, hk1⟩ : ∃ k, k = 10 := ⟨_, rfl⟩
 obtain ⟨k3, hk3⟩ : ∃ k, k = 3 := ⟨_, rfl⟩
 rw [← hk1] at zJ
 rw [← hk3] at zS
 have hk0 : ¬ k = 0 := by omega
 have xG : ¬ k3 = 0 := by omega
 have MV := h.wk.at 10 (.int .i64 R.dD) rfl
 have c20 := h.wk.at 20 (.int .i64 R.az.aJ) rfl
 have f20 := h.wk.free 20
 have hW1 := h.wk.plan R.dD
 have hS1 := h.work hW1 (bT w 20 (.int .i64 R.dD))
 have hf1 : WS w (w.setCell ⟨b, 20, none⟩ (.int .i64 R.dD)) b c t d p v g v g := WS.bu (bT w 20 (.int .i64 R.dD))
 obtain ⟨y, hy⟩ : ∃ y, y = R.az.aD R.dD := ⟨_, rfl⟩
 have hyp : y.aJ = R.dD := by rw [hy]; rfl
 have hyl : y.lim = R.az.lim := by rw [hy]; rfl
 have IG : y.wid = R.az.wid := by rw [hy]; rfl
 have hP : ak y = true := aY.2 ⟨by rw [hy]; exact hst, by rw [hyp]; exact hx.1⟩
 rw [← hy] at hS1 hW1 ⊢
 replace hy := Lib.hid hy
 have lJ := ay y
 rw [← hk1] at lJ
 replace hk1 := Lib.hid hk1
 have oZ := hW1.lU (R := { R with az := y }) lJ
 rw [show ({ R with az := y } : Wk).az = y from rfl] at oZ
 have hpl := kg (w := w.setCell ⟨b, 20, none⟩ (.int .i64 R.dD)) y (by rw [hyp]; exact hx.2) (by rw [hyl]; omega)
 have kR : aI y = [.int .i64 R.dD, .int .i64 (R.dD + R.az.lim), .int .i64 R.az.wid] := by unfold aI; rw [if_pos hP, hyp, hyl, IG]
 rw [hP] at hpl
 have lS : (aI y).length = 3 := by rw [kR]; rfl
 have oS : ∀ u ∈ aI y, u.oneCell' = true := by rw [kR]; intro u hu; simp at hu; rcases hu with rfl | rfl | rfl <;> rfl
 have ST : Hid (∀ W : World, Sem.run Tryz.prog (storeCells ⟨W.heap.size, 0, none⟩ (aI y) 0) (W.alloc (.cells #[.int .i64 0, .int .i64 0, .int .i64 0] 97)) = .ok () (W.alloc (.cells (aI y).toArray 97))) := fun W => cz W W.heap.size (aI y) [.int .i64 0, .int .i64 0, .int .i64 0] 97 rfl lS oS
 rw [← hk3] at lS
 replace hk3 := Lib.hid hk3
 generalize kr : aI y = cS at *
 replace kr := Lib.hid kr
 generalize ah y = cJ at *
 replace kR := Lib.hid kR
 replace hP := Lib.hid hP
 replace hyp := Lib.hid hyp
 replace hyl := Lib.hid hyl
 replace IG := Lib.hid IG
 clear h
 generalize R.dD = xa at *
 go_enter Tryz.func125, Tryz.ntmps125
 go_wp2_with fail
 go_at_call 68
 refine hpl.mono ?_
 clear hpl oZ MV c20 f20
 rintro e w1 ⟨rfl, hb⟩
 have st1 := ST.out w1
 obtain ⟨w2, hw2⟩ : ∃ w2, w2 = w1.alloc (.cells cS.toArray 97) := ⟨_, rfl⟩
 rw [← hw2] at st1
 have hb2' : Below (w.setCell ⟨b, 20, none⟩ (.int .i64 xa)).heap.size (w.setCell ⟨b, 20, none⟩ (.int .i64 xa)) w2 := by rw [hw2]; exact hb.alloc hb.size _
 have hy2 : Hid (w2.heap[w1.heap.size]? = some (.cells cS.toArray 97 (0, 0))) := by show _ = _; rw [hw2]; exact heap_alloc_new w1 _
 replace hw2 := Lib.hid hw2
 have hS2 := Lib.hid (hS1.kept hb2')
 have hf2 := hf1.trans (WS.of_below hb2')
 go_wp2_with fail
 refine Reg2.rd w2 5 31 [[],[ae],[ae,ae],[ae,ae,ae],[af,af,af,af]] [0, 0, 0, 1, 1] [.pure, .pure, .pure, .mU (.pointer (some ⟨p, 0, none⟩)), .mU (.agg cS.toArray)] (by kernel_rfl) (by kernel_rfl) rfl rfl ⟨trivial, trivial, trivial, Reg2.tt, Reg2.tt, trivial⟩ ⟨rfl, rfl, rfl, Nat.le_refl _, fun _ _ => rfl⟩ ?_
 dsimp only [Reg2.mk, List.zip, List.zipWith, List.take]
 repeat (refine' Reg2.ai _ (by rfl) (fun wz => ?_) ?_; rotate_left; (go_simp; first | rfl | rw [if_neg (by omega)]); simp only [Act.put, xA, xB, xC]; (try simp only [xD]); (try simp only [xE]); (try simp only [id]))
 refine Reg2.pm (fun wz hI hF => ?_) (fun r3 => ?_) (by rfl)
 ·have c0 := (hS2.out.cw.kept hI).c2
  go_wp2_with fail
  first | exact ⟨_, rfl, rfl, Reg2.Ext.refl _⟩ | exact ⟨_, rfl, ⟨(), rfl, trivial⟩, Reg2.Ext.refl _⟩
 simp only [Act.put, xA, xB, xC]; (try simp only [xD]); (try simp only [xE]); (try simp only [id])
 refine Reg2.pm (fun wz hI hF => ?_) (fun r4 => ?_) (by rfl)
 ·have d0 := eu ((hI.block _ (aB hy2.out)).trans hy2.out) lS
  go_wp2_with fail
  first | exact ⟨_, rfl, rfl, Reg2.Ext.refl _⟩ | exact ⟨_, rfl, ⟨(), rfl, trivial⟩, Reg2.Ext.refl _⟩
 simp only [Act.put, xA, xB, xC]; (try simp only [xD]); (try simp only [xE]); (try simp only [id])
 refine Reg2.aA ?_
 intro w4 HI4 _ dU
 clear dU
 dsimp only [List.drop]
 have bD := hS2.out.kept HI4
 have hrel := Ff bD.cw hk ha hm xa (xa + R.az.lim) R.az.wid F (by omega) (by omega) hb4 hF hr
 have FI := kR.out
 clear kr kR
 subst FI
 go_wp2_with fail
 go_at_call 147
 refine hrel.mono ?_
 clear hrel
 rintro e w5 ⟨rfl, v5, g5, fV, hS5⟩
 have dM := bD.core fV hS5
 have hfin := (hf2.trans (WS.of_below HI4)).trans (WS.bZ hS5)
 go_wp2_with fail
 go_ret
 exact ⟨rfl, v5, g5, dM, hfin⟩
theorem FZ (h : SW w b c t d p v g a m R P) (hk : PK P) (hx : R.dD = P.now) (hj : -9223372036854775808 ≤ R.az.wid ∧ R.az.wid ≤ 9223372036854775807) {s : Nat} {T0 : List Int} (hT0 : om P.T R.az.wid s 0 T0) :
  Calls Tryz.prog 148 #[.pointer (some ⟨b, 0, none⟩), .pointer (some ⟨c, 0, none⟩)] w (au w b c t d p v g a m .nilFunc R { P with T := T0, J := bS P.J (fF P.now) R.az.id (fun j : Jb => decide (j.state = 1)) (kD P.now s) }) := by
 have zJ := bC
 obtain ⟨k, hk1⟩ : ∃ k, k = 10 := ⟨_, rfl⟩
 rw [← hk1] at zJ
 have hk0 : ¬ k = 0 := by omega
 have lJ := ay R.az
 rw [← hk1] at lJ
 replace hk1 := Lib.hid hk1
 have d1 : (R.dD == P.now) = true := by simp [hx]
 have QF := fun (W : World) (hW : SW W b c t d p v g a m R P) => hW.wk.lU lJ
 have hla := fun (W : World) (hW : SW W b c t d p v g a m R P) => launch_fn hW.cw hk R.az hj hT0
 have hS := Lib.hid h
 replace hx := Lib.hid hx
 generalize ah R.az = cJ at *
 clear h
 go_enter Tryz.func148, Tryz.ntmps148
 go_wp2_with fail
 refine Reg2.rd w 10 37 [[],[ae],[ae,ae],[ae,ae,ae],[ae,ae,ae,ae],[af,af,af,af,af],[af,af,af,af,af,ae],[af,af,af,af,af,ae,ae],[af,af,af,af,af,ae,ae,ae],[af,af,af,af,af,ae,ae,ae,ae]] [0, 0, 0, 0, 1, 0, 0, 0, 1, 1] [.pure, .pure, .pure, .pure, .mU (.int .i64 R.dD), .pure, .pure, .pure, .mU (.pointer (some ⟨p, 0, none⟩)), .mU (.int .i64 P.now)] (by kernel_rfl) (by kernel_rfl) rfl rfl ⟨trivial, trivial, trivial, trivial, Reg2.tt, trivial, trivial, trivial, Reg2.tt, Reg2.tt, trivial⟩ ⟨rfl, rfl, rfl, Nat.le_refl _, fun _ _ => rfl⟩ ?_
 dsimp only [Reg2.mk, List.zip, List.zipWith, List.take]
 repeat (refine' Reg2.ai _ (by rfl) (fun wz => ?_) ?_; rotate_left; (go_simp; first | rfl | rw [if_neg (by omega)]); simp only [Act.put, xA, xB, xC]; (try simp only [xD]); (try simp only [xE]); (try simp only [id]))
 refine Reg2.pm (fun wz hI hF => ?_) (fun r4 => ?_) (by rfl)
 ·have q0 := (hS.out.kept hI).wk.at 10 (.int .i64 R.dD) rfl
  go_wp2_with fail
  first | exact ⟨_, rfl, rfl, Reg2.Ext.refl _⟩ | exact ⟨_, rfl, ⟨(), rfl, trivial⟩, Reg2.Ext.refl _⟩
 simp only [Act.put, xA, xB, xC]; (try simp only [xD]); (try simp only [xE]); (try simp only [id])
 repeat (refine' Reg2.ai _ (by rfl) (fun wz => ?_) ?_; rotate_left; (go_simp; first | rfl | rw [if_neg (by omega)]); simp only [Act.put, xA, xB, xC]; (try simp only [xD]); (try simp only [xE]); (try simp only [id]))
 refine Reg2.pm (fun wz hI hF => ?_) (fun r8 => ?_) (by rfl)
 ·have c0 := (hS.out.cw.kept hI).c2
  go_wp2_with fail
  first | exact ⟨_, rfl, rfl, Reg2.Ext.refl _⟩ | exact ⟨_, rfl, ⟨(), rfl, trivial⟩, Reg2.Ext.refl _⟩
 simp only [Act.put, xA, xB, xC]; (try simp only [xD]); (try simp only [xE]); (try simp only [id])
 refine Reg2.pm (fun wz hI hF => ?_) (fun r9 => ?_) (by rfl)
 ·go_wp2_with (go_at_call 43; go_must (refine (fO (hS.out.kept hI).cw).mono ?_); rintro e w' ⟨rfl, rfl⟩)
  first | exact ⟨_, rfl, rfl, Reg2.Ext.refl _⟩ | exact ⟨_, rfl, ⟨(), rfl, trivial⟩, Reg2.Ext.refl _⟩
 simp only [Act.put, xA, xB, xC]; (try simp only [xD]); (try simp only [xE]); (try simp only [id])
 refine Reg2.aA ?_
 intro w4 HI4 _ dU
 clear dU
 dsimp only [List.drop]
 have bD := hS.out.kept HI4
 have TI := QF w4 bD
 have hl4 := hla w4 bD
 go_wp2_with fail
 go_at_call 179
 refine hl4.mono ?_
 clear hl4
 rintro e w5 ⟨rfl, v5, g5, fV, hS5⟩
 have dM := bD.core fV hS5
 have hfin := (WS.of_below HI4 : WS w w4 b c t d p v g v g).trans (WS.bZ hS5)
 go_wp2_with fail
 go_ret
 exact ⟨rfl, v5, g5, dM, hfin⟩
theorem AL (h : SW w b c t d p v g a m R P) (hx : R.dD ≠ P.now) :
  Calls Tryz.prog 148 #[.pointer (some ⟨b, 0, none⟩), .pointer (some ⟨c, 0, none⟩)] w (au w b c t d p v g a m .nilFunc R { P with J := bS P.J (gy R.dD) R.ko (fun j : Jb => decide (j.state = 1)) (jV R.dD) }) := by
 have d1 : (R.dD == P.now) = false := by simp [hx]
 have hpl := fun (W : World) (hW : SW W b c t d p v g a m R P) => BB hW.cw R.ko R.dD
 have hS := Lib.hid h
 replace hx := Lib.hid hx
 clear h
 go_enter Tryz.func148, Tryz.ntmps148
 go_wp2_with fail
 refine Reg2.rd w 10 37 [[],[ae],[ae,ae],[ae,ae,ae],[ae,ae,ae,ae],[af,af,af,af,af],[af,af,af,af,af,ae],[af,af,af,af,af,ae,ae],[af,af,af,af,af,ae,ae,ae],[af,af,af,af,af,ae,ae,ae,ae]] [0, 0, 0, 0, 1, 0, 0, 0, 1, 1] [.pure, .pure, .pure, .pure, .mU (.int .i64 R.dD), .pure, .pure, .pure, .mU (.pointer (some ⟨p, 0, none⟩)), .mU (.int .i64 P.now)] (by kernel_rfl) (by kernel_rfl) rfl rfl ⟨trivial, trivial, trivial, trivial, Reg2.tt, trivial, trivial, trivial, Reg2.tt, Reg2.tt, trivial⟩ ⟨rfl, rfl, rfl, Nat.le_refl _, fun _ _ => rfl⟩ ?_
 dsimp only [Reg2.mk, List.zip, List.zipWith, List.take]
 repeat (refine' Reg2.ai _ (by rfl) (fun wz => ?_) ?_; rotate_left; (go_simp; first | rfl | rw [if_neg (by omega)]); simp only [Act.put, xA, xB, xC]; (try simp only [xD]); (try simp only [xE]); (try simp only [id]))
 refine Reg2.pm (fun wz hI hF => ?_) (fun r4 => ?_) (by rfl)
 ·have q0 := (hS.out.kept hI).wk.at 10 (.int .i64 R.dD) rfl
  go_wp2_with fail
  first | exact ⟨_, rfl, rfl, Reg2.Ext.refl _⟩ | exact ⟨_, rfl, ⟨(), rfl, trivial⟩, Reg2.Ext.refl _⟩
 simp only [Act.put, xA, xB, xC]; (try simp only [xD]); (try simp only [xE]); (try simp only [id])
 repeat (refine' Reg2.ai _ (by rfl) (fun wz => ?_) ?_; rotate_left; (go_simp; first | rfl | rw [if_neg (by omega)]); simp only [Act.put, xA, xB, xC]; (try simp only [xD]); (try simp only [xE]); (try simp only [id]))
 refine Reg2.pm (fun wz hI hF => ?_) (fun r8 => ?_) (by rfl)
 ·have c0 := (hS.out.cw.kept hI).c2
  go_wp2_with fail
  first | exact ⟨_, rfl, rfl, Reg2.Ext.refl _⟩ | exact ⟨_, rfl, ⟨(), rfl, trivial⟩, Reg2.Ext.refl _⟩
 simp only [Act.put, xA, xB, xC]; (try simp only [xD]); (try simp only [xE]); (try simp only [id])
 refine Reg2.pm (fun wz hI hF => ?_) (fun r9 => ?_) (by rfl)
 ·go_wp2_with (go_at_call 43; go_must (refine (fO (hS.out.kept hI).cw).mono ?_); rintro e w' ⟨rfl, rfl⟩)
  first | exact ⟨_, rfl, rfl, Reg2.Ext.refl _⟩ | exact ⟨_, rfl, ⟨(), rfl, trivial⟩, Reg2.Ext.refl _⟩
 simp only [Act.put, xA, xB, xC]; (try simp only [xD]); (try simp only [xE]); (try simp only [id])
 refine Reg2.aA ?_
 intro w4 HI4 _ dU
 clear dU
 dsimp only [List.drop]
 have bD := Lib.hid (hS.out.kept HI4)
 go_wp2_with fail
 refine Reg2.rd w4 14 37 [[],[ae],[ae,ae],[ae,ae,ae],[af,af,af,af],[af,af,af,af,ae],[af,af,af,af,ae,ae],[af,af,af,af,ae,ae,ae],[af,af,af,af,ae,ae,ae,ae],[af,af,af,af,af,af,af,af,af],[af,af,af,af,af,af,af,af,af,ae],[af,af,af,af,af,af,af,af,af,ae,ae],[af,af,af,af,af,af,af,af,af,ae,ae,ae],[af,af,af,af,af,af,af,af,af,ae,ae,ae,ae]] [0, 0, 0, 1, 0, 0, 0, 0, 1, 0, 0, 0, 0, 1] [.pure, .pure, .pure, .mU (.pointer (some ⟨t, 0, none⟩)), .pure, .pure, .pure, .pure, .mU (.int .i64 R.ko), .pure, .pure, .pure, .pure, .mU (.int .i64 R.dD)] (by kernel_rfl) (by kernel_rfl) rfl rfl ⟨trivial, trivial, trivial, Reg2.tt, trivial, trivial, trivial, trivial, Reg2.tt, trivial, trivial, trivial, trivial, Reg2.tt, trivial⟩ ⟨rfl, rfl, rfl, Nat.le_refl _, fun _ _ => rfl⟩ ?_
 dsimp only [Reg2.mk, List.zip, List.zipWith, List.take]
 repeat (refine' Reg2.ai _ (by rfl) (fun wz => ?_) ?_; rotate_left; (go_simp; first | rfl | rw [if_neg (by omega)]); simp only [Act.put, xA, xB, xC]; (try simp only [xD]); (try simp only [xE]); (try simp only [id]))
 refine Reg2.pm (fun wz hI hF => ?_) (fun r3 => ?_) (by rfl)
 ·have c0 := (bD.out.cw.kept hI).c0
  go_wp2_with fail
  first | exact ⟨_, rfl, rfl, Reg2.Ext.refl _⟩ | exact ⟨_, rfl, ⟨(), rfl, trivial⟩, Reg2.Ext.refl _⟩
 simp only [Act.put, xA, xB, xC]; (try simp only [xD]); (try simp only [xE]); (try simp only [id])
 repeat (refine' Reg2.ai _ (by rfl) (fun wz => ?_) ?_; rotate_left; (go_simp; first | rfl | rw [if_neg (by omega)]); simp only [Act.put, xA, xB, xC]; (try simp only [xD]); (try simp only [xE]); (try simp only [id]))
 refine Reg2.pm (fun wz hI hF => ?_) (fun r8 => ?_) (by rfl)
 ·have q0 := (bD.out.kept hI).wk.at 9 (.int .i64 R.ko) rfl
  go_wp2_with fail
  first | exact ⟨_, rfl, rfl, Reg2.Ext.refl _⟩ | exact ⟨_, rfl, ⟨(), rfl, trivial⟩, Reg2.Ext.refl _⟩
 simp only [Act.put, xA, xB, xC]; (try simp only [xD]); (try simp only [xE]); (try simp only [id])
 repeat (refine' Reg2.ai _ (by rfl) (fun wz => ?_) ?_; rotate_left; (go_simp; first | rfl | rw [if_neg (by omega)]); simp only [Act.put, xA, xB, xC]; (try simp only [xD]); (try simp only [xE]); (try simp only [id]))
 refine Reg2.pm (fun wz hI hF => ?_) (fun FK => ?_) (by rfl)
 ·have q0 := (bD.out.kept hI).wk.at 10 (.int .i64 R.dD) rfl
  go_wp2_with fail
  first | exact ⟨_, rfl, rfl, Reg2.Ext.refl _⟩ | exact ⟨_, rfl, ⟨(), rfl, trivial⟩, Reg2.Ext.refl _⟩
 simp only [Act.put, xA, xB, xC]; (try simp only [xD]); (try simp only [xE]); (try simp only [id])
 refine Reg2.aA ?_
 intro w5 GY _ dU
 clear dU
 dsimp only [List.drop]
 have hS5 := bD.out.kept GY
 have SH := hpl w5 hS5
 go_wp2_with fail
 go_at_call 180
 refine SH.mono ?_
 clear SH
 rintro e w6 ⟨rfl, v6, g6, Fx, dM⟩
 have fQ := hS5.core Fx dM
 have hfin := (WS.of_below (HI4.trans (GY.mono HI4.size)) : WS w w5 b c t d p v g v g).trans (WS.bZ dM)
 go_wp2_with fail
 go_ret
 exact ⟨rfl, v6, g6, fQ, hfin⟩
theorem AO (h : SW w b c t d p v g a m R P) (hc : P.cl = true) :
  Calls Tryz.prog 65 #[.pointer (some ⟨b, 0, none⟩), .pointer (some ⟨c, 0, none⟩)] w (au w b c t d p v g a m .nilFunc { R with rep := jJ 12, ok := false } P) := by
 have hcl := iJ h.cw
 rw [hc] at hcl
 have hf := gF h.wk 12
 go_enter Tryz.func65, Tryz.ntmps65
 go_wp2_with (first | (go_at_call 26; go_must (refine hcl.mono ?_); rintro e w' ⟨rfl, rfl⟩) | (go_at_call 67; go_must (refine hf.mono ?_); rintro e w8 ⟨rfl, dE, fA⟩))
 go_ret
 exact ⟨rfl, v, g, h.work dE fA, WS.bu fA⟩
theorem vC (h : bK w b R) : Sem.run Tryz.prog (loadCellsFrom ⟨b, 9, none⟩ 0 2 #[]) w = .ok #[.int .i64 R.ko, .int .i64 R.dD] w :=
 ve (cs := [.int .i64 R.ko, .int .i64 R.dD]) h rfl fun j u hj => by
  rcases (show j = 0 ∨ j = 1 by have := (List.getElem?_eq_some_iff.1 hj).1; simp at this; omega) with rfl | rfl
  ·exact hj
  ·exact hj
theorem K8 (h : SW w b c t d p v g a m R (aj M)) (hI : aC M) (h1 : 1 ≤ M.dr.length) (hll : M.L.length ≤ 900) (ha : a ≤ 800) (hxt : -9223372036854775808 ≤ R.dD ∧ R.dD ≤ 9223372036854775807) (hc : M.cl = false) (hfit : eQ M R.ko R.dD = false) :
  Calls Tryz.prog 65 #[.pointer (some ⟨b, 0, none⟩), .pointer (some ⟨c, 0, none⟩)] w (au w b c t d p v g a m .nilFunc R (aj M)) := by
 have hcl := iJ h.cw
 rw [show (aj M).cl = false from hc] at hcl
 have hft := BS h.cw hI h1 hll ha R.ko R.dD hxt
 rw [hfit] at hft
 have ld := vC h.wk
 have x9 := h.wk.at 9 (.int .i64 R.ko) rfl
 have MV := h.wk.at 10 (.int .i64 R.dD) rfl
 go_enter Tryz.func65, Tryz.ntmps65
 go_wp2_with (first | (go_at_call 26; go_must (refine hcl.mono ?_); rintro e w' ⟨rfl, rfl⟩) | (go_at_call 36; go_must (refine hft.mono ?_); rintro e w8 ⟨rfl, qB⟩))
 go_ret
 exact ⟨rfl, v, g, h.kept qB, WS.of_below qB⟩
theorem IJ (h : SW w b c t d p v g a m R (aj M)) (hI : aC M) (h1 : 1 ≤ M.dr.length) (hll : M.L.length ≤ 900) (ha : a ≤ 800) (hxt : -9223372036854775808 ≤ R.dD ∧ R.dD ≤ 9223372036854775807) (hc : M.cl = false) (hfit : eQ M R.ko R.dD = true) :
  Calls Tryz.prog 65 #[.pointer (some ⟨b, 0, none⟩), .pointer (some ⟨c, 0, none⟩)] w (au w b c t d p v g a m (eH 94) { R with az := bF M.L R.ko, ok := true } (aj M)) := by
 have zJ := bC
 obtain ⟨k, hk1⟩ : ∃ k, k = 10 := ⟨_, rfl⟩
 rw [← hk1] at zJ
 have hk0 : ¬ k = 0 := by omega
 have hcl := iJ h.cw
 rw [show (aj M).cl = false from hc] at hcl
 have hft := BS h.cw hI h1 hll ha R.ko R.dD hxt
 rw [hfit] at hft
 have ld := vC h.wk
 have x9 := h.wk.at 9 (.int .i64 R.ko) rfl
 have MV := h.wk.at 10 (.int .i64 R.dD) rfl
 obtain ⟨x, hx⟩ : ∃ x, x = bF M.L R.ko := ⟨_, rfl⟩
 rw [← hx]
 have hget := Lib.hid (fun (W : World) (hW : SW W b c t d p v g a m R (aj M)) => show Calls Tryz.prog 70 #[.pointer (some ⟨t, 0, none⟩), .int .i64 R.ko] W fun e w' => e = .returned (.tuple #[.agg (ah x).toArray, .int .i64 (fU M.L R.ko)]) ∧ Gr W w' from by
  have := gu hW.cw.dZ R.ko
  unfold ik at this
  rw [show (aj M).J = M.L from rfl, ← hx] at this
  exact this)
 replace hx := Lib.hid hx
 have lJ := ay x
 rw [← hk1] at lJ
 replace hk1 := Lib.hid hk1
 have hj := fun (W : World) (hW : SW W b c t d p v g a m R (aj M)) => hW.wk.rA x
 generalize ah x = cJ at *
 obtain ⟨W9, jK⟩ : ∃ W9, W9 = fH { R with az := x } := ⟨_, rfl⟩
 rw [← jK] at hj
 replace jK := Lib.hid jK
 have hS := Lib.hid h
 clear h
 go_enter Tryz.func65, Tryz.ntmps65
 go_wp2_with (first | (go_at_call 26; go_must (refine hcl.mono ?_); rintro e w' ⟨rfl, rfl⟩) | (go_at_call 36; go_must (refine hft.mono ?_); rintro e w2 ⟨rfl, hb2⟩))
 have hS2 := Lib.hid (hS.out.kept hb2)
 have c0 := hS2.out.cw.c0
 have q9 := hS2.out.wk.at 9 (.int .i64 R.ko) rfl
 clear hcl hft ld x9 MV
 go_region_with (go_at_call 70; go_must (refine (hget.out _ hS2.out.drew).mono ?_); rintro e w' ⟨rfl, hgr⟩; have qg := hS2.out.drew.kept hgr.below; obtain ⟨yc, nW⟩ := hj w' qg)
 all_goals
  have fB := qg.work nW (cu w' W9.toArray)
  have hfr : WS w2 (w'.setRow b W9.toArray) b c t d p v g v g := ((WS.of_below hgr.below : WS w2.drew w' b c t d p v g v g).trans (WS.bu (cu w' W9.toArray))).wI
  have hfr2 := (WS.of_below hb2 : WS w w2 b c t d p v g v g).trans hfr
  clear yc nW qg hgr c0 q9 hfr
  generalize w'.setRow b W9.toArray = w9 at *
  have a33 := fB.wk.at 33 (.bool R.ok) rfl
  have f33 := fB.wk.free 33
  have NT := fB.work (fB.wk.PG true) (bT w9 33 (.bool true))
  have SI := hfr2.trans (WS.bu (bT w9 33 (.bool true)))
  go_wp2_with fail
  go_ret
  have ex := hx.out
  clear hx
  subst ex
  exact ⟨rfl, v, g, NT, SI⟩
end
end Go.Proofs.YtkhfejihijdipaaGreat

namespace Go.Proofs.YtkhfejihijdipaaGreat
open Go.RowKit Go.Lib Go.Sort
section
variable {w : World} {b c t d p g a : Nat} {v : Value} {m : Int} {P P1 : Pg} {M : Md} {R : Wk}
theorem lh.uniq {l l1 l2 : List Int} {n : Int} {d : Bool} {e1 e2 : Int} (h : lh l n d e1 l1) (h' : lh l n d e2 l2) : e1 = e2 ∧ l1 = l2 := by
 by_cases h1 : n < 0 ∨ (l.length : Int) ≤ n
 ·obtain ⟨rfl, rfl⟩ := h.out h1
  obtain ⟨rfl, rfl⟩ := h'.out h1
  exact ⟨rfl, rfl⟩
 ·by_cases h2 : d = decide (l.getD n.toNat 0 < 3)
  ·obtain ⟨rfl, rfl⟩ := h.good (by omega) (by omega) h2
   obtain ⟨rfl, rfl⟩ := h'.good (by omega) (by omega) h2
   exact ⟨rfl, rfl⟩
  ·obtain ⟨rfl, rfl⟩ := h.bad (by omega) (by omega) h2
   obtain ⟨rfl, rfl⟩ := h'.bad (by omega) (by omega) h2
   exact ⟨rfl, rfl⟩
def K9 (b c t d p a : Nat) (m : Int) (R : Wk) (P : Pg) (x : Int) (T' : List Int) (a' : Nat) (m' : Int) (R' : Wk) (P' : Pg) : Prop :=
 ∀ (W : World) (v1 : Value) (g1 : Nat), SW W b c t d p v1 g1 a m R { P with T := T' } → Calls Tryz.prog 142 #[.pointer (some ⟨b, 0, none⟩), .pointer (some ⟨c, 0, none⟩), .int .i64 x, .int .i64 (-1)] W (au W b c t d p v1 g1 a' m' .nilFunc R' P')
def La (b c t d p a : Nat) (m : Int) (R : Wk) (P : Pg) (x : Int) (T' : List Int) (a' : Nat) (m' : Int) (R' : Wk) (P' : Pg) : Prop :=
 ∀ (W : World) (v1 : Value) (g1 : Nat), SW W b c t d p v1 g1 a m R { P with T := T' } → Calls Tryz.prog 142 #[.pointer (some ⟨b, 0, none⟩), .pointer (some ⟨c, 0, none⟩), .int .i64 x, .int .i64 1] W (au W b c t d p v1 g1 a' m' .nilFunc R' P')
theorem resume_fn (h : SW w b c t d p v g a m R P) (hk : PK P) (hn : -9223372036854775808 ≤ R.ag.node ∧ R.ag.node ≤ 9223372036854775807) {x0 : Int} {T0 : List Int} (hT0 : lh P.T R.ag.node false x0 T0) {a' : Nat} {m' : Int} {R' : Wk} {P' : Pg}
  (QQ : La b c t d p a m R P x0 T0 a' m' R' P') :
  Calls Tryz.prog 122 #[.pointer (some ⟨b, 0, none⟩), .pointer (some ⟨c, 0, none⟩)] w (au w b c t d p v g a' m' .nilFunc R' P') := by
 have hS := Lib.hid h
 replace hT0 := Lib.hid hT0
 have hmu := fun (W : World) (hW : SW W b c t d p v g a m R P) => Fg hW.cw hk R.ag.node hn
 clear h
 go_enter Tryz.func122, Tryz.ntmps122
 go_wp2_with fail
 refine Reg2.sI 12 18 [[],[af],[af,af],[af,af,ae],[af,af,ae,ae],[af,af,ae,ae,ae],[af,af,af,af,af,af],[af,af,af,af,af,af,ae],[af,af,af,af,af,af,ae,ae],[af,af,af,af,af,af,ae,ae,ae],[af,af,af,af,af,af,ae,ae,ae,ae],[af,af,ae,ae,ae,ae,ae,ae,ae,ae,ae]] [0, 0, 0, 0, 0, 2, 0, 0, 0, 0, 2, 3]
  [.pure, .pure, .pure, .pure, .pure, .pinned Unit () (fun _ => .pointer (some ⟨d, 0, none⟩)) (fun _ _ => True), .pure, .pure, .pure, .pure, .pinned Unit () (fun _ => .int .i64 R.ag.node) (fun _ _ => True), .major Unit () (fun _ => .int .i64 x0)]
  (fun _ => True) (fun vs W => match vs with | [] => Below w.heap.size w W | _ :: _ => (gG w b c t d p v g a m R { P with T := T0 }) W) (fun _ _ => True) (by kernel_rfl) (by kernel_rfl) rfl rfl (fun vs a b h hs => by cases vs with | nil => exact Below.trans hs (h.mono (Below.size hs)) | cons v vs => exact gG.ext a b h hs) ?_ ?_ ?_ ?_ ?_ ?_
 ·intro a b he hb; trivial
 ·intro a b he hb; trivial
 ·exact ⟨trivial, trivial, trivial, trivial, trivial, ⟨fun _ _ _ _ _ => trivial, fun _ _ _ _ _ => trivial⟩, trivial, trivial, trivial, trivial, ⟨fun _ _ _ _ _ => trivial, fun _ _ _ _ _ => trivial⟩, trivial, trivial⟩
 ·trivial
 ·exact ⟨rfl, rfl, rfl, Nat.le_refl _, fun _ _ => rfl⟩
 dsimp only [Reg2.mk, List.zip, List.zipWith, List.take]
 repeat (refine' Reg2.ai _ (by rfl) (fun wz => ?_) ?_; rotate_left; (go_simp; first | rfl | rw [if_neg (by omega)]); simp only [Act.put, xA, xB, xC]; (try simp only [xD]); (try simp only [xE]); (try simp only [id]))
 refine Reg2.pp (fun wz _ hI hF => ?_) (fun r5 => ?_) (by rfl)
 ·have c0 := (hS.out.cw.kept hI).c1
  go_wp2_with fail
  first | exact ⟨_, rfl, rfl, Reg2.Ext.refl _⟩ | exact ⟨_, rfl, ⟨(), rfl, trivial⟩, Reg2.Ext.refl _⟩
 simp only [Act.put, xA, xB, xC]; (try simp only [xD]); (try simp only [xE]); (try simp only [id])
 repeat (refine' Reg2.ai _ (by rfl) (fun wz => ?_) ?_; rotate_left; (go_simp; first | rfl | rw [if_neg (by omega)]); simp only [Act.put, xA, xB, xC]; (try simp only [xD]); (try simp only [xE]); (try simp only [id]))
 refine Reg2.pp (fun wz _ hI hF => ?_) (fun xU => ?_) (by rfl)
 ·have q0 := (hS.out.kept hI).wk.at 7 (.int .i64 R.ag.node) rfl
  go_wp2_with fail
  first | exact ⟨_, rfl, rfl, Reg2.Ext.refl _⟩ | exact ⟨_, rfl, ⟨(), rfl, trivial⟩, Reg2.Ext.refl _⟩
 simp only [Act.put, xA, xB, xC]; (try simp only [xD]); (try simp only [xE]); (try simp only [id])
 refine Reg2.pj (fun wz _ hI hF => ?_) (fun Nn => ?_) (by rfl)
 ·go_wp2_with (go_at_call 143; go_must (refine (hmu wz (hS.out.kept hI)).mono ?_); rintro e w' ⟨x, T', hT, hL, rfl, v4, g4, nK, bD⟩)
  obtain ⟨rfl, rfl⟩ := hT0.out.uniq hT
  have hpost : gG w b c t d p v g a m R { P with T := T0 } w' := ⟨v4, g4, (hS.out.kept hI).core nK bD, (WS.of_below hI).trans (WS.bZ bD)⟩
  exact ⟨_, rfl, ⟨⟨(), rfl⟩, hpost⟩, trivial⟩
 simp only [Act.put, xA, xB, xC]; (try simp only [xD]); (try simp only [xE]); (try simp only [id])
 refine Reg2.aA ?_
 intro w7 _ qD jP
 clear jP
 dsimp only [List.drop]
 obtain ⟨v7, g7, fQ, wH⟩ : gG w b c t d p v g a m R { P with T := T0 } w7 := qD
 have Ob := QQ w7 v7 g7 fQ
 go_wp2_with fail
 go_at_call 142
 refine Ob.mono ?_
 clear Ob
 rintro e w8 ⟨rfl, v8, g8, fP, dE⟩
 go_wp2_with fail
 go_ret
 exact ⟨rfl, v8, g8, fP, wH.trans dE⟩
theorem xL (h : SW w b c t d p v g a m R P) (hk : PK P) (QR : P = aj M) (hI : aC M) (h1 : 1 ≤ M.dr.length) (hll : M.L.length ≤ 900) (ha : a ≤ 800) (hm : m ≤ 1000000) (hhit : dF kL M.L = none) (hn : -9223372036854775808 ≤ R.ag.node ∧ R.ag.node ≤ 9223372036854775807) {x0 : Int} {T0 : List Int} (hT0 : lh P.T R.ag.node true x0 T0) {a' : Nat} {m' : Int} {R' : Wk} {P' : Pg}
  (QQ : K9 b c t d p a m R P x0 T0 a' m' R' P') :
  Calls Tryz.prog 141 #[.pointer (some ⟨b, 0, none⟩), .pointer (some ⟨c, 0, none⟩)] w (au w b c t d p v g a' m' .nilFunc R' P') := by
 obtain ⟨wA, aM⟩ : ∃ wA, wA = w.alloc (.cells #[.int .i64 1] 3) := ⟨_, rfl⟩
 have cZ : Below w.heap.size w wA := by rw [aM]; exact (Below.refl _ _).alloc (Nat.le_refl _) _
 have Il : aW enc1 1 wA (.slice (some ⟨w.heap.size, 0, none⟩) 1 1) [1] := by rw [aM]; exact fE w w.heap.size [1] rfl (by decide)
 have IK := h.kept cZ
 have hin := ug IK.cw.dZ (by rw [QR]; show M.L.length ≤ 1000; omega) Il
 have hJ : P.J = M.L := by rw [QR]; rfl
 rw [hJ] at hin
 have hdr := fun (W : World) (u : Value) (hC : CW W c t d p v g a m P) (hu : aW ah 10 W u (M.L.filter fun j : Jb => decide (j.state ∈ [(1 : Int)]))) => uq (QR ▸ hC) hI h1 hll ha hm u _ (fun j : Jb => decide (j.state ∈ [(1 : Int)])) hu rfl
 have hno : M.L.findIdx? (fun j : Jb => decide (j.state ∈ [(1 : Int)]) && ak j) = none := by have := hhit; unfold dF at this; rw [← Fy] at this; exact this
 rw [hno] at hdr
 have c0 := h.cw.c0
 have hS := Lib.hid h
 replace hT0 := Lib.hid hT0
 have hmu := fun (W : World) (hW : SW W b c t d p v g a m R P) => H7 hW.cw hk R.ag.node hn
 rw [aM] at hin
 clear h hno hhit
 go_enter Tryz.func141, Tryz.ntmps141
 go_wp2_with fail
 go_at_call 18
 refine hin.mono ?_
 clear hin c0
 rw [← aM]
 rintro e w1 ⟨u, rfl, ho, hb1⟩
 have hS1 := IK.kept hb1
 have hd1 := hdr w1 u hS1.cw (aW.jq ho ay rfl rfl)
 replace aM := Lib.hid aM
 clear ho hdr
 go_wp2_with fail
 go_at_call 164
 refine hd1.mono ?_
 clear hd1
 rintro e w2 (⟨_, rfl, hb2⟩ | ⟨i, hbad, _⟩)
 rotate_left
 ·cases hbad
 have hbw := cZ.trans ((hb1.trans (hb2.mono hb1.size)).mono cZ.size)
 have hS2 := Lib.hid (hS1.kept hb2)
 replace hS1 := Lib.hid hS1
 replace IK := Lib.hid IK
 go_wp2_with fail
 refine Reg2.sI 12 26 [[],[af],[af,af],[af,af,ae],[af,af,ae,ae],[af,af,ae,ae,ae],[af,af,af,af,af,af],[af,af,af,af,af,af,ae],[af,af,af,af,af,af,ae,ae],[af,af,af,af,af,af,ae,ae,ae],[af,af,af,af,af,af,ae,ae,ae,ae],[af,af,ae,ae,ae,ae,ae,ae,ae,ae,ae]] [0, 0, 0, 0, 0, 2, 0, 0, 0, 0, 2, 3]
  [.pure, .pure, .pure, .pure, .pure, .pinned Unit () (fun _ => .pointer (some ⟨d, 0, none⟩)) (fun _ _ => True), .pure, .pure, .pure, .pure, .pinned Unit () (fun _ => .int .i64 R.ag.node) (fun _ _ => True), .major Unit () (fun _ => .int .i64 x0)]
  (fun _ => True) (fun vs W => match vs with | [] => Below w2.heap.size w2 W | _ :: _ => (gG w2 b c t d p v g a m R { P with T := T0 }) W) (fun _ _ => True) (by kernel_rfl) (by kernel_rfl) rfl rfl (fun vs a b h hs => by cases vs with | nil => exact Below.trans hs (h.mono (Below.size hs)) | cons v vs => exact gG.ext a b h hs) ?_ ?_ ?_ ?_ ?_ ?_
 ·intro a b he hb; trivial
 ·intro a b he hb; trivial
 ·exact ⟨trivial, trivial, trivial, trivial, trivial, ⟨fun _ _ _ _ _ => trivial, fun _ _ _ _ _ => trivial⟩, trivial, trivial, trivial, trivial, ⟨fun _ _ _ _ _ => trivial, fun _ _ _ _ _ => trivial⟩, trivial, trivial⟩
 ·trivial
 ·exact ⟨rfl, rfl, rfl, Nat.le_refl _, fun _ _ => rfl⟩
 dsimp only [Reg2.mk, List.zip, List.zipWith, List.take]
 repeat (refine' Reg2.ai _ (by rfl) (fun wz => ?_) ?_; rotate_left; (go_simp; first | rfl | rw [if_neg (by omega)]); simp only [Act.put, xA, xB, xC]; (try simp only [xD]); (try simp only [xE]); (try simp only [id]))
 refine Reg2.pp (fun wz _ hI hF => ?_) (fun r5 => ?_) (by rfl)
 ·have c0 := (hS2.out.cw.kept hI).c1
  go_wp2_with fail
  first | exact ⟨_, rfl, rfl, Reg2.Ext.refl _⟩ | exact ⟨_, rfl, ⟨(), rfl, trivial⟩, Reg2.Ext.refl _⟩
 simp only [Act.put, xA, xB, xC]; (try simp only [xD]); (try simp only [xE]); (try simp only [id])
 repeat (refine' Reg2.ai _ (by rfl) (fun wz => ?_) ?_; rotate_left; (go_simp; first | rfl | rw [if_neg (by omega)]); simp only [Act.put, xA, xB, xC]; (try simp only [xD]); (try simp only [xE]); (try simp only [id]))
 refine Reg2.pp (fun wz _ hI hF => ?_) (fun xU => ?_) (by rfl)
 ·have q0 := (hS2.out.kept hI).wk.at 7 (.int .i64 R.ag.node) rfl
  go_wp2_with fail
  first | exact ⟨_, rfl, rfl, Reg2.Ext.refl _⟩ | exact ⟨_, rfl, ⟨(), rfl, trivial⟩, Reg2.Ext.refl _⟩
 simp only [Act.put, xA, xB, xC]; (try simp only [xD]); (try simp only [xE]); (try simp only [id])
 refine Reg2.pj (fun wz _ hI hF => ?_) (fun Nn => ?_) (by rfl)
 ·go_wp2_with (go_at_call 171; go_must (refine (hmu wz (hS2.out.kept hI)).mono ?_); rintro e w' ⟨x, T', hT, hL, rfl, v4, g4, nK, bD⟩)
  obtain ⟨rfl, rfl⟩ := hT0.out.uniq hT
  have hpost : gG w2 b c t d p v g a m R { P with T := T0 } w' := ⟨v4, g4, (hS2.out.kept hI).core nK bD, (WS.of_below hI).trans (WS.bZ bD)⟩
  exact ⟨_, rfl, ⟨⟨(), rfl⟩, hpost⟩, trivial⟩
 simp only [Act.put, xA, xB, xC]; (try simp only [xD]); (try simp only [xE]); (try simp only [id])
 refine Reg2.aA ?_
 intro w7 _ qD jP
 clear jP
 dsimp only [List.drop]
 obtain ⟨v7, g7, fQ, wH⟩ : gG w2 b c t d p v g a m R { P with T := T0 } w7 := qD
 have Ob := QQ w7 v7 g7 fQ
 go_wp2_with fail
 go_at_call 142
 refine Ob.mono ?_
 clear Ob
 rintro e w8 ⟨rfl, v8, g8, fP, dE⟩
 go_wp2_with fail
 go_ret
 exact ⟨rfl, v8, g8, fP, ((WS.of_below hbw).trans wH).trans dE⟩
theorem xM (h : SW w b c t d p v g a m R (aj M)) (hI : aC M) (h1 : 1 ≤ M.dr.length) (hll : M.L.length ≤ 900) (ha : a ≤ 800) (hm : m ≤ 1000000) {i : Nat} (hhit : dF kL M.L = some i) :
  Calls Tryz.prog 141 #[.pointer (some ⟨b, 0, none⟩), .pointer (some ⟨c, 0, none⟩)] w (au w b c t d p v g (a + 2) (m + 1) (eH 141) R (aj { M with L := M.L.set i ((M.L.getD i default).aD (-1)) })) := by
 obtain ⟨wA, aM⟩ : ∃ wA, wA = w.alloc (.cells #[.int .i64 1] 3) := ⟨_, rfl⟩
 have cZ : Below w.heap.size w wA := by rw [aM]; exact (Below.refl _ _).alloc (Nat.le_refl _) _
 have Il : aW enc1 1 wA (.slice (some ⟨w.heap.size, 0, none⟩) 1 1) [1] := by rw [aM]; exact fE w w.heap.size [1] rfl (by decide)
 have IK := h.kept cZ
 have hin := ug IK.cw.dZ (by show M.L.length ≤ 1000; omega) Il
 rw [show (aj M).J = M.L from rfl] at hin
 have hdr := fun (W : World) (u : Value) (hC : CW W c t d p v g a m (aj M)) (hu : aW ah 10 W u (M.L.filter fun j : Jb => decide (j.state ∈ [(1 : Int)]))) => uq hC hI h1 hll ha hm u _ (fun j : Jb => decide (j.state ∈ [(1 : Int)])) hu rfl
 have hno : M.L.findIdx? (fun j : Jb => decide (j.state ∈ [(1 : Int)]) && ak j) = some i := by have := hhit; unfold dF at this; rw [← Fy] at this; exact this
 rw [hno] at hdr
 have c0 := h.cw.c0
 rw [aM] at hin
 clear h hno hhit
 go_enter Tryz.func141, Tryz.ntmps141
 go_wp2_with fail
 go_at_call 18
 refine hin.mono ?_
 clear hin c0
 rw [← aM]
 rintro e w1 ⟨u, rfl, ho, hb1⟩
 have hS1 := IK.kept hb1
 have hd1 := hdr w1 u hS1.cw (aW.jq ho ay rfl rfl)
 replace aM := Lib.hid aM
 clear ho hdr
 go_wp2_with fail
 go_at_call 164
 refine hd1.mono ?_
 clear hd1
 rintro e w2 (⟨hbad, _⟩ | ⟨i2, he, rfl, v2, g2, hC2, hS2⟩)
 ·cases hbad
 obtain rfl := Option.some.inj he
 have SK := hS1.core hC2 hS2
 have hf := (WS.of_below (cZ.trans (hb1.mono cZ.size)) : WS w w1 b c t d p v g v g).trans (WS.bZ hS2)
 go_wp2_with fail
 go_ret
 exact ⟨rfl, v2, g2, SK, hf⟩
theorem BU (h : SW w b c t d p v g a m R P) (hk : PK P) (hn : -9223372036854775808 ≤ R.ag.node ∧ R.ag.node ≤ 9223372036854775807) (hst : oq P.T R.ag.node = 1 ∨ oq P.T R.ag.node = 2) {L : Value} {a' : Nat} {m' : Int} {R' : Wk} {P' : Pg}
  (hcl : ∀ W, SW W b c t d p v g a m R P → Calls Tryz.prog 141 #[.pointer (some ⟨b, 0, none⟩), .pointer (some ⟨c, 0, none⟩)] W (au W b c t d p v g a' m' L R' P')) :
  Calls Tryz.prog 121 #[.pointer (some ⟨b, 0, none⟩), .pointer (some ⟨c, 0, none⟩)] w (au w b c t d p v g a' m' L R' P') := by
 have hS := Lib.hid h
 have vB := fun (W : World) (hW : SW W b c t d p v g a m R P) => uk R.ag.node hn hW.cw.nodes hk.p9
 generalize hsx : oq P.T R.ag.node = sx at *
 replace hsx := Lib.hid hsx
 clear h
 go_enter Tryz.func121, Tryz.ntmps121
 go_wp2_with fail
 refine Reg2.rd w 9 28 [[],[ae],[ae,ae],[ae,ae,ae],[af,af,af,af],[af,af,af,af,ae],[af,af,af,af,ae,ae],[af,af,af,af,ae,ae,ae],[af,af,af,af,ae,ae,ae,ae]] [0, 0, 0, 1, 0, 0, 0, 0, 1] [.pure, .pure, .pure, .mU (.pointer (some ⟨d, 0, none⟩)), .pure, .pure, .pure, .pure, .mU (.int .i64 R.ag.node)] (by kernel_rfl) (by kernel_rfl) rfl rfl ⟨trivial, trivial, trivial, Reg2.tt, trivial, trivial, trivial, trivial, Reg2.tt, trivial⟩ ⟨rfl, rfl, rfl, Nat.le_refl _, fun _ _ => rfl⟩ ?_
 dsimp only [Reg2.mk, List.zip, List.zipWith, List.take]
 repeat (refine' Reg2.ai _ (by rfl) (fun wz => ?_) ?_; rotate_left; (go_simp; first | rfl | rw [if_neg (by omega)]); simp only [Act.put, xA, xB, xC]; (try simp only [xD]); (try simp only [xE]); (try simp only [id]))
 refine Reg2.pm (fun wz hI hF => ?_) (fun r3 => ?_) (by rfl)
 ·have c0 := (hS.out.cw.kept hI).c1
  go_wp2_with fail
  first | exact ⟨_, rfl, rfl, Reg2.Ext.refl _⟩ | exact ⟨_, rfl, ⟨(), rfl, trivial⟩, Reg2.Ext.refl _⟩
 simp only [Act.put, xA, xB, xC]; (try simp only [xD]); (try simp only [xE]); (try simp only [id])
 repeat (refine' Reg2.ai _ (by rfl) (fun wz => ?_) ?_; rotate_left; (go_simp; first | rfl | rw [if_neg (by omega)]); simp only [Act.put, xA, xB, xC]; (try simp only [xD]); (try simp only [xE]); (try simp only [id]))
 refine Reg2.pm (fun wz hI hF => ?_) (fun r8 => ?_) (by rfl)
 ·have q0 := (hS.out.kept hI).wk.at 7 (.int .i64 R.ag.node) rfl
  go_wp2_with fail
  first | exact ⟨_, rfl, rfl, Reg2.Ext.refl _⟩ | exact ⟨_, rfl, ⟨(), rfl, trivial⟩, Reg2.Ext.refl _⟩
 simp only [Act.put, xA, xB, xC]; (try simp only [xD]); (try simp only [xE]); (try simp only [id])
 refine Reg2.aA ?_
 intro w4 HI4 _ dU
 clear dU
 dsimp only [List.drop]
 have bD := hS.out.kept HI4
 have F3 := vB w4 bD
 go_wp2_with fail
 go_at_call 46
 refine F3.mono ?_
 clear F3
 rintro e w5 ⟨rfl, mm, zA⟩
 have hb5 : Below w4.heap.size w4 w5 := by rw [zA]; exact below_drewN (Below.refl _ _) _
 have hS5 := bD.kept hb5
 have SL := hcl w5 hS5
 have AJ := HI4.trans (hb5.mono HI4.size)
 replace zA := Lib.hid zA
 rcases hst with rfl | rfl
 all_goals
  go_wp2_with fail
  go_at_call 141
  refine SL.mono ?_
  clear SL
  rintro e w8 ⟨rfl, v8, g8, fP, dE⟩
  go_wp2_with fail
  go_ret
  exact ⟨rfl, v8, g8, fP, (WS.of_below AJ).trans dE⟩
theorem BZ (h : SW w b c t d p v g a m R P) (hk : PK P) (hn : -9223372036854775808 ≤ R.ag.node ∧ R.ag.node ≤ 9223372036854775807) (e0 : Int) (hst : (oq P.T R.ag.node = 0 ∧ e0 = 11) ∨ ((oq P.T R.ag.node = 3 ∨ oq P.T R.ag.node = 4) ∧ e0 = 8)) :
  Calls Tryz.prog 121 #[.pointer (some ⟨b, 0, none⟩), .pointer (some ⟨c, 0, none⟩)] w (au w b c t d p v g a m .nilFunc { R with rep := jJ e0, ok := false } P) := by
 have hS := Lib.hid h
 have vB := fun (W : World) (hW : SW W b c t d p v g a m R P) => uk R.ag.node hn hW.cw.nodes hk.p9
 generalize hsx : oq P.T R.ag.node = sx at *
 replace hsx := Lib.hid hsx
 clear h
 go_enter Tryz.func121, Tryz.ntmps121
 go_wp2_with fail
 refine Reg2.rd w 9 28 [[],[ae],[ae,ae],[ae,ae,ae],[af,af,af,af],[af,af,af,af,ae],[af,af,af,af,ae,ae],[af,af,af,af,ae,ae,ae],[af,af,af,af,ae,ae,ae,ae]] [0, 0, 0, 1, 0, 0, 0, 0, 1] [.pure, .pure, .pure, .mU (.pointer (some ⟨d, 0, none⟩)), .pure, .pure, .pure, .pure, .mU (.int .i64 R.ag.node)] (by kernel_rfl) (by kernel_rfl) rfl rfl ⟨trivial, trivial, trivial, Reg2.tt, trivial, trivial, trivial, trivial, Reg2.tt, trivial⟩ ⟨rfl, rfl, rfl, Nat.le_refl _, fun _ _ => rfl⟩ ?_
 dsimp only [Reg2.mk, List.zip, List.zipWith, List.take]
 repeat (refine' Reg2.ai _ (by rfl) (fun wz => ?_) ?_; rotate_left; (go_simp; first | rfl | rw [if_neg (by omega)]); simp only [Act.put, xA, xB, xC]; (try simp only [xD]); (try simp only [xE]); (try simp only [id]))
 refine Reg2.pm (fun wz hI hF => ?_) (fun r3 => ?_) (by rfl)
 ·have c0 := (hS.out.cw.kept hI).c1
  go_wp2_with fail
  first | exact ⟨_, rfl, rfl, Reg2.Ext.refl _⟩ | exact ⟨_, rfl, ⟨(), rfl, trivial⟩, Reg2.Ext.refl _⟩
 simp only [Act.put, xA, xB, xC]; (try simp only [xD]); (try simp only [xE]); (try simp only [id])
 repeat (refine' Reg2.ai _ (by rfl) (fun wz => ?_) ?_; rotate_left; (go_simp; first | rfl | rw [if_neg (by omega)]); simp only [Act.put, xA, xB, xC]; (try simp only [xD]); (try simp only [xE]); (try simp only [id]))
 refine Reg2.pm (fun wz hI hF => ?_) (fun r8 => ?_) (by rfl)
 ·have q0 := (hS.out.kept hI).wk.at 7 (.int .i64 R.ag.node) rfl
  go_wp2_with fail
  first | exact ⟨_, rfl, rfl, Reg2.Ext.refl _⟩ | exact ⟨_, rfl, ⟨(), rfl, trivial⟩, Reg2.Ext.refl _⟩
 simp only [Act.put, xA, xB, xC]; (try simp only [xD]); (try simp only [xE]); (try simp only [id])
 refine Reg2.aA ?_
 intro w4 HI4 _ dU
 clear dU
 dsimp only [List.drop]
 have bD := hS.out.kept HI4
 have F3 := vB w4 bD
 go_wp2_with fail
 go_at_call 46
 refine F3.mono ?_
 clear F3
 rintro e w5 ⟨rfl, mm, zA⟩
 have hb5 : Below w4.heap.size w4 w5 := by rw [zA]; exact below_drewN (Below.refl _ _) _
 have hS5 := bD.kept hb5
 have AJ := HI4.trans (hb5.mono HI4.size)
 replace zA := Lib.hid zA
 rcases hst with ⟨rfl, rfl⟩ | ⟨rfl | rfl, rfl⟩
 ·have hf := gF hS5.wk 11
  go_wp2_with (go_at_call 67; go_must (refine hf.mono ?_); rintro e w8 ⟨rfl, dE, fA⟩)
  go_ret
  exact ⟨rfl, v, g, hS5.work dE fA, (WS.of_below AJ).trans (WS.bu fA)⟩
 all_goals
  have hf := gF hS5.wk 8
  go_wp2_with (go_at_call 67; go_must (refine hf.mono ?_); rintro e w8 ⟨rfl, dE, fA⟩)
  go_ret
  exact ⟨rfl, v, g, hS5.work dE fA, (WS.of_below AJ).trans (WS.bu fA)⟩
end
end Go.Proofs.YtkhfejihijdipaaGreat

namespace Go.Proofs.YtkhfejihijdipaaGreat
open Go.RowKit Go.Lib Go.Sort
section
variable {w : World} {b c t d p g a : Nat} {v : Value} {m : Int} {P : Pg} {R : Wk}
theorem Lb (h : SW w b c t d p v g a m R P) (hk : PK P) (hlow : R.ag.till < 1) :
  Calls Tryz.prog 123 #[.pointer (some ⟨b, 0, none⟩), .pointer (some ⟨c, 0, none⟩)] w (au w b c t d p v g a m .nilFunc { R with rep := jJ 10, ok := false } P) := by
 have hS := Lib.hid h
 have hsub := fun (W : World) => zM 1099511627776 P.now W
 have hnw := hk.now
 obtain ⟨sb, hsb⟩ : ∃ sb, sb = 1099511627776 - P.now := ⟨_, rfl⟩
 rw [show hd (hd 1099511627776 - hd P.now) = sb by rw [hsb]; unfold hd; omega] at hsub
 obtain ⟨ty, hty⟩ : ∃ ty, R.ag.till = ty := ⟨_, rfl⟩
 rw [hty] at hlow
 have d1 : decide (ty < 1) = true := decide_eq_true hlow
 replace hty := Lib.hid hty
 replace hsb := Lib.hid hsb
 clear h
 go_enter Tryz.func123, Tryz.ntmps123
 go_wp2_with fail
 refine Reg2.rd w 18 44 [[],[ae],[ae,ae],[ae,ae,ae],[ae,ae,ae,ae],[ae,ae,ae,ae,ae],[ae,ae,ae,ae,ae,ae],[ae,ae,ae,ae,ae,ae,ae],[ae,ae,ae,ae,ae,ae,ae,ae],[ae,ae,ae,ae,ae,ae,ae,ae,ae],[ae,ae,ae,ae,ae,ae,ae,ae,ae,ae],[ae,ae,ae,ae,ae,ae,ae,ae,ae,ae,ae],[ae,ae,ae,ae,ae,ae,ae,af,af,af,af,af],[ae,ae,ae,ae,ae,ae,ae,af,af,af,af,af,ae],[ae,ae,ae,ae,ae,ae,ae,af,af,af,af,af,ae,ae],[ae,ae,ae,ae,ae,ae,ae,af,af,af,af,af,ae,ae,ae],[ae,ae,ae,ae,ae,ae,ae,af,af,af,af,af,ae,ae,ae,ae],[ae,ae,ae,ae,ae,ae,ae,af,af,af,af,af,ae,ae,ae,ae,ae]] [0, 0, 0, 0, 1, 0, 0, 0, 0, 0, 0, 1, 0, 0, 0, 1, 1, 1] [.pure, .pure, .pure, .pure, .mU (.int .i64 ty), .pure, .pure, .pure, .pure, .pure, .pure, .mU (.int .i64 ty), .pure, .pure, .pure, .mU (.pointer (some ⟨p, 0, none⟩)), .mU (.int .i64 P.now), .mU (.int .i64 sb)] (by kernel_rfl) (by kernel_rfl) rfl rfl ⟨trivial, trivial, trivial, trivial, Reg2.tt, trivial, trivial, trivial, trivial, trivial, trivial, Reg2.tt, trivial, trivial, trivial, Reg2.tt, Reg2.tt, Reg2.tt, trivial⟩ ⟨rfl, rfl, rfl, Nat.le_refl _, fun _ _ => rfl⟩ ?_
 dsimp only [Reg2.mk, List.zip, List.zipWith, List.take]
 repeat (refine' Reg2.ai _ (by rfl) (fun wz => ?_) ?_; rotate_left; (go_simp; first | rfl | rw [if_neg (by omega)]); simp only [Act.put, xA, xB, xC]; (try simp only [xD]); (try simp only [xE]); (try simp only [id]))
 refine Reg2.pm (fun wz hI hF => ?_) (fun r4 => ?_) (by rfl)
 ·have q0 := (hS.out.kept hI).wk.at 8 (.int .i64 R.ag.till) rfl
  rw [hty.out] at q0
  go_wp2_with fail
  first | exact ⟨_, rfl, rfl, Reg2.Ext.refl _⟩ | exact ⟨_, rfl, ⟨(), rfl, trivial⟩, Reg2.Ext.refl _⟩
 simp only [Act.put, xA, xB, xC]; (try simp only [xD]); (try simp only [xE]); (try simp only [id])
 repeat (refine' Reg2.ai _ (by rfl) (fun wz => ?_) ?_; rotate_left; (go_simp; first | rfl | rw [if_neg (by omega)]); simp only [Act.put, xA, xB, xC]; (try simp only [xD]); (try simp only [xE]); (try simp only [id]))
 refine Reg2.bP (by rfl) ?_
 simp only [Act.put, xA, xB, xC]; (try simp only [xD]); (try simp only [xE]); (try simp only [id])
 refine Reg2.bP (by rfl) ?_
 simp only [Act.put, xA, xB, xC]; (try simp only [xD]); (try simp only [xE]); (try simp only [id])
 refine Reg2.bP (by rfl) ?_
 simp only [Act.put, xA, xB, xC]; (try simp only [xD]); (try simp only [xE]); (try simp only [id])
 refine Reg2.bP (by rfl) ?_
 simp only [Act.put, xA, xB, xC]; (try simp only [xD]); (try simp only [xE]); (try simp only [id])
 refine Reg2.bB (by rfl) ?_
 simp only [Act.put, xA, xB, xC]; (try simp only [xD]); (try simp only [xE]); (try simp only [id])
 refine Reg2.bP (by rfl) ?_
 simp only [Act.put, xA, xB, xC]; (try simp only [xD]); (try simp only [xE]); (try simp only [id])
 refine Reg2.bP (by rfl) ?_
 simp only [Act.put, xA, xB, xC]; (try simp only [xD]); (try simp only [xE]); (try simp only [id])
 refine Reg2.bP (by rfl) ?_
 simp only [Act.put, xA, xB, xC]; (try simp only [xD]); (try simp only [xE]); (try simp only [id])
 refine Reg2.bB (by rfl) ?_
 simp only [Act.put, xA, xB, xC]; (try simp only [xD]); (try simp only [xE]); (try simp only [id])
 refine Reg2.bB (by rfl) ?_
 simp only [Act.put, xA, xB, xC]; (try simp only [xD]); (try simp only [xE]); (try simp only [id])
 refine Reg2.bB (by rfl) ?_
 simp only [Act.put, xA, xB, xC]; (try simp only [xD]); (try simp only [xE]); (try simp only [id])
 refine Reg2.aA ?_
 intro w4 HI4 _ dU
 clear dU
 dsimp only [List.drop]
 have bD := hS.out.kept HI4
 have hf := gF bD.wk 10
 go_wp2_with (go_at_call 67; go_must (refine hf.mono ?_); rintro e w8 ⟨rfl, dE, fA⟩)
 go_ret
 exact ⟨rfl, v, g, bD.work dE fA, (WS.of_below HI4).trans (WS.bu fA)⟩
theorem IL (h : SW w b c t d p v g a m R P) (hk : PK P) (hlow : ¬ R.ag.till < 1) (hhi : 1099511627776 - P.now < R.ag.till) :
  Calls Tryz.prog 123 #[.pointer (some ⟨b, 0, none⟩), .pointer (some ⟨c, 0, none⟩)] w (au w b c t d p v g a m .nilFunc { R with rep := jJ 10, ok := false } P) := by
 have hS := Lib.hid h
 have hsub := fun (W : World) => zM 1099511627776 P.now W
 have hnw := hk.now
 obtain ⟨sb, hsb⟩ : ∃ sb, sb = 1099511627776 - P.now := ⟨_, rfl⟩
 rw [show hd (hd 1099511627776 - hd P.now) = sb by rw [hsb]; unfold hd; omega] at hsub
 obtain ⟨ty, hty⟩ : ∃ ty, R.ag.till = ty := ⟨_, rfl⟩
 rw [hty] at hlow hhi
 have d1 : decide (ty < 1) = false := decide_eq_false hlow
 have d2 : decide (ty > sb) = true := decide_eq_true (by omega)
 replace hhi := Lib.hid hhi
 replace hty := Lib.hid hty
 replace hsb := Lib.hid hsb
 clear h
 go_enter Tryz.func123, Tryz.ntmps123
 go_wp2_with fail
 refine Reg2.rd w 18 44 [[],[ae],[ae,ae],[ae,ae,ae],[ae,ae,ae,ae],[ae,ae,ae,ae,ae],[ae,ae,ae,ae,ae,ae],[ae,ae,ae,ae,ae,ae,ae],[ae,ae,ae,ae,ae,ae,ae,ae],[ae,ae,ae,ae,ae,ae,ae,ae,ae],[ae,ae,ae,ae,ae,ae,ae,ae,ae,ae],[ae,ae,ae,ae,ae,ae,ae,ae,ae,ae,ae],[ae,ae,ae,ae,ae,ae,ae,af,af,af,af,af],[ae,ae,ae,ae,ae,ae,ae,af,af,af,af,af,ae],[ae,ae,ae,ae,ae,ae,ae,af,af,af,af,af,ae,ae],[ae,ae,ae,ae,ae,ae,ae,af,af,af,af,af,ae,ae,ae],[ae,ae,ae,ae,ae,ae,ae,af,af,af,af,af,ae,ae,ae,ae],[ae,ae,ae,ae,ae,ae,ae,af,af,af,af,af,ae,ae,ae,ae,ae]] [0, 0, 0, 0, 1, 0, 0, 0, 0, 0, 0, 1, 0, 0, 0, 1, 1, 1] [.pure, .pure, .pure, .pure, .mU (.int .i64 ty), .pure, .pure, .pure, .pure, .pure, .pure, .mU (.int .i64 ty), .pure, .pure, .pure, .mU (.pointer (some ⟨p, 0, none⟩)), .mU (.int .i64 P.now), .mU (.int .i64 sb)] (by kernel_rfl) (by kernel_rfl) rfl rfl ⟨trivial, trivial, trivial, trivial, Reg2.tt, trivial, trivial, trivial, trivial, trivial, trivial, Reg2.tt, trivial, trivial, trivial, Reg2.tt, Reg2.tt, Reg2.tt, trivial⟩ ⟨rfl, rfl, rfl, Nat.le_refl _, fun _ _ => rfl⟩ ?_
 dsimp only [Reg2.mk, List.zip, List.zipWith, List.take]
 repeat (refine' Reg2.ai _ (by rfl) (fun wz => ?_) ?_; rotate_left; (go_simp; first | rfl | rw [if_neg (by omega)]); simp only [Act.put, xA, xB, xC]; (try simp only [xD]); (try simp only [xE]); (try simp only [id]))
 refine Reg2.pm (fun wz hI hF => ?_) (fun r4 => ?_) (by rfl)
 ·have q0 := (hS.out.kept hI).wk.at 8 (.int .i64 R.ag.till) rfl
  rw [hty.out] at q0
  go_wp2_with fail
  first | exact ⟨_, rfl, rfl, Reg2.Ext.refl _⟩ | exact ⟨_, rfl, ⟨(), rfl, trivial⟩, Reg2.Ext.refl _⟩
 simp only [Act.put, xA, xB, xC]; (try simp only [xD]); (try simp only [xE]); (try simp only [id])
 repeat (refine' Reg2.ai _ (by rfl) (fun wz => ?_) ?_; rotate_left; (go_simp; first | rfl | rw [if_neg (by omega)]); simp only [Act.put, xA, xB, xC]; (try simp only [xD]); (try simp only [xE]); (try simp only [id]))
 refine Reg2.pm (fun wz hI hF => ?_) (fun Nn => ?_) (by rfl)
 ·have q0 := (hS.out.kept hI).wk.at 8 (.int .i64 R.ag.till) rfl
  rw [hty.out] at q0
  go_wp2_with fail
  first | exact ⟨_, rfl, rfl, Reg2.Ext.refl _⟩ | exact ⟨_, rfl, ⟨(), rfl, trivial⟩, Reg2.Ext.refl _⟩
 simp only [Act.put, xA, xB, xC]; (try simp only [xD]); (try simp only [xE]); (try simp only [id])
 repeat (refine' Reg2.ai _ (by rfl) (fun wz => ?_) ?_; rotate_left; (go_simp; first | rfl | rw [if_neg (by omega)]); simp only [Act.put, xA, xB, xC]; (try simp only [xD]); (try simp only [xE]); (try simp only [id]))
 refine Reg2.pm (fun wz hI hF => ?_) (fun Sw => ?_) (by rfl)
 ·have c0 := (hS.out.cw.kept hI).c2
  go_wp2_with fail
  first | exact ⟨_, rfl, rfl, Reg2.Ext.refl _⟩ | exact ⟨_, rfl, ⟨(), rfl, trivial⟩, Reg2.Ext.refl _⟩
 simp only [Act.put, xA, xB, xC]; (try simp only [xD]); (try simp only [xE]); (try simp only [id])
 refine Reg2.pm (fun wz hI hF => ?_) (fun r16 => ?_) (by rfl)
 ·go_wp2_with (go_at_call 43; go_must (refine (fO (hS.out.kept hI).cw).mono ?_); rintro e w' ⟨rfl, rfl⟩)
  first | exact ⟨_, rfl, rfl, Reg2.Ext.refl _⟩ | exact ⟨_, rfl, ⟨(), rfl, trivial⟩, Reg2.Ext.refl _⟩
 simp only [Act.put, xA, xB, xC]; (try simp only [xD]); (try simp only [xE]); (try simp only [id])
 refine Reg2.pm (fun wz hI hF => ?_) (fun Sa => ?_) (by rfl)
 ·go_wp2_with (go_at_call 144; go_must (refine (hsub wz).mono ?_); rintro e w' ⟨rfl, rfl⟩)
  first | exact ⟨_, rfl, rfl, Reg2.Ext.refl _⟩ | exact ⟨_, rfl, ⟨(), rfl, trivial⟩, Reg2.Ext.refl _⟩
 simp only [Act.put, xA, xB, xC]; (try simp only [xD]); (try simp only [xE]); (try simp only [id])
 refine Reg2.aA ?_
 intro w4 HI4 _ dU
 clear dU
 dsimp only [List.drop]
 have bD := hS.out.kept HI4
 have hf := gF bD.wk 10
 go_wp2_with (go_at_call 67; go_must (refine hf.mono ?_); rintro e w8 ⟨rfl, dE, fA⟩)
 go_ret
 exact ⟨rfl, v, g, bD.work dE fA, (WS.of_below HI4).trans (WS.bu fA)⟩
theorem F6 (h : SW w b c t d p v g a m R P) (hk : PK P) (hlow : ¬ R.ag.till < 1) (hhi : ¬ 1099511627776 - P.now < R.ag.till) {L : Value} {a' : Nat} {m' : Int} {R' : Wk} {P' : Pg}
  (hfw : ∀ W, SW W b c t d p v g a m { R with target := P.now + R.ag.till } P → Calls Tryz.prog 145 #[.pointer (some ⟨b, 0, none⟩), .pointer (some ⟨c, 0, none⟩)] W (au W b c t d p v g a' m' L R' P')) :
  Calls Tryz.prog 123 #[.pointer (some ⟨b, 0, none⟩), .pointer (some ⟨c, 0, none⟩)] w (au w b c t d p v g a' m' L R' P') := by
 have hS := Lib.hid h
 have hsub := fun (W : World) => zM 1099511627776 P.now W
 have hnw := hk.now
 obtain ⟨sb, hsb⟩ : ∃ sb, sb = 1099511627776 - P.now := ⟨_, rfl⟩
 rw [show hd (hd 1099511627776 - hd P.now) = sb by rw [hsb]; unfold hd; omega] at hsub
 obtain ⟨ty, hty⟩ : ∃ ty, R.ag.till = ty := ⟨_, rfl⟩
 rw [hty] at hlow hhi hfw
 have d1 : decide (ty < 1) = false := decide_eq_false hlow
 have d2 : decide (ty > sb) = false := decide_eq_false (by omega)
 have wt : IntKind.i64.wrap (P.now + ty) = P.now + ty := by rw [IntKind.wrap_i64]; omega
 replace hhi := Lib.hid hhi
 replace hty := Lib.hid hty
 replace hsb := Lib.hid hsb
 clear h
 go_enter Tryz.func123, Tryz.ntmps123
 go_wp2_with fail
 refine Reg2.rd w 18 44 [[],[ae],[ae,ae],[ae,ae,ae],[ae,ae,ae,ae],[ae,ae,ae,ae,ae],[ae,ae,ae,ae,ae,ae],[ae,ae,ae,ae,ae,ae,ae],[ae,ae,ae,ae,ae,ae,ae,ae],[ae,ae,ae,ae,ae,ae,ae,ae,ae],[ae,ae,ae,ae,ae,ae,ae,ae,ae,ae],[ae,ae,ae,ae,ae,ae,ae,ae,ae,ae,ae],[ae,ae,ae,ae,ae,ae,ae,af,af,af,af,af],[ae,ae,ae,ae,ae,ae,ae,af,af,af,af,af,ae],[ae,ae,ae,ae,ae,ae,ae,af,af,af,af,af,ae,ae],[ae,ae,ae,ae,ae,ae,ae,af,af,af,af,af,ae,ae,ae],[ae,ae,ae,ae,ae,ae,ae,af,af,af,af,af,ae,ae,ae,ae],[ae,ae,ae,ae,ae,ae,ae,af,af,af,af,af,ae,ae,ae,ae,ae]] [0, 0, 0, 0, 1, 0, 0, 0, 0, 0, 0, 1, 0, 0, 0, 1, 1, 1] [.pure, .pure, .pure, .pure, .mU (.int .i64 ty), .pure, .pure, .pure, .pure, .pure, .pure, .mU (.int .i64 ty), .pure, .pure, .pure, .mU (.pointer (some ⟨p, 0, none⟩)), .mU (.int .i64 P.now), .mU (.int .i64 sb)] (by kernel_rfl) (by kernel_rfl) rfl rfl ⟨trivial, trivial, trivial, trivial, Reg2.tt, trivial, trivial, trivial, trivial, trivial, trivial, Reg2.tt, trivial, trivial, trivial, Reg2.tt, Reg2.tt, Reg2.tt, trivial⟩ ⟨rfl, rfl, rfl, Nat.le_refl _, fun _ _ => rfl⟩ ?_
 dsimp only [Reg2.mk, List.zip, List.zipWith, List.take]
 repeat (refine' Reg2.ai _ (by rfl) (fun wz => ?_) ?_; rotate_left; (go_simp; first | rfl | rw [if_neg (by omega)]); simp only [Act.put, xA, xB, xC]; (try simp only [xD]); (try simp only [xE]); (try simp only [id]))
 refine Reg2.pm (fun wz hI hF => ?_) (fun r4 => ?_) (by rfl)
 ·have q0 := (hS.out.kept hI).wk.at 8 (.int .i64 R.ag.till) rfl
  rw [hty.out] at q0
  go_wp2_with fail
  first | exact ⟨_, rfl, rfl, Reg2.Ext.refl _⟩ | exact ⟨_, rfl, ⟨(), rfl, trivial⟩, Reg2.Ext.refl _⟩
 simp only [Act.put, xA, xB, xC]; (try simp only [xD]); (try simp only [xE]); (try simp only [id])
 repeat (refine' Reg2.ai _ (by rfl) (fun wz => ?_) ?_; rotate_left; (go_simp; first | rfl | rw [if_neg (by omega)]); simp only [Act.put, xA, xB, xC]; (try simp only [xD]); (try simp only [xE]); (try simp only [id]))
 refine Reg2.pm (fun wz hI hF => ?_) (fun Nn => ?_) (by rfl)
 ·have q0 := (hS.out.kept hI).wk.at 8 (.int .i64 R.ag.till) rfl
  rw [hty.out] at q0
  go_wp2_with fail
  first | exact ⟨_, rfl, rfl, Reg2.Ext.refl _⟩ | exact ⟨_, rfl, ⟨(), rfl, trivial⟩, Reg2.Ext.refl _⟩
 simp only [Act.put, xA, xB, xC]; (try simp only [xD]); (try simp only [xE]); (try simp only [id])
 repeat (refine' Reg2.ai _ (by rfl) (fun wz => ?_) ?_; rotate_left; (go_simp; first | rfl | rw [if_neg (by omega)]); simp only [Act.put, xA, xB, xC]; (try simp only [xD]); (try simp only [xE]); (try simp only [id]))
 refine Reg2.pm (fun wz hI hF => ?_) (fun Sw => ?_) (by rfl)
 ·have c0 := (hS.out.cw.kept hI).c2
  go_wp2_with fail
  first | exact ⟨_, rfl, rfl, Reg2.Ext.refl _⟩ | exact ⟨_, rfl, ⟨(), rfl, trivial⟩, Reg2.Ext.refl _⟩
 simp only [Act.put, xA, xB, xC]; (try simp only [xD]); (try simp only [xE]); (try simp only [id])
 refine Reg2.pm (fun wz hI hF => ?_) (fun r16 => ?_) (by rfl)
 ·go_wp2_with (go_at_call 43; go_must (refine (fO (hS.out.kept hI).cw).mono ?_); rintro e w' ⟨rfl, rfl⟩)
  first | exact ⟨_, rfl, rfl, Reg2.Ext.refl _⟩ | exact ⟨_, rfl, ⟨(), rfl, trivial⟩, Reg2.Ext.refl _⟩
 simp only [Act.put, xA, xB, xC]; (try simp only [xD]); (try simp only [xE]); (try simp only [id])
 refine Reg2.pm (fun wz hI hF => ?_) (fun Sa => ?_) (by rfl)
 ·go_wp2_with (go_at_call 144; go_must (refine (hsub wz).mono ?_); rintro e w' ⟨rfl, rfl⟩)
  first | exact ⟨_, rfl, rfl, Reg2.Ext.refl _⟩ | exact ⟨_, rfl, ⟨(), rfl, trivial⟩, Reg2.Ext.refl _⟩
 simp only [Act.put, xA, xB, xC]; (try simp only [xD]); (try simp only [xE]); (try simp only [id])
 refine Reg2.aA ?_
 intro w4 HI4 _ dU
 clear dU
 dsimp only [List.drop]
 have bD := Lib.hid (hS.out.kept HI4)
 go_wp2_with fail
 refine Reg2.rd w4 12 44 [[],[af],[af,ae],[af,ae,ae],[af,ae,ae,ae],[af,ae,ae,ae,ae],[af,af,af,af,af,af],[af,af,af,af,af,af,ae],[af,af,af,af,af,af,ae,ae],[af,af,af,af,af,af,ae,ae,ae],[af,af,af,af,af,af,ae,ae,ae,ae],[af,ae,ae,ae,ae,ae,ae,ae,ae,ae,ae]] [0, 0, 0, 0, 1, 1, 0, 0, 0, 0, 1, 0] [.pure, .pure, .pure, .pure, .mU (.pointer (some ⟨p, 0, none⟩)), .mU (.int .i64 P.now), .pure, .pure, .pure, .pure, .mU (.int .i64 ty), .pure] (by kernel_rfl) (by kernel_rfl) rfl rfl ⟨trivial, trivial, trivial, trivial, Reg2.tt, Reg2.tt, trivial, trivial, trivial, trivial, Reg2.tt, trivial, trivial⟩ ⟨rfl, rfl, rfl, Nat.le_refl _, fun _ _ => rfl⟩ ?_
 dsimp only [Reg2.mk, List.zip, List.zipWith, List.take]
 repeat (refine' Reg2.ai _ (by rfl) (fun wz => ?_) ?_; rotate_left; (go_simp; first | rfl | rw [if_neg (by omega)]); simp only [Act.put, xA, xB, xC]; (try simp only [xD]); (try simp only [xE]); (try simp only [id]))
 refine Reg2.pm (fun wz hI hF => ?_) (fun r4 => ?_) (by rfl)
 ·have c0 := (bD.out.cw.kept hI).c2
  go_wp2_with fail
  first | exact ⟨_, rfl, rfl, Reg2.Ext.refl _⟩ | exact ⟨_, rfl, ⟨(), rfl, trivial⟩, Reg2.Ext.refl _⟩
 simp only [Act.put, xA, xB, xC]; (try simp only [xD]); (try simp only [xE]); (try simp only [id])
 refine Reg2.pm (fun wz hI hF => ?_) (fun r5 => ?_) (by rfl)
 ·go_wp2_with (go_at_call 43; go_must (refine (fO (bD.out.kept hI).cw).mono ?_); rintro e w' ⟨rfl, rfl⟩)
  first | exact ⟨_, rfl, rfl, Reg2.Ext.refl _⟩ | exact ⟨_, rfl, ⟨(), rfl, trivial⟩, Reg2.Ext.refl _⟩
 simp only [Act.put, xA, xB, xC]; (try simp only [xD]); (try simp only [xE]); (try simp only [id])
 repeat (refine' Reg2.ai _ (by rfl) (fun wz => ?_) ?_; rotate_left; (go_simp; first | rfl | rw [if_neg (by omega)]); simp only [Act.put, xA, xB, xC]; (try simp only [xD]); (try simp only [xE]); (try simp only [id]))
 refine Reg2.pm (fun wz hI hF => ?_) (fun xU => ?_) (by rfl)
 ·have q0 := (bD.out.kept hI).wk.at 8 (.int .i64 R.ag.till) rfl
  rw [hty.out] at q0
  go_wp2_with fail
  first | exact ⟨_, rfl, rfl, Reg2.Ext.refl _⟩ | exact ⟨_, rfl, ⟨(), rfl, trivial⟩, Reg2.Ext.refl _⟩
 simp only [Act.put, xA, xB, xC]; (try simp only [xD]); (try simp only [xE]); (try simp only [id])
 repeat (refine' Reg2.ai _ (by rfl) (fun wz => ?_) ?_; rotate_left; (go_simp; first | rfl | rw [if_neg (by omega)]); simp only [Act.put, xA, xB, xC]; (try simp only [xD]); (try simp only [xE]); (try simp only [id]))
 refine Reg2.aA ?_
 intro w6 Fw _ dU
 clear dU
 dsimp only [List.drop]
 have dM := bD.out.kept Fw
 have a23 := dM.wk.at 23 (.int .i64 R.target) rfl
 have f23 := dM.wk.free 23
 have fQ := dM.work (dM.wk.target (P.now + ty)) (bT w6 23 (.int .i64 (P.now + ty)))
 have Ir := (WS.of_below (HI4.trans (Fw.mono HI4.size)) : WS w w6 b c t d p v g v g).trans (WS.bu (bT w6 23 (.int .i64 (P.now + ty))))
 have PS := hfw _ fQ
 go_wp2_with fail
 go_at_call 145
 refine PS.mono ?_
 clear PS
 rintro e w8 ⟨rfl, v8, g8, fP, dE⟩
 have Io := Ir.trans dE
 go_wp2_with fail
 go_ret
 exact ⟨rfl, v8, g8, fP, Io⟩
end
end Go.Proofs.YtkhfejihijdipaaGreat

namespace Go.Proofs.YtkhfejihijdipaaGreat
open Go.RowKit Go.Lib Go.Sort
section
variable {w : World} {b c t d p g a : Nat} {v : Value} {m : Int} {P : Pg} {M : Md} {R : Wk}
theorem yf (h : SW w b c t d p v g a m R P) (hq : R.ag.kind = 6) (e1 : Int) (he1 : e1 ≠ 0) (he : fU P.J R.ag.id = e1) :
  Calls Tryz.prog 92 #[.pointer (some ⟨b, 0, none⟩), .pointer (some ⟨c, 0, none⟩)] w (au w b c t d p v g a m .nilFunc { R with rep := jJ e1, ok := false } P) := by
 have zJ := bC
 obtain ⟨k, hk1⟩ : ∃ k, k = 10 := ⟨_, rfl⟩
 rw [← hk1] at zJ
 have hk0 : ¬ k = 0 := by omega
 have lY := ay (bF P.J R.ag.id)
 rw [← hk1] at lY
 replace hk1 := Lib.hid hk1
 have q0 := h.wk.at 0 (.int .i64 R.ag.kind) rfl
 rw [hq] at q0
 obtain ⟨y, hy⟩ : ∃ y, y = bF P.J R.ag.id := ⟨_, rfl⟩
 obtain ⟨e0, he0⟩ : ∃ e0, e0 = fU P.J R.ag.id := ⟨_, rfl⟩
 have hgo : Hid (∀ W, SW W b c t d p v g a m R P → Calls Tryz.prog 70 #[.pointer (some ⟨t, 0, none⟩), .int .i64 R.ag.id] W fun e w' => e = .returned (.tuple #[.agg (ah y).toArray, .int .i64 e0]) ∧ Gr W w') := fun W hW => by
  have := gu hW.cw.dZ R.ag.id
  unfold ik at this
  rw [← hy, ← he0] at this
  exact this
 rw [← he0] at he
 rw [← hy] at lY
 replace he := Lib.hid he
 have hS := Lib.hid h
 replace he0 := Lib.hid he0
 replace hy := Lib.hid hy
 replace hq := Lib.hid hq
 clear h
 go_enter Tryz.func92, Tryz.ntmps92
 go_wp2_with fail
 refine Reg2.pF 15 73 [[],[ae],[ae,ae],[ae,ae,ae],[af,af,af,af],[af,af,af,af,ae],[af,af,af,af,ae,ae],[af,af,af,af,ae,ae,ae],[af,af,af,af,ae,ae,ae,ae],[ae,ae,ae,ae,ae,ae,ae,ae,ae],[ae,ae,ae,ae,ae,ae,ae,ae,ae,ae],[ae,ae,ae,ae,ae,ae,ae,ae,ae,ae,ae],[ae,ae,ae,ae,ae,ae,ae,ae,ae,ae,ae,af],[af,af,af,af,af,af,af,af,af,af,af,af,af],[ae,ae,ae,ae,ae,ae,ae,ae,ae,ae,ae,ae,af,ae]] [0, 0, 0, 1, 0, 0, 0, 0, 1, 1, 0, 0, 0, 3, 3]
  [.pure, .pure, .pure, .mU (.pointer (some ⟨t, 0, none⟩)), .pure, .pure, .pure, .pure, .mU (.int .i64 R.ag.id), .mU (.tuple #[.agg (ah y).toArray, .int .i64 e0]), .pure, .pure, .pure, .major Nat 0 (fun k => .pointer (some ⟨k, 0, none⟩)), .major Unit () (fun _ => undef)]
  (fun W => Below w.heap.size w W) (gQ w y) (fun a b => Below w.heap.size a b) (by kernel_rfl) (by kernel_rfl) rfl rfl (fun vs a b h hs => gQ.ext h hs) ?_ ?_ ?_ ?_ ?_ ?_ ?_
 ·intro a b he hb; exact hb.trans (Below.mono he hb.size)
 ·intro a b he hb; exact hb.trans he
 ·exact ⟨trivial, trivial, trivial, ⟨fun _ _ _ _ _ => trivial, fun _ _ _ _ _ => trivial⟩, trivial, trivial, trivial, trivial, ⟨fun _ _ _ _ _ => trivial, fun _ _ _ _ _ => trivial⟩, ⟨fun _ _ _ _ _ => trivial, fun _ _ _ _ _ => trivial⟩, trivial, trivial, trivial, trivial, trivial, trivial⟩
 ·exact ⟨(fun h => nomatch h), (fun h => nomatch h), (fun h => nomatch h), (fun h => nomatch h), (fun h => nomatch h), (fun h => nomatch h), (fun h => nomatch h), (fun h => nomatch h), (fun h => nomatch h), (fun h => nomatch h), (fun h => nomatch h), (fun h => nomatch h), (fun h => nomatch h), (fun h => nomatch h), (fun _ _ => rfl), trivial⟩
 ·exact ⟨rfl, rfl, rfl, Nat.le_refl _, fun _ _ => rfl⟩
 ·exact ⟨⟨rfl, rfl, rfl, Nat.le_refl _, fun _ _ => rfl⟩, trivial⟩
 dsimp only [Reg2.mk, List.zip, List.zipWith, List.take]
 repeat (refine' Reg2.ai _ (by rfl) (fun wz => ?_) ?_; rotate_left; (go_simp; first | rfl | rw [if_neg (by omega)]); simp only [Act.put, xA, xB, xC]; (try simp only [xD]); (try simp only [xE]); (try simp only [id]))
 refine Reg2.pm (fun wz hI hF => ?_) (fun r3 => ?_) (by rfl)
 ·have c0 := (hS.out.kept hI).cw.c0
  go_wp2_with fail
  first | exact ⟨_, rfl, rfl, Reg2.Ext.refl _⟩ | exact ⟨_, rfl, ⟨(), rfl, trivial⟩, Reg2.Ext.refl _⟩
 simp only [Act.put, xA, xB, xC]; (try simp only [xD]); (try simp only [xE]); (try simp only [id])
 repeat (refine' Reg2.ai _ (by rfl) (fun wz => ?_) ?_; rotate_left; (go_simp; first | rfl | rw [if_neg (by omega)]); simp only [Act.put, xA, xB, xC]; (try simp only [xD]); (try simp only [xE]); (try simp only [id]))
 refine Reg2.pm (fun wz hI hF => ?_) (fun r8 => ?_) (by rfl)
 ·have q0 := (hS.out.kept hI).wk.at 1 (.int .i64 R.ag.id) rfl
  go_wp2_with fail
  first | exact ⟨_, rfl, rfl, Reg2.Ext.refl _⟩ | exact ⟨_, rfl, ⟨(), rfl, trivial⟩, Reg2.Ext.refl _⟩
 simp only [Act.put, xA, xB, xC]; (try simp only [xD]); (try simp only [xE]); (try simp only [id])
 refine Reg2.pm (fun wz hI hF => ?_) (fun r9 => ?_) (by rfl)
 ·go_wp2_with (go_at_call 70; go_must (refine (hgo.out wz (hS.out.kept hI)).mono ?_); rintro e w' ⟨rfl, hg5⟩; have hb5 := hg5.below)
  first | exact ⟨_, rfl, ⟨(), rfl, trivial⟩, hb5⟩ | exact ⟨_, rfl, rfl, hb5⟩
 simp only [Act.put, xA, xB, xC]; (try simp only [xD]); (try simp only [xE]); (try simp only [id])
 repeat (refine' Reg2.ai _ (by rfl) (fun wz => ?_) ?_; rotate_left; (go_simp; first | rfl | rw [if_neg (by omega)]); simp only [Act.put, xA, xB, xC]; (try simp only [xD]); (try simp only [xE]); (try simp only [id]))
 refine Reg2.pj (fun wz hI hS hF => ?_) (fun FK => ?_) (by rfl)
 ·go_wp2_with fail
  exact ⟨_, rfl, ⟨⟨_, rfl⟩, gQ.alloc hS⟩, (Below.refl _ _).alloc hI.size _⟩
 simp only [Act.put, xA, xB, xC]; (try simp only [xD]); (try simp only [xE]); (try simp only [id])
 refine Reg2.pj (fun wz hI hS hF => ?_) (fun Ig => ?_) (by rfl)
 ·obtain ⟨hz, hge⟩ := gQ.zero hS
  have yc := mO (x := y) hz
  have hfin := gQ.store hS
  have hbw : Below w.heap.size wz (wz.setRow FK (ah y).toArray) := oV (Below.refl _ _) hge _
  generalize ah y = cY at *
  go_wp2_with fail
  exact ⟨_, rfl, ⟨⟨(), rfl⟩, hfin⟩, hbw⟩
 simp only [Act.put, xA, xB, xC]; (try simp only [xD]); (try simp only [xE]); (try simp only [id])
 refine Reg2.aA ?_
 intro w7 jF qD jP
 clear jP qD
 dsimp only [List.drop]
 have fQ := hS.out.kept jF
 have d3 : (e0 != 0) = true := by rw [he.out]; simp [he1]
 have hf := gF fQ.wk e0
 go_wp2_with (go_at_call 67; go_must (refine hf.mono ?_); rintro e w8 ⟨rfl, dE, fA⟩)
 go_ret
 have e9 := he.out
 clear he
 subst e9
 exact ⟨rfl, v, g, fQ.work dE fA, (WS.of_below jF).trans (WS.bu fA)⟩
theorem zV (h : SW w b c t d p v g a m R P) (hq : R.ag.kind = 6) (he : fU P.J R.ag.id = 0) :
  Calls Tryz.prog 92 #[.pointer (some ⟨b, 0, none⟩), .pointer (some ⟨c, 0, none⟩)] w (au w b c t d p v g a m .nilFunc { R with rep := iq (bF P.J R.ag.id) } P) := by
 have zJ := bC
 obtain ⟨k, hk1⟩ : ∃ k, k = 10 := ⟨_, rfl⟩
 rw [← hk1] at zJ
 have hk0 : ¬ k = 0 := by omega
 have lY := ay (bF P.J R.ag.id)
 rw [← hk1] at lY
 replace hk1 := Lib.hid hk1
 have q0 := h.wk.at 0 (.int .i64 R.ag.kind) rfl
 rw [hq] at q0
 obtain ⟨y, hy⟩ : ∃ y, y = bF P.J R.ag.id := ⟨_, rfl⟩
 obtain ⟨e0, he0⟩ : ∃ e0, e0 = fU P.J R.ag.id := ⟨_, rfl⟩
 have hgo : Hid (∀ W, SW W b c t d p v g a m R P → Calls Tryz.prog 70 #[.pointer (some ⟨t, 0, none⟩), .int .i64 R.ag.id] W fun e w' => e = .returned (.tuple #[.agg (ah y).toArray, .int .i64 e0]) ∧ Gr W w') := fun W hW => by
  have := gu hW.cw.dZ R.ag.id
  unfold ik at this
  rw [← hy, ← he0] at this
  exact this
 rw [← he0] at he
 rw [← hy] at lY
 replace he := Lib.hid he
 have hS := Lib.hid h
 replace he0 := Lib.hid he0
 replace hy := Lib.hid hy
 replace hq := Lib.hid hq
 clear h
 go_enter Tryz.func92, Tryz.ntmps92
 go_wp2_with fail
 refine Reg2.pF 15 73 [[],[ae],[ae,ae],[ae,ae,ae],[af,af,af,af],[af,af,af,af,ae],[af,af,af,af,ae,ae],[af,af,af,af,ae,ae,ae],[af,af,af,af,ae,ae,ae,ae],[ae,ae,ae,ae,ae,ae,ae,ae,ae],[ae,ae,ae,ae,ae,ae,ae,ae,ae,ae],[ae,ae,ae,ae,ae,ae,ae,ae,ae,ae,ae],[ae,ae,ae,ae,ae,ae,ae,ae,ae,ae,ae,af],[af,af,af,af,af,af,af,af,af,af,af,af,af],[ae,ae,ae,ae,ae,ae,ae,ae,ae,ae,ae,ae,af,ae]] [0, 0, 0, 1, 0, 0, 0, 0, 1, 1, 0, 0, 0, 3, 3]
  [.pure, .pure, .pure, .mU (.pointer (some ⟨t, 0, none⟩)), .pure, .pure, .pure, .pure, .mU (.int .i64 R.ag.id), .mU (.tuple #[.agg (ah y).toArray, .int .i64 e0]), .pure, .pure, .pure, .major Nat 0 (fun k => .pointer (some ⟨k, 0, none⟩)), .major Unit () (fun _ => undef)]
  (fun W => Below w.heap.size w W) (gQ w y) (fun a b => Below w.heap.size a b) (by kernel_rfl) (by kernel_rfl) rfl rfl (fun vs a b h hs => gQ.ext h hs) ?_ ?_ ?_ ?_ ?_ ?_ ?_
 ·intro a b he hb; exact hb.trans (Below.mono he hb.size)
 ·intro a b he hb; exact hb.trans he
 ·exact ⟨trivial, trivial, trivial, ⟨fun _ _ _ _ _ => trivial, fun _ _ _ _ _ => trivial⟩, trivial, trivial, trivial, trivial, ⟨fun _ _ _ _ _ => trivial, fun _ _ _ _ _ => trivial⟩, ⟨fun _ _ _ _ _ => trivial, fun _ _ _ _ _ => trivial⟩, trivial, trivial, trivial, trivial, trivial, trivial⟩
 ·exact ⟨(fun h => nomatch h), (fun h => nomatch h), (fun h => nomatch h), (fun h => nomatch h), (fun h => nomatch h), (fun h => nomatch h), (fun h => nomatch h), (fun h => nomatch h), (fun h => nomatch h), (fun h => nomatch h), (fun h => nomatch h), (fun h => nomatch h), (fun h => nomatch h), (fun h => nomatch h), (fun _ _ => rfl), trivial⟩
 ·exact ⟨rfl, rfl, rfl, Nat.le_refl _, fun _ _ => rfl⟩
 ·exact ⟨⟨rfl, rfl, rfl, Nat.le_refl _, fun _ _ => rfl⟩, trivial⟩
 dsimp only [Reg2.mk, List.zip, List.zipWith, List.take]
 repeat (refine' Reg2.ai _ (by rfl) (fun wz => ?_) ?_; rotate_left; (go_simp; first | rfl | rw [if_neg (by omega)]); simp only [Act.put, xA, xB, xC]; (try simp only [xD]); (try simp only [xE]); (try simp only [id]))
 refine Reg2.pm (fun wz hI hF => ?_) (fun r3 => ?_) (by rfl)
 ·have c0 := (hS.out.kept hI).cw.c0
  go_wp2_with fail
  first | exact ⟨_, rfl, rfl, Reg2.Ext.refl _⟩ | exact ⟨_, rfl, ⟨(), rfl, trivial⟩, Reg2.Ext.refl _⟩
 simp only [Act.put, xA, xB, xC]; (try simp only [xD]); (try simp only [xE]); (try simp only [id])
 repeat (refine' Reg2.ai _ (by rfl) (fun wz => ?_) ?_; rotate_left; (go_simp; first | rfl | rw [if_neg (by omega)]); simp only [Act.put, xA, xB, xC]; (try simp only [xD]); (try simp only [xE]); (try simp only [id]))
 refine Reg2.pm (fun wz hI hF => ?_) (fun r8 => ?_) (by rfl)
 ·have q0 := (hS.out.kept hI).wk.at 1 (.int .i64 R.ag.id) rfl
  go_wp2_with fail
  first | exact ⟨_, rfl, rfl, Reg2.Ext.refl _⟩ | exact ⟨_, rfl, ⟨(), rfl, trivial⟩, Reg2.Ext.refl _⟩
 simp only [Act.put, xA, xB, xC]; (try simp only [xD]); (try simp only [xE]); (try simp only [id])
 refine Reg2.pm (fun wz hI hF => ?_) (fun r9 => ?_) (by rfl)
 ·go_wp2_with (go_at_call 70; go_must (refine (hgo.out wz (hS.out.kept hI)).mono ?_); rintro e w' ⟨rfl, hg5⟩; have hb5 := hg5.below)
  first | exact ⟨_, rfl, ⟨(), rfl, trivial⟩, hb5⟩ | exact ⟨_, rfl, rfl, hb5⟩
 simp only [Act.put, xA, xB, xC]; (try simp only [xD]); (try simp only [xE]); (try simp only [id])
 repeat (refine' Reg2.ai _ (by rfl) (fun wz => ?_) ?_; rotate_left; (go_simp; first | rfl | rw [if_neg (by omega)]); simp only [Act.put, xA, xB, xC]; (try simp only [xD]); (try simp only [xE]); (try simp only [id]))
 refine Reg2.pj (fun wz hI hS hF => ?_) (fun FK => ?_) (by rfl)
 ·go_wp2_with fail
  exact ⟨_, rfl, ⟨⟨_, rfl⟩, gQ.alloc hS⟩, (Below.refl _ _).alloc hI.size _⟩
 simp only [Act.put, xA, xB, xC]; (try simp only [xD]); (try simp only [xE]); (try simp only [id])
 refine Reg2.pj (fun wz hI hS hF => ?_) (fun Ig => ?_) (by rfl)
 ·obtain ⟨hz, hge⟩ := gQ.zero hS
  have yc := mO (x := y) hz
  have hfin := gQ.store hS
  have hbw : Below w.heap.size wz (wz.setRow FK (ah y).toArray) := oV (Below.refl _ _) hge _
  generalize ah y = cY at *
  go_wp2_with fail
  exact ⟨_, rfl, ⟨⟨(), rfl⟩, hfin⟩, hbw⟩
 simp only [Act.put, xA, xB, xC]; (try simp only [xD]); (try simp only [xE]); (try simp only [id])
 refine Reg2.aA ?_
 intro w7 jF qD jP
 clear jP qD
 dsimp only [List.drop]
 have fQ := hS.out.kept jF
 have d3 : (e0 != 0) = false := by rw [he.out]; rfl
 have q1 := fQ.wk.at 1 (.int .i64 R.ag.id) rfl
 have ht := mI fQ R.ag.id
 go_wp2_with (go_at_call 112; go_must (refine ht.mono ?_); rintro e w8 ⟨rfl, dE, fA⟩)
 go_ret
 exact ⟨rfl, v, g, fQ.work dE fA, (WS.of_below jF).trans (WS.bu fA)⟩
theorem IM (h : SW w b c t d p v g a m R P) (hk : PK P) (hq : R.ag.kind = 10) :
  Calls Tryz.prog 92 #[.pointer (some ⟨b, 0, none⟩), .pointer (some ⟨c, 0, none⟩)] w (au w b c t d p v g a m .nilFunc { R with rep := ⟨0, 0, 0, 0, 0, 0, (aL (gI P.T) 64 : Int), (aL (bJ P.T) 64 : Int), (aL (fun i => bM P.T i && !bJ P.T i) 64 : Int)⟩ } P) := by
 have q0 := h.wk.at 0 (.int .i64 R.ag.kind) rfl
 rw [hq] at q0
 replace hq := Lib.hid hq
 have zY := zK
 obtain ⟨k9, bV⟩ : ∃ k, k = 9 := ⟨_, rfl⟩
 rw [← bV] at zY
 have hk0 : ¬ k9 = 0 := by omega
 have cc := h.cw.c1
 have hco := ER h.cw.nodes hk.p9
 have hth := fun (x y z : Int) (W : World) => wF x y z W
 obtain ⟨v0, hv0⟩ : ∃ x : Int, x = (aL (gI P.T) 64 : Int) := ⟨_, rfl⟩
 obtain ⟨v1, hv1⟩ : ∃ x : Int, x = (aL (bJ P.T) 64 : Int) := ⟨_, rfl⟩
 obtain ⟨v2, hv2⟩ : ∃ x : Int, x = (aL (fun i => bM P.T i && !bJ P.T i) 64 : Int) := ⟨_, rfl⟩
 rw [← hv0, ← hv1, ← hv2] at hco ⊢
 replace hv0 := Lib.hid hv0
 replace hv1 := Lib.hid hv1
 replace hv2 := Lib.hid hv2
 have hS := Lib.hid h
 clear h
 go_enter Tryz.func92, Tryz.ntmps92
 go_wp2_with fail
 go_at_call 114
 refine hco.mono ?_
 clear hco
 rintro e w1 ⟨rfl, mm, hw1⟩
 have hb1 : Below w.heap.size w w1 := by rw [hw1]; exact below_drewN (Below.refl _ _) _
 replace hw1 := Lib.hid hw1
 have hS1 := hS.out.kept hb1
 go_wp2_with fail
 go_at_call 113
 refine (hth _ _ _ w1).mono ?_
 clear hth
 rintro e w2 ⟨rfl, hb2⟩
 have hS2 := hS1.kept hb2
 obtain ⟨y, hy⟩ : ∃ y : Ry, y = ⟨0, 0, 0, 0, 0, 0, v0, v1, v2⟩ := ⟨_, rfl⟩
 rw [← hy]
 replace hy := Lib.hid hy
 obtain ⟨st, hW3⟩ := hS2.wk.Dt y
 have lY := mH y
 rw [← bV] at lY
 replace bV := Lib.hid bV
 have F7 := hS2.work hW3 (cu w2 _)
 have hfin := ((WS.of_below (hb1.trans (hb2.mono hb1.size)) : WS w w2 b c t d p v g v g)).trans (WS.bu (cu w2 (fH { R with rep := y }).toArray))
 generalize fH { R with rep := y } = W2 at *
 generalize fG y = cY at *
 go_wp2_with fail
 go_ret
 have ey := hy.out
 clear hy
 subst ey
 exact ⟨rfl, v, g, F7, hfin⟩
theorem IP (h : SW w b c t d p v g a m R P) (hk : PK P) (hq : R.ag.kind = 11) :
  Calls Tryz.prog 92 #[.pointer (some ⟨b, 0, none⟩), .pointer (some ⟨c, 0, none⟩)] w (au w b c t d p v g a m .nilFunc { R with rep := ⟨0, 0, 0, 0, 0, 0, (cnt 1 P.J : Int), (cnt 2 P.J : Int), (cnt 3 P.J : Int)⟩ } P) := by
 have q0 := h.wk.at 0 (.int .i64 R.ag.kind) rfl
 rw [hq] at q0
 replace hq := Lib.hid hq
 have zY := zK
 obtain ⟨k9, bV⟩ : ∃ k, k = 9 := ⟨_, rfl⟩
 rw [← bV] at zY
 have hk0 : ¬ k9 = 0 := by omega
 have cc := h.cw.c0
 have hco := zb h.cw.dZ (by have := hk.few; omega)
 have hth := fun (x y z : Int) (W : World) => wF x y z W
 obtain ⟨v0, hv0⟩ : ∃ x : Int, x = (cnt 1 P.J : Int) := ⟨_, rfl⟩
 obtain ⟨v1, hv1⟩ : ∃ x : Int, x = (cnt 2 P.J : Int) := ⟨_, rfl⟩
 obtain ⟨v2, hv2⟩ : ∃ x : Int, x = (cnt 3 P.J : Int) := ⟨_, rfl⟩
 rw [← hv0, ← hv1, ← hv2] at hco ⊢
 replace hv0 := Lib.hid hv0
 replace hv1 := Lib.hid hv1
 replace hv2 := Lib.hid hv2
 have hS := Lib.hid h
 clear h
 go_enter Tryz.func92, Tryz.ntmps92
 go_wp2_with fail
 go_at_call 115
 refine hco.mono ?_
 clear hco
 rintro e w1 ⟨rfl, hb1⟩
 have hS1 := hS.out.kept hb1
 go_wp2_with fail
 go_at_call 113
 refine (hth _ _ _ w1).mono ?_
 clear hth
 rintro e w2 ⟨rfl, hb2⟩
 have hS2 := hS1.kept hb2
 obtain ⟨y, hy⟩ : ∃ y : Ry, y = ⟨0, 0, 0, 0, 0, 0, v0, v1, v2⟩ := ⟨_, rfl⟩
 rw [← hy]
 replace hy := Lib.hid hy
 obtain ⟨st, hW3⟩ := hS2.wk.Dt y
 have lY := mH y
 rw [← bV] at lY
 replace bV := Lib.hid bV
 have F7 := hS2.work hW3 (cu w2 _)
 have hfin := ((WS.of_below (hb1.trans (hb2.mono hb1.size)) : WS w w2 b c t d p v g v g)).trans (WS.bu (cu w2 (fH { R with rep := y }).toArray))
 generalize fH { R with rep := y } = W2 at *
 generalize fG y = cY at *
 go_wp2_with fail
 go_ret
 have ey := hy.out
 clear hy
 subst ey
 exact ⟨rfl, v, g, F7, hfin⟩
theorem F8 (h : SW w b c t d p v g a m R P) (ha : a ≤ 1000) (hq : R.ag.kind = 12) :
  Calls Tryz.prog 92 #[.pointer (some ⟨b, 0, none⟩), .pointer (some ⟨c, 0, none⟩)] w (au w b c t d p v g a m .nilFunc { R with rep := ⟨0, 0, 0, P.now, 0, 0, P.f P.now, 0, 0⟩ } P) := by
 have q0 := h.wk.at 0 (.int .i64 R.ag.kind) rfl
 rw [hq] at q0
 replace hq := Lib.hid hq
 have hc := BQ h ha
 go_enter Tryz.func92, Tryz.ntmps92
 go_wp2_with (go_at_call 116; go_must (refine hc.mono ?_); rintro e w8 ⟨rfl, v8, g8, fP, dE⟩)
 go_ret
 exact ⟨rfl, v8, g8, fP, dE⟩
theorem AP (h : SW w b c t d p v g a m R P) (hc : P.cl = true) :
  Calls Tryz.prog 64 #[.pointer (some ⟨b, 0, none⟩), .pointer (some ⟨c, 0, none⟩)] w (au w b c t d p v g a m .nilFunc { R with rep := jJ 12, ok := false } P) := by
 have hcl := iJ h.cw
 rw [hc] at hcl
 have hf := gF h.wk 12
 go_enter Tryz.func64, Tryz.ntmps64
 go_wp2_with (first | (go_at_call 26; go_must (refine hcl.mono ?_); rintro e w' ⟨rfl, rfl⟩) | (go_at_call 67; go_must (refine hf.mono ?_); rintro e w8 ⟨rfl, dE, fA⟩))
 go_ret
 exact ⟨rfl, v, g, h.work dE fA, WS.bu fA⟩
theorem F9 (h : SW w b c t d p v g a m R P) (hc : P.cl = false) (hq : ¬ (1 ≤ R.ag.kind ∧ R.ag.kind ≤ 13)) :
  Calls Tryz.prog 64 #[.pointer (some ⟨b, 0, none⟩), .pointer (some ⟨c, 0, none⟩)] w (au w b c t d p v g a m .nilFunc { R with rep := jJ 4, ok := false } P) := by
 have hcl := iJ h.cw
 rw [hc] at hcl
 have hf := gF h.wk 4
 have q0 := h.wk.at 0 (.int .i64 R.ag.kind) rfl
 have his := Ie R.ag.kind w
 rw [show (decide (1 ≤ R.ag.kind) && decide (R.ag.kind ≤ 13)) = false by rw [Bool.and_eq_false_iff, decide_eq_false_iff_not, decide_eq_false_iff_not]; omega] at his
 generalize R.ag.kind = kk at *
 replace hq := Lib.hid hq
 go_enter Tryz.func64, Tryz.ntmps64
 go_wp2_with (first | (go_at_call 26; go_must (refine hcl.mono ?_); rintro e w' ⟨rfl, rfl⟩) | (go_at_call 90; go_must (refine his.mono ?_); rintro e w' ⟨rfl, rfl⟩) | (go_at_call 67; go_must (refine hf.mono ?_); rintro e w8 ⟨rfl, dE, fA⟩))
 go_ret
 exact ⟨rfl, v, g, h.work dE fA, WS.bu fA⟩
theorem Ga (h : SW w b c t d p v g a m R P) (hc : P.cl = false) (hq : 1 ≤ R.ag.kind ∧ R.ag.kind ≤ 13) (hr : iW R.ag.kind = true) {L : Value} {a' : Nat} {m' : Int} {R' : Wk} {P' : Pg}
  (hn : Calls Tryz.prog 92 #[.pointer (some ⟨b, 0, none⟩), .pointer (some ⟨c, 0, none⟩)] w (au w b c t d p v g a' m' L R' P')) :
  Calls Tryz.prog 64 #[.pointer (some ⟨b, 0, none⟩), .pointer (some ⟨c, 0, none⟩)] w (au w b c t d p v g a' m' L R' P') := by
 have hcl := iJ h.cw
 rw [hc] at hcl
 have q0 := h.wk.at 0 (.int .i64 R.ag.kind) rfl
 have his := Ie R.ag.kind w
 rw [show (decide (1 ≤ R.ag.kind) && decide (R.ag.kind ≤ 13)) = true by rw [decide_eq_true hq.1, decide_eq_true hq.2]; rfl] at his
 have hre := BJ R.ag.kind w
 rw [hr] at hre
 generalize R.ag.kind = kk at *
 replace hq := Lib.hid hq
 replace hr := Lib.hid hr
 go_enter Tryz.func64, Tryz.ntmps64
 go_wp2_with (first | (go_at_call 26; go_must (refine hcl.mono ?_); rintro e w' ⟨rfl, rfl⟩) | (go_at_call 90; go_must (refine his.mono ?_); rintro e w' ⟨rfl, rfl⟩) | (go_at_call 91; go_must (refine hre.mono ?_); rintro e w' ⟨rfl, rfl⟩) | (go_at_call 92; go_must (refine hn.mono ?_); rintro e w8 ⟨rfl, v8, g8, fP, dE⟩))
 go_ret
 exact ⟨rfl, v8, g8, fP, dE⟩
theorem eZ (h : SW w b c t d p v g a m R P) (hc : P.cl = false) (hq : 1 ≤ R.ag.kind ∧ R.ag.kind ≤ 13) (hr : iW R.ag.kind = false) {L : Value} {a' : Nat} {m' : Int} {R' : Wk} {P' : Pg}
  (hn : Calls Tryz.prog 93 #[.pointer (some ⟨b, 0, none⟩), .pointer (some ⟨c, 0, none⟩)] w (au w b c t d p v g a' m' L R' P')) :
  Calls Tryz.prog 64 #[.pointer (some ⟨b, 0, none⟩), .pointer (some ⟨c, 0, none⟩)] w (au w b c t d p v g a' m' L R' P') := by
 have hcl := iJ h.cw
 rw [hc] at hcl
 have q0 := h.wk.at 0 (.int .i64 R.ag.kind) rfl
 have his := Ie R.ag.kind w
 rw [show (decide (1 ≤ R.ag.kind) && decide (R.ag.kind ≤ 13)) = true by rw [decide_eq_true hq.1, decide_eq_true hq.2]; rfl] at his
 have hre := BJ R.ag.kind w
 rw [hr] at hre
 generalize R.ag.kind = kk at *
 replace hq := Lib.hid hq
 replace hr := Lib.hid hr
 go_enter Tryz.func64, Tryz.ntmps64
 go_wp2_with (first | (go_at_call 26; go_must (refine hcl.mono ?_); rintro e w' ⟨rfl, rfl⟩) | (go_at_call 90; go_must (refine his.mono ?_); rintro e w' ⟨rfl, rfl⟩) | (go_at_call 91; go_must (refine hre.mono ?_); rintro e w' ⟨rfl, rfl⟩) | (go_at_call 93; go_must (refine hn.mono ?_); rintro e w8 ⟨rfl, v8, g8, fP, dE⟩))
 go_ret
 exact ⟨rfl, v8, g8, fP, dE⟩
theorem Lc (h : SW w b c t d p v g a m R P) (hq : R.ag.kind = 1) {L : Value} {a' : Nat} {m' : Int} {R' : Wk} {P' : Pg}
  (hn : Calls Tryz.prog 117 #[.pointer (some ⟨b, 0, none⟩), .pointer (some ⟨c, 0, none⟩)] w (au w b c t d p v g a' m' L R' P')) :
  Calls Tryz.prog 93 #[.pointer (some ⟨b, 0, none⟩), .pointer (some ⟨c, 0, none⟩)] w (au w b c t d p v g a' m' L R' P') := by
 have q0 := h.wk.at 0 (.int .i64 R.ag.kind) rfl
 rw [hq] at q0
 replace hq := Lib.hid hq
 go_enter Tryz.func93, Tryz.ntmps93
 go_wp2_with (go_at_call 117; go_must (refine hn.mono ?_); rintro e w8 ⟨rfl, v8, g8, fP, dE⟩)
 go_ret
 exact ⟨rfl, v8, g8, fP, dE⟩
theorem Ld (h : SW w b c t d p v g a m R P) (hq : R.ag.kind = 2) {L : Value} {a' : Nat} {m' : Int} {R' : Wk} {P' : Pg}
  (hn : Calls Tryz.prog 118 #[.pointer (some ⟨b, 0, none⟩), .pointer (some ⟨c, 0, none⟩), .int .i64 5] w (au w b c t d p v g a' m' L R' P')) :
  Calls Tryz.prog 93 #[.pointer (some ⟨b, 0, none⟩), .pointer (some ⟨c, 0, none⟩)] w (au w b c t d p v g a' m' L R' P') := by
 have q0 := h.wk.at 0 (.int .i64 R.ag.kind) rfl
 rw [hq] at q0
 replace hq := Lib.hid hq
 go_enter Tryz.func93, Tryz.ntmps93
 go_wp2_with (go_at_call 118; go_must (refine hn.mono ?_); rintro e w8 ⟨rfl, v8, g8, fP, dE⟩)
 go_ret
 exact ⟨rfl, v8, g8, fP, dE⟩
theorem Le (h : SW w b c t d p v g a m R P) (hq : R.ag.kind = 5) {L : Value} {a' : Nat} {m' : Int} {R' : Wk} {P' : Pg}
  (hn : Calls Tryz.prog 118 #[.pointer (some ⟨b, 0, none⟩), .pointer (some ⟨c, 0, none⟩), .int .i64 4] w (au w b c t d p v g a' m' L R' P')) :
  Calls Tryz.prog 93 #[.pointer (some ⟨b, 0, none⟩), .pointer (some ⟨c, 0, none⟩)] w (au w b c t d p v g a' m' L R' P') := by
 have q0 := h.wk.at 0 (.int .i64 R.ag.kind) rfl
 rw [hq] at q0
 replace hq := Lib.hid hq
 go_enter Tryz.func93, Tryz.ntmps93
 go_wp2_with (go_at_call 118; go_must (refine hn.mono ?_); rintro e w8 ⟨rfl, v8, g8, fP, dE⟩)
 go_ret
 exact ⟨rfl, v8, g8, fP, dE⟩
theorem Lf (h : SW w b c t d p v g a m R P) (hq : R.ag.kind = 3) {L : Value} {a' : Nat} {m' : Int} {R' : Wk} {P' : Pg}
  (hn : Calls Tryz.prog 119 #[.pointer (some ⟨b, 0, none⟩), .pointer (some ⟨c, 0, none⟩)] w (au w b c t d p v g a' m' L R' P')) :
  Calls Tryz.prog 93 #[.pointer (some ⟨b, 0, none⟩), .pointer (some ⟨c, 0, none⟩)] w (au w b c t d p v g a' m' L R' P') := by
 have q0 := h.wk.at 0 (.int .i64 R.ag.kind) rfl
 rw [hq] at q0
 replace hq := Lib.hid hq
 go_enter Tryz.func93, Tryz.ntmps93
 go_wp2_with (go_at_call 119; go_must (refine hn.mono ?_); rintro e w8 ⟨rfl, v8, g8, fP, dE⟩)
 go_ret
 exact ⟨rfl, v8, g8, fP, dE⟩
theorem Lg (h : SW w b c t d p v g a m R P) (hq : R.ag.kind = 4) {L : Value} {a' : Nat} {m' : Int} {R' : Wk} {P' : Pg}
  (hn : Calls Tryz.prog 120 #[.pointer (some ⟨b, 0, none⟩), .pointer (some ⟨c, 0, none⟩)] w (au w b c t d p v g a' m' L R' P')) :
  Calls Tryz.prog 93 #[.pointer (some ⟨b, 0, none⟩), .pointer (some ⟨c, 0, none⟩)] w (au w b c t d p v g a' m' L R' P') := by
 have q0 := h.wk.at 0 (.int .i64 R.ag.kind) rfl
 rw [hq] at q0
 replace hq := Lib.hid hq
 go_enter Tryz.func93, Tryz.ntmps93
 go_wp2_with (go_at_call 120; go_must (refine hn.mono ?_); rintro e w8 ⟨rfl, v8, g8, fP, dE⟩)
 go_ret
 exact ⟨rfl, v8, g8, fP, dE⟩
theorem Lh (h : SW w b c t d p v g a m R P) (hq : R.ag.kind = 7) {L : Value} {a' : Nat} {m' : Int} {R' : Wk} {P' : Pg}
  (hn : Calls Tryz.prog 121 #[.pointer (some ⟨b, 0, none⟩), .pointer (some ⟨c, 0, none⟩)] w (au w b c t d p v g a' m' L R' P')) :
  Calls Tryz.prog 93 #[.pointer (some ⟨b, 0, none⟩), .pointer (some ⟨c, 0, none⟩)] w (au w b c t d p v g a' m' L R' P') := by
 have q0 := h.wk.at 0 (.int .i64 R.ag.kind) rfl
 rw [hq] at q0
 replace hq := Lib.hid hq
 go_enter Tryz.func93, Tryz.ntmps93
 go_wp2_with (go_at_call 121; go_must (refine hn.mono ?_); rintro e w8 ⟨rfl, v8, g8, fP, dE⟩)
 go_ret
 exact ⟨rfl, v8, g8, fP, dE⟩
theorem Li (h : SW w b c t d p v g a m R P) (hq : R.ag.kind = 8) {L : Value} {a' : Nat} {m' : Int} {R' : Wk} {P' : Pg}
  (hn : Calls Tryz.prog 122 #[.pointer (some ⟨b, 0, none⟩), .pointer (some ⟨c, 0, none⟩)] w (au w b c t d p v g a' m' L R' P')) :
  Calls Tryz.prog 93 #[.pointer (some ⟨b, 0, none⟩), .pointer (some ⟨c, 0, none⟩)] w (au w b c t d p v g a' m' L R' P') := by
 have q0 := h.wk.at 0 (.int .i64 R.ag.kind) rfl
 rw [hq] at q0
 replace hq := Lib.hid hq
 go_enter Tryz.func93, Tryz.ntmps93
 go_wp2_with (go_at_call 122; go_must (refine hn.mono ?_); rintro e w8 ⟨rfl, v8, g8, fP, dE⟩)
 go_ret
 exact ⟨rfl, v8, g8, fP, dE⟩
theorem Lj (h : SW w b c t d p v g a m R P) (hq : R.ag.kind = 9) {L : Value} {a' : Nat} {m' : Int} {R' : Wk} {P' : Pg}
  (hn : Calls Tryz.prog 123 #[.pointer (some ⟨b, 0, none⟩), .pointer (some ⟨c, 0, none⟩)] w (au w b c t d p v g a' m' L R' P')) :
  Calls Tryz.prog 93 #[.pointer (some ⟨b, 0, none⟩), .pointer (some ⟨c, 0, none⟩)] w (au w b c t d p v g a' m' L R' P') := by
 have q0 := h.wk.at 0 (.int .i64 R.ag.kind) rfl
 rw [hq] at q0
 replace hq := Lib.hid hq
 go_enter Tryz.func93, Tryz.ntmps93
 go_wp2_with (go_at_call 123; go_must (refine hn.mono ?_); rintro e w8 ⟨rfl, v8, g8, fP, dE⟩)
 go_ret
 exact ⟨rfl, v8, g8, fP, dE⟩
theorem IQ (h : SW w b c t d p v g a m R P) (hq : R.ag.kind = 13) :
  Calls Tryz.prog 93 #[.pointer (some ⟨b, 0, none⟩), .pointer (some ⟨c, 0, none⟩)] w (au w b c t d p v g a m .nilFunc R { P with cl := true }) := by
 have q0 := h.wk.at 0 (.int .i64 R.ag.kind) rfl
 rw [hq] at q0
 replace hq := Lib.hid hq
 have c4 := h.cw.c4
 have f4 := h.cw.fz 4
 obtain ⟨hC, hS⟩ := h.cw.close
 have hS2 := h.core hC hS
 have hW2 := (WS.bZ hS : WS w (w.setCell ⟨c, 4, none⟩ (.bool true)) b c t d p v g v g)
 go_enter Tryz.func93, Tryz.ntmps93
 go_wp2_with fail
 go_ret
 exact ⟨rfl, v, g, hS2, hW2⟩
end
end Go.Proofs.YtkhfejihijdipaaGreat

namespace Go.Proofs.YtkhfejihijdipaaGreat
open Go.RowKit Go.Lib Go.Sort
theorem Ll (n : Nat) : bX (fT n) = List.replicate n 1 := by
 refine nG (by rw [bq]; simp [fT]) fun i hi => ?_
 have hin : i < n := by rw [bq] at hi; simpa [fT] using hi
 rw [bW, dO (by simpa [fT] using hin)]
 have h1 : ¬ 0 ≤ holderL (fT n).L i := by unfold fT holderL; simp
 rw [if_neg h1]
 simp [fT, List.getD_eq_getElem?_getD, hin]
theorem IU (n : Nat) (t : Int) : ax (fT n) t 0 = n := by
 unfold ax aH bO
 have h1 : (List.range (fT n).dr.length).countP (bN (fT n) t) = n := by
  have e : (fT n).dr.length = n := by simp [fT]
  rw [e]
  have : (List.range n).countP (bN (fT n) t) = (List.range n).length := by
   rw [List.countP_eq_length]
   intro k hk
   have hk := List.mem_range.1 hk
   unfold bN fT holderL
   simp [List.getD_eq_getElem?_getD, hk]
  rw [this, List.length_range]
 rw [h1]
 simp [fT]
structure SN (w0 w : World) (c t d p : Nat) (v : Value) (g a : Nat) (m : Int) (P : Pg) : Prop where
 cw : CW w c t d p v g a m P
 lo : ∀ k, fw c t d p v g k → w0.heap.size ≤ k
section
variable {w : World}
theorem Oc (n : Nat) (w : World) (h1 : 1 ≤ n) (h2 : n ≤ 64) : Calls Tryz.prog 9 #[.int .i64 n] w fun e w' => ∃ c t d p v g, e = .returned (.tuple #[.pointer (some ⟨c, 0, none⟩), .int .i64 0]) ∧ SN w w' c t d p v g 1 0 (aj (fT n)) ∧ Below w.heap.size w w' := by
 have hn := EU n w h1 h2
 go_enter Tryz.func9, Tryz.ntmps9
 go_wp2_with fail
 go_at_call 38
 refine hn.mono ?_
 clear hn
 rintro e w1 ⟨rfl, hT1, hb1⟩
 have hs1 : w.heap.size < w1.heap.size := aB hT1
 have hp := Fb (n : Int) w1 (by omega)
 go_wp2_with fail
 go_at_call 39
 refine hp.mono ?_
 clear hp
 rintro e w2 ⟨p, g, rfl, hP2, lp, lg, hb2⟩
 have SQ : TW w2 w.heap.size (List.replicate n 1) := hT1.kept hb2
 have hj := G6 w2
 go_wp2_with fail
 go_at_call 40
 refine hj.mono ?_
 clear hj
 rintro e w3 ⟨rfl, hw3⟩
 have hb3 : Below w2.heap.size w2 w3 := by rw [← hw3]; exact (Below.refl _ _).alloc (Nat.le_refl _) _
 have hJ3 : TV w3 w2.heap.size (.slice none 0 0) [] := by rw [← hw3]; exact BV.Rv w2
 have sK := SQ.kept hb3
 have hP3 := hP2.kept hb3
 have hs2 := hb2.size
 replace hw3 := Lib.hid hw3
 obtain ⟨w4, hw4⟩ : ∃ w4, w4 = w3.alloc (.cells #[.pointer (some ⟨w2.heap.size, 0, none⟩), .pointer (some ⟨w.heap.size, 0, none⟩), .pointer (some ⟨p, 0, none⟩), .bool true, .bool false] 48) := ⟨_, rfl⟩
 have hb4 : Below w3.heap.size w3 w4 := by rw [hw4]; exact (Below.refl _ _).alloc (Nat.le_refl _) _
 have hc4 : w4.heap[w3.heap.size]? = some (.cells #[.pointer (some ⟨w2.heap.size, 0, none⟩), .pointer (some ⟨w.heap.size, 0, none⟩), .pointer (some ⟨p, 0, none⟩), .bool true, .bool false] 48 (0, 0)) := by rw [hw4]; exact heap_alloc_new w3 _
 have hs3 := hb3.size
 have hCW : Hid (CW w4 w3.heap.size w2.heap.size w.heap.size p (.slice none 0 0) g 1 0 (aj (fT n))) := by
  refine ⟨hc4, hJ3.kept hb4, by show TW w4 w.heap.size (bX (fT n)); rw [Ll]; exact sK.kept hb4, [(0, (n : Int))], 0, hP3.kept hb4, ?_, Nat.le_refl _, Int.le_refl _, Int.le_refl _⟩
  exact (M8 n).congr fun t _ => (IU n t).symm
 have hlo : Hid (∀ k, fw w3.heap.size w2.heap.size w.heap.size p (.slice none 0 0) g k → w.heap.size ≤ k) := by
  rintro k (rfl | rfl | rfl | rfl | hv | rfl)
  ·omega
  ·omega
  ·exact Nat.le_refl _
  ·omega
  ·cases hv
  ·omega
 have hbw := hb1.trans ((hb2.trans ((hb3.trans (hb4.mono hb3.size)).mono hb2.size)).mono hb1.size)
 clear hc4 hJ3 sK hP3 hT1 SQ hP2
 go_wp2_with fail
 rw [← hw4]
 go_ret2
 exact ⟨w3.heap.size, w2.heap.size, w.heap.size, p, .slice none 0 0, g, rfl, ⟨hCW.out, hlo.out⟩, hbw⟩
def sZ (r : Rq) : Wk := ⟨kJ r, 0, 0, eH 64, gB, 0, 0, qb, false⟩
def zW (i t : Int) : Wk := ⟨QD, i, t, eH 65, gB, 0, 0, qb, false⟩
theorem tq (i t : Int) (w : World) : Calls Tryz.prog 28 #[.agg #[.int .i64 i, .int .i64 t]] w fun e w' => ∃ b, e = .returned (.pointer (some ⟨b, 0, none⟩)) ∧ bK w' b (zW i t) ∧ w.heap.size ≤ b ∧ Below w.heap.size w w' := by
 obtain ⟨w2, hw2⟩ : ∃ w2, w2 = (w.alloc (.cells #[.int .i64 i, .int .i64 t] 35)).alloc (.cells (fH (zW i t)).toArray 115) := ⟨_, rfl⟩
 have hb2 : Below w.heap.size w w2 := by rw [hw2]; exact ((Below.refl _ _).alloc (Nat.le_refl _) _).alloc (by simp) _
 have hW2 : bK w2 (w.heap.size + 1) (zW i t) := by show _ = _; rw [hw2]; exact heap_alloc2_new w _ _
 have hl : (fH (zW i t)).toArray = #[.int .i64 0, .int .i64 0, .int .i64 0, .int .i64 0, .int .i64 0, .int .i64 0, .bool false, .int .i64 0, .int .i64 0, .int .i64 i, .int .i64 t, .func (.func 65) #[] #[], .int .i64 0, .int .i64 0, .int .i64 0, .int .i64 0, .int .i64 0, .int .i64 0, .int .i64 0, .int .i64 0, .int .i64 0, .int .u64 0, .int .i64 0, .int .i64 0, .int .i64 0, .int .i64 0, .int .i64 0, .int .i64 0, .int .i64 0, .int .i64 0, .int .i64 0, .int .i64 0, .int .i64 0, .bool false] := rfl
 rw [hl] at hw2
 replace hl := Lib.hid hl
 go_enter Tryz.func28, Tryz.ntmps28
 go_wp2_with fail
 rw [← hw2]
 go_ret
 exact ⟨w.heap.size + 1, rfl, hW2, Nat.le_succ _, hb2⟩
theorem xN (r : Rq) (w : World) : Calls Tryz.prog 27 #[.agg (encR r).toArray] w fun e w' => ∃ b, e = .returned (.pointer (some ⟨b, 0, none⟩)) ∧ bK w' b (sZ r) ∧ w.heap.size ≤ b ∧ Below w.heap.size w w' := by
 have zR := jR
 obtain ⟨k9, bV⟩ : ∃ k, k = 9 := ⟨_, rfl⟩
 rw [← bV] at zR
 have hk0 : ¬ k9 = 0 := by omega
 have lR := gL r
 rw [← bV] at lR
 replace bV := Lib.hid bV
 obtain ⟨wA, aM⟩ : ∃ wA, wA = w.alloc (.cells (encR r).toArray 33) := ⟨_, rfl⟩
 have cZ : Below w.heap.size w wA := by rw [aM]; exact (Below.refl _ _).alloc (Nat.le_refl _) _
 have sM : wA.heap[w.heap.size]? = some (.cells (encR r).toArray 33 (0, 0)) := by rw [aM]; exact heap_alloc_new w _
 have SV := eu sM lR
 have hcl := KM r wA
 rw [aM] at SV hcl
 generalize hcr : encR r = cR at *
 replace hcr := Lib.hid hcr
 go_enter Tryz.func27, Tryz.ntmps27
 go_wp2_with fail
 go_at_call 63
 refine hcl.mono ?_
 clear hcl SV
 rw [← aM]
 rintro e w1 ⟨rfl, hb1⟩
 replace aM := Lib.hid aM
 obtain ⟨y1, y2, y3, y4, y5, y6, y7, y8, y9, hy⟩ : ∃ y1 y2 y3 y4 y5 y6 y7 y8 y9, kJ r = ⟨y1, y2, y3, y4, y5, y6, y7, y8, y9⟩ := ⟨_, _, _, _, _, _, _, _, _, rfl⟩
 obtain ⟨w2, hw2⟩ : ∃ w2, w2 = w1.alloc (.cells (fH (sZ r)).toArray 115) := ⟨_, rfl⟩
 have hb2 : Below w1.heap.size w1 w2 := by rw [hw2]; exact (Below.refl _ _).alloc (Nat.le_refl _) _
 have hW2 : bK w2 w1.heap.size (sZ r) := by show _ = _; rw [hw2]; exact heap_alloc_new w1 _
 have hl : (fH (sZ r)).toArray = #[.int .i64 y1, .int .i64 y2, .int .i64 y3, .int .i64 y4, .int .i64 y5, .int .i64 y6, .bool y7, .int .i64 y8, .int .i64 y9, .int .i64 0, .int .i64 0, .func (.func 64) #[] #[], .int .i64 0, .int .i64 0, .int .i64 0, .int .i64 0, .int .i64 0, .int .i64 0, .int .i64 0, .int .i64 0, .int .i64 0, .int .u64 0, .int .i64 0, .int .i64 0, .int .i64 0, .int .i64 0, .int .i64 0, .int .i64 0, .int .i64 0, .int .i64 0, .int .i64 0, .int .i64 0, .int .i64 0, .bool false] := by unfold sZ; rw [hy]; rfl
 have hbw := cZ.trans ((hb1.trans (hb2.mono hb1.size)).mono cZ.size)
 have hlo : w.heap.size ≤ w1.heap.size := Nat.le_trans cZ.size hb1.size
 rw [hl] at hw2
 rw [hy, show (encR ⟨y1, y2, y3, y4, y5, y6, y7, y8, y9⟩).toArray = #[.int .i64 y1, .int .i64 y2, .int .i64 y3, .int .i64 y4, .int .i64 y5, .int .i64 y6, .bool y7, .int .i64 y8, .int .i64 y9] from rfl]
 replace hl := Lib.hid hl
 replace hy := Lib.hid hy
 obtain rfl := bV.out
 go_wp2_with fail
 rw [← hw2]
 go_ret
 exact ⟨w1.heap.size, rfl, hW2, hlo, hbw⟩
end
end Go.Proofs.YtkhfejihijdipaaGreat

namespace Go.Proofs.YtkhfejihijdipaaGreat
open Go.RowKit Go.Lib Go.Sort
def Goes (b c : Nat) : Nat → World → (World → Prop) → Prop
 | 0, _, _ => False
 | N + 1, w, Q => Calls Tryz.prog 31 #[.pointer (some ⟨b, 0, none⟩), .pointer (some ⟨c, 0, none⟩)] w fun e w' => (e = .returned (.bool true) ∧ Q w') ∨ (e = .returned (.bool false) ∧ Goes b c N w' Q)
theorem Goes.mono {b c : Nat} {Q Q' : World → Prop} (hQ : ∀ w, Q w → Q' w) : ∀ {N : Nat} {w : World}, Goes b c N w Q → Goes b c N w Q'
 | 0, _, h => h
 | N + 1, _, h => Calls.mono h fun e w' hp => by
  rcases hp with ⟨h1, h2⟩ | ⟨h1, h2⟩
  ·exact .inl ⟨h1, hQ _ h2⟩
  ·exact .inr ⟨h1, Goes.mono hQ h2⟩
theorem Goes.succ {b c : Nat} {Q : World → Prop} : ∀ {N : Nat} {w : World}, Goes b c N w Q → Goes b c (N + 1) w Q
 | 0, _, h => h.elim
 | N + 1, _, h => Calls.mono h fun e w' hp => by
  rcases hp with ⟨h1, h2⟩ | ⟨h1, h2⟩
  ·exact .inl ⟨h1, h2⟩
  ·exact .inr ⟨h1, Goes.succ h2⟩
theorem Goes.more {b c N N' : Nat} {w : World} {Q : World → Prop} (hN : N ≤ N') (h : Goes b c N w Q) : Goes b c N' w Q := by
 induction N' with
 | zero =>
  obtain rfl : N = 0 := by omega
  exact h
 | succ N' ih =>
  rcases Nat.lt_or_ge N' N with h1 | h1
  ·obtain rfl : N = N' + 1 := by omega
   exact h
  ·exact (ih h1).succ
theorem Lm {b c N : Nat} {w : World} {Q : World → Prop} (h : Goes b c N w Q) (hN : N ≤ 1999) : Calls Tryz.prog 29 #[.pointer (some ⟨c, 0, none⟩), .pointer (some ⟨b, 0, none⟩)] w fun e w' => ∃ n : Int, 0 < n ∧ n < 2000 ∧ e = .returned (.int .i64 n) ∧ Q w' := by
 go_enter Tryz.func29, Tryz.ntmps29
 go_wp2_with fail
 go_loopw [5] (fun ii wr => ∃ (n K : Nat), ii = .int .i64 n ∧ 1 ≤ n ∧ n + K ≤ 2000 ∧ Goes b c K wr Q) (fun ii _ => 2000 - (intOf ii).toNat)
 case atStart => exact ⟨1, N, rfl, Nat.le_refl _, by omega, h⟩
 case round =>
  obtain ⟨n, K, rfl, hn, hK, hg⟩ := hrel
  cases K with
  | zero => exact hg.elim
  | succ K =>
   have d1 : decide ((n : Int) < 2000) = true := decide_eq_true (by omega)
   have b1 : (n : Int) < 2000 := by omega
   have wi : IntKind.i64.wrap ((n : Int) + 1) = (n : Int) + 1 := by rw [IntKind.wrap_i64]; omega
   unfold Goes at hg
   go_wp2_with fail
   go_at_call 31
   refine hg.mono ?_
   clear hg
   rintro e w' (⟨rfl, hq⟩ | ⟨rfl, hq⟩)
   ·go_wp2_with fail
    go_ret
    exact ⟨n, by omega, by omega, rfl, hq⟩
   ·have U0 : K ≠ 0 := fun e => by subst e; exact hq.elim
    go_wp2_with fail
    go_roundw
    case rel => exact ⟨n + 1, K, by go_num, by omega, by omega, hq⟩
    case measure => simp [intOf]; omega
structure Fin (w0 : World) (b c t d p : Nat) (v0 : Value) (g0 : Nat) (mx : Int) (M : Md) (y : Ry) (ok : Bool) (w : World) : Prop where
 ex : ∃ v g a m R, SW w b c t d p v g a m R (aj M) ∧ a ≤ 800 ∧ m ≤ mx ∧ R.left = .nilFunc ∧ R.rep = y ∧ R.ok = ok ∧ WS w0 w b c t d p v0 g0 v g
section
variable {w0 w : World} {b c t d p g g0 a N : Nat} {v v0 : Value} {m mx : Int} {P : Pg} {M M' : Md} {R : Wk} {Q : World → Prop}
theorem uy {k k' a' : Nat} {m' : Int} {R' : Wk} {P' : Pg} (h : SW w b c t d p v g a m R P) (hl : R.left = eH k) (hl' : R'.left = eH k)
  (hk : ∀ args w, Sem.run Tryz.prog (callFunc k args) w = .ok (.enter k args) w)
  (hp : Calls Tryz.prog k #[.pointer (some ⟨b, 0, none⟩), .pointer (some ⟨c, 0, none⟩)] w (au w b c t d p v g a' m' (eH k') R' P'))
  (hn : ∀ w' v' g', SW w' b c t d p v' g' a' m' { R' with left := eH k' } P' → WS w w' b c t d p v g v' g' → Goes b c N w' Q) : Goes b c (N + 1) w Q := by
 refine (Fq h hl hl' (.inr ⟨⟨k', rfl⟩, rfl⟩) hk hp).mono ?_
 rintro e w' ⟨rfl, v', g', h1, h2⟩
 exact .inr ⟨rfl, hn w' v' g' h1 h2⟩
theorem uz {k a' : Nat} {m' : Int} {R' : Wk} (h : SW w b c t d p v g a m R P) (hl : R.left = eH k) (hl' : R'.left = eH k)
  (hk : ∀ args w, Sem.run Tryz.prog (callFunc k args) w = .ok (.enter k args) w)
  (hp : Calls Tryz.prog k #[.pointer (some ⟨b, 0, none⟩), .pointer (some ⟨c, 0, none⟩)] w (au w b c t d p v g a' m' .nilFunc R' (aj M')))
  (ha : a' ≤ 800) (hm : m' ≤ mx) (hw : WS w0 w b c t d p v0 g0 v g) : Goes b c (N + 1) w (Fin w0 b c t d p v0 g0 mx M' R'.rep R'.ok) := by
 refine (Fq h hl hl' (.inl ⟨rfl, rfl⟩) hk hp).mono ?_
 rintro e w' ⟨rfl, v', g', h1, h2⟩
 exact .inl ⟨rfl, ⟨v', g', a', m', _, h1, ha, hm, rfl, rfl, rfl, hw.trans h2⟩⟩
theorem qh : ∀ args w, Sem.run Tryz.prog (callFunc 135 args) w = .ok (.enter 135 args) w := fun _ _ => rfl
theorem aZ : ∀ args w, Sem.run Tryz.prog (callFunc 64 args) w = .ok (.enter 64 args) w := fun _ _ => rfl
theorem wL : ∀ args w, Sem.run Tryz.prog (callFunc 65 args) w = .ok (.enter 65 args) w := fun _ _ => rfl
theorem Ca : ∀ args w, Sem.run Tryz.prog (callFunc 94 args) w = .ok (.enter 94 args) w := fun _ _ => rfl
theorem Lp : ∀ args w, Sem.run Tryz.prog (callFunc 125 args) w = .ok (.enter 125 args) w := fun _ _ => rfl
theorem zX : ∀ args w, Sem.run Tryz.prog (callFunc 148 args) w = .ok (.enter 148 args) w := fun _ _ => rfl
theorem Gb : ∀ args w, Sem.run Tryz.prog (callFunc 137 args) w = .ok (.enter 137 args) w := fun _ _ => rfl
theorem uA : ∀ args w, Sem.run Tryz.prog (callFunc 139 args) w = .ok (.enter 139 args) w := fun _ _ => rfl
theorem Cb : ∀ args w, Sem.run Tryz.prog (callFunc 141 args) w = .ok (.enter 141 args) w := fun _ _ => rfl
theorem xO : ∀ args w, Sem.run Tryz.prog (callFunc 145 args) w = .ok (.enter 145 args) w := fun _ _ => rfl
theorem rF (hl : R.left = eH 135) (hid : R.az.id ≠ 0) (h1 : 1 ≤ M.dr.length) (hll : M.L.length ≤ 900) (hmx : mx ≤ 1000000) (q : Nat) :
  ∀ {L : List Jb} {w : World} {v : Value} {g a : Nat} {m : Int}, L.length = M.L.length → hits R.az L ≤ q → aC { M with L := L } → fe { M with L := L } R.az = M' → SW w b c t d p v g a m R (aj { M with L := L }) → a + 2 * hits R.az L ≤ 800 → m + hits R.az L ≤ mx → WS w0 w b c t d p v0 g0 v g →
   Goes b c (q + 1) w (Fin w0 b c t d p v0 g0 mx M' R.rep R.ok) := by
 induction q with
 | zero =>
  intro L w v g a m hL hq hI hM hS ha hm hw
  have hd := vo hS hI h1 (by show L.length ≤ 900; omega) (by omega) (by omega) hid
  refine uz (k := 135) (M' := M') (a' := a) (m' := m) hS hl hl qh (hd.mono fun e w' hp => ?_) (by omega) (by omega) hw
  rcases hp with ⟨ho, hp⟩ | ⟨i, ho, _⟩
  ·have := pR (M := { M with L := L }) ho
   rw [this] at hM
   rw [← hM]; exact hp
  ·have := (iO (L := L) ho).2.2.2.2
   omega
 | succ q ih =>
  intro L w v g a m hL hq hI hM hS ha hm hw
  have hd := vo hS hI h1 (by show L.length ≤ 900; omega) (by omega) (by omega) hid
  cases ho : dF R.az L with
  | none =>
   refine uz (k := 135) (M' := M') (a' := a) (m' := m) hS hl hl qh (hd.mono fun e w' hp => ?_) (by omega) (by omega) hw
   rcases hp with ⟨_, hp⟩ | ⟨i, h2, _⟩
   ·have := pR (M := { M with L := L }) ho
    rw [this] at hM
    rw [← hM]; exact hp
   ·have h3 : dF R.az L = some i := h2
    rw [ho] at h3; cases h3
  | some i =>
   obtain ⟨hi, _, _, _, hh⟩ := iO ho
   refine uy (k := 135) (k' := 135) (a' := a + 2) (m' := m + 1) (R' := R) (P' := aj { M with L := L.set i ((L.getD i default).aD (-1)) }) hS hl hl qh (hd.mono fun e w' hp => ?_) fun w' v' g' hS' hw' => ?_
   ·rcases hp with ⟨h2, _⟩ | ⟨i2, h2, hp⟩
    ·have h3 : dF R.az L = none := h2
     rw [ho] at h3; cases h3
    ·have h3 : dF R.az L = some i2 := h2
     rw [ho] at h3
     obtain rfl := Option.some.inj h3
     exact hp
   ·rw [← hl] at hS'
    exact ih (L := L.set i ((L.getD i default).aD (-1))) (by rw [List.length_set]; exact hL) (by omega) (hI.uP hi) ((tQ (M := { M with L := L }) ho).trans hM) hS' (by omega) (by omega) (hw.trans hw')
end
end Go.Proofs.YtkhfejihijdipaaGreat

namespace Go.Proofs.YtkhfejihijdipaaGreat
open Go.RowKit Go.Lib Go.Sort
def nX (x : Rl) : Ry := ⟨x.1, x.2.1, x.2.2.1, x.2.2.2.1, x.2.2.2.2.1, x.2.2.2.2.2.1, x.2.2.2.2.2.2.1, x.2.2.2.2.2.2.2.1, x.2.2.2.2.2.2.2.2⟩
section
variable {M : Md}
theorem xP (M : Md) : (lu M).length ≤ 1 + 2 * M.L.length := by
 have key : ∀ (ts : List Int) (acc : List (Int × Int)), (ts.foldl (stepOn M) acc).length ≤ acc.length + ts.length := by
  intro ts
  induction ts with
  | nil => intro acc; simp
  | cons t ts ih =>
   intro acc
   have h1 := ih (stepOn M acc t)
   have h2 : (stepOn M acc t).length ≤ acc.length + 1 := by
    unfold stepOn
    split
    ·split
     ·omega
     ·simp
    ·simp
   show (ts.foldl (stepOn M) (stepOn M acc t)).length ≤ acc.length + (ts.length + 1)
   omega
 have h3 : ∀ (n : Nat) (last : Int), (timesGo M.L n last).length ≤ n := by
  intro n
  induction n with
  | zero => intro last; simp [timesGo]
  | succ n ih =>
   intro last
   unfold timesGo
   split
   ·simp
   ·simp only [List.length_cons]; have := ih (jH M.L last); omega
 have h1 := key (lq M) []
 have h4 := h3 (2 * M.L.length) M.now
 unfold lu
 unfold lq at h1 ⊢
 simp only [List.length_cons, List.length_nil] at h1
 omega
theorem CW.Od {w : World} {c t d p g a : Nat} {v : Value} {m : Int} (h : CW w c t d p v g a m (aj M)) (hI : aC M) : CW w c t d p v g (1 + 2 * M.L.length) m (aj M) := by
 obtain ⟨S, aG, hp, hC, hl, h0⟩ := h.kQ
 have e : S = lu M := hC.uniq (yN hI) fun _ _ => rfl
 exact ⟨h.cell, h.dZ, h.nodes, S, aG, hp, hC, by rw [e]; exact xP M, h0⟩
theorem IV (M : Md) (hn : M.dr.length ≤ 64) (r : Rq) (hk : r.kind = 1) : (lG M.dr.length r = 9 ∧ fK M (toW r) = 9) ∨ (lG M.dr.length r = 0 ∧ iC M.L r = fK M (toW r)) := by
 have hlive : Ch M = iU M.L := rfl
 have s1 : (r.user < 0 ∨ 255 < r.user ∨ r.prio < 0 ∨ 1000 < r.prio) → fK M (toW r) = 1 := fun h => if_pos h
 have s2 : ¬ (r.user < 0 ∨ 255 < r.user ∨ r.prio < 0 ∨ 1000 < r.prio) → (r.width < 1 ∨ (M.dr.length : Int) < r.width) → fK M (toW r) = 9 := fun h h' => (if_neg h).trans (if_pos h')
 have s3 : ¬ (r.user < 0 ∨ 255 < r.user ∨ r.prio < 0 ∨ 1000 < r.prio) → ¬ (r.width < 1 ∨ (M.dr.length : Int) < r.width) → (r.limit < 1 ∨ 1048576 < r.limit) → fK M (toW r) = 10 := fun h h' h2 => (if_neg h).trans ((if_neg h').trans (if_pos h2))
 have s4 : ¬ (r.user < 0 ∨ 255 < r.user ∨ r.prio < 0 ∨ 1000 < r.prio) → ¬ (r.width < 1 ∨ (M.dr.length : Int) < r.width) → ¬ (r.limit < 1 ∨ 1048576 < r.limit) → (63 < Ch M ∨ 1023 < M.L.length) → fK M (toW r) = 6 := fun h h' h2 h3 => (if_neg h).trans ((if_neg h').trans ((if_neg h2).trans (if_pos h3)))
 have s5 : ¬ (r.user < 0 ∨ 255 < r.user ∨ r.prio < 0 ∨ 1000 < r.prio) → ¬ (r.width < 1 ∨ (M.dr.length : Int) < r.width) → ¬ (r.limit < 1 ∨ 1048576 < r.limit) → ¬ (63 < Ch M ∨ 1023 < M.L.length) → fK M (toW r) = 0 := fun h h' h2 h3 => (if_neg h).trans ((if_neg h').trans ((if_neg h2).trans (if_neg h3)))
 have b1 : aN r ≠ 0 → iC M.L r = aN r := fun h => if_pos h
 have b2 : aN r = 0 → (64 ≤ iU M.L ∨ 1024 ≤ M.L.length) → iC M.L r = 6 := fun h h' => (if_neg (by omega)).trans (if_pos h')
 have b3 : aN r = 0 → ¬ (64 ≤ iU M.L ∨ 1024 ≤ M.L.length) → iC M.L r = 0 := fun h h' => (if_neg (by omega)).trans (if_neg h')
 have x1 : (r.kind = 1 ∧ (M.dr.length : Int) < r.width ∧ r.width ≤ 64 ∧ aN r ≠ 1) → lG M.dr.length r = 9 := fun h => if_pos h
 have x2 : ¬ (r.kind = 1 ∧ (M.dr.length : Int) < r.width ∧ r.width ≤ 64 ∧ aN r ≠ 1) → lG M.dr.length r = 0 := fun h => if_neg h
 by_cases h1 : r.user < 0 ∨ 255 < r.user ∨ r.prio < 0 ∨ 1000 < r.prio
 ·have hR : aN r = 1 := by unfold aN; (repeat' split) <;> omega
  exact .inr ⟨x2 (by omega), by rw [s1 h1, b1 (by omega), hR]⟩
 ·by_cases h2 : r.width < 1
  ·have hR : aN r = 9 := by unfold aN; (repeat' split) <;> omega
   exact .inr ⟨x2 (by omega), by rw [s2 h1 (.inl h2), b1 (by omega), hR]⟩
  ·by_cases h3 : (M.dr.length : Int) < r.width
   ·by_cases h4 : r.width ≤ 64
    ·have hR : aN r ≠ 1 := by unfold aN; (repeat' split) <;> omega
     exact .inl ⟨x1 ⟨hk, h3, h4, hR⟩, s2 h1 (.inr h3)⟩
    ·have hR : aN r = 9 := by unfold aN; (repeat' split) <;> omega
     exact .inr ⟨x2 (by omega), by rw [s2 h1 (.inr h3), b1 (by omega), hR]⟩
   ·by_cases h5 : r.limit < 1 ∨ 1048576 < r.limit
    ·have hR : aN r = 10 := by unfold aN; (repeat' split) <;> omega
     exact .inr ⟨x2 (by omega), by rw [s3 h1 (by omega) h5, b1 (by omega), hR]⟩
    ·have hR : aN r = 0 := by unfold aN; (repeat' split) <;> omega
     refine .inr ⟨x2 (by omega), ?_⟩
     by_cases h6 : 63 < iU M.L ∨ 1023 < M.L.length
     ·rw [s4 h1 (by omega) h5 h6, b2 hR (by omega)]
     ·rw [s5 h1 (by omega) h5 h6, b3 hR (by omega)]
end
section
variable {w0 w : World} {b c t d p g g0 a N : Nat} {v v0 : Value} {m mx : Int} {P : Pg} {M M' : Md} {R : Wk} {Q : World → Prop}
theorem zZ (j : Jb) (L : List Jb) : hits j L ≤ L.length := List.countP_le_length
theorem aU {k a' : Nat} {m' : Int} {R' : Wk} {M1 : Md} {y : Ry} {o : Bool} (hk : ∀ args w, Sem.run Tryz.prog (callFunc k args) w = .ok (.enter k args) w)
  (hp : Calls Tryz.prog k #[.pointer (some ⟨b, 0, none⟩), .pointer (some ⟨c, 0, none⟩)] w (au w b c t d p v g a' m' .nilFunc R' (aj M1)))
  (h : SW w b c t d p v g a m R P) (hl : R.left = eH k) (hl' : R'.left = R.left) (ha : a' ≤ 800) (hm : m' ≤ mx) (hw : WS w0 w b c t d p v0 g0 v g) (hM : M1 = M') (hy : R'.rep = y) (ho : R'.ok = o) : Goes b c (N + 1) w (Fin w0 b c t d p v0 g0 mx M' y o) := by
 subst hM hy ho
 exact uz h hl (hl'.trans hl) hk hp ha hm hw
theorem DK (h : SW w b c t d p v g a m R (aj M)) (hl : R.left = eH 64) (hI : aC M) (hcl : M.cl = false) (h1 : 1 ≤ M.dr.length) (hll : M.L.length ≤ 190) (ha : a ≤ 1 + 2 * M.L.length) (hm : m + 1000 ≤ mx) (hmx : mx ≤ 1000000) (hw : WS w0 w b c t d p v0 g0 v g)
  (hk : R.ag.kind = 1) (ho : R.ok = false) : Goes b c 1000 w (Fin w0 b c t d p v0 g0 mx (iL M (toW R.ag)).2 (nX (iL M (toW R.ag)).1) false) := by
 have qC := ed hI h1 (by omega)
 have hrd : iW R.ag.kind = false := by rw [hk]; rfl
 have iK : ∀ {L : Value} {a' : Nat} {m' : Int} {R' : Wk} {P' : Pg}, Calls Tryz.prog 117 #[.pointer (some ⟨b, 0, none⟩), .pointer (some ⟨c, 0, none⟩)] w (au w b c t d p v g a' m' L R' P') → Calls Tryz.prog 64 #[.pointer (some ⟨b, 0, none⟩), .pointer (some ⟨c, 0, none⟩)] w (au w b c t d p v g a' m' L R' P') := fun hn => eZ h hcl (by rw [hk]; decide) hrd (Lc h hk hn)
 unfold iL
 rcases IV M hI.mb.nn R.ag hk with ⟨e1, e2⟩ | ⟨e1, e2⟩
 ·rw [if_pos (by rw [e2]; decide), e2]
  exact aU (N := 999) aZ (iK (AA h qC e1)) h hl rfl (by omega) (by omega) hw rfl rfl rfl
 ·by_cases e3 : fK M (toW R.ag) = 0
  ·rw [if_neg (by omega)]
   rw [e3] at e2
   cases hh : R.ag.held with
   | true =>
    rw [if_pos (show (toW R.ag).held = true from hh)]
    exact aU (N := 999) aZ (iK (zO h qC e1 e2 hh)) h hl rfl (by omega) (by omega) hw rfl rfl ho
   | false =>
    rw [if_neg (show ¬ (toW R.ag).held = true by rw [show (toW R.ag).held = R.ag.held from rfl, hh]; decide)]
    have hc := e3
    unfold fK at hc
    have hst : (bR M (toW R.ag)).st = 1 := by show (if R.ag.held then (2 : Int) else 1) = 1; rw [hh]; rfl
    have hI1 : aC { M with L := M.L ++ [bR M (toW R.ag)] } := by
     split at hc
     ·omega
     split at hc
     ·omega
     split at hc
     ·omega
     split at hc
     ·omega
     rename_i h2 h3 h4 h5
     have hn := hI.mb.nn
     exact hI.app (bR M (toW R.ag)) (hI.mb.app _ (by omega) (by show 0 ≤ (toW R.ag).wid ∧ (toW R.ag).wid ≤ 64; omega) (by show 0 ≤ (toW R.ag).lim ∧ (toW R.ag).lim ≤ 1048576; omega) (by show (-1 : Int) ≤ -1 ∧ (-1 : Int) ≤ _; omega) (by show (-1 : Int) ≤ -1 ∧ (-1 : Int) ≤ _; omega) (by show (0 : Int) ≤ 0 ∧ (0 : Int) ≤ _; omega)) rfl ⟨show 1 ≤ (toW R.ag).wid by omega, show (toW R.ag).wid ≤ _ by omega, show 1 ≤ (toW R.ag).lim by omega, by omega, by omega⟩ rfl (by omega)
    refine (uy (N := 901) (k := 64) (k' := 135) (R' := { R with rep := iq (bR M (toW R.ag)), az := bR M (toW R.ag) }) h hl hl aZ (iK (FH h qC e1 e2 hh)) fun w' v' g' hS' hw' => ?_).more (show 902 ≤ 1000 by decide)
    have hL : (M.L ++ [bR M (toW R.ag)]).length = M.L.length + 1 := by simp
    have SX := zZ (bR M (toW R.ag)) (M.L ++ [bR M (toW R.ag)])
    have := rF (M := { M with L := M.L ++ [bR M (toW R.ag)] }) (M' := fe { M with L := M.L ++ [bR M (toW R.ag)] } (bR M (toW R.ag))) (R := { ({ R with rep := iq (bR M (toW R.ag)), az := bR M (toW R.ag) } : Wk) with left := eH 135 }) (w0 := w0) (b := b) (c := c) (t := t) (d := d) (p := p) (v0 := v0) (g0 := g0) (mx := mx) rfl (by show (M.L.length : Int) + 1 ≠ 0; omega) h1 (by show (M.L ++ [bR M (toW R.ag)]).length ≤ 900; omega) hmx 900 (L := M.L ++ [bR M (toW R.ag)]) rfl (by show hits (bR M (toW R.ag)) _ ≤ 900; omega) hI1 rfl hS' (by show a + 2 * hits (bR M (toW R.ag)) _ ≤ 800; omega) (by show m + (hits (bR M (toW R.ag)) _ : Nat) ≤ mx; omega) (hw.trans hw')
    rw [show ({ ({ R with rep := iq (bR M (toW R.ag)), az := bR M (toW R.ag) } : Wk) with left := eH 135 } : Wk).ok = false from ho] at this
    exact this
  ·rw [if_pos e3]
   exact aU (N := 999) aZ (iK (submit_bad h qC e1 (fK M (toW R.ag)) e3 e2)) h hl rfl (by omega) (by omega) hw rfl rfl rfl
end
end Go.Proofs.YtkhfejihijdipaaGreat
