/-
 Own words and walks, merged: part 7 of 9.
-/
import Derived.Test.YtnihdgcfamoplaaGreatPa6
set_option maxRecDepth 1000000
set_option maxHeartbeats 8000000
set_option linter.all false
namespace Go.Proofs.YtnihdgcfamoplaaGreat
open Go.RowKit Go.Lib Go.Sort
theorem PG {w : World} {b : Nat} {R : Wk} (h : bY w b R) (v0 v1 v2 v3 v4 v5 v6 v7 v8 : Int) : ∃ W, W = (((((((((w).setCell ⟨b, 24, none⟩ (.int .i64 v0)).setCell ⟨b, 25, none⟩ (.int .i64 v1)).setCell ⟨b, 26, none⟩ (.int .i64 v2)).setCell ⟨b, 27, none⟩ (.int .i64 v3)).setCell ⟨b, 28, none⟩ (.int .i64 v4)).setCell ⟨b, 29, none⟩ (.int .i64 v5)).setCell ⟨b, 30, none⟩ (.int .i64 v6)).setCell ⟨b, 31, none⟩ (.int .i64 v7)).setCell ⟨b, 32, none⟩ (.int .i64 v8) ∧ bY W b { R with rep := ⟨v0, v1, v2, v3, v4, v5, v6, v7, v8⟩ } ∧ gH (fun k => k = b) w W := by
 refine ⟨_, rfl, ?_, ?_⟩
 ·have h0 := h.put 24 (.int .i64 v0) (R' := { R with rep := { R.rep with err := v0 } }) rfl
  have h1 := h0.put 25 (.int .i64 v1) (R' := { R with rep := { R.rep with err := v0, id := v1 } }) rfl
  have h2 := h1.put 26 (.int .i64 v2) (R' := { R with rep := { R.rep with err := v0, id := v1, state := v2 } }) rfl
  have h3 := h2.put 27 (.int .i64 v3) (R' := { R with rep := { R.rep with err := v0, id := v1, state := v2, start := v3 } }) rfl
  have h4 := h3.put 28 (.int .i64 v4) (R' := { R with rep := { R.rep with err := v0, id := v1, state := v2, start := v3, stop := v4 } }) rfl
  have h5 := h4.put 29 (.int .i64 v5) (R' := { R with rep := { R.rep with err := v0, id := v1, state := v2, start := v3, stop := v4, plan := v5 } }) rfl
  have h6 := h5.put 30 (.int .i64 v6) (R' := { R with rep := { R.rep with err := v0, id := v1, state := v2, start := v3, stop := v4, plan := v5, a := v6 } }) rfl
  have h7 := h6.put 31 (.int .i64 v7) (R' := { R with rep := { R.rep with err := v0, id := v1, state := v2, start := v3, stop := v4, plan := v5, a := v6, b := v7 } }) rfl
  have h8 := h7.put 32 (.int .i64 v8) (R' := { R with rep := { R.rep with err := v0, id := v1, state := v2, start := v3, stop := v4, plan := v5, a := v6, b := v7, c := v8 } }) rfl
  exact h8
 ·exact fQ (fQ (fQ (fQ (fQ (fQ (fQ (fQ (dw _ 24 _) (dw _ 25 _)) (dw _ 26 _)) (dw _ 27 _)) (dw _ 28 _)) (dw _ 29 _)) (dw _ 30 _)) (dw _ 31 _)) (dw _ 32 _)
def gQ (P : Pg) (n : Int) : Int := if (kg P.J n).st = 3 then max (kg P.J n).fin (P.now + 1) else P.now
section
variable {w : World} {b c t d p g a : Nat} {v : Value} {m : Int} {P : Pg} {R : Wk}
theorem MO (h : CW w c t d p v g a m P) (hk : PK P) (j : Jb) : Calls Tryz.prog 183 #[.pointer (some ⟨c, 0, none⟩), .agg (ag j).toArray] w fun e w' => e = .returned (.int .i64 (max j.fin (P.now + 1))) ∧ Below w.heap.size w w' := by
 obtain ⟨wA, aB⟩ : ∃ wA, wA = w.alloc (.cells (ag j).toArray 63) := ⟨_, rfl⟩
 have bC : Hid (Below w.heap.size w wA) := by show Below _ _ _; rw [aB]; exact (Below.refl _ _).alloc (Nat.le_refl _) _
 have uS : Hid (wA.heap[w.heap.size]? = some (.cells (ag j).toArray 63 (0, 0))) := by show _ = _; rw [aB]; exact heap_alloc_new w _
 have iI := Lib.hid (h.kept bC.out)
 have e7 : (ag j)[7]? = some (.int .i64 j.fin) := rfl
 have zE := bG
 obtain ⟨k, hk1⟩ : ∃ k, k = 10 := ⟨_, rfl⟩
 rw [← hk1] at zE
 have hk0 : ¬ k = 0 := by omega
 replace hk1 := Lib.hid hk1
 have jr := hk.now
 have wn : IntKind.i64.wrap (P.now + 1) = P.now + 1 := by rw [IntKind.wrap_i64]; omega
 generalize ag j = cJ at *
 generalize j.fin = jf at *
 clear h
 go_enter Tryz.func183, Tryz.ntmps183
 go_wp2_with fail
 rw [← aB]
 replace aB := Lib.hid aB
 refine Reg2.rd wA 8 14 [[],[ae],[af,af],[af,af,ae],[af,af,ae,ae],[af,af,ae,ae,ae],[af,af,ae,ae,ae,ae],[af,af,ae,ae,ae,ae,ae]] [0, 1, 0, 0, 0, 1, 1, 0] [.pure, .mU (.int .i64 jf), .pure, .pure, .pure, .mU (.pointer (some ⟨p, 0, none⟩)), .mU (.int .i64 P.now), .pure] (by kernel_rfl) (by kernel_rfl) rfl rfl ⟨trivial, Reg2.tt, trivial, trivial, trivial, Reg2.tt, Reg2.tt, trivial, trivial⟩ ⟨rfl, rfl, rfl, Nat.le_refl _, fun _ _ => rfl⟩ ?_
 dsimp only [Reg2.mk, List.zip, List.zipWith, List.take]
 repeat (refine' Reg2.ai _ (by rfl) (fun wz => ?_) ?_; rotate_left; (go_simp; first | rfl | rw [if_neg (by omega)]); simp only [Act.put, xA, xB, xC]; (try simp only [xD]); (try simp only [xE]); (try simp only [id]))
 refine Reg2.pm (fun wz hI hF => ?_) (fun r1 => ?_) (by rfl)
 ·have q0 : wz.cell? ⟨w.heap.size, 7, none⟩ = some (.int .i64 jf) := by simp [World.cell?, (hI.block _ (ay uS.out)).trans uS.out, e7]
  go_wp2_with fail
  first | exact ⟨_, rfl, rfl, Reg2.Ext.refl _⟩ | exact ⟨_, rfl, ⟨(), rfl, trivial⟩, Reg2.Ext.refl _⟩
 simp only [Act.put, xA, xB, xC]; (try simp only [xD]); (try simp only [xE]); (try simp only [id])
 repeat (refine' Reg2.ai _ (by rfl) (fun wz => ?_) ?_; rotate_left; (go_simp; first | rfl | rw [if_neg (by omega)]); simp only [Act.put, xA, xB, xC]; (try simp only [xD]); (try simp only [xE]); (try simp only [id]))
 refine Reg2.pm (fun wz hI hF => ?_) (fun r5 => ?_) (by rfl)
 ·have c0 := (iI.out.kept hI).c2
  go_wp2_with fail
  first | exact ⟨_, rfl, rfl, Reg2.Ext.refl _⟩ | exact ⟨_, rfl, ⟨(), rfl, trivial⟩, Reg2.Ext.refl _⟩
 simp only [Act.put, xA, xB, xC]; (try simp only [xD]); (try simp only [xE]); (try simp only [id])
 refine Reg2.pm (fun wz hI hF => ?_) (fun r6 => ?_) (by rfl)
 ·go_wp2_with (go_at_call 25; go_must (refine (fP (iI.out.kept hI)).mono ?_); rintro e w' ⟨rfl, rfl⟩)
  first | exact ⟨_, rfl, rfl, Reg2.Ext.refl _⟩ | exact ⟨_, rfl, ⟨(), rfl, trivial⟩, Reg2.Ext.refl _⟩
 simp only [Act.put, xA, xB, xC]; (try simp only [xD]); (try simp only [xE]); (try simp only [id])
 repeat (refine' Reg2.ai _ (by rfl) (fun wz => ?_) ?_; rotate_left; (go_simp; first | rfl | rw [if_neg (by omega)]); simp only [Act.put, xA, xB, xC]; (try simp only [xD]); (try simp only [xE]); (try simp only [id]))
 refine Reg2.aA ?_
 intro w7 jN _ dI
 clear dI
 dsimp only [List.drop]
 have lq := bC.out.trans (jN.mono bC.out.size)
 go_wp2_with fail
 go_ret
 exact ⟨rfl, lq⟩
theorem MP (h : CW w c t d p v g a m P) (hk : PK P) (hnd : ∀ j ∈ P.J, 0 ≤ j.bN ∧ j.bN ≤ 18446744073709551615) (n : Int) (hn : -9223372036854775808 ≤ n ∧ n ≤ 9223372036854775807) : Calls Tryz.prog 166 #[.pointer (some ⟨c, 0, none⟩), .int .i64 n] w fun e w' => e = .returned (.int .i64 (gQ P n)) ∧ Below w.heap.size w w' := by
 have hho := G5 h (hk.few) hnd n hn
 unfold gQ
 generalize kg P.J n = y at *
 obtain ⟨sv, hsv⟩ : ∃ sv, sv = if y.st = 3 then max y.fin (P.now + 1) else P.now := ⟨_, rfl⟩
 rw [← hsv]
 replace hsv := Lib.hid hsv
 have zE := bG
 obtain ⟨k, hk1⟩ : ∃ k, k = 10 := ⟨_, rfl⟩
 rw [← hk1] at zE
 have hk0 : ¬ k = 0 := by omega
 have lY := ax y
 rw [← hk1] at lY
 replace hk1 := Lib.hid hk1
 have e5 : (ag y)[5]? = some (.int .i64 y.st) := rfl
 have ST : Hid (∀ W : World, Sem.run Tryz.prog (storeCells ⟨W.heap.size, 0, none⟩ (ag y) 0) (W.alloc (.cells #[.int .i64 0, .int .i64 0, .int .i64 0, .int .i64 0, .int .i64 0, .int .i64 0, .int .i64 0, .int .i64 0, .int .i64 0, .int .u64 0] 63)) = .ok () (W.alloc (.cells (ag y).toArray 63))) := fun W => dD W W.heap.size (ag y) (ag gW) 63 rfl rfl (dJ y)
 have hun := fun (W : World) (hW : CW W c t d p v g a m P) => MO hW hk y
 have hC := Lib.hid h
 generalize ag y = cY at *
 clear h
 go_enter Tryz.func166, Tryz.ntmps166
 go_wp2_with fail
 go_at_call 182
 refine hho.mono ?_
 clear hho
 rintro e w1 ⟨rfl, hb1⟩
 have st1 := ST.out w1
 obtain ⟨w2, hw2⟩ : ∃ w2, w2 = w1.alloc (.cells cY.toArray 63) := ⟨_, rfl⟩
 rw [← hw2] at st1
 have hb2 : Below w.heap.size w w2 := by rw [hw2]; exact hb1.alloc hb1.size _
 have hz2 : w2.heap[w1.heap.size]? = some (.cells cY.toArray 63 (0, 0)) := by rw [hw2]; exact heap_alloc_new w1 _
 have c5 : w2.cell? ⟨w1.heap.size, 5, none⟩ = some (.int .i64 y.st) := by simp [World.cell?, hz2, e5]
 have Vs := eu hz2 lY
 have hC2 := hC.out.kept hb2
 have hu2 := hun w2 hC2
 have hnw := fP hC2
 have c2 := hC2.c2
 replace hw2 := Lib.hid hw2
 replace hz2 := Lib.hid hz2
 by_cases hs : y.st = 3
 ·have d0 : (y.st == 3) = true := by simp [hs]
  replace hs := Lib.hid hs
  go_wp2_with fail
  go_at_call 183
  refine hu2.mono ?_
  rintro e w3 ⟨rfl, hb3⟩
  go_wp2_with fail
  go_ret
  exact ⟨by rw [hsv.out, if_pos hs.out]; rfl, hb2.trans (hb3.mono hb2.size)⟩
 ·have d0 : (y.st == 3) = false := by simp [hs]
  go_wp2_with (go_at_call 25; go_must (refine hnw.mono ?_); rintro e w' ⟨rfl, rfl⟩)
  go_ret
  exact ⟨by rw [hsv.out, if_neg hs]; rfl, hb2⟩
theorem C8 (h : SW w b c t d p v g a m R P) (e0 by' : Int) (he : e0 ≠ 0) : Calls Tryz.prog 145 #[.pointer (some ⟨b, 0, none⟩), .pointer (some ⟨c, 0, none⟩), .int .i64 e0, .int .i64 by'] w (au w b c t d p v g a m .nilFunc { R with rep := jQ e0, ok := false } P) := by
 have hf := ik h.wk e0
 have d0 : (e0 != 0) = true := by simp [he]
 go_enter Tryz.func145, Tryz.ntmps145
 go_wp2_with (go_at_call 95; go_must (refine hf.mono ?_); rintro e w8 ⟨rfl, dS, fT⟩)
 go_ret
 exact ⟨rfl, v, g, h.work dS fT, WS.bD fT⟩
theorem JL (h : SW w b c t d p v g a m R P) (hk : PK P) (ha : a ≤ 800) (hm : m ≤ 1000000) (hnd : ∀ j ∈ P.J, 0 ≤ j.bN ∧ j.bN ≤ 18446744073709551615) (hn : -9223372036854775808 ≤ R.ah.node ∧ R.ah.node ≤ 9223372036854775807) (by' : Int) (hby : -64 ≤ by' ∧ by' ≤ 64) (F : Int → Int)
  (hF : ∀ u, P.now ≤ u → F u = P.f u + had (max (gQ P R.ah.node) P.now) 1152921504606846976 by' u) (hr : ∀ u, P.now ≤ u → 0 ≤ F u ∧ F u ≤ 64) (hs : gQ P R.ah.node < 1152921504606846976) :
  Calls Tryz.prog 145 #[.pointer (some ⟨b, 0, none⟩), .pointer (some ⟨c, 0, none⟩), .int .i64 0, .int .i64 by'] w (au w b c t d p v g (a + 2) (m + 1) .nilFunc { R with rep := ⟨0, R.ah.node, oZ P.T R.ah.node, 0, 0, 0, 0, 0, 0⟩ } { P with f := F }) := by
 have hS := Lib.hid h
 have q7 := h.wk.at 7 (.int .i64 R.ah.node) rfl
 have hsi := fun (W : World) (hW : CW W c t d p v g a m P) => MP hW hk hnd R.ah.node hn
 generalize hsx : gQ P R.ah.node = sx at *
 generalize hnx : R.ah.node = nx at *
 replace hsx := Lib.hid hsx
 replace hnx := Lib.hid hnx
 clear h
 go_enter Tryz.func145, Tryz.ntmps145
 go_wp2_with fail
 refine Reg2.rd w 8 40 [[],[ae],[ae,ae],[ae,ae,ae],[af,af,af,af],[af,af,af,af,af],[af,af,af,af,ae,ae],[af,af,af,af,af,af,af]] [0, 0, 0, 1, 0, 0, 1, 0] [.pure, .pure, .pure, .mU (.pointer (some ⟨p, 0, none⟩)), .pure, .pure, .mU (.int .i64 sx), .pure] (by kernel_rfl) (by kernel_rfl) rfl rfl ⟨trivial, trivial, trivial, Reg2.tt, trivial, trivial, Reg2.tt, trivial, trivial⟩ ⟨rfl, rfl, rfl, Nat.le_refl _, fun _ _ => rfl⟩ ?_
 dsimp only [Reg2.mk, List.zip, List.zipWith, List.take]
 repeat (refine' Reg2.ai _ (by rfl) (fun wz => ?_) ?_; rotate_left; (go_simp; first | rfl | rw [if_neg (by omega)]); simp only [Act.put, xA, xB, xC]; (try simp only [xD]); (try simp only [xE]); (try simp only [id]))
 refine Reg2.pm (fun wz hI hF => ?_) (fun r3 => ?_) (by rfl)
 ·have c0 := (hS.out.cw.kept hI).c2
  go_wp2_with fail
  first | exact ⟨_, rfl, rfl, Reg2.Ext.refl _⟩ | exact ⟨_, rfl, ⟨(), rfl, trivial⟩, Reg2.Ext.refl _⟩
 simp only [Act.put, xA, xB, xC]; (try simp only [xD]); (try simp only [xE]); (try simp only [id])
 repeat (refine' Reg2.ai _ (by rfl) (fun wz => ?_) ?_; rotate_left; (go_simp; first | rfl | rw [if_neg (by omega)]); simp only [Act.put, xA, xB, xC]; (try simp only [xD]); (try simp only [xE]); (try simp only [id]))
 refine Reg2.pm (fun wz hI hF => ?_) (fun r6 => ?_) (by rfl)
 ·go_wp2_with (go_at_call 166; go_must (refine (hsi wz (hS.out.kept hI).cw).mono ?_); rintro e w' ⟨rfl, hb5⟩)
  first | exact ⟨_, rfl, ⟨(), rfl, trivial⟩, hb5⟩ | exact ⟨_, rfl, rfl, hb5⟩
 simp only [Act.put, xA, xB, xC]; (try simp only [xD]); (try simp only [xE]); (try simp only [id])
 repeat (refine' Reg2.ai _ (by rfl) (fun wz => ?_) ?_; rotate_left; (go_simp; first | rfl | rw [if_neg (by omega)]); simp only [Act.put, xA, xB, xC]; (try simp only [xD]); (try simp only [xE]); (try simp only [id]))
 refine Reg2.aA ?_
 intro w4 HI4 _ dI
 clear dI
 dsimp only [List.drop]
 have bI := hS.out.kept HI4
 have hadd := KN bI.cw hk ha hm sx 1152921504606846976 by' F hs (by omega) hby hF hr
 go_wp2_with fail
 go_at_call 152
 refine hadd.mono ?_
 clear hadd
 rintro e w5 ⟨rfl, v5, g5, gu, hS5⟩
 have UE := bI.core gu hS5
 have BG := (WS.of_below HI4 : WS w w4 b c t d p v g v g).trans (WS.dC hS5)
 have hst := uM nx hn gu.nodes hk.qG
 rw [show ({ P with f := F } : Pg).T = P.T from rfl] at hst
 have c1 := gu.c1
 go_wp2_with fail
 go_at_call 54
 refine hst.mono ?_
 clear hst c1
 rintro e w6 ⟨rfl, mm, vK⟩
 have hb6 : Below w5.heap.size w5 w6 := by rw [vK]; exact below_drewN (Below.refl _ _) _
 have eH := UE.kept hb6
 have sF := BG.trans (WS.of_below hb6)
 obtain ⟨w7, hw7, xn, PH⟩ := PG eH.wk 0 nx (oZ P.T nx) 0 0 0 0 0 0
 have a24 := eH.wk.at 24 (.int .i64 R.rep.err) rfl
 have f24 := eH.wk.free 24
 have a25 := eH.wk.at 25 (.int .i64 R.rep.id) rfl
 have f25 := eH.wk.free 25
 have a26 := eH.wk.at 26 (.int .i64 R.rep.state) rfl
 have f26 := eH.wk.free 26
 have a27 := eH.wk.at 27 (.int .i64 R.rep.start) rfl
 have f27 := eH.wk.free 27
 have a28 := eH.wk.at 28 (.int .i64 R.rep.stop) rfl
 have f28 := eH.wk.free 28
 have a29 := eH.wk.at 29 (.int .i64 R.rep.plan) rfl
 have f29 := eH.wk.free 29
 have a30 := eH.wk.at 30 (.int .i64 R.rep.a) rfl
 have f30 := eH.wk.free 30
 have a31 := eH.wk.at 31 (.int .i64 R.rep.b) rfl
 have f31 := eH.wk.free 31
 have a32 := eH.wk.at 32 (.int .i64 R.rep.c) rfl
 have f32 := eH.wk.free 32
 have gG := eH.work xn PH
 have JM := sF.trans (WS.bD PH)
 replace vK := Lib.hid vK
 go_wp2_with fail
 rw [← hw7]
 go_ret
 have en := hnx.out
 subst en
 exact ⟨rfl, v5, g5, gG, JM⟩
end
end Go.Proofs.YtnihdgcfamoplaaGreat

namespace Go.Proofs.YtnihdgcfamoplaaGreat
open Go.RowKit Go.Lib Go.Sort
def Early (M : Md) : Prop := ∀ j ∈ M.L, j.st ≤ 2 → j.fin = -1
theorem foldl_min (l : List Int) : ∀ x : Int, (l.foldl min x = x ∨ l.foldl min x ∈ l) ∧ l.foldl min x ≤ x ∧ ∀ z ∈ l, l.foldl min x ≤ z := by
 induction l with
 | nil => exact fun x => ⟨.inl rfl, Int.le_refl _, fun z hz => nomatch hz⟩
 | cons a l ih =>
  intro x
  obtain ⟨h1, h2, h3⟩ := ih (min x a)
  refine ⟨?_, by show l.foldl min (min x a) ≤ x; omega, fun z hz => ?_⟩
  ·show l.foldl min (min x a) = x ∨ l.foldl min (min x a) ∈ a :: l
   rcases h1 with h1 | h1
   ·rw [h1]
    rcases Int.le_total x a with h | h
    ·exact .inl (Int.min_eq_left h)
    ·exact .inr (by rw [Int.min_eq_right h]; exact List.mem_cons_self ..)
   ·exact .inr (List.mem_cons_of_mem _ h1)
  ·show l.foldl min (min x a) ≤ z
   rcases List.mem_cons.1 hz with rfl | hz
   ·omega
   ·exact h3 z hz
theorem AQ (l : List Int) : jZ l = 1152921504606846976 ∨ jZ l ∈ l := (foldl_min l _).1
theorem JN {l : List Int} {z : Int} (h : z ∈ l) : jZ l ≤ z := (foldl_min l _).2.2 z h
section
variable {M : Md}
theorem G7 (hI : aG M) (hE : Early M) : jZ (qK M.now (M.L.filter fun j : Jb => decide (j.state ∈ [(1 : Int), 3]))) = if aW M < 0 then 1152921504606846976 else aW M := by
 have h0 := hI.mb.now
 have hL := qp (M := M) h0.1
 have key : ∀ t, t ∈ qK M.now (M.L.filter fun j : Jb => decide (j.state ∈ [(1 : Int), 3])) ↔ (t ∈ M.L.flatMap vG ∧ M.now < t) := by
  intro t
  unfold qK
  simp only [List.mem_flatMap]
  constructor
  ·rintro ⟨j, hj, ht⟩
   obtain ⟨hjm, hjs⟩ := List.mem_filter.1 hj
   unfold JI at ht
   obtain ⟨ht1, ht2⟩ := List.mem_filter.1 ht
   have ht2 : M.now < t := of_decide_eq_true ht2
   refine ⟨⟨j, hjm, ?_⟩, ht2⟩
   have hs : j.st = 1 ∨ j.st = 3 := by
    have : j.state = 1 ∨ j.state = 3 := by simpa using hjs
    exact this
   have ht3 : t = j.fin ∨ t = j.aD := by simpa using ht1
   unfold vG
   rcases hs with hs | hs
   ·have he := hE j hjm (by omega)
    have htp : t = j.aD := by rcases ht3 with h | h <;> omega
    have hpl : aj j = true := aT.2 ⟨hs, by omega⟩
    rw [hpl]
    simp [htp]
   ·have hr := hI.rest j hjm (by omega)
    have htp : t = j.fin := by rcases ht3 with h | h <;> omega
    simp [hs, htp]
  ·rintro ⟨⟨j, hjm, ht⟩, ht2⟩
   unfold vG at ht
   rcases List.mem_append.1 ht with h | h
   ·by_cases hs : j.st = 3
    ·rw [if_pos hs] at h
     refine ⟨j, List.mem_filter.2 ⟨hjm, ?_⟩, ?_⟩
     ·have : j.state = 3 := hs
      simp [this]
     ·unfold JI
      rw [List.mem_singleton.1 h] at ht2 ⊢
      exact List.mem_filter.2 ⟨by simp, decide_eq_true ht2⟩
    ·rw [if_neg hs] at h; cases h
   ·by_cases hs : aj j = true
    ·rw [if_pos hs] at h
     refine ⟨j, List.mem_filter.2 ⟨hjm, ?_⟩, ?_⟩
     ·have : j.state = 1 := (aT.1 hs).1
      simp [this]
     ·unfold JI
      rw [List.mem_singleton.1 h] at ht2 ⊢
      exact List.mem_filter.2 ⟨by simp, decide_eq_true ht2⟩
    ·rw [if_neg hs] at h; cases h
 have hbig : ∀ t ∈ M.L.flatMap vG, t ≤ 1099512676352 := by
  intro t ht
  obtain ⟨j, hjm, ht⟩ := List.mem_flatMap.1 ht
  have h1 := hI.mb.fin j hjm
  have h2 := hI.mb.aD j hjm
  unfold vG at ht
  rcases List.mem_append.1 ht with h | h
  ·split at h
   ·rw [List.mem_singleton.1 h]; omega
   ·cases h
  ·split at h
   ·rw [List.mem_singleton.1 h]; omega
   ·cases h
 rcases hL with ⟨h1, h2⟩ | ⟨h1, h2, h3, h4⟩
 ·rw [if_pos h1]
  rcases AQ (qK M.now (M.L.filter fun j : Jb => decide (j.state ∈ [(1 : Int), 3]))) with h | h
  ·exact h
  ·have := (key _).1 h
   have := h2 _ this.1
   omega
 ·rw [if_neg (by omega)]
  have h5 := JN ((key _).2 ⟨h3, h2⟩)
  have h6 := hbig _ h3
  rcases AQ (qK M.now (M.L.filter fun j : Jb => decide (j.state ∈ [(1 : Int), 3]))) with h | h
  ·omega
  ·have h7 := (key _).1 h
   have := h4 _ h7.1 h7.2
   omega
end
section
variable {w : World} {b c t d p g a : Nat} {v : Value} {m : Int} {P : Pg} {M : Md} {R : Wk}
theorem MQ (h : CW w c t d p v g a m P) (ha : a ≤ 1000) : Calls Tryz.prog 135 #[.pointer (some ⟨p, 0, none⟩), .int .i64 P.now] w fun e w' => e = .returned (.int .i64 (P.f P.now)) ∧ Below w.heap.size w w' := by
 obtain ⟨S, aO, hp, hC, hl, _⟩ := h.mq
 obtain ⟨i, hi⟩ := hC.sm.ix P.now
 rw [hi.val hC.sm (Int.le_refl _)]
 exact Me P.now hi hC.sm (by omega) hp
theorem C9 (h : SW w b c t d p v g a m R P) (ha : a ≤ 1000) : Calls Tryz.prog 118 #[.pointer (some ⟨b, 0, none⟩), .pointer (some ⟨c, 0, none⟩)] w (au w b c t d p v g a m (.tuple #[]) { R with rep := ⟨0, 0, 0, P.now, 0, 0, P.f P.now, 0, 0⟩ } P) := by
 have hS := Lib.hid h
 have hfr := fun (W : World) (hW : SW W b c t d p v g a m R P) => MQ hW.cw ha
 obtain ⟨fn, hfn⟩ : ∃ fn, fn = P.f P.now := ⟨_, rfl⟩
 rw [← hfn] at hfr ⊢
 replace hfn := Lib.hid hfn
 clear h
 go_enter Tryz.func118, Tryz.ntmps118
 go_wp2_with fail
 refine Reg2.rd w 17 23 [[],[af],[af,ae],[af,ae,ae],[af,ae,ae,ae],[af,ae,ae,ae,ae],[af,af,af,af,af,af],[af,af,af,af,af,af,ae],[af,af,af,af,af,af,ae,ae],[af,af,af,af,af,af,ae,ae,ae],[af,af,af,af,af,af,af,af,af,af],[af,af,af,af,af,af,af,af,af,af,ae],[af,af,af,af,af,af,af,af,af,af,ae,ae],[af,af,af,af,af,af,af,af,af,af,ae,ae,ae],[af,ae,ae,ae,ae,ae,af,af,af,af,ae,ae,ae,ae],[af,ae,ae,ae,ae,ae,ae,ae,ae,ae,ae,ae,ae,ae,ae],[af,ae,ae,ae,ae,ae,ae,ae,ae,ae,ae,ae,ae,ae,ae,ae]] [0, 0, 0, 0, 1, 1, 0, 0, 0, 1, 0, 0, 0, 1, 1, 1, 0] [.pure, .pure, .pure, .pure, .mU (.pointer (some ⟨p, 0, none⟩)), .mU (.int .i64 P.now), .pure, .pure, .pure, .mU (.pointer (some ⟨p, 0, none⟩)), .pure, .pure, .pure, .mU (.pointer (some ⟨p, 0, none⟩)), .mU (.int .i64 P.now), .mU (.int .i64 fn), .pure] (by kernel_rfl) (by kernel_rfl) rfl rfl ⟨trivial, trivial, trivial, trivial, Reg2.tt, Reg2.tt, trivial, trivial, trivial, Reg2.tt, trivial, trivial, trivial, Reg2.tt, Reg2.tt, Reg2.tt, trivial, trivial⟩ ⟨rfl, rfl, rfl, Nat.le_refl _, fun _ _ => rfl⟩ ?_
 dsimp only [Reg2.mk, List.zip, List.zipWith, List.take]
 repeat (refine' Reg2.ai _ (by rfl) (fun wz => ?_) ?_; rotate_left; (go_simp; first | rfl | rw [if_neg (by omega)]); simp only [Act.put, xA, xB, xC]; (try simp only [xD]); (try simp only [xE]); (try simp only [id]))
 refine Reg2.pm (fun wz hI hF => ?_) (fun r4 => ?_) (by rfl)
 ·have c0 := (hS.out.cw.kept hI).c2
  go_wp2_with fail
  first | exact ⟨_, rfl, rfl, Reg2.Ext.refl _⟩ | exact ⟨_, rfl, ⟨(), rfl, trivial⟩, Reg2.Ext.refl _⟩
 simp only [Act.put, xA, xB, xC]; (try simp only [xD]); (try simp only [xE]); (try simp only [id])
 refine Reg2.pm (fun wz hI hF => ?_) (fun r5 => ?_) (by rfl)
 ·go_wp2_with (go_at_call 25; go_must (refine (fP (hS.out.kept hI).cw).mono ?_); rintro e w' ⟨rfl, rfl⟩)
  first | exact ⟨_, rfl, rfl, Reg2.Ext.refl _⟩ | exact ⟨_, rfl, ⟨(), rfl, trivial⟩, Reg2.Ext.refl _⟩
 simp only [Act.put, xA, xB, xC]; (try simp only [xD]); (try simp only [xE]); (try simp only [id])
 repeat (refine' Reg2.ai _ (by rfl) (fun wz => ?_) ?_; rotate_left; (go_simp; first | rfl | rw [if_neg (by omega)]); simp only [Act.put, xA, xB, xC]; (try simp only [xD]); (try simp only [xE]); (try simp only [id]))
 refine Reg2.pm (fun wz hI hF => ?_) (fun r9 => ?_) (by rfl)
 ·have c0 := (hS.out.cw.kept hI).c2
  go_wp2_with fail
  first | exact ⟨_, rfl, rfl, Reg2.Ext.refl _⟩ | exact ⟨_, rfl, ⟨(), rfl, trivial⟩, Reg2.Ext.refl _⟩
 simp only [Act.put, xA, xB, xC]; (try simp only [xD]); (try simp only [xE]); (try simp only [id])
 repeat (refine' Reg2.ai _ (by rfl) (fun wz => ?_) ?_; rotate_left; (go_simp; first | rfl | rw [if_neg (by omega)]); simp only [Act.put, xA, xB, xC]; (try simp only [xD]); (try simp only [xE]); (try simp only [id]))
 refine Reg2.pm (fun wz hI hF => ?_) (fun GR => ?_) (by rfl)
 ·have c0 := (hS.out.cw.kept hI).c2
  go_wp2_with fail
  first | exact ⟨_, rfl, rfl, Reg2.Ext.refl _⟩ | exact ⟨_, rfl, ⟨(), rfl, trivial⟩, Reg2.Ext.refl _⟩
 simp only [Act.put, xA, xB, xC]; (try simp only [xD]); (try simp only [xE]); (try simp only [id])
 refine Reg2.pm (fun wz hI hF => ?_) (fun JC => ?_) (by rfl)
 ·go_wp2_with (go_at_call 25; go_must (refine (fP (hS.out.kept hI).cw).mono ?_); rintro e w' ⟨rfl, rfl⟩)
  first | exact ⟨_, rfl, rfl, Reg2.Ext.refl _⟩ | exact ⟨_, rfl, ⟨(), rfl, trivial⟩, Reg2.Ext.refl _⟩
 simp only [Act.put, xA, xB, xC]; (try simp only [xD]); (try simp only [xE]); (try simp only [id])
 refine Reg2.pm (fun wz hI hF => ?_) (fun UF => ?_) (by rfl)
 ·go_wp2_with (go_at_call 135; go_must (refine (hfr wz (hS.out.kept hI)).mono ?_); rintro e w' ⟨rfl, hb5⟩)
  first | exact ⟨_, rfl, ⟨(), rfl, trivial⟩, hb5⟩ | exact ⟨_, rfl, rfl, hb5⟩
 simp only [Act.put, xA, xB, xC]; (try simp only [xD]); (try simp only [xE]); (try simp only [id])
 repeat (refine' Reg2.ai _ (by rfl) (fun wz => ?_) ?_; rotate_left; (go_simp; first | rfl | rw [if_neg (by omega)]); simp only [Act.put, xA, xB, xC]; (try simp only [xD]); (try simp only [xE]); (try simp only [id]))
 refine Reg2.aA ?_
 intro w4 HI4 _ dI
 clear dI
 dsimp only [List.drop]
 have bI := hS.out.kept HI4
 obtain ⟨w7, hw7, xn, PH⟩ := PG bI.wk 0 0 0 P.now 0 0 fn 0 0
 have a24 := bI.wk.at 24 (.int .i64 R.rep.err) rfl
 have f24 := bI.wk.free 24
 have a25 := bI.wk.at 25 (.int .i64 R.rep.id) rfl
 have f25 := bI.wk.free 25
 have a26 := bI.wk.at 26 (.int .i64 R.rep.state) rfl
 have f26 := bI.wk.free 26
 have a27 := bI.wk.at 27 (.int .i64 R.rep.start) rfl
 have f27 := bI.wk.free 27
 have a28 := bI.wk.at 28 (.int .i64 R.rep.stop) rfl
 have f28 := bI.wk.free 28
 have a29 := bI.wk.at 29 (.int .i64 R.rep.plan) rfl
 have f29 := bI.wk.free 29
 have a30 := bI.wk.at 30 (.int .i64 R.rep.a) rfl
 have f30 := bI.wk.free 30
 have a31 := bI.wk.at 31 (.int .i64 R.rep.b) rfl
 have f31 := bI.wk.free 31
 have a32 := bI.wk.at 32 (.int .i64 R.rep.c) rfl
 have f32 := bI.wk.free 32
 have gG := bI.work xn PH
 have JM := (WS.of_below HI4 : WS w w4 b c t d p v g v g).trans (WS.bD PH)
 go_wp2_with fail
 rw [← hw7]
 go_end0
 exact ⟨rfl, v, g, gG, JM⟩
theorem uk (h : SW w b c t d p v g a m R (ak M)) (hI : aG M) (hE : Early M) (h1 : 1 ≤ M.dr.length) (hll : M.L.length ≤ 900) (ha : a ≤ 800) (hm : m ≤ 1000000) (hnx : aW M < 0 ∨ R.target < aW M) (rF : M.now ≤ R.target ∧ R.target ≤ 1099511627776) :
  Calls Tryz.prog 148 #[.pointer (some ⟨b, 0, none⟩), .pointer (some ⟨c, 0, none⟩)] w (au w b c t d p v g a (m + 1) .nilFunc { R with rep := ⟨0, 0, 0, R.target, 0, 0, az M R.target 0, 0, 0⟩ } (ak { M with now := R.target })) := by
 have qZ := fC hI h1 hll
 have hne := CX h.cw qZ (fun j hj => hI.mb.fin j hj) (fun j hj => hI.mb.aD j hj)
 rw [show (ak M).now = M.now from rfl, show (ak M).J = M.L from rfl, G7 hI hE] at hne
 obtain ⟨x, hx⟩ : ∃ x, x = if aW M < 0 then 1152921504606846976 else aW M := ⟨_, rfl⟩
 rw [← hx] at hne
 have hgt : R.target < x := by rw [hx]; split <;> omega
 have d1 : decide (x > R.target) = true := decide_eq_true hgt
 replace hx := Lib.hid hx
 replace hgt := Lib.hid hgt
 have KO := fun (W : World) (hW : SW W b c t d p v g a m R (ak M)) => yt hW.cw qZ ha hm R.target rF.1 rF.2
 have JO := fun (W : World) (hW : SW W b c t d p v g a m R (ak M)) => hW.wk.at 23 (.int .i64 R.target) rfl
 generalize hrt : R.target = rt at *
 have hS := Lib.hid h
 clear h
 go_enter Tryz.func148, Tryz.ntmps148
 go_wp2_with fail
 go_at_call 169
 refine hne.mono ?_
 clear hne
 rintro e w1 ⟨rfl, hb1⟩
 have hS1 := Lib.hid (hS.out.kept hb1)
 have q1 := JO w1 hS1.out
 replace JO := Lib.hid JO
 replace hrt := Lib.hid hrt
 go_wp2_with fail
 refine Reg2.rd w1 8 44 [[],[ae],[ae,ae],[ae,ae,ae],[af,af,af,af],[af,af,af,af,ae],[af,af,af,af,ae,ae],[af,af,af,af,ae,ae,ae]] [0, 0, 0, 1, 0, 0, 0, 1] [.pure, .pure, .pure, .mU (.pointer (some ⟨p, 0, none⟩)), .pure, .pure, .pure, .mU (.int .i64 rt)] (by kernel_rfl) (by kernel_rfl) rfl rfl ⟨trivial, trivial, trivial, Reg2.tt, trivial, trivial, trivial, Reg2.tt, trivial⟩ ⟨rfl, rfl, rfl, Nat.le_refl _, fun _ _ => rfl⟩ ?_
 dsimp only [Reg2.mk, List.zip, List.zipWith, List.take]
 repeat (refine' Reg2.ai _ (by rfl) (fun wz => ?_) ?_; rotate_left; (go_simp; first | rfl | rw [if_neg (by omega)]); simp only [Act.put, xA, xB, xC]; (try simp only [xD]); (try simp only [xE]); (try simp only [id]))
 refine Reg2.pm (fun wz hI hF => ?_) (fun r3 => ?_) (by rfl)
 ·have c0 := (hS1.out.cw.kept hI).c2
  go_wp2_with fail
  first | exact ⟨_, rfl, rfl, Reg2.Ext.refl _⟩ | exact ⟨_, rfl, ⟨(), rfl, trivial⟩, Reg2.Ext.refl _⟩
 simp only [Act.put, xA, xB, xC]; (try simp only [xD]); (try simp only [xE]); (try simp only [id])
 repeat (refine' Reg2.ai _ (by rfl) (fun wz => ?_) ?_; rotate_left; (go_simp; first | rfl | rw [if_neg (by omega)]); simp only [Act.put, xA, xB, xC]; (try simp only [xD]); (try simp only [xE]); (try simp only [id]))
 refine Reg2.pm (fun wz hI hF => ?_) (fun r7 => ?_) (by rfl)
 ·have q0 := JO.out wz (hS1.out.kept hI)
  go_wp2_with fail
  first | exact ⟨_, rfl, rfl, Reg2.Ext.refl _⟩ | exact ⟨_, rfl, ⟨(), rfl, trivial⟩, Reg2.Ext.refl _⟩
 simp only [Act.put, xA, xB, xC]; (try simp only [xD]); (try simp only [xE]); (try simp only [id])
 refine Reg2.aA ?_
 intro w4 HI4 _ dI
 clear dI
 dsimp only [List.drop]
 have bI := hS1.out.kept HI4
 have UG := KO w4 bI
 go_wp2_with fail
 go_at_call 170
 refine UG.mono ?_
 clear UG
 rintro e w5 ⟨rfl, v5, g5, gu, hS5⟩
 have PI := bI.core gu hS5
 have BG := (WS.of_below (hb1.trans (HI4.mono hb1.size)) : WS w w4 b c t d p v g v g).trans (WS.dC hS5)
 have hck := C9 PI (by omega)
 rw [show ({ ak M with now := rt } : Pg).f = fun u => az M u 0 from rfl, show ({ ak M with now := rt } : Pg).now = rt from rfl] at hck
 go_wp2_with fail
 go_at_call 118
 refine hck.mono ?_
 clear hck
 rintro e w6 ⟨rfl, v6, g6, eH, Vz⟩
 have sF := BG.trans Vz
 go_wp2_with fail
 go_ret
 have er := hrt.out
 clear hrt
 subst er
 exact ⟨rfl, v6, g6, eH, sF⟩
theorem yC (h : SW w b c t d p v g a m R (ak M)) (hI : aG M) (VA : Calm M) (hE : Early M) (h1 : 1 ≤ M.dr.length) (hll : M.L.length ≤ 900) (ha : a ≤ 800) (hm : m ≤ 1000000) (hnx : 0 ≤ aW M ∧ aW M ≤ R.target) (rF : R.target ≤ 1099511627776) :
  Calls Tryz.prog 148 #[.pointer (some ⟨b, 0, none⟩), .pointer (some ⟨c, 0, none⟩)] w (au w b c t d p v g a (m + 1) (fH 148) R (ak (dB { M with now := aW M }))) := by
 have qZ := fC hI h1 hll
 have hne := CX h.cw qZ (fun j hj => hI.mb.fin j hj) (fun j hj => hI.mb.aD j hj)
 rw [show (ak M).now = M.now from rfl, show (ak M).J = M.L from rfl, G7 hI hE, if_neg (by omega)] at hne
 obtain ⟨hlt, QZ, _⟩ := hI.step VA hnx.1 (by omega)
 have hf0 : ∀ u, aW M ≤ u → 0 ≤ az M u 0 ∧ az M u 0 ≤ 64 := fun u hu => uP hI u (by omega)
 have hov := QZ.over
 have KO := fun (W : World) (hW : SW W b c t d p v g a m R (ak M)) => yt hW.cw qZ ha hm (aW M) (by show M.now ≤ _; omega) (by omega)
 have PL := fun (W : World) (v1 : Value) (g1 : Nat) (hW : CW W c t d p v1 g1 a (m + 1) { ak ({ M with now := aW M } : Md) with f := fun u => az M u 0 }) => JG (M := { M with now := aW M }) (fun u => az M u 0) hW QZ h1 hll hf0
 have vT := fun (W : World) (v1 : Value) (g1 : Nat) (hW : CW W c t d p v1 g1 a (m + 1) { ak ({ ({ M with now := aW M } : Md) with L := M.L.map (aR (aW M)) } : Md) with f := fun u => az M u 0 }) => MJ (M := { ({ M with now := aW M } : Md) with L := M.L.map (aR (aW M)) }) (fun u => az M u 0) hW hov.1 hov.2 M.L.length (by
  have := lH (fun j => if dh (aW M) j = true then (1 : Int) else 0) 1 (M.L.map (aR (aW M))) (fun j _ => by split <;> omega)
  rw [List.length_map] at this
  have e : lu ({ ({ M with now := aW M } : Md) with L := M.L.map (aR (aW M)) } : Md) = ((M.L.map (aR (aW M))).map fun j => if dh (aW M) j = true then (1 : Int) else 0).sum := rfl
  rw [e]; omega) h1 (by rw [List.length_map]; exact hll) hf0
 have PM : startGo M.L.length ({ ({ M with now := aW M } : Md) with L := M.L.map (aR (aW M)) } : Md) = dB { M with now := aW M } := rfl
 rw [PM] at vT
 rw [show ({ M with now := aW M } : Md).now = aW M from rfl, show ({ M with now := aW M } : Md).L = M.L from rfl] at PL
 rw [show ({ ({ M with now := aW M } : Md) with L := M.L.map (aR (aW M)) } : Md).now = aW M from rfl] at vT
 have hfin : Hid (∀ {W : World} {v1 : Value} {g1 : Nat}, CW W c t d p v1 g1 a (m + 1) { ak (dB { M with now := aW M }) with f := fun u => az M u 0 } → CW W c t d p v1 g1 a (m + 1) (ak (dB { M with now := aW M }))) := fun {W v1 g1} hW => by
  have jr : (dB { M with now := aW M }).now = aW M := by rw [← PM]; exact (ug M.L.length hov.1.mb).2.2.1
  exact hW.SI (fun u => az (dB { M with now := aW M }) u 0) fun u hu => (Bl QZ u (by
   have hu2 : (dB { M with now := aW M }).now ≤ u := hu
   rw [jr] at hu2; exact hu2)).symm
 obtain ⟨H, hH⟩ : ∃ H, H = dB { M with now := aW M } := ⟨_, rfl⟩
 rw [← hH] at vT hfin ⊢
 have d1 : decide (aW M > R.target) = false := decide_eq_false (by omega)
 replace hH := Lib.hid hH
 generalize Mk : aW M = x at *
 replace Mk := Lib.hid Mk
 have JO := fun (W : World) (hW : SW W b c t d p v g a m R (ak M)) => hW.wk.at 23 (.int .i64 R.target) rfl
 generalize R.target = rt at *
 have hS := Lib.hid h
 clear h hov QZ PM
 go_enter Tryz.func148, Tryz.ntmps148
 go_wp2_with fail
 go_at_call 169
 refine hne.mono ?_
 clear hne
 rintro e w1 ⟨rfl, hb1⟩
 have hS1 := hS.out.kept hb1
 have q1 := JO w1 hS1
 have c2 := hS1.cw.c2
 have ha1 := KO w1 hS1
 clear JO KO
 go_wp2_with fail
 go_at_call 170
 refine ha1.mono ?_
 clear ha1
 rintro e w5 ⟨rfl, v5, g5, gu, hS5⟩
 have PI := hS1.core gu hS5
 have BG := (WS.of_below hb1 : WS w w1 b c t d p v g v g).trans (WS.dC hS5)
 have UH := PL w5 v5 g5 gu
 clear PL q1 c2
 go_wp2_with fail
 go_at_call 171
 refine UH.mono ?_
 clear UH
 rintro e w6 ⟨rfl, v6, g6, GD, eH⟩
 have UI := PI.core GD eH
 have sF := BG.trans (WS.dC eH)
 have hs6 := vT w6 v6 g6 GD
 clear vT
 go_wp2_with fail
 go_at_call 172
 refine hs6.mono ?_
 clear hs6
 rintro e w7 ⟨rfl, v7, g7, yP, gG⟩
 have UJ := UI.core (hfin.out yP) gG
 have JM := sF.trans (WS.dC gG)
 go_wp2_with fail
 go_ret
 exact ⟨rfl, v7, g7, UJ, JM⟩
end
end Go.Proofs.YtnihdgcfamoplaaGreat

namespace Go.Proofs.YtnihdgcfamoplaaGreat
open Go.RowKit Go.Lib
section
variable {M : Md}
def mJ (j : Jb) (x : Int) : Int := if aj j = true then min (x + j.lim) j.aD else x + j.lim
theorem PN {id : Int} (h : gz M.L id ≠ 0) : (getM M id).2 = false := by
 unfold gz at h
 unfold getM
 by_cases h1 : id < 1
 ·rw [if_pos (.inl h1)]
 ·rw [if_neg h1] at h
  by_cases h2 : (M.L.length : Int) < id
  ·rw [if_pos (.inr h2)]
  ·rw [if_neg h2] at h; exact absurd rfl h
theorem tK {id : Int} (h : gz M.L id = 0) : ∃ i : Nat, i < M.L.length ∧ id = (i : Int) + 1 ∧ bH M.L id = M.L.getD i default ∧ getM M id = (M.L.getD i default, true) := by
 unfold gz at h
 by_cases h1 : id < 1
 ·rw [if_pos h1] at h; cases h
 ·rw [if_neg h1] at h
  by_cases h2 : (M.L.length : Int) < id
  ·rw [if_pos h2] at h; cases h
  ·refine ⟨(id - 1).toNat, by omega, by omega, ?_, ?_⟩
   ·unfold bH
    have hq : (id - 1).toNat < M.L.length := by omega
    rw [if_neg h1, if_neg h2, getElem!_pos M.L _ hq]
    generalize (id - 1).toNat = q at *
    simp [List.getD, hq]
   ·unfold getM
    rw [if_neg (by omega)]
theorem PO (h : M.cl = true) (id x : Int) : fw M id x = false := by unfold fw; rw [if_pos (.inl h)]
theorem MR {id x : Int} (h : x < M.now) : fw M id x = false := by unfold fw; rw [if_pos (.inr (.inr (.inr (.inl h))))]
theorem JP {id x : Int} (h : 1099511627776 < x) : fw M id x = false := by unfold fw; rw [if_pos (.inr (.inr (.inr (.inr (.inl h)))))]
theorem JQ {id x : Int} (h : gz M.L id ≠ 0) : fw M id x = false := by unfold fw; rw [if_pos (.inr (.inl (PN h)))]
theorem G8 {id x : Int} (h : gz M.L id = 0) (hs : (bH M.L id).st ≠ 1) : fw M id x = false := by
 obtain ⟨i, _, _, h3, h4⟩ := tK h
 unfold fw
 rw [if_pos]
 exact .inr (.inr (.inl (by rw [h4, ← h3]; exact hs)))
theorem JR {id x : Int} (h : gz M.L id = 0) (hp : aj (bH M.L id) = true) (hl : (bH M.L id).aD ≤ x) : fw M id x = false := by
 obtain ⟨i, _, _, h3, h4⟩ := tK h
 unfold fw
 rw [if_pos]
 exact .inr (.inr (.inr (.inr (.inr (by rw [h4, ← h3]; exact ⟨(aT.1 hp).2, hl⟩)))))
theorem Q0 {x long width but : Int} (hx : 1 ≤ long) (h : ∀ t, x ≤ t → t < x + long → width ≤ az M t but) : wD M x long width but = true := by
 unfold wD
 rw [Bool.and_eq_true, List.all_eq_true]
 refine ⟨decide_eq_true (h x (Int.le_refl _) (by omega)), fun t _ => ?_⟩
 rw [Bool.not_eq_true', Bool.and_eq_false_iff, Bool.and_eq_false_iff]
 by_cases h1 : x < t
 ·by_cases h2 : t < x + long
  ·refine .inr (decide_eq_false ?_)
   have := h t (by omega) h2
   omega
  ·exact .inl (.inr (decide_eq_false h2))
 ·exact .inl (.inl (decide_eq_false h1))
theorem JU (hI : aG M) {id x m : Int} (hcl : M.cl = false) (h1 : M.now ≤ x) (h2 : x ≤ 1099511627776) (h : gz M.L id = 0) (hs : (bH M.L id).st = 1) (hl : aj (bH M.L id) = true → x < (bH M.L id).aD)
  (hm : BL (fun u => az M u 0) x (mJ (bH M.L id) x) m) : fw M id x = decide ((bH M.L id).wid ≤ m) := by
 obtain ⟨i, hi, hid, h3, h4⟩ := tK h
 have hmem := bg hi
 rw [h3] at hs hl hm ⊢
 have hone := hI.one _ hmem
 have UK := hI.ids i hi
 have e : fw M id x = wD M x (M.L.getD i default).lim (M.L.getD i default).wid ((i : Int) + 1) := by
  unfold fw
  rw [h4]
  show (if M.cl = true ∨ true = false ∨ _ then _ else _) = _
  rw [if_neg, UK]
  have h5 := hs
  rintro (a1 | a1 | a1 | a1 | a1 | a1)
  ·rw [hcl] at a1; cases a1
  ·cases a1
  ·exact a1 hs
  ·omega
  ·omega
  ·have := hl (aT.2 ⟨h5, a1.1⟩)
   have h6 : (M.L.getD i default).aD ≤ x := a1.2
   omega
 rw [e]
 have xP := lG hi hI.ids
 have hto : x < mJ (M.L.getD i default) x := by
  unfold mJ
  split
  ·rename_i hp; have := hl hp; omega
  ·omega
 have NK := hI.mb.wid _ hmem
 have hcon : ∀ u, x ≤ u → u < x + (M.L.getD i default).lim → (u < mJ (M.L.getD i default) x → dO u 0 (M.L.getD i default) = 0) ∧ (mJ (M.L.getD i default) x ≤ u → dO u 0 (M.L.getD i default) = (M.L.getD i default).wid) := by
  intro u hu1 hu2
  unfold mJ
  cases hp : aj (M.L.getD i default) with
  | false =>
   refine ⟨fun _ => dP hp, fun h6 => ?_⟩
   rw [if_neg (by decide)] at h6
   omega
  | true =>
   have h7 := hl hp
   rw [if_pos rfl, lF hp (by omega)]
   refine ⟨fun h6 => if_neg (by omega), fun h6 => if_pos (by omega)⟩
 have hsub : mJ (M.L.getD i default) x ≤ x + (M.L.getD i default).lim := by unfold mJ; split <;> omega
 rw [Bool.eq_iff_iff, decide_eq_true_eq]
 constructor
 ·intro hr
  have hall := wH hI.mb.now.1 h1 hr
  rcases hm.one with e1 | ⟨u, u1, u2, u3⟩
  ·omega
  ·have h6 := hall u u1 (by omega)
   rw [xP, (hcon u u1 (by omega)).1 u2] at h6
   have h7 : az M u 0 = m := u3
   omega
 ·intro hw
  refine Q0 (by omega) fun u ht1 ht2 => ?_
  rw [xP]
  rcases Int.lt_or_le u (mJ (M.L.getD i default) x) with h6 | h6
  ·have h7 : m ≤ az M u 0 := hm.all u ht1 h6
   rw [(hcon u ht1 ht2).1 h6]
   omega
  ·have h7 := hI.free u (by omega)
   rw [(hcon u ht1 ht2).2 h6]
   omega
end
end Go.Proofs.YtnihdgcfamoplaaGreat

namespace Go.Proofs.YtnihdgcfamoplaaGreat
open Go.RowKit Go.Lib Go.Sort
def il (w0 : World) (y : Jb) (vs : List Value) (W : World) : Prop := Below w0.heap.size w0 W ∧ (match vs with
 | [] => True
 | [u] => ∃ k, u = .pointer (some ⟨k, 0, none⟩) ∧ w0.heap.size ≤ k ∧ W.heap[k]? = some (.cells (ag gW).toArray 63 (0, 0))
 | u :: _ :: _ => ∃ k, u = .pointer (some ⟨k, 0, none⟩) ∧ w0.heap.size ≤ k ∧ W.heap[k]? = some (.cells (ag y).toArray 63 (0, 0)))
theorem il.ext {w0 a b : World} {y : Jb} {vs : List Value} (h : Below a.heap.size a b) (hs : il w0 y vs a) : il w0 y vs b := by
 obtain ⟨h1, h2⟩ := hs
 refine ⟨h1.trans (h.mono h1.size), ?_⟩
 match vs, h2 with
 | [], _ => trivial
 | [u], ⟨k, e, hk, hz⟩ => exact ⟨k, e, hk, (h.block k (ay hz)).trans hz⟩
 | u :: _ :: _, ⟨k, e, hk, hz⟩ => exact ⟨k, e, hk, (h.block k (ay hz)).trans hz⟩
theorem il.alloc {w0 W : World} {y : Jb} (hs : il w0 y [] W) : il w0 y ([] ++ [.pointer (some ⟨W.heap.size, 0, none⟩)]) (W.alloc (.cells #[.int .i64 0, .int .i64 0, .int .i64 0, .int .i64 0, .int .i64 0, .int .i64 0, .int .i64 0, .int .i64 0, .int .i64 0, .int .u64 0] 63)) :=
 ⟨hs.1.alloc hs.1.size _, _, rfl, hs.1.size, heap_alloc_new W _⟩
theorem il.zero {w0 W : World} {y : Jb} {k : Nat} (hs : il w0 y [.pointer (some ⟨k, 0, none⟩)] W) : W.heap[k]? = some (.cells (ag gW).toArray 63 (0, 0)) ∧ w0.heap.size ≤ k := by
 obtain ⟨_, k', e, h1, h2⟩ := hs
 injection e with e
 injection e with e
 injection e with e
 subst e
 exact ⟨h2, h1⟩
theorem il.store {w0 W : World} {y : Jb} {k : Nat} (hs : il w0 y [.pointer (some ⟨k, 0, none⟩)] W) : il w0 y ([.pointer (some ⟨k, 0, none⟩)] ++ [undef]) (W.setRow k (ag y).toArray) := by
 obtain ⟨hz, hk⟩ := hs.zero
 exact ⟨qa hs.1 hk _, k, rfl, hk, vO hz _⟩
theorem il.full {w0 W : World} {y : Jb} {k : Nat} {u : Value} (hs : il w0 y [.pointer (some ⟨k, 0, none⟩), u] W) : W.heap[k]? = some (.cells (ag y).toArray 63 (0, 0)) ∧ w0.heap.size ≤ k := by
 obtain ⟨_, k', e, h1, h2⟩ := hs
 injection e with e
 injection e with e
 injection e with e
 subst e
 exact ⟨h2, h1⟩
section
variable {w : World} {b c t d p g a : Nat} {v : Value} {m : Int} {P : Pg} {M : Md} {R : Wk}
theorem JV (h : CW w c t d p v g a m P) (hk : PK P) (ha : a ≤ 1000) (lo hi : Int) (h0 : P.now ≤ lo) (hh : -9223372036854775808 ≤ hi ∧ hi ≤ 9223372036854775807) : Calls Tryz.prog 111 #[.pointer (some ⟨p, 0, none⟩), .int .i64 lo, .int .i64 hi] w fun e w' => ∃ r : Int, e = .returned (.int .i64 r) ∧ BL P.f lo hi r ∧ Below w.heap.size w w' := by
 obtain ⟨S, aO, hp, hC, hl, _⟩ := h.mq
 have := BB lo hi hh hC.sm hk.now.1 (by omega) hp
 rwa [Int.max_eq_left h0] at this
theorem EJ (h : CW w c t d p v g a m (ak M)) (hI : aG M) (h1 : 1 ≤ M.dr.length) (hll : M.L.length ≤ 900) (ha : a ≤ 800) (xi xt : Int) (hxt : -9223372036854775808 ≤ xt ∧ xt ≤ 9223372036854775807) (hc : M.cl = true) :
  Calls Tryz.prog 96 #[.pointer (some ⟨c, 0, none⟩), .agg #[.int .i64 xi, .int .i64 xt]] w fun e w' => e = .returned (.bool (fw M xi xt)) ∧ Below w.heap.size w w' := by
 have qZ := Lib.hid (fC hI h1 hll)
 have zJ := bG
 have zS := jV
 obtain ⟨k, hk1⟩ : ∃ k, k = 10 := ⟨_, rfl⟩
 obtain ⟨k3, hk3⟩ : ∃ k, k = 3 := ⟨_, rfl⟩
 rw [← hk1] at zJ
 rw [← hk3] at zS
 have hk0 : ¬ k = 0 := by omega
 have yx : ¬ k3 = 0 := by omega
 replace hk1 := Lib.hid hk1
 replace hk3 := Lib.hid hk3
 obtain ⟨wA, aB⟩ : ∃ wA, wA = w.alloc (.cells #[.int .i64 xi, .int .i64 xt] 34) := ⟨_, rfl⟩
 have bC : Hid (Below w.heap.size w wA) := by show Below _ _ _; rw [aB]; exact (Below.refl _ _).alloc (Nat.le_refl _) _
 have uS : Hid (wA.heap[w.heap.size]? = some (.cells #[.int .i64 xi, .int .i64 xt] 34 (0, 0))) := by show _ = _; rw [aB]; exact heap_alloc_new w _
 have iI := Lib.hid (h.kept bC.out)
 have hcl := fun (W : World) (hW : Below wA.heap.size wA W) => iT (iI.out.kept hW)
 rw [show (ak M).cl = M.cl from rfl] at hcl
 have hnw := fun (W : World) (hW : Below wA.heap.size wA W) => fP (iI.out.kept hW)
 rw [show (ak M).now = M.now from rfl] at hnw
 rw [hc] at hcl
 have hres := PO hc xi xt
 rw [hres]
 replace hres := Lib.hid hres
 replace hc := Lib.hid hc
 clear h
 go_enter Tryz.func96, Tryz.ntmps96
 go_wp2_with fail
 rw [← aB]
 replace aB := Lib.hid aB
 refine Reg2.rd wA 10 76 [[],[ae],[ae,ae],[ae,ae,ae],[ae,ae,ae,ae],[ae,ae,ae,af,af],[ae,ae,ae,af,af,ae],[ae,ae,ae,af,af,ae,ae],[ae,ae,ae,af,af,ae,ae,ae],[ae,ae,ae,af,af,ae,ae,ae,ae]] [0, 1, 0, 0, 1, 0, 0, 0, 1, 1] [.pure, .mU (.bool true), .pure, .pure, .mU (.int .i64 xt), .pure, .pure, .pure, .mU (.pointer (some ⟨p, 0, none⟩)), .mU (.int .i64 M.now)] (by kernel_rfl) (by kernel_rfl) rfl rfl ⟨trivial, Reg2.tt, trivial, trivial, Reg2.tt, trivial, trivial, trivial, Reg2.tt, Reg2.tt, trivial⟩ ⟨rfl, rfl, rfl, Nat.le_refl _, fun _ _ => rfl⟩ ?_
 dsimp only [Reg2.mk, List.zip, List.zipWith, List.take]
 repeat (refine' Reg2.ai _ (by rfl) (fun wz => ?_) ?_; rotate_left; (go_simp; first | rfl | rw [if_neg (by omega)]); simp only [Act.put, xA, xB, xC]; (try simp only [xD]); (try simp only [xE]); (try simp only [id]))
 refine Reg2.pm (fun wz hI hF => ?_) (fun r1 => ?_) (by rfl)
 ·go_wp2_with (go_at_call 21; go_must (refine (hcl wz hI).mono ?_); rintro e w' ⟨rfl, rfl⟩)
  first | exact ⟨_, rfl, rfl, Reg2.Ext.refl _⟩ | exact ⟨_, rfl, ⟨(), rfl, trivial⟩, Reg2.Ext.refl _⟩
 simp only [Act.put, xA, xB, xC]; (try simp only [xD]); (try simp only [xE]); (try simp only [id])
 repeat (refine' Reg2.ai _ (by rfl) (fun wz => ?_) ?_; rotate_left; (go_simp; first | rfl | rw [if_neg (by omega)]); simp only [Act.put, xA, xB, xC]; (try simp only [xD]); (try simp only [xE]); (try simp only [id]))
 refine Reg2.aL (by rfl) ?_
 simp only [Act.put, xA, xB, xC]; (try simp only [xD]); (try simp only [xE]); (try simp only [id])
 refine Reg2.aH (by rfl) ?_
 simp only [Act.put, xA, xB, xC]; (try simp only [xD]); (try simp only [xE]); (try simp only [id])
 refine Reg2.aL (by rfl) ?_
 simp only [Act.put, xA, xB, xC]; (try simp only [xD]); (try simp only [xE]); (try simp only [id])
 refine Reg2.aL (by rfl) ?_
 simp only [Act.put, xA, xB, xC]; (try simp only [xD]); (try simp only [xE]); (try simp only [id])
 refine Reg2.aL (by rfl) ?_
 simp only [Act.put, xA, xB, xC]; (try simp only [xD]); (try simp only [xE]); (try simp only [id])
 refine Reg2.aH (by rfl) ?_
 simp only [Act.put, xA, xB, xC]; (try simp only [xD]); (try simp only [xE]); (try simp only [id])
 refine Reg2.aH (by rfl) ?_
 simp only [Act.put, xA, xB, xC]; (try simp only [xD]); (try simp only [xE]); (try simp only [id])
 refine Reg2.aA ?_
 intro w4 HI4 _ dI
 clear dI
 dsimp only [List.drop]
 go_wp2_with fail
 go_ret
 exact ⟨rfl, bC.out.trans (HI4.mono bC.out.size)⟩
theorem JW (h : CW w c t d p v g a m (ak M)) (hI : aG M) (h1 : 1 ≤ M.dr.length) (hll : M.L.length ≤ 900) (ha : a ≤ 800) (xi xt : Int) (hxt : -9223372036854775808 ≤ xt ∧ xt ≤ 9223372036854775807) (hc : M.cl = false) :
  Calls Tryz.prog 96 #[.pointer (some ⟨c, 0, none⟩), .agg #[.int .i64 xi, .int .i64 xt]] w fun e w' => e = .returned (.bool (fw M xi xt)) ∧ Below w.heap.size w w' := by
 have qZ := Lib.hid (fC hI h1 hll)
 have zJ := bG
 have zS := jV
 obtain ⟨k, hk1⟩ : ∃ k, k = 10 := ⟨_, rfl⟩
 obtain ⟨k3, hk3⟩ : ∃ k, k = 3 := ⟨_, rfl⟩
 rw [← hk1] at zJ
 rw [← hk3] at zS
 have hk0 : ¬ k = 0 := by omega
 have yx : ¬ k3 = 0 := by omega
 replace hk1 := Lib.hid hk1
 replace hk3 := Lib.hid hk3
 obtain ⟨wA, aB⟩ : ∃ wA, wA = w.alloc (.cells #[.int .i64 xi, .int .i64 xt] 34) := ⟨_, rfl⟩
 have bC : Hid (Below w.heap.size w wA) := by show Below _ _ _; rw [aB]; exact (Below.refl _ _).alloc (Nat.le_refl _) _
 have uS : Hid (wA.heap[w.heap.size]? = some (.cells #[.int .i64 xi, .int .i64 xt] 34 (0, 0))) := by show _ = _; rw [aB]; exact heap_alloc_new w _
 have iI := Lib.hid (h.kept bC.out)
 have hcl := fun (W : World) (hW : Below wA.heap.size wA W) => iT (iI.out.kept hW)
 rw [show (ak M).cl = M.cl from rfl] at hcl
 have hnw := fun (W : World) (hW : Below wA.heap.size wA W) => fP (iI.out.kept hW)
 rw [show (ak M).now = M.now from rfl] at hnw
 rw [hc] at hcl
 have his := fun (W : World) => QV xt W hxt
 have hget := Lib.hid (fun (W : World) (hW : Below wA.heap.size wA W) => gq (iI.out.kept hW).fe xi)
 obtain ⟨rb, hrb⟩ : ∃ rb, rb = fw M xi xt := ⟨_, rfl⟩
 rw [← hrb]
 replace hrb := Lib.hid hrb
 replace hc := Lib.hid hc
 clear h
 go_enter Tryz.func96, Tryz.ntmps96
 go_wp2_with fail
 rw [← aB]
 replace aB := Lib.hid aB
 refine Reg2.rd wA 10 76 [[],[ae],[ae,ae],[ae,ae,ae],[ae,ae,ae,ae],[ae,ae,ae,af,af],[ae,ae,ae,af,af,ae],[ae,ae,ae,af,af,ae,ae],[ae,ae,ae,af,af,ae,ae,ae],[ae,ae,ae,af,af,ae,ae,ae,ae]] [0, 1, 0, 0, 1, 0, 0, 0, 1, 1] [.pure, .mU (.bool false), .pure, .pure, .mU (.int .i64 xt), .pure, .pure, .pure, .mU (.pointer (some ⟨p, 0, none⟩)), .mU (.int .i64 M.now)] (by kernel_rfl) (by kernel_rfl) rfl rfl ⟨trivial, Reg2.tt, trivial, trivial, Reg2.tt, trivial, trivial, trivial, Reg2.tt, Reg2.tt, trivial⟩ ⟨rfl, rfl, rfl, Nat.le_refl _, fun _ _ => rfl⟩ ?_
 dsimp only [Reg2.mk, List.zip, List.zipWith, List.take]
 repeat (refine' Reg2.ai _ (by rfl) (fun wz => ?_) ?_; rotate_left; (go_simp; first | rfl | rw [if_neg (by omega)]); simp only [Act.put, xA, xB, xC]; (try simp only [xD]); (try simp only [xE]); (try simp only [id]))
 refine Reg2.pm (fun wz hI hF => ?_) (fun r1 => ?_) (by rfl)
 ·go_wp2_with (go_at_call 21; go_must (refine (hcl wz hI).mono ?_); rintro e w' ⟨rfl, rfl⟩)
  first | exact ⟨_, rfl, rfl, Reg2.Ext.refl _⟩ | exact ⟨_, rfl, ⟨(), rfl, trivial⟩, Reg2.Ext.refl _⟩
 simp only [Act.put, xA, xB, xC]; (try simp only [xD]); (try simp only [xE]); (try simp only [id])
 repeat (refine' Reg2.ai _ (by rfl) (fun wz => ?_) ?_; rotate_left; (go_simp; first | rfl | rw [if_neg (by omega)]); simp only [Act.put, xA, xB, xC]; (try simp only [xD]); (try simp only [xE]); (try simp only [id]))
 refine Reg2.pm (fun wz hI hF => ?_) (fun r4 => ?_) (by rfl)
 ·have q0 : wz.cell? ⟨w.heap.size, 1, none⟩ = some (.int .i64 xt) := by simp [World.cell?, (hI.block _ (ay uS.out)).trans uS.out]
  go_wp2_with fail
  first | exact ⟨_, rfl, rfl, Reg2.Ext.refl _⟩ | exact ⟨_, rfl, ⟨(), rfl, trivial⟩, Reg2.Ext.refl _⟩
 simp only [Act.put, xA, xB, xC]; (try simp only [xD]); (try simp only [xE]); (try simp only [id])
 repeat (refine' Reg2.ai _ (by rfl) (fun wz => ?_) ?_; rotate_left; (go_simp; first | rfl | rw [if_neg (by omega)]); simp only [Act.put, xA, xB, xC]; (try simp only [xD]); (try simp only [xE]); (try simp only [id]))
 refine Reg2.pm (fun wz hI hF => ?_) (fun r8 => ?_) (by rfl)
 ·have c0 := (iI.out.kept hI).c2
  go_wp2_with fail
  first | exact ⟨_, rfl, rfl, Reg2.Ext.refl _⟩ | exact ⟨_, rfl, ⟨(), rfl, trivial⟩, Reg2.Ext.refl _⟩
 simp only [Act.put, xA, xB, xC]; (try simp only [xD]); (try simp only [xE]); (try simp only [id])
 refine Reg2.pm (fun wz hI hF => ?_) (fun r9 => ?_) (by rfl)
 ·go_wp2_with (go_at_call 25; go_must (refine (hnw wz hI).mono ?_); rintro e w' ⟨rfl, rfl⟩)
  first | exact ⟨_, rfl, rfl, Reg2.Ext.refl _⟩ | exact ⟨_, rfl, ⟨(), rfl, trivial⟩, Reg2.Ext.refl _⟩
 simp only [Act.put, xA, xB, xC]; (try simp only [xD]); (try simp only [xE]); (try simp only [id])
 refine Reg2.aA ?_
 intro w4 HI4 _ dI
 clear dI
 dsimp only [List.drop]
 have hb4 := bC.out.trans (HI4.mono bC.out.size)
 have yO : w4.heap[w.heap.size]? = some (.cells #[.int .i64 xi, .int .i64 xt] 34 (0, 0)) := (HI4.block _ (ay uS.out)).trans uS.out
 have x1 : w4.cell? ⟨w.heap.size, 1, none⟩ = some (.int .i64 xt) := by simp [World.cell?, yO]
 by_cases hlow : xt < M.now
 ·have d1 : decide (xt < M.now) = true := decide_eq_true hlow
  have hfin : Hid (rb = false) := hrb.out.trans (MR hlow)
  replace hlow := Lib.hid hlow
  obtain rfl := hfin.out
  go_wp2_with fail
  go_ret
  exact ⟨rfl, hb4⟩
 have d1 : decide (xt < M.now) = false := decide_eq_false hlow
 by_cases hhi : 1099511627776 < xt
 ·have d2 : decide (0 ≤ xt ∧ xt ≤ 1099511627776) = false := decide_eq_false (by omega)
  rw [d2] at his
  have hfin : Hid (rb = false) := hrb.out.trans (JP hhi)
  replace hhi := Lib.hid hhi
  obtain rfl := hfin.out
  go_wp2_with (go_at_call 109; go_must (refine (his _).mono ?_); rintro e w' ⟨rfl, rfl⟩)
  go_ret
  exact ⟨rfl, hb4⟩
 have d2 : decide (0 ≤ xt ∧ xt ≤ 1099511627776) = true := decide_eq_true (by have := hI.mb.now; omega)
 rw [d2] at his
 have x0 : w4.cell? ⟨w.heap.size, 0, none⟩ = some (.int .i64 xi) := by simp [World.cell?, yO]
 have c0 := (iI.out.kept HI4).c0
 obtain ⟨y, hy⟩ : ∃ y, y = bH M.L xi := ⟨_, rfl⟩
 obtain ⟨e0, he0⟩ : ∃ e0, e0 = gz M.L xi := ⟨_, rfl⟩
 have hgo : Hid (∀ W, Below wA.heap.size wA W → Calls Tryz.prog 33 #[.pointer (some ⟨t, 0, none⟩), .int .i64 xi] W fun e w' => e = .returned (.tuple #[.agg (ag y).toArray, .int .i64 e0]) ∧ Gr W w') := fun W hW => by
  have := hget.out W hW
  unfold gZ at this
  rw [show (ak M).J = M.L from rfl, ← hy, ← he0] at this
  exact this
 have lY := ax y
 rw [← hk1.out] at lY
 have y2 : (ag y)[2]? = some (.int .i64 y.wid) := rfl
 have y3 : (ag y)[3]? = some (.int .i64 y.lim) := rfl
 have y5 : (ag y)[5]? = some (.int .i64 y.st) := rfl
 have hpy : Hid (∀ W, y.aD ≤ 1099511627776 → 0 ≤ y.lim ∧ y.lim ≤ 1048576 → Calls Tryz.prog 110 #[.agg (ag y).toArray] W fun e w' => e = .returned (.tuple #[.agg (aN y).toArray, .bool (aj y)]) ∧ Below W.heap.size W w') := fun W a1 a2 => kE y a1 a2
 replace hy := Lib.hid hy
 replace he0 := Lib.hid he0
 have KP := Lib.hid yO
 have ow := Lib.hid (iI.out.kept HI4)
 clear yO hget x0 c0
 go_wp2_with (go_at_call 109; go_must (refine (his _).mono ?_); rintro e w' ⟨rfl, rfl⟩)
 go_wp2_with fail
 refine Reg2.qg 12 76 [[],[ae],[ae,ae],[ae,ae,ae],[af,af,af,af],[af,af,af,af,ae],[ae,ae,ae,ae,ae,ae],[ae,ae,ae,ae,ae,ae,ae],[ae,ae,ae,ae,ae,ae,ae,ae],[ae,ae,ae,ae,ae,ae,ae,ae,af],[af,af,af,af,af,af,af,af,af,af],[ae,ae,ae,ae,ae,ae,ae,ae,ae,af,ae]] [0, 0, 0, 1, 0, 1, 1, 0, 0, 0, 3, 3]
  [.pure, .pure, .pure, .mU (.pointer (some ⟨t, 0, none⟩)), .pure, .mU (.int .i64 xi), .mU (.tuple #[.agg (ag y).toArray, .int .i64 e0]), .pure, .pure, .pure, .major Nat 0 (fun k => .pointer (some ⟨k, 0, none⟩)), .major Unit () (fun _ => undef)]
  (fun W => Below w4.heap.size w4 W) (il w4 y) (fun a b => Below w4.heap.size a b) (by kernel_rfl) (by kernel_rfl) rfl rfl (fun vs a b h hs => il.ext h hs) ?_ ?_ ?_ ?_ ?_ ?_ ?_
 ·intro a b he hb; exact hb.trans (Below.mono he hb.size)
 ·intro a b he hb; exact hb.trans he
 ·exact ⟨trivial, trivial, trivial, ⟨fun _ _ _ _ _ => trivial, fun _ _ _ _ _ => trivial⟩, trivial, ⟨fun _ _ _ _ _ => trivial, fun _ _ _ _ _ => trivial⟩, ⟨fun _ _ _ _ _ => trivial, fun _ _ _ _ _ => trivial⟩, trivial, trivial, trivial, trivial, trivial, trivial⟩
 ·exact ⟨(fun h => nomatch h), (fun h => nomatch h), (fun h => nomatch h), (fun h => nomatch h), (fun h => nomatch h), (fun h => nomatch h), (fun h => nomatch h), (fun h => nomatch h), (fun h => nomatch h), (fun h => nomatch h), (fun h => nomatch h), (fun _ _ => rfl), trivial⟩
 ·exact ⟨rfl, rfl, rfl, Nat.le_refl _, fun _ _ => rfl⟩
 ·exact ⟨⟨rfl, rfl, rfl, Nat.le_refl _, fun _ _ => rfl⟩, trivial⟩
 dsimp only [Reg2.mk, List.zip, List.zipWith, List.take]
 repeat (refine' Reg2.ai _ (by rfl) (fun wz => ?_) ?_; rotate_left; (go_simp; first | rfl | rw [if_neg (by omega)]); simp only [Act.put, xA, xB, xC]; (try simp only [xD]); (try simp only [xE]); (try simp only [id]))
 refine Reg2.pm (fun wz hI hF => ?_) (fun r3 => ?_) (by rfl)
 ·have c0 := (ow.out.kept hI).c0
  go_wp2_with fail
  first | exact ⟨_, rfl, rfl, Reg2.Ext.refl _⟩ | exact ⟨_, rfl, ⟨(), rfl, trivial⟩, Reg2.Ext.refl _⟩
 simp only [Act.put, xA, xB, xC]; (try simp only [xD]); (try simp only [xE]); (try simp only [id])
 repeat (refine' Reg2.ai _ (by rfl) (fun wz => ?_) ?_; rotate_left; (go_simp; first | rfl | rw [if_neg (by omega)]); simp only [Act.put, xA, xB, xC]; (try simp only [xD]); (try simp only [xE]); (try simp only [id]))
 refine Reg2.pm (fun wz hI hF => ?_) (fun r5 => ?_) (by rfl)
 ·have q0 : wz.cell? ⟨w.heap.size, 0, none⟩ = some (.int .i64 xi) := by simp [World.cell?, (hI.block _ (ay KP.out)).trans KP.out]
  go_wp2_with fail
  first | exact ⟨_, rfl, rfl, Reg2.Ext.refl _⟩ | exact ⟨_, rfl, ⟨(), rfl, trivial⟩, Reg2.Ext.refl _⟩
 simp only [Act.put, xA, xB, xC]; (try simp only [xD]); (try simp only [xE]); (try simp only [id])
 refine Reg2.pm (fun wz hI hF => ?_) (fun r6 => ?_) (by rfl)
 ·go_wp2_with (go_at_call 33; go_must (refine (hgo.out wz (HI4.trans (hI.mono HI4.size))).mono ?_); rintro e w' ⟨rfl, hg5⟩; have hb5 := hg5.below)
  first | exact ⟨_, rfl, ⟨(), rfl, trivial⟩, hb5⟩ | exact ⟨_, rfl, rfl, hb5⟩
 simp only [Act.put, xA, xB, xC]; (try simp only [xD]); (try simp only [xE]); (try simp only [id])
 repeat (refine' Reg2.ai _ (by rfl) (fun wz => ?_) ?_; rotate_left; (go_simp; first | rfl | rw [if_neg (by omega)]); simp only [Act.put, xA, xB, xC]; (try simp only [xD]); (try simp only [xE]); (try simp only [id]))
 refine Reg2.pj (fun wz hI hS hF => ?_) (fun wR => ?_) (by rfl)
 ·go_wp2_with fail
  exact ⟨_, rfl, ⟨⟨_, rfl⟩, il.alloc hS⟩, (Below.refl _ _).alloc hI.size _⟩
 simp only [Act.put, xA, xB, xC]; (try simp only [xD]); (try simp only [xE]); (try simp only [id])
 refine Reg2.pj (fun wz hI hS hF => ?_) (fun Mt => ?_) (by rfl)
 ·obtain ⟨hz, hge⟩ := il.zero hS
  have yR := nH (x := y) hz
  have hfin := il.store hS
  have hbw : Below w4.heap.size wz (wz.setRow wR (ag y).toArray) := qa (Below.refl _ _) hge _
  generalize ag y = cY at *
  go_wp2_with fail
  exact ⟨_, rfl, ⟨⟨(), rfl⟩, hfin⟩, hbw⟩
 simp only [Act.put, xA, xB, xC]; (try simp only [xD]); (try simp only [xE]); (try simp only [id])
 refine Reg2.aA ?_
 intro w7 jN rq jW
 clear jW
 dsimp only [List.drop]
 obtain ⟨yQ, V8⟩ := il.full rq
 have lq := hb4.trans (jN.mono hb4.size)
 have SQ := (jN.block _ (ay KP.out)).trans KP.out
 have x1 : w7.cell? ⟨w.heap.size, 1, none⟩ = some (.int .i64 xt) := by simp [World.cell?, SQ]
 have b5 : w7.cell? ⟨wR, 5, none⟩ = some (.int .i64 y.st) := by simp [World.cell?, yQ, y5]
 have b3 : w7.cell? ⟨wR, 3, none⟩ = some (.int .i64 y.lim) := by simp [World.cell?, yQ, y3]
 have QX := eu yQ lY
 clear rq
 by_cases hne : e0 ≠ 0
 ·have d3 : (e0 != 0) = true := by simp [hne]
  have hfin : Hid (rb = false) := hrb.out.trans (JQ (by rw [← he0.out]; exact hne))
  obtain rfl := hfin.out
  replace hne := Lib.hid hne
  go_wp2_with fail
  go_ret
  exact ⟨rfl, lq⟩
 have he1 : e0 = 0 := by omega
 subst he1
 clear hne
 by_cases hst : y.st ≠ 1
 ·have d4 : (y.st != 1) = true := by simp [hst]
  have hfin : Hid (rb = false) := hrb.out.trans (G8 he0.out.symm (by rw [← hy.out]; exact hst))
  obtain rfl := hfin.out
  replace hst := Lib.hid hst
  go_wp2_with fail
  go_ret
  exact ⟨rfl, lq⟩
 have hs1 : y.st = 1 := by omega
 have d4 : (y.st != 1) = false := by simp [hs1]
 clear hst
 have hym : y ∈ M.L := by
  obtain ⟨i, hi, _, h3, _⟩ := tK he0.out.symm
  rw [hy.out, h3]
  exact bg hi
 have UL := hI.mb.lim y hym
 have Rz := hI.mb.aD y hym
 have hpl := hpy.out w7 Rz.2 UL
 have lS : (aN y).length = 3 := by unfold aN; split <;> rfl
 have oS : ∀ u ∈ aN y, u.oneCell' = true := by unfold aN; split <;> (intro u hu; simp at hu; rcases hu with rfl | rfl | rfl <;> rfl)
 have SS : Hid (∀ W : World, Sem.run Tryz.prog (storeCells ⟨W.heap.size, 0, none⟩ (aN y) 0) (W.alloc (.cells #[.int .i64 0, .int .i64 0, .int .i64 0] 152)) = .ok () (W.alloc (.cells (aN y).toArray 152))) := fun W => dD W W.heap.size (aN y) [.int .i64 0, .int .i64 0, .int .i64 0] 152 rfl lS oS
 rw [← hk3.out] at lS
 have VB := hI.mb.now
 have VC : IntKind.i64.wrap (xt + y.lim) = xt + y.lim := by rw [IntKind.wrap_i64]; omega
 have hro := fun (mm : Int) (hl : aj y = true → xt < y.aD) (hB : BL (fun u => az M u 0) xt (mJ y xt) mm) => JU (id := xi) hI hc.out (by omega) (by omega) he0.out.symm (by rw [← hy.out]; exact hs1) (by rw [← hy.out]; exact hl) (by rw [← hy.out]; exact hB)
 rw [← hrb.out, ← hy.out] at hro
 have RA := Lib.hid (fun (W : World) (hW : Below wA.heap.size wA W) (hi : Int) (hh : -9223372036854775808 ≤ hi ∧ hi ≤ 9223372036854775807) => JV (iI.out.kept hW) qZ.out (by omega) xt hi (by show M.now ≤ xt; omega) hh)
 have NK := hI.mb.wid y hym
 have hs0 : (aN y)[0]? = some (.int .i64 (if aj y = true then y.aD else 0)) := by unfold aN; split <;> rfl
 obtain ⟨yw, JX⟩ : ∃ yw, yw = y.wid := ⟨_, rfl⟩
 rw [← JX] at y2 hro
 obtain ⟨yl, hyl⟩ : ∃ yl, yl = y.lim := ⟨_, rfl⟩
 rw [← hyl] at b3 VC UL
 obtain ⟨yp, hyp⟩ : ∃ yp, yp = y.aD := ⟨_, rfl⟩
 rw [← hyp] at hro hs0 Rz
 have hft : Hid (mJ y xt = if aj y = true then min (xt + yl) yp else xt + yl) := by show _ = _; unfold mJ; rw [hyl, hyp]
 replace JX := Lib.hid JX
 replace hyl := Lib.hid hyl
 replace hyp := Lib.hid hyp
 replace hro := Lib.hid hro
 replace hs1 := Lib.hid hs1
 have G9 := Lib.hid yQ
 have KQ := Lib.hid SQ
 clear yQ SQ
 generalize kI : aN y = cS at *
 replace kI := Lib.hid kI
 generalize qY : ag y = cY at *
 replace qY := Lib.hid qY
 have hrs := ay G9.out
 cases hP : aj y with
 | false =>
  rw [hP] at hpl
  replace hP := Lib.hid hP
  go_wp2_with fail
  go_at_call 110
  refine hpl.mono ?_
  clear hpl QX b5 b3 x1
  rintro e w8 ⟨rfl, tY⟩
  have SV := SS.out w8
  obtain ⟨w9, wO⟩ : ∃ w9, w9 = w8.alloc (.cells cS.toArray 152) := ⟨_, rfl⟩
  rw [← wO] at SV
  have EK : Below w7.heap.size w7 w9 := by rw [wO]; exact tY.alloc tY.size _
  have PQ := Lib.hid ((EK.block _ (ay G9.out)).trans G9.out)
  have MS := Lib.hid ((EK.block _ (ay KQ.out)).trans KQ.out)
  have JY := (HI4.trans (jN.mono HI4.size)).trans (EK.mono (HI4.trans (jN.mono HI4.size)).size)
  have Da := lq.trans (EK.mono lq.size)
  have GV := Lib.hid (iI.out.kept JY)
  replace wO := Lib.hid wO
  go_wp2_with fail
  refine Reg2.rd w9 10 76 [[],[ae],[ae,ae],[ae,ae,ae],[af,af,af,af],[af,af,af,af,ae],[af,af,af,af,af,af],[ae,ae,ae,ae,ae,ae,ae],[af,af,af,af,af,af,af,af],[af,af,af,af,af,af,af,af,ae]] [0, 0, 0, 1, 0, 1, 0, 1, 0, 1] [.pure, .pure, .pure, .mU (.pointer (some ⟨p, 0, none⟩)), .pure, .mU (.int .i64 xt), .pure, .minor Int 0 (fun x => .int .i64 x) (fun x _ => BL (fun u => az M u 0) xt (xt + yl) x), .pure, .mU (.int .i64 yw)] (by kernel_rfl) (by kernel_rfl) rfl rfl ⟨trivial, trivial, trivial, Reg2.tt, trivial, Reg2.tt, trivial, ⟨fun _ _ _ _ h => h, fun _ _ _ _ h => h⟩, trivial, Reg2.tt, trivial⟩ ⟨rfl, rfl, rfl, Nat.le_refl _, fun _ _ => rfl⟩ ?_
  dsimp only [Reg2.mk, List.zip, List.zipWith, List.take]
  repeat (refine' Reg2.ai _ (by rfl) (fun wz => ?_) ?_; rotate_left; (go_simp; first | rfl | rw [if_neg (by omega)]); simp only [Act.put, xA, xB, xC]; (try simp only [xD]); (try simp only [xE]); (try simp only [id]))
  refine Reg2.pm (fun wz hI hF => ?_) (fun r3 => ?_) (by rfl)
  ·have c0 := (GV.out.kept hI).c2
   go_wp2_with fail
   first | exact ⟨_, rfl, rfl, Reg2.Ext.refl _⟩ | exact ⟨_, rfl, ⟨(), rfl, trivial⟩, Reg2.Ext.refl _⟩
  simp only [Act.put, xA, xB, xC]; (try simp only [xD]); (try simp only [xE]); (try simp only [id])
  repeat (refine' Reg2.ai _ (by rfl) (fun wz => ?_) ?_; rotate_left; (go_simp; first | rfl | rw [if_neg (by omega)]); simp only [Act.put, xA, xB, xC]; (try simp only [xD]); (try simp only [xE]); (try simp only [id]))
  refine Reg2.pm (fun wz hI hF => ?_) (fun r5 => ?_) (by rfl)
  ·have q0 : wz.cell? ⟨w.heap.size, 1, none⟩ = some (.int .i64 xt) := by simp [World.cell?, (hI.block _ (ay MS.out)).trans MS.out]
   go_wp2_with fail
   first | exact ⟨_, rfl, rfl, Reg2.Ext.refl _⟩ | exact ⟨_, rfl, ⟨(), rfl, trivial⟩, Reg2.Ext.refl _⟩
  simp only [Act.put, xA, xB, xC]; (try simp only [xD]); (try simp only [xE]); (try simp only [id])
  repeat (refine' Reg2.ai _ (by rfl) (fun wz => ?_) ?_; rotate_left; (go_simp; first | rfl | rw [if_neg (by omega)]); simp only [Act.put, xA, xB, xC]; (try simp only [xD]); (try simp only [xE]); (try simp only [id]))
  refine Reg2.pm (fun wz hI hF => ?_) (fun r7 => ?_) (by rfl)
  ·go_wp2_with (go_at_call 111; go_must (refine (RA.out wz (JY.trans (hI.mono JY.size)) (xt + yl) (by omega)).mono ?_); rintro e w' ⟨mm, rfl, hB, hb5⟩)
   exact ⟨_, rfl, ⟨mm, rfl, hB⟩, hb5⟩
  simp only [Act.put, xA, xB, xC]; (try simp only [xD]); (try simp only [xE]); (try simp only [id])
  repeat (refine' Reg2.ai _ (by rfl) (fun wz => ?_) ?_; rotate_left; (go_simp; first | rfl | rw [if_neg (by omega)]); simp only [Act.put, xA, xB, xC]; (try simp only [xD]); (try simp only [xE]); (try simp only [id]))
  refine Reg2.pm (fun wz hI hF => ?_) (fun r9 => ?_) (by rfl)
  ·have q0 : wz.cell? ⟨wR, 2, none⟩ = some (.int .i64 yw) := by simp [World.cell?, (hI.block _ (ay PQ.out)).trans PQ.out, y2]
   go_wp2_with fail
   first | exact ⟨_, rfl, rfl, Reg2.Ext.refl _⟩ | exact ⟨_, rfl, ⟨(), rfl, trivial⟩, Reg2.Ext.refl _⟩
  simp only [Act.put, xA, xB, xC]; (try simp only [xD]); (try simp only [xE]); (try simp only [id])
  refine Reg2.aA ?_
  intro VD PS _ Ha
  have hB := Ha.2.2.2.2.2.2.2.1
  clear Ha
  dsimp only [List.drop]
  have hfin := hro.out r7 (fun hp => by rw [hP.out] at hp; cases hp) (by rw [hft.out, hP.out, if_neg (by decide)]; exact hB)
  have SX : Hid (rb = decide (r7 ≥ yw)) := by show _ = _; rw [hfin]
  obtain rfl := SX.out
  go_wp2_with fail
  go_ret
  exact ⟨rfl, Da.trans (PS.mono Da.size)⟩
 | true =>
  rw [hP] at hpl
  have VE := (aT.1 hP).2
  rw [← hyp.out] at VE
  have UM : Hid (cS[0]? = some (.int .i64 yp)) := by show _ = _; rw [hs0, if_pos hP]
  replace hP := Lib.hid hP
  replace hs0 := Lib.hid hs0
  go_wp2_with fail
  go_at_call 110
  refine hpl.mono ?_
  clear hpl QX b5 b3 x1
  rintro e w8 ⟨rfl, tY⟩
  have SV := SS.out w8
  obtain ⟨w9, wO⟩ : ∃ w9, w9 = w8.alloc (.cells cS.toArray 152) := ⟨_, rfl⟩
  have hzs : w9.heap[w8.heap.size]? = some (.cells cS.toArray 152 (0, 0)) := by rw [wO]; exact heap_alloc_new w8 _
  rw [← wO] at SV
  have EK : Below w7.heap.size w7 w9 := by rw [wO]; exact tY.alloc tY.size _
  have PQ := Lib.hid ((EK.block _ (ay G9.out)).trans G9.out)
  have MS := Lib.hid ((EK.block _ (ay KQ.out)).trans KQ.out)
  have JY := (HI4.trans (jN.mono HI4.size)).trans (EK.mono (HI4.trans (jN.mono HI4.size)).size)
  have Da := lq.trans (EK.mono lq.size)
  have GV := Lib.hid (iI.out.kept JY)
  have cs0 : w9.cell? ⟨w8.heap.size, 0, none⟩ = some (.int .i64 yp) := by simp [World.cell?, hzs, UM.out]
  have WO : w9.cell? ⟨w.heap.size, 1, none⟩ = some (.int .i64 xt) := by simp [World.cell?, MS.out]
  replace hzs := Lib.hid hzs
  replace wO := Lib.hid wO
  by_cases hlt : yp ≤ xt
  ·have d5 : decide (xt ≥ yp) = true := decide_eq_true hlt
   have hfin : Hid (rb = false) := hrb.out.trans (JR he0.out.symm (by rw [← hy.out]; exact hP.out) (by rw [← hy.out, ← hyp.out]; exact hlt))
   obtain rfl := hfin.out
   replace hlt := Lib.hid hlt
   go_wp2_with fail
   go_ret
   exact ⟨rfl, Da⟩
  ·have d5 : decide (xt ≥ yp) = false := decide_eq_false hlt
   go_wp2_with fail
   refine Reg2.rd w9 10 76 [[],[ae],[ae,ae],[ae,ae,ae],[af,af,af,af],[af,af,af,af,ae],[af,af,af,af,af,af],[ae,ae,ae,ae,ae,ae,ae],[af,af,af,af,af,af,af,af],[af,af,af,af,af,af,af,af,ae]] [0, 0, 0, 1, 0, 1, 0, 1, 0, 1] [.pure, .pure, .pure, .mU (.pointer (some ⟨p, 0, none⟩)), .pure, .mU (.int .i64 xt), .pure, .minor Int 0 (fun x => .int .i64 x) (fun x _ => BL (fun u => az M u 0) xt (min (xt + yl) yp) x), .pure, .mU (.int .i64 yw)] (by kernel_rfl) (by kernel_rfl) rfl rfl ⟨trivial, trivial, trivial, Reg2.tt, trivial, Reg2.tt, trivial, ⟨fun _ _ _ _ h => h, fun _ _ _ _ h => h⟩, trivial, Reg2.tt, trivial⟩ ⟨rfl, rfl, rfl, Nat.le_refl _, fun _ _ => rfl⟩ ?_
   dsimp only [Reg2.mk, List.zip, List.zipWith, List.take]
   repeat (refine' Reg2.ai _ (by rfl) (fun wz => ?_) ?_; rotate_left; (go_simp; first | rfl | rw [if_neg (by omega)]); simp only [Act.put, xA, xB, xC]; (try simp only [xD]); (try simp only [xE]); (try simp only [id]))
   refine Reg2.pm (fun wz hI hF => ?_) (fun r3 => ?_) (by rfl)
   ·have c0 := (GV.out.kept hI).c2
    go_wp2_with fail
    first | exact ⟨_, rfl, rfl, Reg2.Ext.refl _⟩ | exact ⟨_, rfl, ⟨(), rfl, trivial⟩, Reg2.Ext.refl _⟩
   simp only [Act.put, xA, xB, xC]; (try simp only [xD]); (try simp only [xE]); (try simp only [id])
   repeat (refine' Reg2.ai _ (by rfl) (fun wz => ?_) ?_; rotate_left; (go_simp; first | rfl | rw [if_neg (by omega)]); simp only [Act.put, xA, xB, xC]; (try simp only [xD]); (try simp only [xE]); (try simp only [id]))
   refine Reg2.pm (fun wz hI hF => ?_) (fun r5 => ?_) (by rfl)
   ·have q0 : wz.cell? ⟨w.heap.size, 1, none⟩ = some (.int .i64 xt) := by simp [World.cell?, (hI.block _ (ay MS.out)).trans MS.out]
    go_wp2_with fail
    first | exact ⟨_, rfl, rfl, Reg2.Ext.refl _⟩ | exact ⟨_, rfl, ⟨(), rfl, trivial⟩, Reg2.Ext.refl _⟩
   simp only [Act.put, xA, xB, xC]; (try simp only [xD]); (try simp only [xE]); (try simp only [id])
   repeat (refine' Reg2.ai _ (by rfl) (fun wz => ?_) ?_; rotate_left; (go_simp; first | rfl | rw [if_neg (by omega)]); simp only [Act.put, xA, xB, xC]; (try simp only [xD]); (try simp only [xE]); (try simp only [id]))
   refine Reg2.pm (fun wz hI hF => ?_) (fun r7 => ?_) (by rfl)
   ·go_wp2_with (go_at_call 111; go_must (refine (RA.out wz (JY.trans (hI.mono JY.size)) (min (xt + yl) yp) (by omega)).mono ?_); rintro e w' ⟨mm, rfl, hB, hb5⟩)
    exact ⟨_, rfl, ⟨mm, rfl, hB⟩, hb5⟩
   simp only [Act.put, xA, xB, xC]; (try simp only [xD]); (try simp only [xE]); (try simp only [id])
   repeat (refine' Reg2.ai _ (by rfl) (fun wz => ?_) ?_; rotate_left; (go_simp; first | rfl | rw [if_neg (by omega)]); simp only [Act.put, xA, xB, xC]; (try simp only [xD]); (try simp only [xE]); (try simp only [id]))
   refine Reg2.pm (fun wz hI hF => ?_) (fun r9 => ?_) (by rfl)
   ·have q0 : wz.cell? ⟨wR, 2, none⟩ = some (.int .i64 yw) := by simp [World.cell?, (hI.block _ (ay PQ.out)).trans PQ.out, y2]
    go_wp2_with fail
    first | exact ⟨_, rfl, rfl, Reg2.Ext.refl _⟩ | exact ⟨_, rfl, ⟨(), rfl, trivial⟩, Reg2.Ext.refl _⟩
   simp only [Act.put, xA, xB, xC]; (try simp only [xD]); (try simp only [xE]); (try simp only [id])
   refine Reg2.aA ?_
   intro VD PS _ Ha
   have hB := Ha.2.2.2.2.2.2.2.1
   clear Ha
   dsimp only [List.drop]
   have hfin := hro.out r7 (fun _ => by omega) (by rw [hft.out, hP.out, if_pos rfl]; exact hB)
   have SX : Hid (rb = decide (r7 ≥ yw)) := by show _ = _; rw [hfin]
   obtain rfl := SX.out
   go_wp2_with fail
   go_ret
   exact ⟨rfl, Da.trans (PS.mono Da.size)⟩
theorem Db (h : CW w c t d p v g a m (ak M)) (hI : aG M) (h1 : 1 ≤ M.dr.length) (hll : M.L.length ≤ 900) (ha : a ≤ 800) (xi xt : Int) (hxt : -9223372036854775808 ≤ xt ∧ xt ≤ 9223372036854775807) :
  Calls Tryz.prog 96 #[.pointer (some ⟨c, 0, none⟩), .agg #[.int .i64 xi, .int .i64 xt]] w fun e w' => e = .returned (.bool (fw M xi xt)) ∧ Below w.heap.size w w' := by
 cases hc : M.cl with
 | true => exact EJ h hI h1 hll ha xi xt hxt hc
 | false => exact JW h hI h1 hll ha xi xt hxt hc
end
end Go.Proofs.YtnihdgcfamoplaaGreat

namespace Go.Proofs.YtnihdgcfamoplaaGreat
open Go.RowKit Go.Lib Go.Sort
section
variable {w : World} {b c t d p g a : Nat} {v : Value} {m : Int} {P : Pg} {M : Md} {R : Wk}
theorem Hd (h : SW w b c t d p v g a m R P) (hk : PK P) (ha : a ≤ 800) (hm : m ≤ 1000000) (hP : aj R.aC = true) (hb1 : R.aC.aD ≤ 1099511627776) (hb2 : 0 ≤ R.aC.lim ∧ R.aC.lim ≤ 1048576) (hb3 : 1 ≤ R.aC.lim) (hb4 : 0 ≤ R.aC.wid ∧ R.aC.wid ≤ 64) (F : Int → Int)
  (hF : ∀ t, P.now ≤ t → F t = P.f t + had (max R.aC.aD P.now) (R.aC.aD + R.aC.lim) R.aC.wid t) (hr : ∀ t, P.now ≤ t → 0 ≤ F t ∧ F t ≤ 64) :
  Calls Tryz.prog 97 #[.pointer (some ⟨b, 0, none⟩), .pointer (some ⟨c, 0, none⟩)] w (au w b c t d p v g (a + 2) (m + 1) (fH 113) R { P with f := F }) := by
 have zJ := bG
 have zS := jV
 obtain ⟨k, hk1⟩ : ∃ k, k = 10 := ⟨_, rfl⟩
 obtain ⟨k3, hk3⟩ : ∃ k, k = 3 := ⟨_, rfl⟩
 rw [← hk1] at zJ
 rw [← hk3] at zS
 have hk0 : ¬ k = 0 := by omega
 have yx : ¬ k3 = 0 := by omega
 have lJ := ax R.aC
 rw [← hk1] at lJ
 replace hk1 := Lib.hid hk1
 have hS := Lib.hid h
 have qb := h.wk.mD lJ
 have hpl := kE (w := w) R.aC hb1 hb2
 have lS : (aN R.aC).length = 3 := by unfold aN; split <;> rfl
 have oS : ∀ u ∈ aN R.aC, u.oneCell' = true := by unfold aN; split <;> (intro u hu; simp at hu; rcases hu with rfl | rfl | rfl <;> rfl)
 have ST : Hid (∀ W : World, Sem.run Tryz.prog (storeCells ⟨W.heap.size, 0, none⟩ (aN R.aC) 0) (W.alloc (.cells #[.int .i64 0, .int .i64 0, .int .i64 0] 152)) = .ok () (W.alloc (.cells (aN R.aC).toArray 152))) := fun W => dD W W.heap.size (aN R.aC) [.int .i64 0, .int .i64 0, .int .i64 0] 152 rfl lS oS
 rw [← hk3] at lS
 replace hk3 := Lib.hid hk3
 generalize kI : aN R.aC = cS at *
 replace kI := Lib.hid kI
 generalize ag R.aC = cJ at *
 clear h
 have lD : cS = [.int .i64 R.aC.aD, .int .i64 (R.aC.aD + R.aC.lim), .int .i64 R.aC.wid] := by rw [← kI.out]; unfold aN; rw [if_pos hP]
 rw [hP] at hpl
 replace hP := Lib.hid hP
 replace lD := Lib.hid lD
 go_enter Tryz.func97, Tryz.ntmps97
 go_wp2_with fail
 go_at_call 110
 refine hpl.mono ?_
 clear hpl qb
 rintro e w1 ⟨rfl, hb⟩
 have st1 := ST.out w1
 obtain ⟨w2, hw2⟩ : ∃ w2, w2 = w1.alloc (.cells cS.toArray 152) := ⟨_, rfl⟩
 rw [← hw2] at st1
 have hb2' : Below w.heap.size w w2 := by rw [hw2]; exact hb.alloc hb.size _
 have hy2 : Hid (w2.heap[w1.heap.size]? = some (.cells cS.toArray 152 (0, 0))) := by show _ = _; rw [hw2]; exact heap_alloc_new w1 _
 have hs2 : w2.heap.size = w1.heap.size + 1 := by rw [hw2]; simp
 replace hw2 := Lib.hid hw2
 have hS2 := Lib.hid (hS.out.kept hb2')
 go_wp2_with fail
 refine Reg2.rd w2 5 22 [[],[ae],[ae,ae],[ae,ae,ae],[af,af,af,af]] [0, 0, 0, 1, 1] [.pure, .pure, .pure, .mU (.pointer (some ⟨p, 0, none⟩)), .mU (.agg cS.toArray)] (by kernel_rfl) (by kernel_rfl) rfl rfl ⟨trivial, trivial, trivial, Reg2.tt, Reg2.tt, trivial⟩ ⟨rfl, rfl, rfl, Nat.le_refl _, fun _ _ => rfl⟩ ?_
 dsimp only [Reg2.mk, List.zip, List.zipWith, List.take]
 repeat (refine' Reg2.ai _ (by rfl) (fun wz => ?_) ?_; rotate_left; (go_simp; first | rfl | rw [if_neg (by omega)]); simp only [Act.put, xA, xB, xC]; (try simp only [xD]); (try simp only [xE]); (try simp only [id]))
 refine Reg2.pm (fun wz hI hF => ?_) (fun r3 => ?_) (by rfl)
 ·have c0 := (hS2.out.cw.kept hI).c2
  go_wp2_with fail
  first | exact ⟨_, rfl, rfl, Reg2.Ext.refl _⟩ | exact ⟨_, rfl, ⟨(), rfl, trivial⟩, Reg2.Ext.refl _⟩
 simp only [Act.put, xA, xB, xC]; (try simp only [xD]); (try simp only [xE]); (try simp only [id])
 refine Reg2.pm (fun wz hI hF => ?_) (fun r4 => ?_) (by rfl)
 ·have d0 := eu ((hI.block _ (ay hy2.out)).trans hy2.out) lS
  go_wp2_with fail
  first | exact ⟨_, rfl, rfl, Reg2.Ext.refl _⟩ | exact ⟨_, rfl, ⟨(), rfl, trivial⟩, Reg2.Ext.refl _⟩
 simp only [Act.put, xA, xB, xC]; (try simp only [xD]); (try simp only [xE]); (try simp only [id])
 refine Reg2.aA ?_
 intro w4 HI4 _ dI
 clear dI
 dsimp only [List.drop]
 have bI := hS2.out.kept HI4
 have hrel := rZ bI.cw hk ha hm R.aC.aD (R.aC.aD + R.aC.lim) R.aC.wid F (by omega) (by omega) hb4 hF hr
 have GN := lD.out
 clear kI lD
 subst GN
 go_wp2_with fail
 go_at_call 112
 refine hrel.mono ?_
 clear hrel
 rintro e w5 ⟨rfl, v5, g5, gu, hS5⟩
 have eH := bI.core gu hS5
 have hfin := (WS.of_below (hb2'.trans (HI4.mono hb2'.size)) : WS w w4 b c t d p v g v g).trans (WS.dC hS5)
 go_wp2_with fail
 go_ret
 exact ⟨rfl, v5, g5, eH, hfin⟩
theorem He (h : SW w b c t d p v g a m R P) (hP : aj R.aC = false) (hb1 : R.aC.aD ≤ 1099511627776) (hb2 : 0 ≤ R.aC.lim ∧ R.aC.lim ≤ 1048576) :
  Calls Tryz.prog 97 #[.pointer (some ⟨b, 0, none⟩), .pointer (some ⟨c, 0, none⟩)] w (au w b c t d p v g a m (fH 113) R P) := by
 have zJ := bG
 have zS := jV
 obtain ⟨k, hk1⟩ : ∃ k, k = 10 := ⟨_, rfl⟩
 obtain ⟨k3, hk3⟩ : ∃ k, k = 3 := ⟨_, rfl⟩
 rw [← hk1] at zJ
 rw [← hk3] at zS
 have hk0 : ¬ k = 0 := by omega
 have yx : ¬ k3 = 0 := by omega
 have lJ := ax R.aC
 rw [← hk1] at lJ
 replace hk1 := Lib.hid hk1
 have hS := Lib.hid h
 have qb := h.wk.mD lJ
 have hpl := kE (w := w) R.aC hb1 hb2
 have lS : (aN R.aC).length = 3 := by unfold aN; split <;> rfl
 have oS : ∀ u ∈ aN R.aC, u.oneCell' = true := by unfold aN; split <;> (intro u hu; simp at hu; rcases hu with rfl | rfl | rfl <;> rfl)
 have ST : Hid (∀ W : World, Sem.run Tryz.prog (storeCells ⟨W.heap.size, 0, none⟩ (aN R.aC) 0) (W.alloc (.cells #[.int .i64 0, .int .i64 0, .int .i64 0] 152)) = .ok () (W.alloc (.cells (aN R.aC).toArray 152))) := fun W => dD W W.heap.size (aN R.aC) [.int .i64 0, .int .i64 0, .int .i64 0] 152 rfl lS oS
 rw [← hk3] at lS
 replace hk3 := Lib.hid hk3
 generalize kI : aN R.aC = cS at *
 replace kI := Lib.hid kI
 generalize ag R.aC = cJ at *
 clear h
 rw [hP] at hpl
 go_enter Tryz.func97, Tryz.ntmps97
 go_wp2_with fail
 go_at_call 110
 refine hpl.mono ?_
 clear hpl qb
 rintro e w1 ⟨rfl, hb⟩
 have st1 := ST.out w1
 obtain ⟨w2, hw2⟩ : ∃ w2, w2 = w1.alloc (.cells cS.toArray 152) := ⟨_, rfl⟩
 rw [← hw2] at st1
 have hb2' : Below w.heap.size w w2 := by rw [hw2]; exact hb.alloc hb.size _
 have hy2 : Hid (w2.heap[w1.heap.size]? = some (.cells cS.toArray 152 (0, 0))) := by show _ = _; rw [hw2]; exact heap_alloc_new w1 _
 have hs2 : w2.heap.size = w1.heap.size + 1 := by rw [hw2]; simp
 replace hw2 := Lib.hid hw2
 have hS2 := Lib.hid (hS.out.kept hb2')
 go_wp2_with fail
 go_ret
 exact ⟨rfl, v, g, hS2.out, WS.of_below hb2'⟩
theorem MU (h : SW w b c t d p v g a m R P) (hk : PK P) (ha : a ≤ 800) (hm : m ≤ 1000000) (hst : R.aC.st = 1) (hx : 0 ≤ R.dR ∧ R.dR ≤ 1099511627776) (hb2 : 1 ≤ R.aC.lim ∧ R.aC.lim ≤ 1048576) (hb4 : 0 ≤ R.aC.wid ∧ R.aC.wid ≤ 64) (F : Int → Int)
  (hF : ∀ t, P.now ≤ t → F t = P.f t + had (max R.dR P.now) (R.dR + R.aC.lim) (-R.aC.wid) t) (hr : ∀ t, P.now ≤ t → 0 ≤ F t ∧ F t ≤ 64) :
  Calls Tryz.prog 113 #[.pointer (some ⟨b, 0, none⟩), .pointer (some ⟨c, 0, none⟩)] w (au w b c t d p v g (a + 2) (m + 1) (fH 133) { R with aC := R.aC.aI R.dR } { P with f := F }) := by
 have zJ := bG
 have zS := jV
 obtain ⟨k, hk1⟩ : ∃ k, k = 10 := ⟨_, rfl⟩
 obtain ⟨k3, hk3⟩ : ∃ k, k = 3 := ⟨_, rfl⟩
 rw [← hk1] at zJ
 rw [← hk3] at zS
 have hk0 : ¬ k = 0 := by omega
 have yx : ¬ k3 = 0 := by omega
 have Eo := h.wk.at 10 (.int .i64 R.dR) rfl
 have c20 := h.wk.at 20 (.int .i64 R.aC.aD) rfl
 have f20 := h.wk.free 20
 have hW1 := h.wk.plan R.dR
 have hS1 := h.work hW1 (dw w 20 (.int .i64 R.dR))
 have hf1 : WS w (w.setCell ⟨b, 20, none⟩ (.int .i64 R.dR)) b c t d p v g v g := WS.bD (dw w 20 (.int .i64 R.dR))
 obtain ⟨y, hy⟩ : ∃ y, y = R.aC.aI R.dR := ⟨_, rfl⟩
 have hyp : y.aD = R.dR := by rw [hy]; rfl
 have hyl : y.lim = R.aC.lim := by rw [hy]; rfl
 have JX : y.wid = R.aC.wid := by rw [hy]; rfl
 have hP : aj y = true := aT.2 ⟨by rw [hy]; exact hst, by rw [hyp]; exact hx.1⟩
 rw [← hy] at hS1 hW1 ⊢
 replace hy := Lib.hid hy
 have lJ := ax y
 rw [← hk1] at lJ
 replace hk1 := Lib.hid hk1
 have qb := hW1.mD (R := { R with aC := y }) lJ
 rw [show ({ R with aC := y } : Wk).aC = y from rfl] at qb
 have hpl := kE (w := w.setCell ⟨b, 20, none⟩ (.int .i64 R.dR)) y (by rw [hyp]; exact hx.2) (by rw [hyl]; omega)
 have lD : aN y = [.int .i64 R.dR, .int .i64 (R.dR + R.aC.lim), .int .i64 R.aC.wid] := by unfold aN; rw [if_pos hP, hyp, hyl, JX]
 rw [hP] at hpl
 have lS : (aN y).length = 3 := by rw [lD]; rfl
 have oS : ∀ u ∈ aN y, u.oneCell' = true := by rw [lD]; intro u hu; simp at hu; rcases hu with rfl | rfl | rfl <;> rfl
 have ST : Hid (∀ W : World, Sem.run Tryz.prog (storeCells ⟨W.heap.size, 0, none⟩ (aN y) 0) (W.alloc (.cells #[.int .i64 0, .int .i64 0, .int .i64 0] 152)) = .ok () (W.alloc (.cells (aN y).toArray 152))) := fun W => dD W W.heap.size (aN y) [.int .i64 0, .int .i64 0, .int .i64 0] 152 rfl lS oS
 rw [← hk3] at lS
 replace hk3 := Lib.hid hk3
 generalize kI : aN y = cS at *
 replace kI := Lib.hid kI
 generalize ag y = cJ at *
 replace lD := Lib.hid lD
 replace hP := Lib.hid hP
 replace hyp := Lib.hid hyp
 replace hyl := Lib.hid hyl
 replace JX := Lib.hid JX
 clear h
 generalize R.dR = xa at *
 go_enter Tryz.func113, Tryz.ntmps113
 go_wp2_with fail
 go_at_call 110
 refine hpl.mono ?_
 clear hpl qb Eo c20 f20
 rintro e w1 ⟨rfl, hb⟩
 have st1 := ST.out w1
 obtain ⟨w2, hw2⟩ : ∃ w2, w2 = w1.alloc (.cells cS.toArray 152) := ⟨_, rfl⟩
 rw [← hw2] at st1
 have hb2' : Below (w.setCell ⟨b, 20, none⟩ (.int .i64 xa)).heap.size (w.setCell ⟨b, 20, none⟩ (.int .i64 xa)) w2 := by rw [hw2]; exact hb.alloc hb.size _
 have hy2 : Hid (w2.heap[w1.heap.size]? = some (.cells cS.toArray 152 (0, 0))) := by show _ = _; rw [hw2]; exact heap_alloc_new w1 _
 replace hw2 := Lib.hid hw2
 have hS2 := Lib.hid (hS1.kept hb2')
 have hf2 := hf1.trans (WS.of_below hb2')
 go_wp2_with fail
 refine Reg2.rd w2 5 31 [[],[ae],[ae,ae],[ae,ae,ae],[af,af,af,af]] [0, 0, 0, 1, 1] [.pure, .pure, .pure, .mU (.pointer (some ⟨p, 0, none⟩)), .mU (.agg cS.toArray)] (by kernel_rfl) (by kernel_rfl) rfl rfl ⟨trivial, trivial, trivial, Reg2.tt, Reg2.tt, trivial⟩ ⟨rfl, rfl, rfl, Nat.le_refl _, fun _ _ => rfl⟩ ?_
 dsimp only [Reg2.mk, List.zip, List.zipWith, List.take]
 repeat (refine' Reg2.ai _ (by rfl) (fun wz => ?_) ?_; rotate_left; (go_simp; first | rfl | rw [if_neg (by omega)]); simp only [Act.put, xA, xB, xC]; (try simp only [xD]); (try simp only [xE]); (try simp only [id]))
 refine Reg2.pm (fun wz hI hF => ?_) (fun r3 => ?_) (by rfl)
 ·have c0 := (hS2.out.cw.kept hI).c2
  go_wp2_with fail
  first | exact ⟨_, rfl, rfl, Reg2.Ext.refl _⟩ | exact ⟨_, rfl, ⟨(), rfl, trivial⟩, Reg2.Ext.refl _⟩
 simp only [Act.put, xA, xB, xC]; (try simp only [xD]); (try simp only [xE]); (try simp only [id])
 refine Reg2.pm (fun wz hI hF => ?_) (fun r4 => ?_) (by rfl)
 ·have d0 := eu ((hI.block _ (ay hy2.out)).trans hy2.out) lS
  go_wp2_with fail
  first | exact ⟨_, rfl, rfl, Reg2.Ext.refl _⟩ | exact ⟨_, rfl, ⟨(), rfl, trivial⟩, Reg2.Ext.refl _⟩
 simp only [Act.put, xA, xB, xC]; (try simp only [xD]); (try simp only [xE]); (try simp only [id])
 refine Reg2.aA ?_
 intro w4 HI4 _ dI
 clear dI
 dsimp only [List.drop]
 have bI := hS2.out.kept HI4
 have hrel := Gn bI.cw hk ha hm xa (xa + R.aC.lim) R.aC.wid F (by omega) (by omega) hb4 hF hr
 have GN := lD.out
 clear kI lD
 subst GN
 go_wp2_with fail
 go_at_call 132
 refine hrel.mono ?_
 clear hrel
 rintro e w5 ⟨rfl, v5, g5, gu, hS5⟩
 have eH := bI.core gu hS5
 have hfin := (hf2.trans (WS.of_below HI4)).trans (WS.dC hS5)
 go_wp2_with fail
 go_ret
 exact ⟨rfl, v5, g5, eH, hfin⟩
theorem Hf (h : SW w b c t d p v g a m R P) (hk : PK P) (hx : R.dR = P.now) (hj : -9223372036854775808 ≤ R.aC.wid ∧ R.aC.wid ≤ 9223372036854775807) {s : Nat} {T0 : List Int} (hT0 : oW P.T R.aC.wid s 0 T0) :
  Calls Tryz.prog 133 #[.pointer (some ⟨b, 0, none⟩), .pointer (some ⟨c, 0, none⟩)] w (au w b c t d p v g a m .nilFunc R { P with T := T0, J := cu P.J (fZ P.now) R.aC.id (fun j : Jb => decide (j.state = 1)) (kQ P.now s) }) := by
 have zJ := bG
 obtain ⟨k, hk1⟩ : ∃ k, k = 10 := ⟨_, rfl⟩
 rw [← hk1] at zJ
 have hk0 : ¬ k = 0 := by omega
 have lJ := ax R.aC
 rw [← hk1] at lJ
 replace hk1 := Lib.hid hk1
 have d1 : (R.dR == P.now) = true := by simp [hx]
 have SE := fun (W : World) (hW : SW W b c t d p v g a m R P) => hW.wk.mD lJ
 have hla := fun (W : World) (hW : SW W b c t d p v g a m R P) => launch_fn hW.cw hk R.aC hj hT0
 have hS := Lib.hid h
 replace hx := Lib.hid hx
 generalize ag R.aC = cJ at *
 clear h
 go_enter Tryz.func133, Tryz.ntmps133
 go_wp2_with fail
 refine Reg2.rd w 10 37 [[],[ae],[ae,ae],[ae,ae,ae],[ae,ae,ae,ae],[af,af,af,af,af],[af,af,af,af,af,ae],[af,af,af,af,af,ae,ae],[af,af,af,af,af,ae,ae,ae],[af,af,af,af,af,ae,ae,ae,ae]] [0, 0, 0, 0, 1, 0, 0, 0, 1, 1] [.pure, .pure, .pure, .pure, .mU (.int .i64 R.dR), .pure, .pure, .pure, .mU (.pointer (some ⟨p, 0, none⟩)), .mU (.int .i64 P.now)] (by kernel_rfl) (by kernel_rfl) rfl rfl ⟨trivial, trivial, trivial, trivial, Reg2.tt, trivial, trivial, trivial, Reg2.tt, Reg2.tt, trivial⟩ ⟨rfl, rfl, rfl, Nat.le_refl _, fun _ _ => rfl⟩ ?_
 dsimp only [Reg2.mk, List.zip, List.zipWith, List.take]
 repeat (refine' Reg2.ai _ (by rfl) (fun wz => ?_) ?_; rotate_left; (go_simp; first | rfl | rw [if_neg (by omega)]); simp only [Act.put, xA, xB, xC]; (try simp only [xD]); (try simp only [xE]); (try simp only [id]))
 refine Reg2.pm (fun wz hI hF => ?_) (fun r4 => ?_) (by rfl)
 ·have q0 := (hS.out.kept hI).wk.at 10 (.int .i64 R.dR) rfl
  go_wp2_with fail
  first | exact ⟨_, rfl, rfl, Reg2.Ext.refl _⟩ | exact ⟨_, rfl, ⟨(), rfl, trivial⟩, Reg2.Ext.refl _⟩
 simp only [Act.put, xA, xB, xC]; (try simp only [xD]); (try simp only [xE]); (try simp only [id])
 repeat (refine' Reg2.ai _ (by rfl) (fun wz => ?_) ?_; rotate_left; (go_simp; first | rfl | rw [if_neg (by omega)]); simp only [Act.put, xA, xB, xC]; (try simp only [xD]); (try simp only [xE]); (try simp only [id]))
 refine Reg2.pm (fun wz hI hF => ?_) (fun r8 => ?_) (by rfl)
 ·have c0 := (hS.out.cw.kept hI).c2
  go_wp2_with fail
  first | exact ⟨_, rfl, rfl, Reg2.Ext.refl _⟩ | exact ⟨_, rfl, ⟨(), rfl, trivial⟩, Reg2.Ext.refl _⟩
 simp only [Act.put, xA, xB, xC]; (try simp only [xD]); (try simp only [xE]); (try simp only [id])
 refine Reg2.pm (fun wz hI hF => ?_) (fun r9 => ?_) (by rfl)
 ·go_wp2_with (go_at_call 25; go_must (refine (fP (hS.out.kept hI).cw).mono ?_); rintro e w' ⟨rfl, rfl⟩)
  first | exact ⟨_, rfl, rfl, Reg2.Ext.refl _⟩ | exact ⟨_, rfl, ⟨(), rfl, trivial⟩, Reg2.Ext.refl _⟩
 simp only [Act.put, xA, xB, xC]; (try simp only [xD]); (try simp only [xE]); (try simp only [id])
 refine Reg2.aA ?_
 intro w4 HI4 _ dI
 clear dI
 dsimp only [List.drop]
 have bI := hS.out.kept HI4
 have Vu := SE w4 bI
 have hl4 := hla w4 bI
 go_wp2_with fail
 go_at_call 153
 refine hl4.mono ?_
 clear hl4
 rintro e w5 ⟨rfl, v5, g5, gu, hS5⟩
 have eH := bI.core gu hS5
 have hfin := (WS.of_below HI4 : WS w w4 b c t d p v g v g).trans (WS.dC hS5)
 go_wp2_with fail
 go_ret
 exact ⟨rfl, v5, g5, eH, hfin⟩
theorem BH (h : SW w b c t d p v g a m R P) (hx : R.dR ≠ P.now) :
  Calls Tryz.prog 133 #[.pointer (some ⟨b, 0, none⟩), .pointer (some ⟨c, 0, none⟩)] w (au w b c t d p v g a m .nilFunc R { P with J := cu P.J (gM R.dR) R.kH (fun j : Jb => decide (j.state = 1)) (kr R.dR) }) := by
 have d1 : (R.dR == P.now) = false := by simp [hx]
 have hpl := fun (W : World) (hW : SW W b c t d p v g a m R P) => CK hW.cw R.kH R.dR
 have hS := Lib.hid h
 replace hx := Lib.hid hx
 clear h
 go_enter Tryz.func133, Tryz.ntmps133
 go_wp2_with fail
 refine Reg2.rd w 10 37 [[],[ae],[ae,ae],[ae,ae,ae],[ae,ae,ae,ae],[af,af,af,af,af],[af,af,af,af,af,ae],[af,af,af,af,af,ae,ae],[af,af,af,af,af,ae,ae,ae],[af,af,af,af,af,ae,ae,ae,ae]] [0, 0, 0, 0, 1, 0, 0, 0, 1, 1] [.pure, .pure, .pure, .pure, .mU (.int .i64 R.dR), .pure, .pure, .pure, .mU (.pointer (some ⟨p, 0, none⟩)), .mU (.int .i64 P.now)] (by kernel_rfl) (by kernel_rfl) rfl rfl ⟨trivial, trivial, trivial, trivial, Reg2.tt, trivial, trivial, trivial, Reg2.tt, Reg2.tt, trivial⟩ ⟨rfl, rfl, rfl, Nat.le_refl _, fun _ _ => rfl⟩ ?_
 dsimp only [Reg2.mk, List.zip, List.zipWith, List.take]
 repeat (refine' Reg2.ai _ (by rfl) (fun wz => ?_) ?_; rotate_left; (go_simp; first | rfl | rw [if_neg (by omega)]); simp only [Act.put, xA, xB, xC]; (try simp only [xD]); (try simp only [xE]); (try simp only [id]))
 refine Reg2.pm (fun wz hI hF => ?_) (fun r4 => ?_) (by rfl)
 ·have q0 := (hS.out.kept hI).wk.at 10 (.int .i64 R.dR) rfl
  go_wp2_with fail
  first | exact ⟨_, rfl, rfl, Reg2.Ext.refl _⟩ | exact ⟨_, rfl, ⟨(), rfl, trivial⟩, Reg2.Ext.refl _⟩
 simp only [Act.put, xA, xB, xC]; (try simp only [xD]); (try simp only [xE]); (try simp only [id])
 repeat (refine' Reg2.ai _ (by rfl) (fun wz => ?_) ?_; rotate_left; (go_simp; first | rfl | rw [if_neg (by omega)]); simp only [Act.put, xA, xB, xC]; (try simp only [xD]); (try simp only [xE]); (try simp only [id]))
 refine Reg2.pm (fun wz hI hF => ?_) (fun r8 => ?_) (by rfl)
 ·have c0 := (hS.out.cw.kept hI).c2
  go_wp2_with fail
  first | exact ⟨_, rfl, rfl, Reg2.Ext.refl _⟩ | exact ⟨_, rfl, ⟨(), rfl, trivial⟩, Reg2.Ext.refl _⟩
 simp only [Act.put, xA, xB, xC]; (try simp only [xD]); (try simp only [xE]); (try simp only [id])
 refine Reg2.pm (fun wz hI hF => ?_) (fun r9 => ?_) (by rfl)
 ·go_wp2_with (go_at_call 25; go_must (refine (fP (hS.out.kept hI).cw).mono ?_); rintro e w' ⟨rfl, rfl⟩)
  first | exact ⟨_, rfl, rfl, Reg2.Ext.refl _⟩ | exact ⟨_, rfl, ⟨(), rfl, trivial⟩, Reg2.Ext.refl _⟩
 simp only [Act.put, xA, xB, xC]; (try simp only [xD]); (try simp only [xE]); (try simp only [id])
 refine Reg2.aA ?_
 intro w4 HI4 _ dI
 clear dI
 dsimp only [List.drop]
 have bI := Lib.hid (hS.out.kept HI4)
 go_wp2_with fail
 refine Reg2.rd w4 14 37 [[],[ae],[ae,ae],[ae,ae,ae],[af,af,af,af],[af,af,af,af,ae],[af,af,af,af,ae,ae],[af,af,af,af,ae,ae,ae],[af,af,af,af,ae,ae,ae,ae],[af,af,af,af,af,af,af,af,af],[af,af,af,af,af,af,af,af,af,ae],[af,af,af,af,af,af,af,af,af,ae,ae],[af,af,af,af,af,af,af,af,af,ae,ae,ae],[af,af,af,af,af,af,af,af,af,ae,ae,ae,ae]] [0, 0, 0, 1, 0, 0, 0, 0, 1, 0, 0, 0, 0, 1] [.pure, .pure, .pure, .mU (.pointer (some ⟨t, 0, none⟩)), .pure, .pure, .pure, .pure, .mU (.int .i64 R.kH), .pure, .pure, .pure, .pure, .mU (.int .i64 R.dR)] (by kernel_rfl) (by kernel_rfl) rfl rfl ⟨trivial, trivial, trivial, Reg2.tt, trivial, trivial, trivial, trivial, Reg2.tt, trivial, trivial, trivial, trivial, Reg2.tt, trivial⟩ ⟨rfl, rfl, rfl, Nat.le_refl _, fun _ _ => rfl⟩ ?_
 dsimp only [Reg2.mk, List.zip, List.zipWith, List.take]
 repeat (refine' Reg2.ai _ (by rfl) (fun wz => ?_) ?_; rotate_left; (go_simp; first | rfl | rw [if_neg (by omega)]); simp only [Act.put, xA, xB, xC]; (try simp only [xD]); (try simp only [xE]); (try simp only [id]))
 refine Reg2.pm (fun wz hI hF => ?_) (fun r3 => ?_) (by rfl)
 ·have c0 := (bI.out.cw.kept hI).c0
  go_wp2_with fail
  first | exact ⟨_, rfl, rfl, Reg2.Ext.refl _⟩ | exact ⟨_, rfl, ⟨(), rfl, trivial⟩, Reg2.Ext.refl _⟩
 simp only [Act.put, xA, xB, xC]; (try simp only [xD]); (try simp only [xE]); (try simp only [id])
 repeat (refine' Reg2.ai _ (by rfl) (fun wz => ?_) ?_; rotate_left; (go_simp; first | rfl | rw [if_neg (by omega)]); simp only [Act.put, xA, xB, xC]; (try simp only [xD]); (try simp only [xE]); (try simp only [id]))
 refine Reg2.pm (fun wz hI hF => ?_) (fun r8 => ?_) (by rfl)
 ·have q0 := (bI.out.kept hI).wk.at 9 (.int .i64 R.kH) rfl
  go_wp2_with fail
  first | exact ⟨_, rfl, rfl, Reg2.Ext.refl _⟩ | exact ⟨_, rfl, ⟨(), rfl, trivial⟩, Reg2.Ext.refl _⟩
 simp only [Act.put, xA, xB, xC]; (try simp only [xD]); (try simp only [xE]); (try simp only [id])
 repeat (refine' Reg2.ai _ (by rfl) (fun wz => ?_) ?_; rotate_left; (go_simp; first | rfl | rw [if_neg (by omega)]); simp only [Act.put, xA, xB, xC]; (try simp only [xD]); (try simp only [xE]); (try simp only [id]))
 refine Reg2.pm (fun wz hI hF => ?_) (fun GR => ?_) (by rfl)
 ·have q0 := (bI.out.kept hI).wk.at 10 (.int .i64 R.dR) rfl
  go_wp2_with fail
  first | exact ⟨_, rfl, rfl, Reg2.Ext.refl _⟩ | exact ⟨_, rfl, ⟨(), rfl, trivial⟩, Reg2.Ext.refl _⟩
 simp only [Act.put, xA, xB, xC]; (try simp only [xD]); (try simp only [xE]); (try simp only [id])
 refine Reg2.aA ?_
 intro w5 IZ _ dI
 clear dI
 dsimp only [List.drop]
 have hS5 := bI.out.kept IZ
 have UN := hpl w5 hS5
 go_wp2_with fail
 go_at_call 154
 refine UN.mono ?_
 clear UN
 rintro e w6 ⟨rfl, v6, g6, GD, eH⟩
 have gG := hS5.core GD eH
 have hfin := (WS.of_below (HI4.trans (IZ.mono HI4.size)) : WS w w5 b c t d p v g v g).trans (WS.dC eH)
 go_wp2_with fail
 go_ret
 exact ⟨rfl, v6, g6, gG, hfin⟩
theorem BI (h : SW w b c t d p v g a m R P) (hc : P.cl = true) :
  Calls Tryz.prog 72 #[.pointer (some ⟨b, 0, none⟩), .pointer (some ⟨c, 0, none⟩)] w (au w b c t d p v g a m .nilFunc { R with rep := jQ 12, ok := false } P) := by
 have hcl := iT h.cw
 rw [hc] at hcl
 have hf := ik h.wk 12
 go_enter Tryz.func72, Tryz.ntmps72
 go_wp2_with (first | (go_at_call 21; go_must (refine hcl.mono ?_); rintro e w' ⟨rfl, rfl⟩) | (go_at_call 95; go_must (refine hf.mono ?_); rintro e w8 ⟨rfl, dS, fT⟩))
 go_ret
 exact ⟨rfl, v, g, h.work dS fT, WS.bD fT⟩
theorem vU (h : bY w b R) : Sem.run Tryz.prog (loadCellsFrom ⟨b, 9, none⟩ 0 2 #[]) w = .ok #[.int .i64 R.kH, .int .i64 R.dR] w :=
 vP (cs := [.int .i64 R.kH, .int .i64 R.dR]) h rfl fun j u hj => by
  rcases (show j = 0 ∨ j = 1 by have := (List.getElem?_eq_some_iff.1 hj).1; simp at this; omega) with rfl | rfl
  ·exact hj
  ·exact hj
theorem MV (h : SW w b c t d p v g a m R (ak M)) (hI : aG M) (h1 : 1 ≤ M.dr.length) (hll : M.L.length ≤ 900) (ha : a ≤ 800) (hxt : -9223372036854775808 ≤ R.dR ∧ R.dR ≤ 9223372036854775807) (hc : M.cl = false) (hfit : fw M R.kH R.dR = false) :
  Calls Tryz.prog 72 #[.pointer (some ⟨b, 0, none⟩), .pointer (some ⟨c, 0, none⟩)] w (au w b c t d p v g a m .nilFunc R (ak M)) := by
 have hcl := iT h.cw
 rw [show (ak M).cl = false from hc] at hcl
 have hft := Db h.cw hI h1 hll ha R.kH R.dR hxt
 rw [hfit] at hft
 have ld := vU h.wk
 have x9 := h.wk.at 9 (.int .i64 R.kH) rfl
 have Eo := h.wk.at 10 (.int .i64 R.dR) rfl
 go_enter Tryz.func72, Tryz.ntmps72
 go_wp2_with (first | (go_at_call 21; go_must (refine hcl.mono ?_); rintro e w' ⟨rfl, rfl⟩) | (go_at_call 96; go_must (refine hft.mono ?_); rintro e w8 ⟨rfl, tY⟩))
 go_ret
 exact ⟨rfl, v, g, h.kept tY, WS.of_below tY⟩
theorem JZ (h : SW w b c t d p v g a m R (ak M)) (hI : aG M) (h1 : 1 ≤ M.dr.length) (hll : M.L.length ≤ 900) (ha : a ≤ 800) (hxt : -9223372036854775808 ≤ R.dR ∧ R.dR ≤ 9223372036854775807) (hc : M.cl = false) (hfit : fw M R.kH R.dR = true) :
  Calls Tryz.prog 72 #[.pointer (some ⟨b, 0, none⟩), .pointer (some ⟨c, 0, none⟩)] w (au w b c t d p v g a m (fH 97) { R with aC := bH M.L R.kH, ok := true } (ak M)) := by
 have zJ := bG
 obtain ⟨k, hk1⟩ : ∃ k, k = 10 := ⟨_, rfl⟩
 rw [← hk1] at zJ
 have hk0 : ¬ k = 0 := by omega
 have hcl := iT h.cw
 rw [show (ak M).cl = false from hc] at hcl
 have hft := Db h.cw hI h1 hll ha R.kH R.dR hxt
 rw [hfit] at hft
 have ld := vU h.wk
 have x9 := h.wk.at 9 (.int .i64 R.kH) rfl
 have Eo := h.wk.at 10 (.int .i64 R.dR) rfl
 obtain ⟨x, hx⟩ : ∃ x, x = bH M.L R.kH := ⟨_, rfl⟩
 rw [← hx]
 have hget := Lib.hid (fun (W : World) (hW : SW W b c t d p v g a m R (ak M)) => show Calls Tryz.prog 33 #[.pointer (some ⟨t, 0, none⟩), .int .i64 R.kH] W fun e w' => e = .returned (.tuple #[.agg (ag x).toArray, .int .i64 (gz M.L R.kH)]) ∧ Gr W w' from by
  have := gq hW.cw.fe R.kH
  unfold gZ at this
  rw [show (ak M).J = M.L from rfl, ← hx] at this
  exact this)
 replace hx := Lib.hid hx
 have lJ := ax x
 rw [← hk1] at lJ
 replace hk1 := Lib.hid hk1
 have hj := fun (W : World) (hW : SW W b c t d p v g a m R (ak M)) => hW.wk.su x
 generalize ag x = cJ at *
 obtain ⟨W9, jR⟩ : ∃ W9, W9 = gm { R with aC := x } := ⟨_, rfl⟩
 rw [← jR] at hj
 replace jR := Lib.hid jR
 have hS := Lib.hid h
 clear h
 go_enter Tryz.func72, Tryz.ntmps72
 go_wp2_with (first | (go_at_call 21; go_must (refine hcl.mono ?_); rintro e w' ⟨rfl, rfl⟩) | (go_at_call 96; go_must (refine hft.mono ?_); rintro e w2 ⟨rfl, hb2⟩))
 have hS2 := Lib.hid (hS.out.kept hb2)
 have c0 := hS2.out.cw.c0
 have q9 := hS2.out.wk.at 9 (.int .i64 R.kH) rfl
 clear hcl hft ld x9 Eo
 go_region_with (go_at_call 33; go_must (refine (hget.out _ hS2.out.drew).mono ?_); rintro e w' ⟨rfl, hgr⟩; have qL := hS2.out.drew.kept hgr.below; obtain ⟨yR, oO⟩ := hj w' qL)
 all_goals
  have fU := qL.work oO (cz w' W9.toArray)
  have hfr : WS w2 (w'.setRow b W9.toArray) b c t d p v g v g := ((WS.of_below hgr.below : WS w2.drew w' b c t d p v g v g).trans (WS.bD (cz w' W9.toArray))).xq
  have hfr2 := (WS.of_below hb2 : WS w w2 b c t d p v g v g).trans hfr
  clear yR oO qL hgr c0 q9 hfr
  generalize w'.setRow b W9.toArray = w9 at *
  have a33 := fU.wk.at 33 (.bool R.ok) rfl
  have f33 := fU.wk.free 33
  have PE := fU.work (fU.wk.Rp true) (dw w9 33 (.bool true))
  have UO := hfr2.trans (WS.bD (dw w9 33 (.bool true)))
  go_wp2_with fail
  go_ret
  have ex := hx.out
  clear hx
  subst ex
  exact ⟨rfl, v, g, PE, UO⟩
end
end Go.Proofs.YtnihdgcfamoplaaGreat

namespace Go.Proofs.YtnihdgcfamoplaaGreat
open Go.RowKit Go.Lib Go.Sort
section
variable {w : World} {b c t d p g a : Nat} {v : Value} {m : Int} {P P1 : Pg} {M : Md} {R : Wk}
theorem lT.uniq {l l1 l2 : List Int} {n : Int} {d : Bool} {e1 e2 : Int} (h : lT l n d e1 l1) (h' : lT l n d e2 l2) : e1 = e2 ∧ l1 = l2 := by
 by_cases h1 : n < 0 ∨ (l.length : Int) ≤ n
 ·obtain ⟨rfl, rfl⟩ := h.out h1
  obtain ⟨rfl, rfl⟩ := h'.out h1
  exact ⟨rfl, rfl⟩
 ·by_cases h2 : d = decide (l.getD n.toNat 0 < 3)
  ·obtain ⟨rfl, rfl⟩ := h.good (by omega) (by omega) h2
   obtain ⟨rfl, rfl⟩ := h'.good (by omega) (by omega) h2
   exact ⟨rfl, rfl⟩
  ·obtain ⟨rfl, rfl⟩ := h.bad (by omega) (by omega) h2
   obtain ⟨rfl, rfl⟩ := h'.bad (by omega) (by omega) h2
   exact ⟨rfl, rfl⟩
def MW (b c t d p a : Nat) (m : Int) (R : Wk) (P : Pg) (x : Int) (T' : List Int) (a' : Nat) (m' : Int) (R' : Wk) (P' : Pg) : Prop :=
 ∀ (W : World) (v1 : Value) (g1 : Nat), SW W b c t d p v1 g1 a m R { P with T := T' } → Calls Tryz.prog 145 #[.pointer (some ⟨b, 0, none⟩), .pointer (some ⟨c, 0, none⟩), .int .i64 x, .int .i64 (-1)] W (au W b c t d p v1 g1 a' m' .nilFunc R' P')
def MX (b c t d p a : Nat) (m : Int) (R : Wk) (P : Pg) (x : Int) (T' : List Int) (a' : Nat) (m' : Int) (R' : Wk) (P' : Pg) : Prop :=
 ∀ (W : World) (v1 : Value) (g1 : Nat), SW W b c t d p v1 g1 a m R { P with T := T' } → Calls Tryz.prog 145 #[.pointer (some ⟨b, 0, none⟩), .pointer (some ⟨c, 0, none⟩), .int .i64 x, .int .i64 1] W (au W b c t d p v1 g1 a' m' .nilFunc R' P')
theorem resume_fn (h : SW w b c t d p v g a m R P) (hk : PK P) (hn : -9223372036854775808 ≤ R.ah.node ∧ R.ah.node ≤ 9223372036854775807) {x0 : Int} {T0 : List Int} (hT0 : lT P.T R.ah.node false x0 T0) {a' : Nat} {m' : Int} {R' : Wk} {P' : Pg}
  (SY : MX b c t d p a m R P x0 T0 a' m' R' P') :
  Calls Tryz.prog 124 #[.pointer (some ⟨b, 0, none⟩), .pointer (some ⟨c, 0, none⟩)] w (au w b c t d p v g a' m' .nilFunc R' P') := by
 have hS := Lib.hid h
 replace hT0 := Lib.hid hT0
 have hmu := fun (W : World) (hW : SW W b c t d p v g a m R P) => Gp hW.cw hk R.ah.node hn
 clear h
 go_enter Tryz.func124, Tryz.ntmps124
 go_wp2_with fail
 refine Reg2.tO 12 18 [[],[af],[af,af],[af,af,ae],[af,af,ae,ae],[af,af,ae,ae,ae],[af,af,af,af,af,af],[af,af,af,af,af,af,ae],[af,af,af,af,af,af,ae,ae],[af,af,af,af,af,af,ae,ae,ae],[af,af,af,af,af,af,ae,ae,ae,ae],[af,af,ae,ae,ae,ae,ae,ae,ae,ae,ae]] [0, 0, 0, 0, 0, 2, 0, 0, 0, 0, 2, 3]
  [.pure, .pure, .pure, .pure, .pure, .pinned Unit () (fun _ => .pointer (some ⟨d, 0, none⟩)) (fun _ _ => True), .pure, .pure, .pure, .pure, .pinned Unit () (fun _ => .int .i64 R.ah.node) (fun _ _ => True), .major Unit () (fun _ => .int .i64 x0)]
  (fun _ => True) (fun vs W => match vs with | [] => Below w.heap.size w W | _ :: _ => (gP w b c t d p v g a m R { P with T := T0 }) W) (fun _ _ => True) (by kernel_rfl) (by kernel_rfl) rfl rfl (fun vs a b h hs => by cases vs with | nil => exact Below.trans hs (h.mono (Below.size hs)) | cons v vs => exact gP.ext a b h hs) ?_ ?_ ?_ ?_ ?_ ?_
 ·intro a b he hb; trivial
 ·intro a b he hb; trivial
 ·exact ⟨trivial, trivial, trivial, trivial, trivial, ⟨fun _ _ _ _ _ => trivial, fun _ _ _ _ _ => trivial⟩, trivial, trivial, trivial, trivial, ⟨fun _ _ _ _ _ => trivial, fun _ _ _ _ _ => trivial⟩, trivial, trivial⟩
 ·trivial
 ·exact ⟨rfl, rfl, rfl, Nat.le_refl _, fun _ _ => rfl⟩
 dsimp only [Reg2.mk, List.zip, List.zipWith, List.take]
 repeat (refine' Reg2.ai _ (by rfl) (fun wz => ?_) ?_; rotate_left; (go_simp; first | rfl | rw [if_neg (by omega)]); simp only [Act.put, xA, xB, xC]; (try simp only [xD]); (try simp only [xE]); (try simp only [id]))
 refine Reg2.pp (fun wz _ hI hF => ?_) (fun r5 => ?_) (by rfl)
 ·have c0 := (hS.out.cw.kept hI).c1
  go_wp2_with fail
  first | exact ⟨_, rfl, rfl, Reg2.Ext.refl _⟩ | exact ⟨_, rfl, ⟨(), rfl, trivial⟩, Reg2.Ext.refl _⟩
 simp only [Act.put, xA, xB, xC]; (try simp only [xD]); (try simp only [xE]); (try simp only [id])
 repeat (refine' Reg2.ai _ (by rfl) (fun wz => ?_) ?_; rotate_left; (go_simp; first | rfl | rw [if_neg (by omega)]); simp only [Act.put, xA, xB, xC]; (try simp only [xD]); (try simp only [xE]); (try simp only [id]))
 refine Reg2.pp (fun wz _ hI hF => ?_) (fun wR => ?_) (by rfl)
 ·have q0 := (hS.out.kept hI).wk.at 7 (.int .i64 R.ah.node) rfl
  go_wp2_with fail
  first | exact ⟨_, rfl, rfl, Reg2.Ext.refl _⟩ | exact ⟨_, rfl, ⟨(), rfl, trivial⟩, Reg2.Ext.refl _⟩
 simp only [Act.put, xA, xB, xC]; (try simp only [xD]); (try simp only [xE]); (try simp only [id])
 refine Reg2.pj (fun wz _ hI hF => ?_) (fun Mt => ?_) (by rfl)
 ·go_wp2_with (go_at_call 146; go_must (refine (hmu wz (hS.out.kept hI)).mono ?_); rintro e w' ⟨x, T', hT, hL, rfl, v4, g4, ow, bI⟩)
  obtain ⟨rfl, rfl⟩ := hT0.out.uniq hT
  have hpost : gP w b c t d p v g a m R { P with T := T0 } w' := ⟨v4, g4, (hS.out.kept hI).core ow bI, (WS.of_below hI).trans (WS.dC bI)⟩
  exact ⟨_, rfl, ⟨⟨(), rfl⟩, hpost⟩, trivial⟩
 simp only [Act.put, xA, xB, xC]; (try simp only [xD]); (try simp only [xE]); (try simp only [id])
 refine Reg2.aA ?_
 intro w7 _ rq jW
 clear jW
 dsimp only [List.drop]
 obtain ⟨v7, g7, gG, xn⟩ : gP w b c t d p v g a m R { P with T := T0 } w7 := rq
 have PT := SY w7 v7 g7 gG
 go_wp2_with fail
 go_at_call 145
 refine PT.mono ?_
 clear PT
 rintro e w8 ⟨rfl, v8, g8, gB, dS⟩
 go_wp2_with fail
 go_ret
 exact ⟨rfl, v8, g8, gB, xn.trans dS⟩
theorem yD (h : SW w b c t d p v g a m R P) (hk : PK P) (S9 : P = ak M) (hI : aG M) (h1 : 1 ≤ M.dr.length) (hll : M.L.length ≤ 900) (ha : a ≤ 800) (hm : m ≤ 1000000) (hhit : dU kF M.L = none) (hn : -9223372036854775808 ≤ R.ah.node ∧ R.ah.node ≤ 9223372036854775807) {x0 : Int} {T0 : List Int} (hT0 : lT P.T R.ah.node true x0 T0) {a' : Nat} {m' : Int} {R' : Wk} {P' : Pg}
  (SY : MW b c t d p a m R P x0 T0 a' m' R' P') :
  Calls Tryz.prog 144 #[.pointer (some ⟨b, 0, none⟩), .pointer (some ⟨c, 0, none⟩)] w (au w b c t d p v g a' m' .nilFunc R' P') := by
 obtain ⟨wA, aB⟩ : ∃ wA, wA = w.alloc (.cells #[.int .i64 1] 3) := ⟨_, rfl⟩
 have bC : Below w.heap.size w wA := by rw [aB]; exact (Below.refl _ _).alloc (Nat.le_refl _) _
 have JH : aF enc1 1 wA (.slice (some ⟨w.heap.size, 0, none⟩) 1 1) [1] := by rw [aB]; exact fV w w.heap.size [1] rfl (by decide)
 have J2 := h.kept bC
 have hin := uH J2.cw.fe (by rw [S9]; show M.L.length ≤ 1000; omega) JH
 have hJ : P.J = M.L := by rw [S9]; rfl
 rw [hJ] at hin
 have hdr := fun (W : World) (u : Value) (hC : CW W c t d p v g a m P) (hu : aF ag 10 W u (M.L.filter fun j : Jb => decide (j.state ∈ [(1 : Int)]))) => uQ (S9 ▸ hC) hI h1 hll ha hm u _ (fun j : Jb => decide (j.state ∈ [(1 : Int)])) hu rfl
 have hno : M.L.findIdx? (fun j : Jb => decide (j.state ∈ [(1 : Int)]) && aj j) = none := by have := hhit; unfold dU at this; rw [← GG] at this; exact this
 rw [hno] at hdr
 have c0 := h.cw.c0
 have hS := Lib.hid h
 replace hT0 := Lib.hid hT0
 have hmu := fun (W : World) (hW : SW W b c t d p v g a m R P) => Jv hW.cw hk R.ah.node hn
 rw [aB] at hin
 clear h hno hhit
 go_enter Tryz.func144, Tryz.ntmps144
 go_wp2_with fail
 go_at_call 64
 refine hin.mono ?_
 clear hin c0
 rw [← aB]
 rintro e w1 ⟨u, rfl, ho, hb1⟩
 have hS1 := J2.kept hb1
 have hd1 := hdr w1 u hS1.cw (aF.jh ho ax rfl rfl)
 replace aB := Lib.hid aB
 clear ho hdr
 go_wp2_with fail
 go_at_call 159
 refine hd1.mono ?_
 clear hd1
 rintro e w2 (⟨_, rfl, hb2⟩ | ⟨i, hbad, _⟩)
 rotate_left
 ·cases hbad
 have hbw := bC.trans ((hb1.trans (hb2.mono hb1.size)).mono bC.size)
 have hS2 := Lib.hid (hS1.kept hb2)
 replace hS1 := Lib.hid hS1
 replace J2 := Lib.hid J2
 go_wp2_with fail
 refine Reg2.tO 12 26 [[],[af],[af,af],[af,af,ae],[af,af,ae,ae],[af,af,ae,ae,ae],[af,af,af,af,af,af],[af,af,af,af,af,af,ae],[af,af,af,af,af,af,ae,ae],[af,af,af,af,af,af,ae,ae,ae],[af,af,af,af,af,af,ae,ae,ae,ae],[af,af,ae,ae,ae,ae,ae,ae,ae,ae,ae]] [0, 0, 0, 0, 0, 2, 0, 0, 0, 0, 2, 3]
  [.pure, .pure, .pure, .pure, .pure, .pinned Unit () (fun _ => .pointer (some ⟨d, 0, none⟩)) (fun _ _ => True), .pure, .pure, .pure, .pure, .pinned Unit () (fun _ => .int .i64 R.ah.node) (fun _ _ => True), .major Unit () (fun _ => .int .i64 x0)]
  (fun _ => True) (fun vs W => match vs with | [] => Below w2.heap.size w2 W | _ :: _ => (gP w2 b c t d p v g a m R { P with T := T0 }) W) (fun _ _ => True) (by kernel_rfl) (by kernel_rfl) rfl rfl (fun vs a b h hs => by cases vs with | nil => exact Below.trans hs (h.mono (Below.size hs)) | cons v vs => exact gP.ext a b h hs) ?_ ?_ ?_ ?_ ?_ ?_
 ·intro a b he hb; trivial
 ·intro a b he hb; trivial
 ·exact ⟨trivial, trivial, trivial, trivial, trivial, ⟨fun _ _ _ _ _ => trivial, fun _ _ _ _ _ => trivial⟩, trivial, trivial, trivial, trivial, ⟨fun _ _ _ _ _ => trivial, fun _ _ _ _ _ => trivial⟩, trivial, trivial⟩
 ·trivial
 ·exact ⟨rfl, rfl, rfl, Nat.le_refl _, fun _ _ => rfl⟩
 dsimp only [Reg2.mk, List.zip, List.zipWith, List.take]
 repeat (refine' Reg2.ai _ (by rfl) (fun wz => ?_) ?_; rotate_left; (go_simp; first | rfl | rw [if_neg (by omega)]); simp only [Act.put, xA, xB, xC]; (try simp only [xD]); (try simp only [xE]); (try simp only [id]))
 refine Reg2.pp (fun wz _ hI hF => ?_) (fun r5 => ?_) (by rfl)
 ·have c0 := (hS2.out.cw.kept hI).c1
  go_wp2_with fail
  first | exact ⟨_, rfl, rfl, Reg2.Ext.refl _⟩ | exact ⟨_, rfl, ⟨(), rfl, trivial⟩, Reg2.Ext.refl _⟩
 simp only [Act.put, xA, xB, xC]; (try simp only [xD]); (try simp only [xE]); (try simp only [id])
 repeat (refine' Reg2.ai _ (by rfl) (fun wz => ?_) ?_; rotate_left; (go_simp; first | rfl | rw [if_neg (by omega)]); simp only [Act.put, xA, xB, xC]; (try simp only [xD]); (try simp only [xE]); (try simp only [id]))
 refine Reg2.pp (fun wz _ hI hF => ?_) (fun wR => ?_) (by rfl)
 ·have q0 := (hS2.out.kept hI).wk.at 7 (.int .i64 R.ah.node) rfl
  go_wp2_with fail
  first | exact ⟨_, rfl, rfl, Reg2.Ext.refl _⟩ | exact ⟨_, rfl, ⟨(), rfl, trivial⟩, Reg2.Ext.refl _⟩
 simp only [Act.put, xA, xB, xC]; (try simp only [xD]); (try simp only [xE]); (try simp only [id])
 refine Reg2.pj (fun wz _ hI hF => ?_) (fun Mt => ?_) (by rfl)
 ·go_wp2_with (go_at_call 165; go_must (refine (hmu wz (hS2.out.kept hI)).mono ?_); rintro e w' ⟨x, T', hT, hL, rfl, v4, g4, ow, bI⟩)
  obtain ⟨rfl, rfl⟩ := hT0.out.uniq hT
  have hpost : gP w2 b c t d p v g a m R { P with T := T0 } w' := ⟨v4, g4, (hS2.out.kept hI).core ow bI, (WS.of_below hI).trans (WS.dC bI)⟩
  exact ⟨_, rfl, ⟨⟨(), rfl⟩, hpost⟩, trivial⟩
 simp only [Act.put, xA, xB, xC]; (try simp only [xD]); (try simp only [xE]); (try simp only [id])
 refine Reg2.aA ?_
 intro w7 _ rq jW
 clear jW
 dsimp only [List.drop]
 obtain ⟨v7, g7, gG, xn⟩ : gP w2 b c t d p v g a m R { P with T := T0 } w7 := rq
 have PT := SY w7 v7 g7 gG
 go_wp2_with fail
 go_at_call 145
 refine PT.mono ?_
 clear PT
 rintro e w8 ⟨rfl, v8, g8, gB, dS⟩
 go_wp2_with fail
 go_ret
 exact ⟨rfl, v8, g8, gB, ((WS.of_below hbw).trans xn).trans dS⟩
theorem yE (h : SW w b c t d p v g a m R (ak M)) (hI : aG M) (h1 : 1 ≤ M.dr.length) (hll : M.L.length ≤ 900) (ha : a ≤ 800) (hm : m ≤ 1000000) {i : Nat} (hhit : dU kF M.L = some i) :
  Calls Tryz.prog 144 #[.pointer (some ⟨b, 0, none⟩), .pointer (some ⟨c, 0, none⟩)] w (au w b c t d p v g (a + 2) (m + 1) (fH 144) R (ak { M with L := M.L.set i ((M.L.getD i default).aI (-1)) })) := by
 obtain ⟨wA, aB⟩ : ∃ wA, wA = w.alloc (.cells #[.int .i64 1] 3) := ⟨_, rfl⟩
 have bC : Below w.heap.size w wA := by rw [aB]; exact (Below.refl _ _).alloc (Nat.le_refl _) _
 have JH : aF enc1 1 wA (.slice (some ⟨w.heap.size, 0, none⟩) 1 1) [1] := by rw [aB]; exact fV w w.heap.size [1] rfl (by decide)
 have J2 := h.kept bC
 have hin := uH J2.cw.fe (by show M.L.length ≤ 1000; omega) JH
 rw [show (ak M).J = M.L from rfl] at hin
 have hdr := fun (W : World) (u : Value) (hC : CW W c t d p v g a m (ak M)) (hu : aF ag 10 W u (M.L.filter fun j : Jb => decide (j.state ∈ [(1 : Int)]))) => uQ hC hI h1 hll ha hm u _ (fun j : Jb => decide (j.state ∈ [(1 : Int)])) hu rfl
 have hno : M.L.findIdx? (fun j : Jb => decide (j.state ∈ [(1 : Int)]) && aj j) = some i := by have := hhit; unfold dU at this; rw [← GG] at this; exact this
 rw [hno] at hdr
 have c0 := h.cw.c0
 rw [aB] at hin
 clear h hno hhit
 go_enter Tryz.func144, Tryz.ntmps144
 go_wp2_with fail
 go_at_call 64
 refine hin.mono ?_
 clear hin c0
 rw [← aB]
 rintro e w1 ⟨u, rfl, ho, hb1⟩
 have hS1 := J2.kept hb1
 have hd1 := hdr w1 u hS1.cw (aF.jh ho ax rfl rfl)
 replace aB := Lib.hid aB
 clear ho hdr
 go_wp2_with fail
 go_at_call 159
 refine hd1.mono ?_
 clear hd1
 rintro e w2 (⟨hbad, _⟩ | ⟨i2, he, rfl, v2, g2, hC2, hS2⟩)
 ·cases hbad
 obtain rfl := Option.some.inj he
 have UQ := hS1.core hC2 hS2
 have hf := (WS.of_below (bC.trans (hb1.mono bC.size)) : WS w w1 b c t d p v g v g).trans (WS.dC hS2)
 go_wp2_with fail
 go_ret
 exact ⟨rfl, v2, g2, UQ, hf⟩
theorem Dc (h : SW w b c t d p v g a m R P) (hk : PK P) (hn : -9223372036854775808 ≤ R.ah.node ∧ R.ah.node ≤ 9223372036854775807) (hst : oZ P.T R.ah.node = 1 ∨ oZ P.T R.ah.node = 2) {L : Value} {a' : Nat} {m' : Int} {R' : Wk} {P' : Pg}
  (hcl : ∀ W, SW W b c t d p v g a m R P → Calls Tryz.prog 144 #[.pointer (some ⟨b, 0, none⟩), .pointer (some ⟨c, 0, none⟩)] W (au W b c t d p v g a' m' L R' P')) :
  Calls Tryz.prog 123 #[.pointer (some ⟨b, 0, none⟩), .pointer (some ⟨c, 0, none⟩)] w (au w b c t d p v g a' m' L R' P') := by
 have hS := Lib.hid h
 have vT := fun (W : World) (hW : SW W b c t d p v g a m R P) => uM R.ah.node hn hW.cw.nodes hk.qG
 generalize hsx : oZ P.T R.ah.node = sx at *
 replace hsx := Lib.hid hsx
 clear h
 go_enter Tryz.func123, Tryz.ntmps123
 go_wp2_with fail
 refine Reg2.rd w 9 28 [[],[ae],[ae,ae],[ae,ae,ae],[af,af,af,af],[af,af,af,af,ae],[af,af,af,af,ae,ae],[af,af,af,af,ae,ae,ae],[af,af,af,af,ae,ae,ae,ae]] [0, 0, 0, 1, 0, 0, 0, 0, 1] [.pure, .pure, .pure, .mU (.pointer (some ⟨d, 0, none⟩)), .pure, .pure, .pure, .pure, .mU (.int .i64 R.ah.node)] (by kernel_rfl) (by kernel_rfl) rfl rfl ⟨trivial, trivial, trivial, Reg2.tt, trivial, trivial, trivial, trivial, Reg2.tt, trivial⟩ ⟨rfl, rfl, rfl, Nat.le_refl _, fun _ _ => rfl⟩ ?_
 dsimp only [Reg2.mk, List.zip, List.zipWith, List.take]
 repeat (refine' Reg2.ai _ (by rfl) (fun wz => ?_) ?_; rotate_left; (go_simp; first | rfl | rw [if_neg (by omega)]); simp only [Act.put, xA, xB, xC]; (try simp only [xD]); (try simp only [xE]); (try simp only [id]))
 refine Reg2.pm (fun wz hI hF => ?_) (fun r3 => ?_) (by rfl)
 ·have c0 := (hS.out.cw.kept hI).c1
  go_wp2_with fail
  first | exact ⟨_, rfl, rfl, Reg2.Ext.refl _⟩ | exact ⟨_, rfl, ⟨(), rfl, trivial⟩, Reg2.Ext.refl _⟩
 simp only [Act.put, xA, xB, xC]; (try simp only [xD]); (try simp only [xE]); (try simp only [id])
 repeat (refine' Reg2.ai _ (by rfl) (fun wz => ?_) ?_; rotate_left; (go_simp; first | rfl | rw [if_neg (by omega)]); simp only [Act.put, xA, xB, xC]; (try simp only [xD]); (try simp only [xE]); (try simp only [id]))
 refine Reg2.pm (fun wz hI hF => ?_) (fun r8 => ?_) (by rfl)
 ·have q0 := (hS.out.kept hI).wk.at 7 (.int .i64 R.ah.node) rfl
  go_wp2_with fail
  first | exact ⟨_, rfl, rfl, Reg2.Ext.refl _⟩ | exact ⟨_, rfl, ⟨(), rfl, trivial⟩, Reg2.Ext.refl _⟩
 simp only [Act.put, xA, xB, xC]; (try simp only [xD]); (try simp only [xE]); (try simp only [id])
 refine Reg2.aA ?_
 intro w4 HI4 _ dI
 clear dI
 dsimp only [List.drop]
 have bI := hS.out.kept HI4
 have Hg := vT w4 bI
 go_wp2_with fail
 go_at_call 54
 refine Hg.mono ?_
 clear Hg
 rintro e w5 ⟨rfl, mm, Am⟩
 have hb5 : Below w4.heap.size w4 w5 := by rw [Am]; exact below_drewN (Below.refl _ _) _
 have hS5 := bI.kept hb5
 have UR := hcl w5 hS5
 have BG := HI4.trans (hb5.mono HI4.size)
 replace Am := Lib.hid Am
 rcases hst with rfl | rfl
 all_goals
  go_wp2_with fail
  go_at_call 144
  refine UR.mono ?_
  clear UR
  rintro e w8 ⟨rfl, v8, g8, gB, dS⟩
  go_wp2_with fail
  go_ret
  exact ⟨rfl, v8, g8, gB, (WS.of_below BG).trans dS⟩
theorem Df (h : SW w b c t d p v g a m R P) (hk : PK P) (hn : -9223372036854775808 ≤ R.ah.node ∧ R.ah.node ≤ 9223372036854775807) (e0 : Int) (hst : (oZ P.T R.ah.node = 0 ∧ e0 = 11) ∨ ((oZ P.T R.ah.node = 3 ∨ oZ P.T R.ah.node = 4) ∧ e0 = 8)) :
  Calls Tryz.prog 123 #[.pointer (some ⟨b, 0, none⟩), .pointer (some ⟨c, 0, none⟩)] w (au w b c t d p v g a m .nilFunc { R with rep := jQ e0, ok := false } P) := by
 have hS := Lib.hid h
 have vT := fun (W : World) (hW : SW W b c t d p v g a m R P) => uM R.ah.node hn hW.cw.nodes hk.qG
 generalize hsx : oZ P.T R.ah.node = sx at *
 replace hsx := Lib.hid hsx
 clear h
 go_enter Tryz.func123, Tryz.ntmps123
 go_wp2_with fail
 refine Reg2.rd w 9 28 [[],[ae],[ae,ae],[ae,ae,ae],[af,af,af,af],[af,af,af,af,ae],[af,af,af,af,ae,ae],[af,af,af,af,ae,ae,ae],[af,af,af,af,ae,ae,ae,ae]] [0, 0, 0, 1, 0, 0, 0, 0, 1] [.pure, .pure, .pure, .mU (.pointer (some ⟨d, 0, none⟩)), .pure, .pure, .pure, .pure, .mU (.int .i64 R.ah.node)] (by kernel_rfl) (by kernel_rfl) rfl rfl ⟨trivial, trivial, trivial, Reg2.tt, trivial, trivial, trivial, trivial, Reg2.tt, trivial⟩ ⟨rfl, rfl, rfl, Nat.le_refl _, fun _ _ => rfl⟩ ?_
 dsimp only [Reg2.mk, List.zip, List.zipWith, List.take]
 repeat (refine' Reg2.ai _ (by rfl) (fun wz => ?_) ?_; rotate_left; (go_simp; first | rfl | rw [if_neg (by omega)]); simp only [Act.put, xA, xB, xC]; (try simp only [xD]); (try simp only [xE]); (try simp only [id]))
 refine Reg2.pm (fun wz hI hF => ?_) (fun r3 => ?_) (by rfl)
 ·have c0 := (hS.out.cw.kept hI).c1
  go_wp2_with fail
  first | exact ⟨_, rfl, rfl, Reg2.Ext.refl _⟩ | exact ⟨_, rfl, ⟨(), rfl, trivial⟩, Reg2.Ext.refl _⟩
 simp only [Act.put, xA, xB, xC]; (try simp only [xD]); (try simp only [xE]); (try simp only [id])
 repeat (refine' Reg2.ai _ (by rfl) (fun wz => ?_) ?_; rotate_left; (go_simp; first | rfl | rw [if_neg (by omega)]); simp only [Act.put, xA, xB, xC]; (try simp only [xD]); (try simp only [xE]); (try simp only [id]))
 refine Reg2.pm (fun wz hI hF => ?_) (fun r8 => ?_) (by rfl)
 ·have q0 := (hS.out.kept hI).wk.at 7 (.int .i64 R.ah.node) rfl
  go_wp2_with fail
  first | exact ⟨_, rfl, rfl, Reg2.Ext.refl _⟩ | exact ⟨_, rfl, ⟨(), rfl, trivial⟩, Reg2.Ext.refl _⟩
 simp only [Act.put, xA, xB, xC]; (try simp only [xD]); (try simp only [xE]); (try simp only [id])
 refine Reg2.aA ?_
 intro w4 HI4 _ dI
 clear dI
 dsimp only [List.drop]
 have bI := hS.out.kept HI4
 have Hg := vT w4 bI
 go_wp2_with fail
 go_at_call 54
 refine Hg.mono ?_
 clear Hg
 rintro e w5 ⟨rfl, mm, Am⟩
 have hb5 : Below w4.heap.size w4 w5 := by rw [Am]; exact below_drewN (Below.refl _ _) _
 have hS5 := bI.kept hb5
 have BG := HI4.trans (hb5.mono HI4.size)
 replace Am := Lib.hid Am
 rcases hst with ⟨rfl, rfl⟩ | ⟨rfl | rfl, rfl⟩
 ·have hf := ik hS5.wk 11
  go_wp2_with (go_at_call 95; go_must (refine hf.mono ?_); rintro e w8 ⟨rfl, dS, fT⟩)
  go_ret
  exact ⟨rfl, v, g, hS5.work dS fT, (WS.of_below BG).trans (WS.bD fT)⟩
 all_goals
  have hf := ik hS5.wk 8
  go_wp2_with (go_at_call 95; go_must (refine hf.mono ?_); rintro e w8 ⟨rfl, dS, fT⟩)
  go_ret
  exact ⟨rfl, v, g, hS5.work dS fT, (WS.of_below BG).trans (WS.bD fT)⟩
end
end Go.Proofs.YtnihdgcfamoplaaGreat

namespace Go.Proofs.YtnihdgcfamoplaaGreat
open Go.RowKit Go.Lib Go.Sort
section
variable {w : World} {b c t d p g a : Nat} {v : Value} {m : Int} {P : Pg} {R : Wk}
theorem MZ (h : SW w b c t d p v g a m R P) (hk : PK P) (hlow : R.ah.till < 1) :
  Calls Tryz.prog 125 #[.pointer (some ⟨b, 0, none⟩), .pointer (some ⟨c, 0, none⟩)] w (au w b c t d p v g a m .nilFunc { R with rep := jQ 10, ok := false } P) := by
 have hS := Lib.hid h
 have hsub := fun (W : World) => AA 1099511627776 P.now W
 have hnw := hk.now
 obtain ⟨sb, hsb⟩ : ∃ sb, sb = 1099511627776 - P.now := ⟨_, rfl⟩
 rw [show hd (hd 1099511627776 - hd P.now) = sb by rw [hsb]; unfold hd; omega] at hsub
 obtain ⟨ty, hty⟩ : ∃ ty, R.ah.till = ty := ⟨_, rfl⟩
 rw [hty] at hlow
 have d1 : decide (ty < 1) = true := decide_eq_true hlow
 replace hty := Lib.hid hty
 replace hsb := Lib.hid hsb
 clear h
 go_enter Tryz.func125, Tryz.ntmps125
 go_wp2_with fail
 refine Reg2.rd w 18 44 [[],[ae],[ae,ae],[ae,ae,ae],[ae,ae,ae,ae],[ae,ae,ae,ae,ae],[ae,ae,ae,ae,ae,ae],[ae,ae,ae,ae,ae,ae,ae],[ae,ae,ae,ae,ae,ae,ae,ae],[ae,ae,ae,ae,ae,ae,ae,ae,ae],[ae,ae,ae,ae,ae,ae,ae,ae,ae,ae],[ae,ae,ae,ae,ae,ae,ae,ae,ae,ae,ae],[ae,ae,ae,ae,ae,ae,ae,af,af,af,af,af],[ae,ae,ae,ae,ae,ae,ae,af,af,af,af,af,ae],[ae,ae,ae,ae,ae,ae,ae,af,af,af,af,af,ae,ae],[ae,ae,ae,ae,ae,ae,ae,af,af,af,af,af,ae,ae,ae],[ae,ae,ae,ae,ae,ae,ae,af,af,af,af,af,ae,ae,ae,ae],[ae,ae,ae,ae,ae,ae,ae,af,af,af,af,af,ae,ae,ae,ae,ae]] [0, 0, 0, 0, 1, 0, 0, 0, 0, 0, 0, 1, 0, 0, 0, 1, 1, 1] [.pure, .pure, .pure, .pure, .mU (.int .i64 ty), .pure, .pure, .pure, .pure, .pure, .pure, .mU (.int .i64 ty), .pure, .pure, .pure, .mU (.pointer (some ⟨p, 0, none⟩)), .mU (.int .i64 P.now), .mU (.int .i64 sb)] (by kernel_rfl) (by kernel_rfl) rfl rfl ⟨trivial, trivial, trivial, trivial, Reg2.tt, trivial, trivial, trivial, trivial, trivial, trivial, Reg2.tt, trivial, trivial, trivial, Reg2.tt, Reg2.tt, Reg2.tt, trivial⟩ ⟨rfl, rfl, rfl, Nat.le_refl _, fun _ _ => rfl⟩ ?_
 dsimp only [Reg2.mk, List.zip, List.zipWith, List.take]
 repeat (refine' Reg2.ai _ (by rfl) (fun wz => ?_) ?_; rotate_left; (go_simp; first | rfl | rw [if_neg (by omega)]); simp only [Act.put, xA, xB, xC]; (try simp only [xD]); (try simp only [xE]); (try simp only [id]))
 refine Reg2.pm (fun wz hI hF => ?_) (fun r4 => ?_) (by rfl)
 ·have q0 := (hS.out.kept hI).wk.at 8 (.int .i64 R.ah.till) rfl
  rw [hty.out] at q0
  go_wp2_with fail
  first | exact ⟨_, rfl, rfl, Reg2.Ext.refl _⟩ | exact ⟨_, rfl, ⟨(), rfl, trivial⟩, Reg2.Ext.refl _⟩
 simp only [Act.put, xA, xB, xC]; (try simp only [xD]); (try simp only [xE]); (try simp only [id])
 repeat (refine' Reg2.ai _ (by rfl) (fun wz => ?_) ?_; rotate_left; (go_simp; first | rfl | rw [if_neg (by omega)]); simp only [Act.put, xA, xB, xC]; (try simp only [xD]); (try simp only [xE]); (try simp only [id]))
 refine Reg2.aL (by rfl) ?_
 simp only [Act.put, xA, xB, xC]; (try simp only [xD]); (try simp only [xE]); (try simp only [id])
 refine Reg2.aL (by rfl) ?_
 simp only [Act.put, xA, xB, xC]; (try simp only [xD]); (try simp only [xE]); (try simp only [id])
 refine Reg2.aL (by rfl) ?_
 simp only [Act.put, xA, xB, xC]; (try simp only [xD]); (try simp only [xE]); (try simp only [id])
 refine Reg2.aL (by rfl) ?_
 simp only [Act.put, xA, xB, xC]; (try simp only [xD]); (try simp only [xE]); (try simp only [id])
 refine Reg2.aH (by rfl) ?_
 simp only [Act.put, xA, xB, xC]; (try simp only [xD]); (try simp only [xE]); (try simp only [id])
 refine Reg2.aL (by rfl) ?_
 simp only [Act.put, xA, xB, xC]; (try simp only [xD]); (try simp only [xE]); (try simp only [id])
 refine Reg2.aL (by rfl) ?_
 simp only [Act.put, xA, xB, xC]; (try simp only [xD]); (try simp only [xE]); (try simp only [id])
 refine Reg2.aL (by rfl) ?_
 simp only [Act.put, xA, xB, xC]; (try simp only [xD]); (try simp only [xE]); (try simp only [id])
 refine Reg2.aH (by rfl) ?_
 simp only [Act.put, xA, xB, xC]; (try simp only [xD]); (try simp only [xE]); (try simp only [id])
 refine Reg2.aH (by rfl) ?_
 simp only [Act.put, xA, xB, xC]; (try simp only [xD]); (try simp only [xE]); (try simp only [id])
 refine Reg2.aH (by rfl) ?_
 simp only [Act.put, xA, xB, xC]; (try simp only [xD]); (try simp only [xE]); (try simp only [id])
 refine Reg2.aA ?_
 intro w4 HI4 _ dI
 clear dI
 dsimp only [List.drop]
 have bI := hS.out.kept HI4
 have hf := ik bI.wk 10
 go_wp2_with (go_at_call 95; go_must (refine hf.mono ?_); rintro e w8 ⟨rfl, dS, fT⟩)
 go_ret
 exact ⟨rfl, v, g, bI.work dS fT, (WS.of_below HI4).trans (WS.bD fT)⟩
theorem J3 (h : SW w b c t d p v g a m R P) (hk : PK P) (hlow : ¬ R.ah.till < 1) (hhi : 1099511627776 - P.now < R.ah.till) :
  Calls Tryz.prog 125 #[.pointer (some ⟨b, 0, none⟩), .pointer (some ⟨c, 0, none⟩)] w (au w b c t d p v g a m .nilFunc { R with rep := jQ 10, ok := false } P) := by
 have hS := Lib.hid h
 have hsub := fun (W : World) => AA 1099511627776 P.now W
 have hnw := hk.now
 obtain ⟨sb, hsb⟩ : ∃ sb, sb = 1099511627776 - P.now := ⟨_, rfl⟩
 rw [show hd (hd 1099511627776 - hd P.now) = sb by rw [hsb]; unfold hd; omega] at hsub
 obtain ⟨ty, hty⟩ : ∃ ty, R.ah.till = ty := ⟨_, rfl⟩
 rw [hty] at hlow hhi
 have d1 : decide (ty < 1) = false := decide_eq_false hlow
 have d2 : decide (ty > sb) = true := decide_eq_true (by omega)
 replace hhi := Lib.hid hhi
 replace hty := Lib.hid hty
 replace hsb := Lib.hid hsb
 clear h
 go_enter Tryz.func125, Tryz.ntmps125
 go_wp2_with fail
 refine Reg2.rd w 18 44 [[],[ae],[ae,ae],[ae,ae,ae],[ae,ae,ae,ae],[ae,ae,ae,ae,ae],[ae,ae,ae,ae,ae,ae],[ae,ae,ae,ae,ae,ae,ae],[ae,ae,ae,ae,ae,ae,ae,ae],[ae,ae,ae,ae,ae,ae,ae,ae,ae],[ae,ae,ae,ae,ae,ae,ae,ae,ae,ae],[ae,ae,ae,ae,ae,ae,ae,ae,ae,ae,ae],[ae,ae,ae,ae,ae,ae,ae,af,af,af,af,af],[ae,ae,ae,ae,ae,ae,ae,af,af,af,af,af,ae],[ae,ae,ae,ae,ae,ae,ae,af,af,af,af,af,ae,ae],[ae,ae,ae,ae,ae,ae,ae,af,af,af,af,af,ae,ae,ae],[ae,ae,ae,ae,ae,ae,ae,af,af,af,af,af,ae,ae,ae,ae],[ae,ae,ae,ae,ae,ae,ae,af,af,af,af,af,ae,ae,ae,ae,ae]] [0, 0, 0, 0, 1, 0, 0, 0, 0, 0, 0, 1, 0, 0, 0, 1, 1, 1] [.pure, .pure, .pure, .pure, .mU (.int .i64 ty), .pure, .pure, .pure, .pure, .pure, .pure, .mU (.int .i64 ty), .pure, .pure, .pure, .mU (.pointer (some ⟨p, 0, none⟩)), .mU (.int .i64 P.now), .mU (.int .i64 sb)] (by kernel_rfl) (by kernel_rfl) rfl rfl ⟨trivial, trivial, trivial, trivial, Reg2.tt, trivial, trivial, trivial, trivial, trivial, trivial, Reg2.tt, trivial, trivial, trivial, Reg2.tt, Reg2.tt, Reg2.tt, trivial⟩ ⟨rfl, rfl, rfl, Nat.le_refl _, fun _ _ => rfl⟩ ?_
 dsimp only [Reg2.mk, List.zip, List.zipWith, List.take]
 repeat (refine' Reg2.ai _ (by rfl) (fun wz => ?_) ?_; rotate_left; (go_simp; first | rfl | rw [if_neg (by omega)]); simp only [Act.put, xA, xB, xC]; (try simp only [xD]); (try simp only [xE]); (try simp only [id]))
 refine Reg2.pm (fun wz hI hF => ?_) (fun r4 => ?_) (by rfl)
 ·have q0 := (hS.out.kept hI).wk.at 8 (.int .i64 R.ah.till) rfl
  rw [hty.out] at q0
  go_wp2_with fail
  first | exact ⟨_, rfl, rfl, Reg2.Ext.refl _⟩ | exact ⟨_, rfl, ⟨(), rfl, trivial⟩, Reg2.Ext.refl _⟩
 simp only [Act.put, xA, xB, xC]; (try simp only [xD]); (try simp only [xE]); (try simp only [id])
 repeat (refine' Reg2.ai _ (by rfl) (fun wz => ?_) ?_; rotate_left; (go_simp; first | rfl | rw [if_neg (by omega)]); simp only [Act.put, xA, xB, xC]; (try simp only [xD]); (try simp only [xE]); (try simp only [id]))
 refine Reg2.pm (fun wz hI hF => ?_) (fun Mt => ?_) (by rfl)
 ·have q0 := (hS.out.kept hI).wk.at 8 (.int .i64 R.ah.till) rfl
  rw [hty.out] at q0
  go_wp2_with fail
  first | exact ⟨_, rfl, rfl, Reg2.Ext.refl _⟩ | exact ⟨_, rfl, ⟨(), rfl, trivial⟩, Reg2.Ext.refl _⟩
 simp only [Act.put, xA, xB, xC]; (try simp only [xD]); (try simp only [xE]); (try simp only [id])
 repeat (refine' Reg2.ai _ (by rfl) (fun wz => ?_) ?_; rotate_left; (go_simp; first | rfl | rw [if_neg (by omega)]); simp only [Act.put, xA, xB, xC]; (try simp only [xD]); (try simp only [xE]); (try simp only [id]))
 refine Reg2.pm (fun wz hI hF => ?_) (fun UF => ?_) (by rfl)
 ·have c0 := (hS.out.cw.kept hI).c2
  go_wp2_with fail
  first | exact ⟨_, rfl, rfl, Reg2.Ext.refl _⟩ | exact ⟨_, rfl, ⟨(), rfl, trivial⟩, Reg2.Ext.refl _⟩
 simp only [Act.put, xA, xB, xC]; (try simp only [xD]); (try simp only [xE]); (try simp only [id])
 refine Reg2.pm (fun wz hI hF => ?_) (fun r16 => ?_) (by rfl)
 ·go_wp2_with (go_at_call 25; go_must (refine (fP (hS.out.kept hI).cw).mono ?_); rintro e w' ⟨rfl, rfl⟩)
  first | exact ⟨_, rfl, rfl, Reg2.Ext.refl _⟩ | exact ⟨_, rfl, ⟨(), rfl, trivial⟩, Reg2.Ext.refl _⟩
 simp only [Act.put, xA, xB, xC]; (try simp only [xD]); (try simp only [xE]); (try simp only [id])
 refine Reg2.pm (fun wz hI hF => ?_) (fun SK => ?_) (by rfl)
 ·go_wp2_with (go_at_call 147; go_must (refine (hsub wz).mono ?_); rintro e w' ⟨rfl, rfl⟩)
  first | exact ⟨_, rfl, rfl, Reg2.Ext.refl _⟩ | exact ⟨_, rfl, ⟨(), rfl, trivial⟩, Reg2.Ext.refl _⟩
 simp only [Act.put, xA, xB, xC]; (try simp only [xD]); (try simp only [xE]); (try simp only [id])
 refine Reg2.aA ?_
 intro w4 HI4 _ dI
 clear dI
 dsimp only [List.drop]
 have bI := hS.out.kept HI4
 have hf := ik bI.wk 10
 go_wp2_with (go_at_call 95; go_must (refine hf.mono ?_); rintro e w8 ⟨rfl, dS, fT⟩)
 go_ret
 exact ⟨rfl, v, g, bI.work dS fT, (WS.of_below HI4).trans (WS.bD fT)⟩
theorem Hl (h : SW w b c t d p v g a m R P) (hk : PK P) (hlow : ¬ R.ah.till < 1) (hhi : ¬ 1099511627776 - P.now < R.ah.till) {L : Value} {a' : Nat} {m' : Int} {R' : Wk} {P' : Pg}
  (hfw : ∀ W, SW W b c t d p v g a m { R with target := P.now + R.ah.till } P → Calls Tryz.prog 148 #[.pointer (some ⟨b, 0, none⟩), .pointer (some ⟨c, 0, none⟩)] W (au W b c t d p v g a' m' L R' P')) :
  Calls Tryz.prog 125 #[.pointer (some ⟨b, 0, none⟩), .pointer (some ⟨c, 0, none⟩)] w (au w b c t d p v g a' m' L R' P') := by
 have hS := Lib.hid h
 have hsub := fun (W : World) => AA 1099511627776 P.now W
 have hnw := hk.now
 obtain ⟨sb, hsb⟩ : ∃ sb, sb = 1099511627776 - P.now := ⟨_, rfl⟩
 rw [show hd (hd 1099511627776 - hd P.now) = sb by rw [hsb]; unfold hd; omega] at hsub
 obtain ⟨ty, hty⟩ : ∃ ty, R.ah.till = ty := ⟨_, rfl⟩
 rw [hty] at hlow hhi hfw
 have d1 : decide (ty < 1) = false := decide_eq_false hlow
 have d2 : decide (ty > sb) = false := decide_eq_false (by omega)
 have wt : IntKind.i64.wrap (P.now + ty) = P.now + ty := by rw [IntKind.wrap_i64]; omega
 replace hhi := Lib.hid hhi
 replace hty := Lib.hid hty
 replace hsb := Lib.hid hsb
 clear h
 go_enter Tryz.func125, Tryz.ntmps125
 go_wp2_with fail
 refine Reg2.rd w 18 44 [[],[ae],[ae,ae],[ae,ae,ae],[ae,ae,ae,ae],[ae,ae,ae,ae,ae],[ae,ae,ae,ae,ae,ae],[ae,ae,ae,ae,ae,ae,ae],[ae,ae,ae,ae,ae,ae,ae,ae],[ae,ae,ae,ae,ae,ae,ae,ae,ae],[ae,ae,ae,ae,ae,ae,ae,ae,ae,ae],[ae,ae,ae,ae,ae,ae,ae,ae,ae,ae,ae],[ae,ae,ae,ae,ae,ae,ae,af,af,af,af,af],[ae,ae,ae,ae,ae,ae,ae,af,af,af,af,af,ae],[ae,ae,ae,ae,ae,ae,ae,af,af,af,af,af,ae,ae],[ae,ae,ae,ae,ae,ae,ae,af,af,af,af,af,ae,ae,ae],[ae,ae,ae,ae,ae,ae,ae,af,af,af,af,af,ae,ae,ae,ae],[ae,ae,ae,ae,ae,ae,ae,af,af,af,af,af,ae,ae,ae,ae,ae]] [0, 0, 0, 0, 1, 0, 0, 0, 0, 0, 0, 1, 0, 0, 0, 1, 1, 1] [.pure, .pure, .pure, .pure, .mU (.int .i64 ty), .pure, .pure, .pure, .pure, .pure, .pure, .mU (.int .i64 ty), .pure, .pure, .pure, .mU (.pointer (some ⟨p, 0, none⟩)), .mU (.int .i64 P.now), .mU (.int .i64 sb)] (by kernel_rfl) (by kernel_rfl) rfl rfl ⟨trivial, trivial, trivial, trivial, Reg2.tt, trivial, trivial, trivial, trivial, trivial, trivial, Reg2.tt, trivial, trivial, trivial, Reg2.tt, Reg2.tt, Reg2.tt, trivial⟩ ⟨rfl, rfl, rfl, Nat.le_refl _, fun _ _ => rfl⟩ ?_
 dsimp only [Reg2.mk, List.zip, List.zipWith, List.take]
 repeat (refine' Reg2.ai _ (by rfl) (fun wz => ?_) ?_; rotate_left; (go_simp; first | rfl | rw [if_neg (by omega)]); simp only [Act.put, xA, xB, xC]; (try simp only [xD]); (try simp only [xE]); (try simp only [id]))
 refine Reg2.pm (fun wz hI hF => ?_) (fun r4 => ?_) (by rfl)
 ·have q0 := (hS.out.kept hI).wk.at 8 (.int .i64 R.ah.till) rfl
  rw [hty.out] at q0
  go_wp2_with fail
  first | exact ⟨_, rfl, rfl, Reg2.Ext.refl _⟩ | exact ⟨_, rfl, ⟨(), rfl, trivial⟩, Reg2.Ext.refl _⟩
 simp only [Act.put, xA, xB, xC]; (try simp only [xD]); (try simp only [xE]); (try simp only [id])
 repeat (refine' Reg2.ai _ (by rfl) (fun wz => ?_) ?_; rotate_left; (go_simp; first | rfl | rw [if_neg (by omega)]); simp only [Act.put, xA, xB, xC]; (try simp only [xD]); (try simp only [xE]); (try simp only [id]))
 refine Reg2.pm (fun wz hI hF => ?_) (fun Mt => ?_) (by rfl)
 ·have q0 := (hS.out.kept hI).wk.at 8 (.int .i64 R.ah.till) rfl
  rw [hty.out] at q0
  go_wp2_with fail
  first | exact ⟨_, rfl, rfl, Reg2.Ext.refl _⟩ | exact ⟨_, rfl, ⟨(), rfl, trivial⟩, Reg2.Ext.refl _⟩
 simp only [Act.put, xA, xB, xC]; (try simp only [xD]); (try simp only [xE]); (try simp only [id])
 repeat (refine' Reg2.ai _ (by rfl) (fun wz => ?_) ?_; rotate_left; (go_simp; first | rfl | rw [if_neg (by omega)]); simp only [Act.put, xA, xB, xC]; (try simp only [xD]); (try simp only [xE]); (try simp only [id]))
 refine Reg2.pm (fun wz hI hF => ?_) (fun UF => ?_) (by rfl)
 ·have c0 := (hS.out.cw.kept hI).c2
  go_wp2_with fail
  first | exact ⟨_, rfl, rfl, Reg2.Ext.refl _⟩ | exact ⟨_, rfl, ⟨(), rfl, trivial⟩, Reg2.Ext.refl _⟩
 simp only [Act.put, xA, xB, xC]; (try simp only [xD]); (try simp only [xE]); (try simp only [id])
 refine Reg2.pm (fun wz hI hF => ?_) (fun r16 => ?_) (by rfl)
 ·go_wp2_with (go_at_call 25; go_must (refine (fP (hS.out.kept hI).cw).mono ?_); rintro e w' ⟨rfl, rfl⟩)
  first | exact ⟨_, rfl, rfl, Reg2.Ext.refl _⟩ | exact ⟨_, rfl, ⟨(), rfl, trivial⟩, Reg2.Ext.refl _⟩
 simp only [Act.put, xA, xB, xC]; (try simp only [xD]); (try simp only [xE]); (try simp only [id])
 refine Reg2.pm (fun wz hI hF => ?_) (fun SK => ?_) (by rfl)
 ·go_wp2_with (go_at_call 147; go_must (refine (hsub wz).mono ?_); rintro e w' ⟨rfl, rfl⟩)
  first | exact ⟨_, rfl, rfl, Reg2.Ext.refl _⟩ | exact ⟨_, rfl, ⟨(), rfl, trivial⟩, Reg2.Ext.refl _⟩
 simp only [Act.put, xA, xB, xC]; (try simp only [xD]); (try simp only [xE]); (try simp only [id])
 refine Reg2.aA ?_
 intro w4 HI4 _ dI
 clear dI
 dsimp only [List.drop]
 have bI := Lib.hid (hS.out.kept HI4)
 go_wp2_with fail
 refine Reg2.rd w4 12 44 [[],[af],[af,ae],[af,ae,ae],[af,ae,ae,ae],[af,ae,ae,ae,ae],[af,af,af,af,af,af],[af,af,af,af,af,af,ae],[af,af,af,af,af,af,ae,ae],[af,af,af,af,af,af,ae,ae,ae],[af,af,af,af,af,af,ae,ae,ae,ae],[af,ae,ae,ae,ae,ae,ae,ae,ae,ae,ae]] [0, 0, 0, 0, 1, 1, 0, 0, 0, 0, 1, 0] [.pure, .pure, .pure, .pure, .mU (.pointer (some ⟨p, 0, none⟩)), .mU (.int .i64 P.now), .pure, .pure, .pure, .pure, .mU (.int .i64 ty), .pure] (by kernel_rfl) (by kernel_rfl) rfl rfl ⟨trivial, trivial, trivial, trivial, Reg2.tt, Reg2.tt, trivial, trivial, trivial, trivial, Reg2.tt, trivial, trivial⟩ ⟨rfl, rfl, rfl, Nat.le_refl _, fun _ _ => rfl⟩ ?_
 dsimp only [Reg2.mk, List.zip, List.zipWith, List.take]
 repeat (refine' Reg2.ai _ (by rfl) (fun wz => ?_) ?_; rotate_left; (go_simp; first | rfl | rw [if_neg (by omega)]); simp only [Act.put, xA, xB, xC]; (try simp only [xD]); (try simp only [xE]); (try simp only [id]))
 refine Reg2.pm (fun wz hI hF => ?_) (fun r4 => ?_) (by rfl)
 ·have c0 := (bI.out.cw.kept hI).c2
  go_wp2_with fail
  first | exact ⟨_, rfl, rfl, Reg2.Ext.refl _⟩ | exact ⟨_, rfl, ⟨(), rfl, trivial⟩, Reg2.Ext.refl _⟩
 simp only [Act.put, xA, xB, xC]; (try simp only [xD]); (try simp only [xE]); (try simp only [id])
 refine Reg2.pm (fun wz hI hF => ?_) (fun r5 => ?_) (by rfl)
 ·go_wp2_with (go_at_call 25; go_must (refine (fP (bI.out.kept hI).cw).mono ?_); rintro e w' ⟨rfl, rfl⟩)
  first | exact ⟨_, rfl, rfl, Reg2.Ext.refl _⟩ | exact ⟨_, rfl, ⟨(), rfl, trivial⟩, Reg2.Ext.refl _⟩
 simp only [Act.put, xA, xB, xC]; (try simp only [xD]); (try simp only [xE]); (try simp only [id])
 repeat (refine' Reg2.ai _ (by rfl) (fun wz => ?_) ?_; rotate_left; (go_simp; first | rfl | rw [if_neg (by omega)]); simp only [Act.put, xA, xB, xC]; (try simp only [xD]); (try simp only [xE]); (try simp only [id]))
 refine Reg2.pm (fun wz hI hF => ?_) (fun wR => ?_) (by rfl)
 ·have q0 := (bI.out.kept hI).wk.at 8 (.int .i64 R.ah.till) rfl
  rw [hty.out] at q0
  go_wp2_with fail
  first | exact ⟨_, rfl, rfl, Reg2.Ext.refl _⟩ | exact ⟨_, rfl, ⟨(), rfl, trivial⟩, Reg2.Ext.refl _⟩
 simp only [Act.put, xA, xB, xC]; (try simp only [xD]); (try simp only [xE]); (try simp only [id])
 repeat (refine' Reg2.ai _ (by rfl) (fun wz => ?_) ?_; rotate_left; (go_simp; first | rfl | rw [if_neg (by omega)]); simp only [Act.put, xA, xB, xC]; (try simp only [xD]); (try simp only [xE]); (try simp only [id]))
 refine Reg2.aA ?_
 intro w6 GA _ dI
 clear dI
 dsimp only [List.drop]
 have eH := bI.out.kept GA
 have a23 := eH.wk.at 23 (.int .i64 R.target) rfl
 have f23 := eH.wk.free 23
 have gG := eH.work (eH.wk.target (P.now + ty)) (dw w6 23 (.int .i64 (P.now + ty)))
 have JM := (WS.of_below (HI4.trans (GA.mono HI4.size)) : WS w w6 b c t d p v g v g).trans (WS.bD (dw w6 23 (.int .i64 (P.now + ty))))
 have RB := hfw _ gG
 go_wp2_with fail
 go_at_call 148
 refine RB.mono ?_
 clear RB
 rintro e w8 ⟨rfl, v8, g8, gB, dS⟩
 have JJ := JM.trans dS
 go_wp2_with fail
 go_ret
 exact ⟨rfl, v8, g8, gB, JJ⟩
end
end Go.Proofs.YtnihdgcfamoplaaGreat

namespace Go.Proofs.YtnihdgcfamoplaaGreat
open Go.RowKit Go.Lib Go.Sort
section
variable {w : World} {b c t d p g a : Nat} {v : Value} {m : Int} {P : Pg} {M : Md} {R : Wk}
theorem yS (h : SW w b c t d p v g a m R P) (hq : R.ah.kind = 6) (e1 : Int) (he1 : e1 ≠ 0) (he : gz P.J R.ah.id = e1) :
  Calls Tryz.prog 101 #[.pointer (some ⟨b, 0, none⟩), .pointer (some ⟨c, 0, none⟩)] w (au w b c t d p v g a m .nilFunc { R with rep := jQ e1, ok := false } P) := by
 have zJ := bG
 obtain ⟨k, hk1⟩ : ∃ k, k = 10 := ⟨_, rfl⟩
 rw [← hk1] at zJ
 have hk0 : ¬ k = 0 := by omega
 have lY := ax (bH P.J R.ah.id)
 rw [← hk1] at lY
 replace hk1 := Lib.hid hk1
 have q0 := h.wk.at 0 (.int .i64 R.ah.kind) rfl
 rw [hq] at q0
 obtain ⟨y, hy⟩ : ∃ y, y = bH P.J R.ah.id := ⟨_, rfl⟩
 obtain ⟨e0, he0⟩ : ∃ e0, e0 = gz P.J R.ah.id := ⟨_, rfl⟩
 have hgo : Hid (∀ W, SW W b c t d p v g a m R P → Calls Tryz.prog 33 #[.pointer (some ⟨t, 0, none⟩), .int .i64 R.ah.id] W fun e w' => e = .returned (.tuple #[.agg (ag y).toArray, .int .i64 e0]) ∧ Gr W w') := fun W hW => by
  have := gq hW.cw.fe R.ah.id
  unfold gZ at this
  rw [← hy, ← he0] at this
  exact this
 rw [← he0] at he
 rw [← hy] at lY
 replace he := Lib.hid he
 have hS := Lib.hid h
 replace he0 := Lib.hid he0
 replace hy := Lib.hid hy
 replace hq := Lib.hid hq
 clear h
 go_enter Tryz.func101, Tryz.ntmps101
 go_wp2_with fail
 refine Reg2.qg 15 73 [[],[ae],[ae,ae],[ae,ae,ae],[af,af,af,af],[af,af,af,af,ae],[af,af,af,af,ae,ae],[af,af,af,af,ae,ae,ae],[af,af,af,af,ae,ae,ae,ae],[ae,ae,ae,ae,ae,ae,ae,ae,ae],[ae,ae,ae,ae,ae,ae,ae,ae,ae,ae],[ae,ae,ae,ae,ae,ae,ae,ae,ae,ae,ae],[ae,ae,ae,ae,ae,ae,ae,ae,ae,ae,ae,af],[af,af,af,af,af,af,af,af,af,af,af,af,af],[ae,ae,ae,ae,ae,ae,ae,ae,ae,ae,ae,ae,af,ae]] [0, 0, 0, 1, 0, 0, 0, 0, 1, 1, 0, 0, 0, 3, 3]
  [.pure, .pure, .pure, .mU (.pointer (some ⟨t, 0, none⟩)), .pure, .pure, .pure, .pure, .mU (.int .i64 R.ah.id), .mU (.tuple #[.agg (ag y).toArray, .int .i64 e0]), .pure, .pure, .pure, .major Nat 0 (fun k => .pointer (some ⟨k, 0, none⟩)), .major Unit () (fun _ => undef)]
  (fun W => Below w.heap.size w W) (il w y) (fun a b => Below w.heap.size a b) (by kernel_rfl) (by kernel_rfl) rfl rfl (fun vs a b h hs => il.ext h hs) ?_ ?_ ?_ ?_ ?_ ?_ ?_
 ·intro a b he hb; exact hb.trans (Below.mono he hb.size)
 ·intro a b he hb; exact hb.trans he
 ·exact ⟨trivial, trivial, trivial, ⟨fun _ _ _ _ _ => trivial, fun _ _ _ _ _ => trivial⟩, trivial, trivial, trivial, trivial, ⟨fun _ _ _ _ _ => trivial, fun _ _ _ _ _ => trivial⟩, ⟨fun _ _ _ _ _ => trivial, fun _ _ _ _ _ => trivial⟩, trivial, trivial, trivial, trivial, trivial, trivial⟩
 ·exact ⟨(fun h => nomatch h), (fun h => nomatch h), (fun h => nomatch h), (fun h => nomatch h), (fun h => nomatch h), (fun h => nomatch h), (fun h => nomatch h), (fun h => nomatch h), (fun h => nomatch h), (fun h => nomatch h), (fun h => nomatch h), (fun h => nomatch h), (fun h => nomatch h), (fun h => nomatch h), (fun _ _ => rfl), trivial⟩
 ·exact ⟨rfl, rfl, rfl, Nat.le_refl _, fun _ _ => rfl⟩
 ·exact ⟨⟨rfl, rfl, rfl, Nat.le_refl _, fun _ _ => rfl⟩, trivial⟩
 dsimp only [Reg2.mk, List.zip, List.zipWith, List.take]
 repeat (refine' Reg2.ai _ (by rfl) (fun wz => ?_) ?_; rotate_left; (go_simp; first | rfl | rw [if_neg (by omega)]); simp only [Act.put, xA, xB, xC]; (try simp only [xD]); (try simp only [xE]); (try simp only [id]))
 refine Reg2.pm (fun wz hI hF => ?_) (fun r3 => ?_) (by rfl)
 ·have c0 := (hS.out.kept hI).cw.c0
  go_wp2_with fail
  first | exact ⟨_, rfl, rfl, Reg2.Ext.refl _⟩ | exact ⟨_, rfl, ⟨(), rfl, trivial⟩, Reg2.Ext.refl _⟩
 simp only [Act.put, xA, xB, xC]; (try simp only [xD]); (try simp only [xE]); (try simp only [id])
 repeat (refine' Reg2.ai _ (by rfl) (fun wz => ?_) ?_; rotate_left; (go_simp; first | rfl | rw [if_neg (by omega)]); simp only [Act.put, xA, xB, xC]; (try simp only [xD]); (try simp only [xE]); (try simp only [id]))
 refine Reg2.pm (fun wz hI hF => ?_) (fun r8 => ?_) (by rfl)
 ·have q0 := (hS.out.kept hI).wk.at 1 (.int .i64 R.ah.id) rfl
  go_wp2_with fail
  first | exact ⟨_, rfl, rfl, Reg2.Ext.refl _⟩ | exact ⟨_, rfl, ⟨(), rfl, trivial⟩, Reg2.Ext.refl _⟩
 simp only [Act.put, xA, xB, xC]; (try simp only [xD]); (try simp only [xE]); (try simp only [id])
 refine Reg2.pm (fun wz hI hF => ?_) (fun r9 => ?_) (by rfl)
 ·go_wp2_with (go_at_call 33; go_must (refine (hgo.out wz (hS.out.kept hI)).mono ?_); rintro e w' ⟨rfl, hg5⟩; have hb5 := hg5.below)
  first | exact ⟨_, rfl, ⟨(), rfl, trivial⟩, hb5⟩ | exact ⟨_, rfl, rfl, hb5⟩
 simp only [Act.put, xA, xB, xC]; (try simp only [xD]); (try simp only [xE]); (try simp only [id])
 repeat (refine' Reg2.ai _ (by rfl) (fun wz => ?_) ?_; rotate_left; (go_simp; first | rfl | rw [if_neg (by omega)]); simp only [Act.put, xA, xB, xC]; (try simp only [xD]); (try simp only [xE]); (try simp only [id]))
 refine Reg2.pj (fun wz hI hS hF => ?_) (fun GR => ?_) (by rfl)
 ·go_wp2_with fail
  exact ⟨_, rfl, ⟨⟨_, rfl⟩, il.alloc hS⟩, (Below.refl _ _).alloc hI.size _⟩
 simp only [Act.put, xA, xB, xC]; (try simp only [xD]); (try simp only [xE]); (try simp only [id])
 refine Reg2.pj (fun wz hI hS hF => ?_) (fun JC => ?_) (by rfl)
 ·obtain ⟨hz, hge⟩ := il.zero hS
  have yR := nH (x := y) hz
  have hfin := il.store hS
  have hbw : Below w.heap.size wz (wz.setRow GR (ag y).toArray) := qa (Below.refl _ _) hge _
  generalize ag y = cY at *
  go_wp2_with fail
  exact ⟨_, rfl, ⟨⟨(), rfl⟩, hfin⟩, hbw⟩
 simp only [Act.put, xA, xB, xC]; (try simp only [xD]); (try simp only [xE]); (try simp only [id])
 refine Reg2.aA ?_
 intro w7 jN rq jW
 clear jW rq
 dsimp only [List.drop]
 have gG := hS.out.kept jN
 have d3 : (e0 != 0) = true := by rw [he.out]; simp [he1]
 have hf := ik gG.wk e0
 go_wp2_with (go_at_call 95; go_must (refine hf.mono ?_); rintro e w8 ⟨rfl, dS, fT⟩)
 go_ret
 have e9 := he.out
 clear he
 subst e9
 exact ⟨rfl, v, g, gG.work dS fT, (WS.of_below jN).trans (WS.bD fT)⟩
theorem AR (h : SW w b c t d p v g a m R P) (hq : R.ah.kind = 6) (he : gz P.J R.ah.id = 0) :
  Calls Tryz.prog 101 #[.pointer (some ⟨b, 0, none⟩), .pointer (some ⟨c, 0, none⟩)] w (au w b c t d p v g a m .nilFunc { R with rep := iG (bH P.J R.ah.id) } P) := by
 have zJ := bG
 obtain ⟨k, hk1⟩ : ∃ k, k = 10 := ⟨_, rfl⟩
 rw [← hk1] at zJ
 have hk0 : ¬ k = 0 := by omega
 have lY := ax (bH P.J R.ah.id)
 rw [← hk1] at lY
 replace hk1 := Lib.hid hk1
 have q0 := h.wk.at 0 (.int .i64 R.ah.kind) rfl
 rw [hq] at q0
 obtain ⟨y, hy⟩ : ∃ y, y = bH P.J R.ah.id := ⟨_, rfl⟩
 obtain ⟨e0, he0⟩ : ∃ e0, e0 = gz P.J R.ah.id := ⟨_, rfl⟩
 have hgo : Hid (∀ W, SW W b c t d p v g a m R P → Calls Tryz.prog 33 #[.pointer (some ⟨t, 0, none⟩), .int .i64 R.ah.id] W fun e w' => e = .returned (.tuple #[.agg (ag y).toArray, .int .i64 e0]) ∧ Gr W w') := fun W hW => by
  have := gq hW.cw.fe R.ah.id
  unfold gZ at this
  rw [← hy, ← he0] at this
  exact this
 rw [← he0] at he
 rw [← hy] at lY
 replace he := Lib.hid he
 have hS := Lib.hid h
 replace he0 := Lib.hid he0
 replace hy := Lib.hid hy
 replace hq := Lib.hid hq
 clear h
 go_enter Tryz.func101, Tryz.ntmps101
 go_wp2_with fail
 refine Reg2.qg 15 73 [[],[ae],[ae,ae],[ae,ae,ae],[af,af,af,af],[af,af,af,af,ae],[af,af,af,af,ae,ae],[af,af,af,af,ae,ae,ae],[af,af,af,af,ae,ae,ae,ae],[ae,ae,ae,ae,ae,ae,ae,ae,ae],[ae,ae,ae,ae,ae,ae,ae,ae,ae,ae],[ae,ae,ae,ae,ae,ae,ae,ae,ae,ae,ae],[ae,ae,ae,ae,ae,ae,ae,ae,ae,ae,ae,af],[af,af,af,af,af,af,af,af,af,af,af,af,af],[ae,ae,ae,ae,ae,ae,ae,ae,ae,ae,ae,ae,af,ae]] [0, 0, 0, 1, 0, 0, 0, 0, 1, 1, 0, 0, 0, 3, 3]
  [.pure, .pure, .pure, .mU (.pointer (some ⟨t, 0, none⟩)), .pure, .pure, .pure, .pure, .mU (.int .i64 R.ah.id), .mU (.tuple #[.agg (ag y).toArray, .int .i64 e0]), .pure, .pure, .pure, .major Nat 0 (fun k => .pointer (some ⟨k, 0, none⟩)), .major Unit () (fun _ => undef)]
  (fun W => Below w.heap.size w W) (il w y) (fun a b => Below w.heap.size a b) (by kernel_rfl) (by kernel_rfl) rfl rfl (fun vs a b h hs => il.ext h hs) ?_ ?_ ?_ ?_ ?_ ?_ ?_
 ·intro a b he hb; exact hb.trans (Below.mono he hb.size)
 ·intro a b he hb; exact hb.trans he
 ·exact ⟨trivial, trivial, trivial, ⟨fun _ _ _ _ _ => trivial, fun _ _ _ _ _ => trivial⟩, trivial, trivial, trivial, trivial, ⟨fun _ _ _ _ _ => trivial, fun _ _ _ _ _ => trivial⟩, ⟨fun _ _ _ _ _ => trivial, fun _ _ _ _ _ => trivial⟩, trivial, trivial, trivial, trivial, trivial, trivial⟩
 ·exact ⟨(fun h => nomatch h), (fun h => nomatch h), (fun h => nomatch h), (fun h => nomatch h), (fun h => nomatch h), (fun h => nomatch h), (fun h => nomatch h), (fun h => nomatch h), (fun h => nomatch h), (fun h => nomatch h), (fun h => nomatch h), (fun h => nomatch h), (fun h => nomatch h), (fun h => nomatch h), (fun _ _ => rfl), trivial⟩
 ·exact ⟨rfl, rfl, rfl, Nat.le_refl _, fun _ _ => rfl⟩
 ·exact ⟨⟨rfl, rfl, rfl, Nat.le_refl _, fun _ _ => rfl⟩, trivial⟩
 dsimp only [Reg2.mk, List.zip, List.zipWith, List.take]
 repeat (refine' Reg2.ai _ (by rfl) (fun wz => ?_) ?_; rotate_left; (go_simp; first | rfl | rw [if_neg (by omega)]); simp only [Act.put, xA, xB, xC]; (try simp only [xD]); (try simp only [xE]); (try simp only [id]))
 refine Reg2.pm (fun wz hI hF => ?_) (fun r3 => ?_) (by rfl)
 ·have c0 := (hS.out.kept hI).cw.c0
  go_wp2_with fail
  first | exact ⟨_, rfl, rfl, Reg2.Ext.refl _⟩ | exact ⟨_, rfl, ⟨(), rfl, trivial⟩, Reg2.Ext.refl _⟩
 simp only [Act.put, xA, xB, xC]; (try simp only [xD]); (try simp only [xE]); (try simp only [id])
 repeat (refine' Reg2.ai _ (by rfl) (fun wz => ?_) ?_; rotate_left; (go_simp; first | rfl | rw [if_neg (by omega)]); simp only [Act.put, xA, xB, xC]; (try simp only [xD]); (try simp only [xE]); (try simp only [id]))
 refine Reg2.pm (fun wz hI hF => ?_) (fun r8 => ?_) (by rfl)
 ·have q0 := (hS.out.kept hI).wk.at 1 (.int .i64 R.ah.id) rfl
  go_wp2_with fail
  first | exact ⟨_, rfl, rfl, Reg2.Ext.refl _⟩ | exact ⟨_, rfl, ⟨(), rfl, trivial⟩, Reg2.Ext.refl _⟩
 simp only [Act.put, xA, xB, xC]; (try simp only [xD]); (try simp only [xE]); (try simp only [id])
 refine Reg2.pm (fun wz hI hF => ?_) (fun r9 => ?_) (by rfl)
 ·go_wp2_with (go_at_call 33; go_must (refine (hgo.out wz (hS.out.kept hI)).mono ?_); rintro e w' ⟨rfl, hg5⟩; have hb5 := hg5.below)
  first | exact ⟨_, rfl, ⟨(), rfl, trivial⟩, hb5⟩ | exact ⟨_, rfl, rfl, hb5⟩
 simp only [Act.put, xA, xB, xC]; (try simp only [xD]); (try simp only [xE]); (try simp only [id])
 repeat (refine' Reg2.ai _ (by rfl) (fun wz => ?_) ?_; rotate_left; (go_simp; first | rfl | rw [if_neg (by omega)]); simp only [Act.put, xA, xB, xC]; (try simp only [xD]); (try simp only [xE]); (try simp only [id]))
 refine Reg2.pj (fun wz hI hS hF => ?_) (fun GR => ?_) (by rfl)
 ·go_wp2_with fail
  exact ⟨_, rfl, ⟨⟨_, rfl⟩, il.alloc hS⟩, (Below.refl _ _).alloc hI.size _⟩
 simp only [Act.put, xA, xB, xC]; (try simp only [xD]); (try simp only [xE]); (try simp only [id])
 refine Reg2.pj (fun wz hI hS hF => ?_) (fun JC => ?_) (by rfl)
 ·obtain ⟨hz, hge⟩ := il.zero hS
  have yR := nH (x := y) hz
  have hfin := il.store hS
  have hbw : Below w.heap.size wz (wz.setRow GR (ag y).toArray) := qa (Below.refl _ _) hge _
  generalize ag y = cY at *
  go_wp2_with fail
  exact ⟨_, rfl, ⟨⟨(), rfl⟩, hfin⟩, hbw⟩
 simp only [Act.put, xA, xB, xC]; (try simp only [xD]); (try simp only [xE]); (try simp only [id])
 refine Reg2.aA ?_
 intro w7 jN rq jW
 clear jW rq
 dsimp only [List.drop]
 have gG := hS.out.kept jN
 have d3 : (e0 != 0) = false := by rw [he.out]; rfl
 have q1 := gG.wk.at 1 (.int .i64 R.ah.id) rfl
 have ht := nA gG R.ah.id
 go_wp2_with (go_at_call 114; go_must (refine ht.mono ?_); rintro e w8 ⟨rfl, dS, fT⟩)
 go_ret
 exact ⟨rfl, v, g, gG.work dS fT, (WS.of_below jN).trans (WS.bD fT)⟩
theorem J4 (h : SW w b c t d p v g a m R P) (hk : PK P) (hq : R.ah.kind = 10) :
  Calls Tryz.prog 101 #[.pointer (some ⟨b, 0, none⟩), .pointer (some ⟨c, 0, none⟩)] w (au w b c t d p v g a m .nilFunc { R with rep := ⟨0, 0, 0, 0, 0, 0, (aQ (gT P.T) 64 : Int), (aQ (bQ P.T) 64 : Int), (aQ (fun i => bS P.T i && !bQ P.T i) 64 : Int)⟩ } P) := by
 have q0 := h.wk.at 0 (.int .i64 R.ah.kind) rfl
 rw [hq] at q0
 replace hq := Lib.hid hq
 have zY := uO
 obtain ⟨k9, bW⟩ : ∃ k, k = 9 := ⟨_, rfl⟩
 rw [← bW] at zY
 have hk0 : ¬ k9 = 0 := by omega
 have cc := h.cw.c1
 have hco := F6 h.cw.nodes hk.qG
 have hth := fun (x y z : Int) (W : World) => xk x y z W
 obtain ⟨v0, hv0⟩ : ∃ x : Int, x = (aQ (gT P.T) 64 : Int) := ⟨_, rfl⟩
 obtain ⟨v1, hv1⟩ : ∃ x : Int, x = (aQ (bQ P.T) 64 : Int) := ⟨_, rfl⟩
 obtain ⟨v2, hv2⟩ : ∃ x : Int, x = (aQ (fun i => bS P.T i && !bQ P.T i) 64 : Int) := ⟨_, rfl⟩
 rw [← hv0, ← hv1, ← hv2] at hco ⊢
 replace hv0 := Lib.hid hv0
 replace hv1 := Lib.hid hv1
 replace hv2 := Lib.hid hv2
 have hS := Lib.hid h
 clear h
 go_enter Tryz.func101, Tryz.ntmps101
 go_wp2_with fail
 go_at_call 116
 refine hco.mono ?_
 clear hco
 rintro e w1 ⟨rfl, mm, hw1⟩
 have hb1 : Below w.heap.size w w1 := by rw [hw1]; exact below_drewN (Below.refl _ _) _
 replace hw1 := Lib.hid hw1
 have hS1 := hS.out.kept hb1
 go_wp2_with fail
 go_at_call 115
 refine (hth _ _ _ w1).mono ?_
 clear hth
 rintro e w2 ⟨rfl, hb2⟩
 have hS2 := hS1.kept hb2
 obtain ⟨y, hy⟩ : ∃ y : Ry, y = ⟨0, 0, 0, 0, 0, 0, v0, v1, v2⟩ := ⟨_, rfl⟩
 rw [← hy]
 replace hy := Lib.hid hy
 obtain ⟨st, hW3⟩ := hS2.wk.Ez y
 have lY := jd y
 rw [← bW] at lY
 replace bW := Lib.hid bW
 have Hm := hS2.work hW3 (cz w2 _)
 have hfin := ((WS.of_below (hb1.trans (hb2.mono hb1.size)) : WS w w2 b c t d p v g v g)).trans (WS.bD (cz w2 (gm { R with rep := y }).toArray))
 generalize gm { R with rep := y } = W2 at *
 generalize bU y = cY at *
 go_wp2_with fail
 go_ret
 have ey := hy.out
 clear hy
 subst ey
 exact ⟨rfl, v, g, Hm, hfin⟩
theorem J5 (h : SW w b c t d p v g a m R P) (hk : PK P) (hq : R.ah.kind = 11) :
  Calls Tryz.prog 101 #[.pointer (some ⟨b, 0, none⟩), .pointer (some ⟨c, 0, none⟩)] w (au w b c t d p v g a m .nilFunc { R with rep := ⟨0, 0, 0, 0, 0, 0, (cnt 1 P.J : Int), (cnt 2 P.J : Int), (cnt 3 P.J : Int)⟩ } P) := by
 have q0 := h.wk.at 0 (.int .i64 R.ah.kind) rfl
 rw [hq] at q0
 replace hq := Lib.hid hq
 have zY := uO
 obtain ⟨k9, bW⟩ : ∃ k, k = 9 := ⟨_, rfl⟩
 rw [← bW] at zY
 have hk0 : ¬ k9 = 0 := by omega
 have cc := h.cw.c0
 have hco := zT h.cw.fe (by have := hk.few; omega)
 have hth := fun (x y z : Int) (W : World) => xk x y z W
 obtain ⟨v0, hv0⟩ : ∃ x : Int, x = (cnt 1 P.J : Int) := ⟨_, rfl⟩
 obtain ⟨v1, hv1⟩ : ∃ x : Int, x = (cnt 2 P.J : Int) := ⟨_, rfl⟩
 obtain ⟨v2, hv2⟩ : ∃ x : Int, x = (cnt 3 P.J : Int) := ⟨_, rfl⟩
 rw [← hv0, ← hv1, ← hv2] at hco ⊢
 replace hv0 := Lib.hid hv0
 replace hv1 := Lib.hid hv1
 replace hv2 := Lib.hid hv2
 have hS := Lib.hid h
 clear h
 go_enter Tryz.func101, Tryz.ntmps101
 go_wp2_with fail
 go_at_call 117
 refine hco.mono ?_
 clear hco
 rintro e w1 ⟨rfl, hb1⟩
 have hS1 := hS.out.kept hb1
 go_wp2_with fail
 go_at_call 115
 refine (hth _ _ _ w1).mono ?_
 clear hth
 rintro e w2 ⟨rfl, hb2⟩
 have hS2 := hS1.kept hb2
 obtain ⟨y, hy⟩ : ∃ y : Ry, y = ⟨0, 0, 0, 0, 0, 0, v0, v1, v2⟩ := ⟨_, rfl⟩
 rw [← hy]
 replace hy := Lib.hid hy
 obtain ⟨st, hW3⟩ := hS2.wk.Ez y
 have lY := jd y
 rw [← bW] at lY
 replace bW := Lib.hid bW
 have Hm := hS2.work hW3 (cz w2 _)
 have hfin := ((WS.of_below (hb1.trans (hb2.mono hb1.size)) : WS w w2 b c t d p v g v g)).trans (WS.bD (cz w2 (gm { R with rep := y }).toArray))
 generalize gm { R with rep := y } = W2 at *
 generalize bU y = cY at *
 go_wp2_with fail
 go_ret
 have ey := hy.out
 clear hy
 subst ey
 exact ⟨rfl, v, g, Hm, hfin⟩
theorem Ho (h : SW w b c t d p v g a m R P) (ha : a ≤ 1000) (hq : R.ah.kind = 12) :
  Calls Tryz.prog 101 #[.pointer (some ⟨b, 0, none⟩), .pointer (some ⟨c, 0, none⟩)] w (au w b c t d p v g a m .nilFunc { R with rep := ⟨0, 0, 0, P.now, 0, 0, P.f P.now, 0, 0⟩ } P) := by
 have q0 := h.wk.at 0 (.int .i64 R.ah.kind) rfl
 rw [hq] at q0
 replace hq := Lib.hid hq
 have hc := C9 h ha
 go_enter Tryz.func101, Tryz.ntmps101
 go_wp2_with (go_at_call 118; go_must (refine hc.mono ?_); rintro e w8 ⟨rfl, v8, g8, gB, dS⟩)
 go_ret
 exact ⟨rfl, v8, g8, gB, dS⟩
theorem BJ (h : SW w b c t d p v g a m R P) (hc : P.cl = true) :
  Calls Tryz.prog 83 #[.pointer (some ⟨b, 0, none⟩), .pointer (some ⟨c, 0, none⟩)] w (au w b c t d p v g a m .nilFunc { R with rep := jQ 12, ok := false } P) := by
 have hcl := iT h.cw
 rw [hc] at hcl
 have hf := ik h.wk 12
 go_enter Tryz.func83, Tryz.ntmps83
 go_wp2_with (first | (go_at_call 21; go_must (refine hcl.mono ?_); rintro e w' ⟨rfl, rfl⟩) | (go_at_call 95; go_must (refine hf.mono ?_); rintro e w8 ⟨rfl, dS, fT⟩))
 go_ret
 exact ⟨rfl, v, g, h.work dS fT, WS.bD fT⟩
theorem Hq (h : SW w b c t d p v g a m R P) (hc : P.cl = false) (hq : ¬ (1 ≤ R.ah.kind ∧ R.ah.kind ≤ 13)) :
  Calls Tryz.prog 83 #[.pointer (some ⟨b, 0, none⟩), .pointer (some ⟨c, 0, none⟩)] w (au w b c t d p v g a m .nilFunc { R with rep := jQ 4, ok := false } P) := by
 have hcl := iT h.cw
 rw [hc] at hcl
 have hf := ik h.wk 4
 have q0 := h.wk.at 0 (.int .i64 R.ah.kind) rfl
 have his := AJ R.ah.kind w
 rw [show (decide (1 ≤ R.ah.kind) && decide (R.ah.kind ≤ 13)) = false by rw [Bool.and_eq_false_iff, decide_eq_false_iff_not, decide_eq_false_iff_not]; omega] at his
 generalize R.ah.kind = kk at *
 replace hq := Lib.hid hq
 go_enter Tryz.func83, Tryz.ntmps83
 go_wp2_with (first | (go_at_call 21; go_must (refine hcl.mono ?_); rintro e w' ⟨rfl, rfl⟩) | (go_at_call 48; go_must (refine his.mono ?_); rintro e w' ⟨rfl, rfl⟩) | (go_at_call 95; go_must (refine hf.mono ?_); rintro e w8 ⟨rfl, dS, fT⟩))
 go_ret
 exact ⟨rfl, v, g, h.work dS fT, WS.bD fT⟩
theorem Hr (h : SW w b c t d p v g a m R P) (hc : P.cl = false) (hq : 1 ≤ R.ah.kind ∧ R.ah.kind ≤ 13) (hr : jl R.ah.kind = true) {L : Value} {a' : Nat} {m' : Int} {R' : Wk} {P' : Pg}
  (hn : Calls Tryz.prog 101 #[.pointer (some ⟨b, 0, none⟩), .pointer (some ⟨c, 0, none⟩)] w (au w b c t d p v g a' m' L R' P')) :
  Calls Tryz.prog 83 #[.pointer (some ⟨b, 0, none⟩), .pointer (some ⟨c, 0, none⟩)] w (au w b c t d p v g a' m' L R' P') := by
 have hcl := iT h.cw
 rw [hc] at hcl
 have q0 := h.wk.at 0 (.int .i64 R.ah.kind) rfl
 have his := AJ R.ah.kind w
 rw [show (decide (1 ≤ R.ah.kind) && decide (R.ah.kind ≤ 13)) = true by rw [decide_eq_true hq.1, decide_eq_true hq.2]; rfl] at his
 have hre := CU R.ah.kind w
 rw [hr] at hre
 generalize R.ah.kind = kk at *
 replace hq := Lib.hid hq
 replace hr := Lib.hid hr
 go_enter Tryz.func83, Tryz.ntmps83
 go_wp2_with (first | (go_at_call 21; go_must (refine hcl.mono ?_); rintro e w' ⟨rfl, rfl⟩) | (go_at_call 48; go_must (refine his.mono ?_); rintro e w' ⟨rfl, rfl⟩) | (go_at_call 100; go_must (refine hre.mono ?_); rintro e w' ⟨rfl, rfl⟩) | (go_at_call 101; go_must (refine hn.mono ?_); rintro e w8 ⟨rfl, v8, g8, gB, dS⟩))
 go_ret
 exact ⟨rfl, v8, g8, gB, dS⟩
theorem fK (h : SW w b c t d p v g a m R P) (hc : P.cl = false) (hq : 1 ≤ R.ah.kind ∧ R.ah.kind ≤ 13) (hr : jl R.ah.kind = false) {L : Value} {a' : Nat} {m' : Int} {R' : Wk} {P' : Pg}
  (hn : Calls Tryz.prog 102 #[.pointer (some ⟨b, 0, none⟩), .pointer (some ⟨c, 0, none⟩)] w (au w b c t d p v g a' m' L R' P')) :
  Calls Tryz.prog 83 #[.pointer (some ⟨b, 0, none⟩), .pointer (some ⟨c, 0, none⟩)] w (au w b c t d p v g a' m' L R' P') := by
 have hcl := iT h.cw
 rw [hc] at hcl
 have q0 := h.wk.at 0 (.int .i64 R.ah.kind) rfl
 have his := AJ R.ah.kind w
 rw [show (decide (1 ≤ R.ah.kind) && decide (R.ah.kind ≤ 13)) = true by rw [decide_eq_true hq.1, decide_eq_true hq.2]; rfl] at his
 have hre := CU R.ah.kind w
 rw [hr] at hre
 generalize R.ah.kind = kk at *
 replace hq := Lib.hid hq
 replace hr := Lib.hid hr
 go_enter Tryz.func83, Tryz.ntmps83
 go_wp2_with (first | (go_at_call 21; go_must (refine hcl.mono ?_); rintro e w' ⟨rfl, rfl⟩) | (go_at_call 48; go_must (refine his.mono ?_); rintro e w' ⟨rfl, rfl⟩) | (go_at_call 100; go_must (refine hre.mono ?_); rintro e w' ⟨rfl, rfl⟩) | (go_at_call 102; go_must (refine hn.mono ?_); rintro e w8 ⟨rfl, v8, g8, gB, dS⟩))
 go_ret
 exact ⟨rfl, v8, g8, gB, dS⟩
theorem M0 (h : SW w b c t d p v g a m R P) (hq : R.ah.kind = 1) {L : Value} {a' : Nat} {m' : Int} {R' : Wk} {P' : Pg}
  (hn : Calls Tryz.prog 119 #[.pointer (some ⟨b, 0, none⟩), .pointer (some ⟨c, 0, none⟩)] w (au w b c t d p v g a' m' L R' P')) :
  Calls Tryz.prog 102 #[.pointer (some ⟨b, 0, none⟩), .pointer (some ⟨c, 0, none⟩)] w (au w b c t d p v g a' m' L R' P') := by
 have q0 := h.wk.at 0 (.int .i64 R.ah.kind) rfl
 rw [hq] at q0
 replace hq := Lib.hid hq
 go_enter Tryz.func102, Tryz.ntmps102
 go_wp2_with (go_at_call 119; go_must (refine hn.mono ?_); rintro e w8 ⟨rfl, v8, g8, gB, dS⟩)
 go_ret
 exact ⟨rfl, v8, g8, gB, dS⟩
theorem M4 (h : SW w b c t d p v g a m R P) (hq : R.ah.kind = 2) {L : Value} {a' : Nat} {m' : Int} {R' : Wk} {P' : Pg}
  (hn : Calls Tryz.prog 120 #[.pointer (some ⟨b, 0, none⟩), .pointer (some ⟨c, 0, none⟩), .int .i64 5] w (au w b c t d p v g a' m' L R' P')) :
  Calls Tryz.prog 102 #[.pointer (some ⟨b, 0, none⟩), .pointer (some ⟨c, 0, none⟩)] w (au w b c t d p v g a' m' L R' P') := by
 have q0 := h.wk.at 0 (.int .i64 R.ah.kind) rfl
 rw [hq] at q0
 replace hq := Lib.hid hq
 go_enter Tryz.func102, Tryz.ntmps102
 go_wp2_with (go_at_call 120; go_must (refine hn.mono ?_); rintro e w8 ⟨rfl, v8, g8, gB, dS⟩)
 go_ret
 exact ⟨rfl, v8, g8, gB, dS⟩
theorem M5 (h : SW w b c t d p v g a m R P) (hq : R.ah.kind = 5) {L : Value} {a' : Nat} {m' : Int} {R' : Wk} {P' : Pg}
  (hn : Calls Tryz.prog 120 #[.pointer (some ⟨b, 0, none⟩), .pointer (some ⟨c, 0, none⟩), .int .i64 4] w (au w b c t d p v g a' m' L R' P')) :
  Calls Tryz.prog 102 #[.pointer (some ⟨b, 0, none⟩), .pointer (some ⟨c, 0, none⟩)] w (au w b c t d p v g a' m' L R' P') := by
 have q0 := h.wk.at 0 (.int .i64 R.ah.kind) rfl
 rw [hq] at q0
 replace hq := Lib.hid hq
 go_enter Tryz.func102, Tryz.ntmps102
 go_wp2_with (go_at_call 120; go_must (refine hn.mono ?_); rintro e w8 ⟨rfl, v8, g8, gB, dS⟩)
 go_ret
 exact ⟨rfl, v8, g8, gB, dS⟩
theorem M6 (h : SW w b c t d p v g a m R P) (hq : R.ah.kind = 3) {L : Value} {a' : Nat} {m' : Int} {R' : Wk} {P' : Pg}
  (hn : Calls Tryz.prog 121 #[.pointer (some ⟨b, 0, none⟩), .pointer (some ⟨c, 0, none⟩)] w (au w b c t d p v g a' m' L R' P')) :
  Calls Tryz.prog 102 #[.pointer (some ⟨b, 0, none⟩), .pointer (some ⟨c, 0, none⟩)] w (au w b c t d p v g a' m' L R' P') := by
 have q0 := h.wk.at 0 (.int .i64 R.ah.kind) rfl
 rw [hq] at q0
 replace hq := Lib.hid hq
 go_enter Tryz.func102, Tryz.ntmps102
 go_wp2_with (go_at_call 121; go_must (refine hn.mono ?_); rintro e w8 ⟨rfl, v8, g8, gB, dS⟩)
 go_ret
 exact ⟨rfl, v8, g8, gB, dS⟩
theorem M7 (h : SW w b c t d p v g a m R P) (hq : R.ah.kind = 4) {L : Value} {a' : Nat} {m' : Int} {R' : Wk} {P' : Pg}
  (hn : Calls Tryz.prog 122 #[.pointer (some ⟨b, 0, none⟩), .pointer (some ⟨c, 0, none⟩)] w (au w b c t d p v g a' m' L R' P')) :
  Calls Tryz.prog 102 #[.pointer (some ⟨b, 0, none⟩), .pointer (some ⟨c, 0, none⟩)] w (au w b c t d p v g a' m' L R' P') := by
 have q0 := h.wk.at 0 (.int .i64 R.ah.kind) rfl
 rw [hq] at q0
 replace hq := Lib.hid hq
 go_enter Tryz.func102, Tryz.ntmps102
 go_wp2_with (go_at_call 122; go_must (refine hn.mono ?_); rintro e w8 ⟨rfl, v8, g8, gB, dS⟩)
 go_ret
 exact ⟨rfl, v8, g8, gB, dS⟩
theorem M8 (h : SW w b c t d p v g a m R P) (hq : R.ah.kind = 7) {L : Value} {a' : Nat} {m' : Int} {R' : Wk} {P' : Pg}
  (hn : Calls Tryz.prog 123 #[.pointer (some ⟨b, 0, none⟩), .pointer (some ⟨c, 0, none⟩)] w (au w b c t d p v g a' m' L R' P')) :
  Calls Tryz.prog 102 #[.pointer (some ⟨b, 0, none⟩), .pointer (some ⟨c, 0, none⟩)] w (au w b c t d p v g a' m' L R' P') := by
 have q0 := h.wk.at 0 (.int .i64 R.ah.kind) rfl
 rw [hq] at q0
 replace hq := Lib.hid hq
 go_enter Tryz.func102, Tryz.ntmps102
 go_wp2_with (go_at_call 123; go_must (refine hn.mono ?_); rintro e w8 ⟨rfl, v8, g8, gB, dS⟩)
 go_ret
 exact ⟨rfl, v8, g8, gB, dS⟩
theorem M9 (h : SW w b c t d p v g a m R P) (hq : R.ah.kind = 8) {L : Value} {a' : Nat} {m' : Int} {R' : Wk} {P' : Pg}
  (hn : Calls Tryz.prog 124 #[.pointer (some ⟨b, 0, none⟩), .pointer (some ⟨c, 0, none⟩)] w (au w b c t d p v g a' m' L R' P')) :
  Calls Tryz.prog 102 #[.pointer (some ⟨b, 0, none⟩), .pointer (some ⟨c, 0, none⟩)] w (au w b c t d p v g a' m' L R' P') := by
 have q0 := h.wk.at 0 (.int .i64 R.ah.kind) rfl
 rw [hq] at q0
 replace hq := Lib.hid hq
 go_enter Tryz.func102, Tryz.ntmps102
 go_wp2_with (go_at_call 124; go_must (refine hn.mono ?_); rintro e w8 ⟨rfl, v8, g8, gB, dS⟩)
 go_ret
 exact ⟨rfl, v8, g8, gB, dS⟩
theorem Na (h : SW w b c t d p v g a m R P) (hq : R.ah.kind = 9) {L : Value} {a' : Nat} {m' : Int} {R' : Wk} {P' : Pg}
  (hn : Calls Tryz.prog 125 #[.pointer (some ⟨b, 0, none⟩), .pointer (some ⟨c, 0, none⟩)] w (au w b c t d p v g a' m' L R' P')) :
  Calls Tryz.prog 102 #[.pointer (some ⟨b, 0, none⟩), .pointer (some ⟨c, 0, none⟩)] w (au w b c t d p v g a' m' L R' P') := by
 have q0 := h.wk.at 0 (.int .i64 R.ah.kind) rfl
 rw [hq] at q0
 replace hq := Lib.hid hq
 go_enter Tryz.func102, Tryz.ntmps102
 go_wp2_with (go_at_call 125; go_must (refine hn.mono ?_); rintro e w8 ⟨rfl, v8, g8, gB, dS⟩)
 go_ret
 exact ⟨rfl, v8, g8, gB, dS⟩
theorem J6 (h : SW w b c t d p v g a m R P) (hq : R.ah.kind = 13) :
  Calls Tryz.prog 102 #[.pointer (some ⟨b, 0, none⟩), .pointer (some ⟨c, 0, none⟩)] w (au w b c t d p v g a m .nilFunc R { P with cl := true }) := by
 have q0 := h.wk.at 0 (.int .i64 R.ah.kind) rfl
 rw [hq] at q0
 replace hq := Lib.hid hq
 have c4 := h.cw.c4
 have f4 := h.cw.fz 4
 obtain ⟨hC, hS⟩ := h.cw.close
 have hS2 := h.core hC hS
 have hW2 := (WS.dC hS : WS w (w.setCell ⟨c, 4, none⟩ (.bool true)) b c t d p v g v g)
 go_enter Tryz.func102, Tryz.ntmps102
 go_wp2_with fail
 go_ret
 exact ⟨rfl, v, g, hS2, hW2⟩
end
end Go.Proofs.YtnihdgcfamoplaaGreat

namespace Go.Proofs.YtnihdgcfamoplaaGreat
open Go.RowKit Go.Lib Go.Sort
theorem Nb (n : Nat) : dA (eF n) = List.replicate n 1 := by
 refine oh (by rw [bB]; simp [eF]) fun i hi => ?_
 have hin : i < n := by rw [bB] at hi; simpa [eF] using hi
 rw [dm, eQ (by simpa [eF] using hin)]
 have h1 : ¬ 0 ≤ holderL (eF n).L i := by unfold eF holderL; simp
 rw [if_neg h1]
 simp [eF, List.getD_eq_getElem?_getD, hin]
theorem J7 (n : Nat) (t : Int) : az (eF n) t 0 = n := by
 unfold az aM bV
 have h1 : (List.range (eF n).dr.length).countP (bT (eF n) t) = n := by
  have e : (eF n).dr.length = n := by simp [eF]
  rw [e]
  have : (List.range n).countP (bT (eF n) t) = (List.range n).length := by
   rw [List.countP_eq_length]
   intro k hk
   have hk := List.mem_range.1 hk
   unfold bT eF holderL
   simp [List.getD_eq_getElem?_getD, hk]
  rw [this, List.length_range]
 rw [h1]
 simp [eF]
structure UT (w0 w : World) (c t d p : Nat) (v : Value) (g a : Nat) (m : Int) (P : Pg) : Prop where
 cw : CW w c t d p v g a m P
 lo : ∀ k, dY c t d p v g k → w0.heap.size ≤ k
section
variable {w : World}
theorem Nc (n : Int) (w : World) (h : n < 1 ∨ 64 < n) : Calls Tryz.prog 31 #[.int .i64 n] w fun e w' => e = .returned (.tuple #[.pointer none, .int .i64 1]) ∧ w = w' := by
 have hn := F8 n w h
 go_enter Tryz.func31, Tryz.ntmps31
 go_wp2_with (go_at_call 68; go_must (refine hn.mono ?_); rintro e w' ⟨rfl, rfl⟩)
 go_ret2
 exact ⟨rfl, rfl⟩
theorem PU (n : Nat) (w : World) (h1 : 1 ≤ n) (h2 : n ≤ 64) : Calls Tryz.prog 31 #[.int .i64 n] w fun e w' => ∃ c t d p v g, e = .returned (.tuple #[.pointer (some ⟨c, 0, none⟩), .int .i64 0]) ∧ UT w w' c t d p v g 1 0 (ak (eF n)) ∧ Below w.heap.size w w' := by
 have hn := Ga n w h1 h2
 go_enter Tryz.func31, Tryz.ntmps31
 go_wp2_with fail
 go_at_call 68
 refine hn.mono ?_
 clear hn
 rintro e w1 ⟨rfl, hT1, hb1⟩
 have hs1 : w.heap.size < w1.heap.size := ay hT1
 have hp := Gl (n : Int) w1 (by omega)
 go_wp2_with fail
 go_at_call 69
 refine hp.mono ?_
 clear hp
 rintro e w2 ⟨p, g, rfl, hP2, lp, lg, hb2⟩
 have UU : TW w2 w.heap.size (List.replicate n 1) := hT1.kept hb2
 have hj := I6 w2
 go_wp2_with fail
 go_at_call 70
 refine hj.mono ?_
 clear hj
 rintro e w3 ⟨rfl, hw3⟩
 have hb3 : Below w2.heap.size w2 w3 := by rw [← hw3]; exact (Below.refl _ _).alloc (Nat.le_refl _) _
 have hJ3 : TV w3 w2.heap.size (.slice none 0 0) [] := by rw [← hw3]; exact BV.TS w2
 have tX := UU.kept hb3
 have hP3 := hP2.kept hb3
 have hs2 := hb2.size
 replace hw3 := Lib.hid hw3
 obtain ⟨w4, hw4⟩ : ∃ w4, w4 = w3.alloc (.cells #[.pointer (some ⟨w2.heap.size, 0, none⟩), .pointer (some ⟨w.heap.size, 0, none⟩), .pointer (some ⟨p, 0, none⟩), .bool true, .bool false] 52) := ⟨_, rfl⟩
 have hb4 : Below w3.heap.size w3 w4 := by rw [hw4]; exact (Below.refl _ _).alloc (Nat.le_refl _) _
 have hc4 : w4.heap[w3.heap.size]? = some (.cells #[.pointer (some ⟨w2.heap.size, 0, none⟩), .pointer (some ⟨w.heap.size, 0, none⟩), .pointer (some ⟨p, 0, none⟩), .bool true, .bool false] 52 (0, 0)) := by rw [hw4]; exact heap_alloc_new w3 _
 have hs3 := hb3.size
 have hCW : Hid (CW w4 w3.heap.size w2.heap.size w.heap.size p (.slice none 0 0) g 1 0 (ak (eF n))) := by
  refine ⟨hc4, hJ3.kept hb4, by show TW w4 w.heap.size (dA (eF n)); rw [Nb]; exact tX.kept hb4, [(0, (n : Int))], 0, hP3.kept hb4, ?_, Nat.le_refl _, Int.le_refl _, Int.le_refl _⟩
  exact (OO n).congr fun t _ => (J7 n t).symm
 have hlo : Hid (∀ k, dY w3.heap.size w2.heap.size w.heap.size p (.slice none 0 0) g k → w.heap.size ≤ k) := by
  rintro k (rfl | rfl | rfl | rfl | hv | rfl)
  ·omega
  ·omega
  ·exact Nat.le_refl _
  ·omega
  ·cases hv
  ·omega
 have hbw := hb1.trans ((hb2.trans ((hb3.trans (hb4.mono hb3.size)).mono hb2.size)).mono hb1.size)
 clear hc4 hJ3 tX hP3 hT1 UU hP2
 go_wp2_with fail
 rw [← hw4]
 go_ret2
 exact ⟨w3.heap.size, w2.heap.size, w.heap.size, p, .slice none 0 0, g, rfl, ⟨hCW.out, hlo.out⟩, hbw⟩
def vV (r : Rq) : Wk := ⟨kX r, 0, 0, fH 83, gW, 0, 0, mY, false⟩
def AU (i t : Int) : Wk := ⟨Sz, i, t, fH 72, gW, 0, 0, mY, false⟩
theorem BK (i t : Int) (w : World) : Calls Tryz.prog 36 #[.agg #[.int .i64 i, .int .i64 t]] w fun e w' => ∃ b, e = .returned (.pointer (some ⟨b, 0, none⟩)) ∧ bY w' b (AU i t) ∧ w.heap.size ≤ b ∧ Below w.heap.size w w' := by
 obtain ⟨w2, hw2⟩ : ∃ w2, w2 = (w.alloc (.cells #[.int .i64 i, .int .i64 t] 34)).alloc (.cells (gm (AU i t)).toArray 124) := ⟨_, rfl⟩
 have hb2 : Below w.heap.size w w2 := by rw [hw2]; exact ((Below.refl _ _).alloc (Nat.le_refl _) _).alloc (by simp) _
 have hW2 : bY w2 (w.heap.size + 1) (AU i t) := by show _ = _; rw [hw2]; exact heap_alloc2_new w _ _
 have hl : (gm (AU i t)).toArray = #[.int .i64 0, .int .i64 0, .int .i64 0, .int .i64 0, .int .i64 0, .int .i64 0, .bool false, .int .i64 0, .int .i64 0, .int .i64 i, .int .i64 t, .func (.func 72) #[] #[], .int .i64 0, .int .i64 0, .int .i64 0, .int .i64 0, .int .i64 0, .int .i64 0, .int .i64 0, .int .i64 0, .int .i64 0, .int .u64 0, .int .i64 0, .int .i64 0, .int .i64 0, .int .i64 0, .int .i64 0, .int .i64 0, .int .i64 0, .int .i64 0, .int .i64 0, .int .i64 0, .int .i64 0, .bool false] := rfl
 rw [hl] at hw2
 replace hl := Lib.hid hl
 go_enter Tryz.func36, Tryz.ntmps36
 go_wp2_with fail
 rw [← hw2]
 go_ret
 exact ⟨w.heap.size + 1, rfl, hW2, Nat.le_succ _, hb2⟩
theorem Ht (r : Rq) (w : World) : Calls Tryz.prog 49 #[.agg (encR r).toArray] w fun e w' => ∃ b, e = .returned (.pointer (some ⟨b, 0, none⟩)) ∧ bY w' b (vV r) ∧ w.heap.size ≤ b ∧ Below w.heap.size w w' := by
 have zR := kM
 obtain ⟨k9, bW⟩ : ∃ k, k = 9 := ⟨_, rfl⟩
 rw [← bW] at zR
 have hk0 : ¬ k9 = 0 := by omega
 have lR := iE r
 rw [← bW] at lR
 replace bW := Lib.hid bW
 obtain ⟨wA, aB⟩ : ∃ wA, wA = w.alloc (.cells (encR r).toArray 32) := ⟨_, rfl⟩
 have bC : Below w.heap.size w wA := by rw [aB]; exact (Below.refl _ _).alloc (Nat.le_refl _) _
 have uS : wA.heap[w.heap.size]? = some (.cells (encR r).toArray 32 (0, 0)) := by rw [aB]; exact heap_alloc_new w _
 have UW := eu uS lR
 have hcl := Mw r wA
 rw [aB] at UW hcl
 generalize hcr : encR r = cR at *
 replace hcr := Lib.hid hcr
 go_enter Tryz.func49, Tryz.ntmps49
 go_wp2_with fail
 go_at_call 82
 refine hcl.mono ?_
 clear hcl UW
 rw [← aB]
 rintro e w1 ⟨rfl, hb1⟩
 replace aB := Lib.hid aB
 obtain ⟨y1, y2, y3, y4, y5, y6, y7, y8, y9, hy⟩ : ∃ y1 y2 y3 y4 y5 y6 y7 y8 y9, kX r = ⟨y1, y2, y3, y4, y5, y6, y7, y8, y9⟩ := ⟨_, _, _, _, _, _, _, _, _, rfl⟩
 obtain ⟨w2, hw2⟩ : ∃ w2, w2 = w1.alloc (.cells (gm (vV r)).toArray 124) := ⟨_, rfl⟩
 have hb2 : Below w1.heap.size w1 w2 := by rw [hw2]; exact (Below.refl _ _).alloc (Nat.le_refl _) _
 have hW2 : bY w2 w1.heap.size (vV r) := by show _ = _; rw [hw2]; exact heap_alloc_new w1 _
 have hl : (gm (vV r)).toArray = #[.int .i64 y1, .int .i64 y2, .int .i64 y3, .int .i64 y4, .int .i64 y5, .int .i64 y6, .bool y7, .int .i64 y8, .int .i64 y9, .int .i64 0, .int .i64 0, .func (.func 83) #[] #[], .int .i64 0, .int .i64 0, .int .i64 0, .int .i64 0, .int .i64 0, .int .i64 0, .int .i64 0, .int .i64 0, .int .i64 0, .int .u64 0, .int .i64 0, .int .i64 0, .int .i64 0, .int .i64 0, .int .i64 0, .int .i64 0, .int .i64 0, .int .i64 0, .int .i64 0, .int .i64 0, .int .i64 0, .bool false] := by unfold vV; rw [hy]; rfl
 have hbw := bC.trans ((hb1.trans (hb2.mono hb1.size)).mono bC.size)
 have hlo : w.heap.size ≤ w1.heap.size := Nat.le_trans bC.size hb1.size
 rw [hl] at hw2
 rw [hy, show (encR ⟨y1, y2, y3, y4, y5, y6, y7, y8, y9⟩).toArray = #[.int .i64 y1, .int .i64 y2, .int .i64 y3, .int .i64 y4, .int .i64 y5, .int .i64 y6, .bool y7, .int .i64 y8, .int .i64 y9] from rfl]
 replace hl := Lib.hid hl
 replace hy := Lib.hid hy
 obtain rfl := bW.out
 go_wp2_with fail
 rw [← hw2]
 go_ret
 exact ⟨w1.heap.size, rfl, hW2, hlo, hbw⟩
end
end Go.Proofs.YtnihdgcfamoplaaGreat

namespace Go.Proofs.YtnihdgcfamoplaaGreat
open Go.RowKit Go.Lib Go.Sort
def Q3 (w w' : World) : Prop := ∀ (k : Nat) (cs : Array Value) (T : TypeId) (fz : Nat × Nat), T ≠ 124 → (T ≠ 52 ∧ T ≠ 99 ∧ T ≠ 106 ∧ T ≠ 104 ∧ T ≠ 63 ∧ T ≠ 102) → w.heap[k]? = some (.cells cs T fz) → w'.heap[k]? = some (.cells cs T fz)
theorem SW.far {w w' : World} {b c t d p g a : Nat} {v v' : Value} {g' : Nat} {m : Int} {R : Wk} {P : Pg} (h : SW w b c t d p v g a m R P) (hs : WS w w' b c t d p v g v' g') : Q3 w w' := by
 intro k cs T fz h1 h2 hk
 refine (hs.heap (ay hk) ?_).trans hk
 rintro (rfl | hf)
 ·have e := h.wk
  unfold bY at e
  rw [hk] at e
  exact h1 (Obj.cells.inj (Option.some.inj e)).2.1
 ·exact h.cw.other hk h2 hf
def Goes (b c : Nat) : Nat → World → (World → Prop) → Prop
 | 0, _, _ => False
 | N + 1, w, Q => Calls Tryz.prog 71 #[.pointer (some ⟨b, 0, none⟩), .pointer (some ⟨c, 0, none⟩)] w fun e w' => Q3 w w' ∧ ((e = .returned (.bool true) ∧ Q w') ∨ (e = .returned (.bool false) ∧ Goes b c N w' Q))
theorem Goes.mono {b c : Nat} {Q Q' : World → Prop} (hQ : ∀ w, Q w → Q' w) : ∀ {N : Nat} {w : World}, Goes b c N w Q → Goes b c N w Q'
 | 0, _, h => h
 | N + 1, _, h => Calls.mono h fun e w' hp => by
  rcases hp with ⟨hf, ⟨h1, h2⟩ | ⟨h1, h2⟩⟩
  ·exact ⟨hf, .inl ⟨h1, hQ _ h2⟩⟩
  ·exact ⟨hf, .inr ⟨h1, Goes.mono hQ h2⟩⟩
theorem Goes.succ {b c : Nat} {Q : World → Prop} : ∀ {N : Nat} {w : World}, Goes b c N w Q → Goes b c (N + 1) w Q
 | 0, _, h => h.elim
 | N + 1, _, h => Calls.mono h fun e w' hp => by
  rcases hp with ⟨hf, ⟨h1, h2⟩ | ⟨h1, h2⟩⟩
  ·exact ⟨hf, .inl ⟨h1, h2⟩⟩
  ·exact ⟨hf, .inr ⟨h1, Goes.succ h2⟩⟩
theorem Goes.more {b c N N' : Nat} {w : World} {Q : World → Prop} (hN : N ≤ N') (h : Goes b c N w Q) : Goes b c N' w Q := by
 induction N' with
 | zero =>
  obtain rfl : N = 0 := by omega
  exact h
 | succ N' ih =>
  rcases Nat.lt_or_ge N' N with h1 | h1
  ·obtain rfl : N = N' + 1 := by omega
   exact h
  ·exact (ih h1).succ
structure Fin (w0 : World) (b c t d p : Nat) (v0 : Value) (g0 : Nat) (mx : Int) (M : Md) (y : Ry) (ok : Bool) (w : World) : Prop where
 ex : ∃ v g a m R, SW w b c t d p v g a m R (ak M) ∧ a ≤ 800 ∧ m ≤ mx ∧ R.left = .nilFunc ∧ R.rep = y ∧ R.ok = ok ∧ WS w0 w b c t d p v0 g0 v g
section
variable {w0 w : World} {b c t d p g g0 a N : Nat} {v v0 : Value} {m mx : Int} {P : Pg} {M M' : Md} {R : Wk} {Q : World → Prop}
theorem uU {k k' a' : Nat} {m' : Int} {R' : Wk} {P' : Pg} (h : SW w b c t d p v g a m R P) (hl : R.left = fH k) (hl' : R'.left = fH k)
  (hk : ∀ args w, Sem.run Tryz.prog (callFunc k args) w = .ok (.enter k args) w)
  (hp : Calls Tryz.prog k #[.pointer (some ⟨b, 0, none⟩), .pointer (some ⟨c, 0, none⟩)] w (au w b c t d p v g a' m' (fH k') R' P'))
  (hn : ∀ w' v' g', SW w' b c t d p v' g' a' m' { R' with left := fH k' } P' → WS w w' b c t d p v g v' g' → Goes b c N w' Q) : Goes b c (N + 1) w Q := by
 refine (Gw h hl hl' (.inr ⟨⟨k', rfl⟩, rfl⟩) hk hp).mono ?_
 rintro e w' ⟨rfl, v', g', h1, h2⟩
 exact ⟨h.far h2, .inr ⟨rfl, hn w' v' g' h1 h2⟩⟩
theorem uV {k a' : Nat} {m' : Int} {R' : Wk} (h : SW w b c t d p v g a m R P) (hl : R.left = fH k) (hl' : R'.left = fH k)
  (hk : ∀ args w, Sem.run Tryz.prog (callFunc k args) w = .ok (.enter k args) w)
  (hp : Calls Tryz.prog k #[.pointer (some ⟨b, 0, none⟩), .pointer (some ⟨c, 0, none⟩)] w (au w b c t d p v g a' m' .nilFunc R' (ak M')))
  (ha : a' ≤ 800) (hm : m' ≤ mx) (hw : WS w0 w b c t d p v0 g0 v g) : Goes b c (N + 1) w (Fin w0 b c t d p v0 g0 mx M' R'.rep R'.ok) := by
 refine (Gw h hl hl' (.inl ⟨rfl, rfl⟩) hk hp).mono ?_
 rintro e w' ⟨rfl, v', g', h1, h2⟩
 exact ⟨h.far h2, .inl ⟨rfl, ⟨v', g', a', m', _, h1, ha, hm, rfl, rfl, rfl, hw.trans h2⟩⟩⟩
theorem qM : ∀ args w, Sem.run Tryz.prog (callFunc 138 args) w = .ok (.enter 138 args) w := fun _ _ => rfl
theorem bz : ∀ args w, Sem.run Tryz.prog (callFunc 83 args) w = .ok (.enter 83 args) w := fun _ _ => rfl
theorem xy : ∀ args w, Sem.run Tryz.prog (callFunc 72 args) w = .ok (.enter 72 args) w := fun _ _ => rfl
theorem Dh : ∀ args w, Sem.run Tryz.prog (callFunc 97 args) w = .ok (.enter 97 args) w := fun _ _ => rfl
theorem Nf : ∀ args w, Sem.run Tryz.prog (callFunc 113 args) w = .ok (.enter 113 args) w := fun _ _ => rfl
theorem AV : ∀ args w, Sem.run Tryz.prog (callFunc 133 args) w = .ok (.enter 133 args) w := fun _ _ => rfl
theorem Hu : ∀ args w, Sem.run Tryz.prog (callFunc 140 args) w = .ok (.enter 140 args) w := fun _ _ => rfl
theorem uW : ∀ args w, Sem.run Tryz.prog (callFunc 142 args) w = .ok (.enter 142 args) w := fun _ _ => rfl
theorem Di : ∀ args w, Sem.run Tryz.prog (callFunc 144 args) w = .ok (.enter 144 args) w := fun _ _ => rfl
theorem yF : ∀ args w, Sem.run Tryz.prog (callFunc 148 args) w = .ok (.enter 148 args) w := fun _ _ => rfl
theorem sG (hl : R.left = fH 138) (hid : R.aC.id ≠ 0) (h1 : 1 ≤ M.dr.length) (hll : M.L.length ≤ 900) (hmx : mx ≤ 1000000) (q : Nat) :
  ∀ {L : List Jb} {w : World} {v : Value} {g a : Nat} {m : Int}, L.length = M.L.length → hits R.aC L ≤ q → aG { M with L := L } → fu { M with L := L } R.aC = M' → SW w b c t d p v g a m R (ak { M with L := L }) → a + 2 * hits R.aC L ≤ 800 → m + hits R.aC L ≤ mx → WS w0 w b c t d p v0 g0 v g →
   Goes b c (q + 1) w (Fin w0 b c t d p v0 g0 mx M' R.rep R.ok) := by
 induction q with
 | zero =>
  intro L w v g a m hL hq hI hM hS ha hm hw
  have hd := vQ hS hI h1 (by show L.length ≤ 900; omega) (by omega) (by omega) hid
  refine uV (k := 138) (M' := M') (a' := a) (m' := m) hS hl hl qM (hd.mono fun e w' hp => ?_) (by omega) (by omega) hw
  rcases hp with ⟨ho, hp⟩ | ⟨i, ho, _⟩
  ·have := qy (M := { M with L := L }) ho
   rw [this] at hM
   rw [← hM]; exact hp
  ·have := (iW (L := L) ho).2.2.2.2
   omega
 | succ q ih =>
  intro L w v g a m hL hq hI hM hS ha hm hw
  have hd := vQ hS hI h1 (by show L.length ≤ 900; omega) (by omega) (by omega) hid
  cases ho : dU R.aC L with
  | none =>
   refine uV (k := 138) (M' := M') (a' := a) (m' := m) hS hl hl qM (hd.mono fun e w' hp => ?_) (by omega) (by omega) hw
   rcases hp with ⟨_, hp⟩ | ⟨i, h2, _⟩
   ·have := qy (M := { M with L := L }) ho
    rw [this] at hM
    rw [← hM]; exact hp
   ·have h3 : dU R.aC L = some i := h2
    rw [ho] at h3; cases h3
  | some i =>
   obtain ⟨hi, _, _, _, hh⟩ := iW ho
   refine uU (k := 138) (k' := 138) (a' := a + 2) (m' := m + 1) (R' := R) (P' := ak { M with L := L.set i ((L.getD i default).aI (-1)) }) hS hl hl qM (hd.mono fun e w' hp => ?_) fun w' v' g' hS' hw' => ?_
   ·rcases hp with ⟨h2, _⟩ | ⟨i2, h2, hp⟩
    ·have h3 : dU R.aC L = none := h2
     rw [ho] at h3; cases h3
    ·have h3 : dU R.aC L = some i2 := h2
     rw [ho] at h3
     obtain rfl := Option.some.inj h3
     exact hp
   ·rw [← hl] at hS'
    exact ih (L := L.set i ((L.getD i default).aI (-1))) (by rw [List.length_set]; exact hL) (by omega) (hI.vE hi) ((uC (M := { M with L := L }) ho).trans hM) hS' (by omega) (by omega) (hw.trans hw')
end
end Go.Proofs.YtnihdgcfamoplaaGreat

namespace Go.Proofs.YtnihdgcfamoplaaGreat
open Go.RowKit Go.Lib Go.Sort
def kY (x : Rl) : Ry := ⟨x.1, x.2.1, x.2.2.1, x.2.2.2.1, x.2.2.2.2.1, x.2.2.2.2.2.1, x.2.2.2.2.2.2.1, x.2.2.2.2.2.2.2.1, x.2.2.2.2.2.2.2.2⟩
section
variable {M : Md}
theorem Hw (M : Md) : (sK M).length ≤ 1 + 2 * M.L.length := by
 have key : ∀ (ts : List Int) (acc : List (Int × Int)), (ts.foldl (stepOn M) acc).length ≤ acc.length + ts.length := by
  intro ts
  induction ts with
  | nil => intro acc; simp
  | cons t ts ih =>
   intro acc
   have h1 := ih (stepOn M acc t)
   have h2 : (stepOn M acc t).length ≤ acc.length + 1 := by
    unfold stepOn
    split
    ·split
     ·omega
     ·simp
    ·simp
   show (ts.foldl (stepOn M) (stepOn M acc t)).length ≤ acc.length + (ts.length + 1)
   omega
 have h3 : ∀ (n : Nat) (last : Int), (timesGo M.L n last).length ≤ n := by
  intro n
  induction n with
  | zero => intro last; simp [timesGo]
  | succ n ih =>
   intro last
   unfold timesGo
   split
   ·simp
   ·simp only [List.length_cons]; have := ih (jO M.L last); omega
 have h1 := key (lV M) []
 have h4 := h3 (2 * M.L.length) M.now
 unfold sK
 unfold lV at h1 ⊢
 simp only [List.length_cons, List.length_nil] at h1
 omega
theorem CW.PV {w : World} {c t d p g a : Nat} {v : Value} {m : Int} (h : CW w c t d p v g a m (ak M)) (hI : aG M) : CW w c t d p v g (1 + 2 * M.L.length) m (ak M) := by
 obtain ⟨S, aO, hp, hC, hl, h0⟩ := h.mq
 have e : S = sK M := hC.uniq (Iy hI) fun _ _ => rfl
 exact ⟨h.cell, h.fe, h.nodes, S, aO, hp, hC, by rw [e]; exact Hw M, h0⟩
theorem J8 (M : Md) (hn : M.dr.length ≤ 64) (r : Rq) (hk : r.kind = 1) : (l9 M.dr.length r = 9 ∧ gy M (toW r) = 9) ∨ (l9 M.dr.length r = 0 ∧ iL M.L r = gy M (toW r)) := by
 have hlive : Dr M = je M.L := rfl
 have s1 : (r.user < 0 ∨ 255 < r.user ∨ r.prio < 0 ∨ 1000 < r.prio) → gy M (toW r) = 1 := fun h => if_pos h
 have s2 : ¬ (r.user < 0 ∨ 255 < r.user ∨ r.prio < 0 ∨ 1000 < r.prio) → (r.width < 1 ∨ (M.dr.length : Int) < r.width) → gy M (toW r) = 9 := fun h h' => (if_neg h).trans (if_pos h')
 have s3 : ¬ (r.user < 0 ∨ 255 < r.user ∨ r.prio < 0 ∨ 1000 < r.prio) → ¬ (r.width < 1 ∨ (M.dr.length : Int) < r.width) → (r.limit < 1 ∨ 1048576 < r.limit) → gy M (toW r) = 10 := fun h h' h2 => (if_neg h).trans ((if_neg h').trans (if_pos h2))
 have s4 : ¬ (r.user < 0 ∨ 255 < r.user ∨ r.prio < 0 ∨ 1000 < r.prio) → ¬ (r.width < 1 ∨ (M.dr.length : Int) < r.width) → ¬ (r.limit < 1 ∨ 1048576 < r.limit) → (63 < Dr M ∨ 1023 < M.L.length) → gy M (toW r) = 6 := fun h h' h2 h3 => (if_neg h).trans ((if_neg h').trans ((if_neg h2).trans (if_pos h3)))
 have s5 : ¬ (r.user < 0 ∨ 255 < r.user ∨ r.prio < 0 ∨ 1000 < r.prio) → ¬ (r.width < 1 ∨ (M.dr.length : Int) < r.width) → ¬ (r.limit < 1 ∨ 1048576 < r.limit) → ¬ (63 < Dr M ∨ 1023 < M.L.length) → gy M (toW r) = 0 := fun h h' h2 h3 => (if_neg h).trans ((if_neg h').trans ((if_neg h2).trans (if_neg h3)))
 have b1 : aS r ≠ 0 → iL M.L r = aS r := fun h => if_pos h
 have b2 : aS r = 0 → (64 ≤ je M.L ∨ 1024 ≤ M.L.length) → iL M.L r = 6 := fun h h' => (if_neg (by omega)).trans (if_pos h')
 have b3 : aS r = 0 → ¬ (64 ≤ je M.L ∨ 1024 ≤ M.L.length) → iL M.L r = 0 := fun h h' => (if_neg (by omega)).trans (if_neg h')
 have x1 : (r.kind = 1 ∧ (M.dr.length : Int) < r.width ∧ r.width ≤ 64 ∧ aS r ≠ 1) → l9 M.dr.length r = 9 := fun h => if_pos h
 have x2 : ¬ (r.kind = 1 ∧ (M.dr.length : Int) < r.width ∧ r.width ≤ 64 ∧ aS r ≠ 1) → l9 M.dr.length r = 0 := fun h => if_neg h
 by_cases h1 : r.user < 0 ∨ 255 < r.user ∨ r.prio < 0 ∨ 1000 < r.prio
 ·have hR : aS r = 1 := by unfold aS; (repeat' split) <;> omega
  exact .inr ⟨x2 (by omega), by rw [s1 h1, b1 (by omega), hR]⟩
 ·by_cases h2 : r.width < 1
  ·have hR : aS r = 9 := by unfold aS; (repeat' split) <;> omega
   exact .inr ⟨x2 (by omega), by rw [s2 h1 (.inl h2), b1 (by omega), hR]⟩
  ·by_cases h3 : (M.dr.length : Int) < r.width
   ·by_cases h4 : r.width ≤ 64
    ·have hR : aS r ≠ 1 := by unfold aS; (repeat' split) <;> omega
     exact .inl ⟨x1 ⟨hk, h3, h4, hR⟩, s2 h1 (.inr h3)⟩
    ·have hR : aS r = 9 := by unfold aS; (repeat' split) <;> omega
     exact .inr ⟨x2 (by omega), by rw [s2 h1 (.inr h3), b1 (by omega), hR]⟩
   ·by_cases h5 : r.limit < 1 ∨ 1048576 < r.limit
    ·have hR : aS r = 10 := by unfold aS; (repeat' split) <;> omega
     exact .inr ⟨x2 (by omega), by rw [s3 h1 (by omega) h5, b1 (by omega), hR]⟩
    ·have hR : aS r = 0 := by unfold aS; (repeat' split) <;> omega
     refine .inr ⟨x2 (by omega), ?_⟩
     by_cases h6 : 63 < je M.L ∨ 1023 < M.L.length
     ·rw [s4 h1 (by omega) h5 h6, b2 hR (by omega)]
     ·rw [s5 h1 (by omega) h5 h6, b3 hR (by omega)]
end
section
variable {w0 w : World} {b c t d p g g0 a N : Nat} {v v0 : Value} {m mx : Int} {P : Pg} {M M' : Md} {R : Wk} {Q : World → Prop}
theorem AX (j : Jb) (L : List Jb) : hits j L ≤ L.length := List.countP_le_length
theorem aZ {k a' : Nat} {m' : Int} {R' : Wk} {M1 : Md} {y : Ry} {o : Bool} (hk : ∀ args w, Sem.run Tryz.prog (callFunc k args) w = .ok (.enter k args) w)
  (hp : Calls Tryz.prog k #[.pointer (some ⟨b, 0, none⟩), .pointer (some ⟨c, 0, none⟩)] w (au w b c t d p v g a' m' .nilFunc R' (ak M1)))
  (h : SW w b c t d p v g a m R P) (hl : R.left = fH k) (hl' : R'.left = R.left) (ha : a' ≤ 800) (hm : m' ≤ mx) (hw : WS w0 w b c t d p v0 g0 v g) (hM : M1 = M') (hy : R'.rep = y) (ho : R'.ok = o) : Goes b c (N + 1) w (Fin w0 b c t d p v0 g0 mx M' y o) := by
 subst hM hy ho
 exact uV h hl (hl'.trans hl) hk hp ha hm hw
theorem EL (h : SW w b c t d p v g a m R (ak M)) (hl : R.left = fH 83) (hI : aG M) (hcl : M.cl = false) (h1 : 1 ≤ M.dr.length) (hll : M.L.length ≤ 190) (ha : a ≤ 1 + 2 * M.L.length) (hm : m + 1000 ≤ mx) (hmx : mx ≤ 1000000) (hw : WS w0 w b c t d p v0 g0 v g)
  (hk : R.ah.kind = 1) (ho : R.ok = false) : Goes b c 1000 w (Fin w0 b c t d p v0 g0 mx (gI M (toW R.ah)).2 (kY (gI M (toW R.ah)).1) false) := by
 have qZ := fC hI h1 (by omega)
 have hrd : jl R.ah.kind = false := by rw [hk]; rfl
 have eO : ∀ {L : Value} {a' : Nat} {m' : Int} {R' : Wk} {P' : Pg}, Calls Tryz.prog 119 #[.pointer (some ⟨b, 0, none⟩), .pointer (some ⟨c, 0, none⟩)] w (au w b c t d p v g a' m' L R' P') → Calls Tryz.prog 83 #[.pointer (some ⟨b, 0, none⟩), .pointer (some ⟨c, 0, none⟩)] w (au w b c t d p v g a' m' L R' P') := fun hn => fK h hcl (by rw [hk]; decide) hrd (M0 h hk hn)
 unfold gI
 rcases J8 M hI.mb.nn R.ah hk with ⟨e1, e2⟩ | ⟨e1, e2⟩
 ·rw [if_pos (by rw [e2]; decide), e2]
  exact aZ (N := 999) bz (eO (BD h qZ e1)) h hl rfl (by omega) (by omega) hw rfl rfl rfl
 ·by_cases e3 : gy M (toW R.ah) = 0
  ·rw [if_neg (by omega)]
   rw [e3] at e2
   cases hh : R.ah.held with
   | true =>
    rw [if_pos (show (toW R.ah).held = true from hh)]
    exact aZ (N := 999) bz (eO (AL h qZ e1 e2 hh)) h hl rfl (by omega) (by omega) hw rfl rfl ho
   | false =>
    rw [if_neg (show ¬ (toW R.ah).held = true by rw [show (toW R.ah).held = R.ah.held from rfl, hh]; decide)]
    have hc := e3
    unfold gy at hc
    have hst : (aX M (toW R.ah)).st = 1 := by show (if R.ah.held then (2 : Int) else 1) = 1; rw [hh]; rfl
    have hI1 : aG { M with L := M.L ++ [aX M (toW R.ah)] } := by
     split at hc
     ·omega
     split at hc
     ·omega
     split at hc
     ·omega
     split at hc
     ·omega
     rename_i h2 h3 h4 h5
     have hn := hI.mb.nn
     exact hI.app (aX M (toW R.ah)) (hI.mb.app _ (by omega) (by show 0 ≤ (toW R.ah).wid ∧ (toW R.ah).wid ≤ 64; omega) (by show 0 ≤ (toW R.ah).lim ∧ (toW R.ah).lim ≤ 1048576; omega) (by show (-1 : Int) ≤ -1 ∧ (-1 : Int) ≤ _; omega) (by show (-1 : Int) ≤ -1 ∧ (-1 : Int) ≤ _; omega) (by show (0 : Int) ≤ 0 ∧ (0 : Int) ≤ _; omega)) rfl ⟨show 1 ≤ (toW R.ah).wid by omega, show (toW R.ah).wid ≤ _ by omega, show 1 ≤ (toW R.ah).lim by omega, by omega, by omega⟩ rfl (by omega)
    refine (uU (N := 901) (k := 83) (k' := 138) (R' := { R with rep := iG (aX M (toW R.ah)), aC := aX M (toW R.ah) }) h hl hl bz (eO (GM h qZ e1 e2 hh)) fun w' v' g' hS' hw' => ?_).more (show 902 ≤ 1000 by decide)
    have hL : (M.L ++ [aX M (toW R.ah)]).length = M.L.length + 1 := by simp
    have UX := AX (aX M (toW R.ah)) (M.L ++ [aX M (toW R.ah)])
    have := sG (M := { M with L := M.L ++ [aX M (toW R.ah)] }) (M' := fu { M with L := M.L ++ [aX M (toW R.ah)] } (aX M (toW R.ah))) (R := { ({ R with rep := iG (aX M (toW R.ah)), aC := aX M (toW R.ah) } : Wk) with left := fH 138 }) (w0 := w0) (b := b) (c := c) (t := t) (d := d) (p := p) (v0 := v0) (g0 := g0) (mx := mx) rfl (by show (M.L.length : Int) + 1 ≠ 0; omega) h1 (by show (M.L ++ [aX M (toW R.ah)]).length ≤ 900; omega) hmx 900 (L := M.L ++ [aX M (toW R.ah)]) rfl (by show hits (aX M (toW R.ah)) _ ≤ 900; omega) hI1 rfl hS' (by show a + 2 * hits (aX M (toW R.ah)) _ ≤ 800; omega) (by show m + (hits (aX M (toW R.ah)) _ : Nat) ≤ mx; omega) (hw.trans hw')
    rw [show ({ ({ R with rep := iG (aX M (toW R.ah)), aC := aX M (toW R.ah) } : Wk) with left := fH 138 } : Wk).ok = false from ho] at this
    exact this
  ·rw [if_pos e3]
   exact aZ (N := 999) bz (eO (submit_bad h qZ e1 (gy M (toW R.ah)) e3 e2)) h hl rfl (by omega) (by omega) hw rfl rfl rfl
end
end Go.Proofs.YtnihdgcfamoplaaGreat
