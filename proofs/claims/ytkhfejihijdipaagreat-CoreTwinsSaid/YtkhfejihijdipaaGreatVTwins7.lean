/-
 Own words and walks, merged: part 7 of 8.
-/
import Derived.Test.YtkhfejihijdipaaGreatVTwins6
set_option maxRecDepth 1000000
set_option maxHeartbeats 8000000
set_option linter.all false
namespace Go.Proofs.YtkhfejihijdipaaGreat
open Go.RowKit Go.Lib Go.Sort
theorem OW {w : World} {b : Nat} {R : Wk} (h : bQ w b R) (v0 v1 v2 v3 v4 v5 v6 v7 v8 : Int) : ∃ W, W = (((((((((w).setCell ⟨b, 24, none⟩ (.int .i64 v0)).setCell ⟨b, 25, none⟩ (.int .i64 v1)).setCell ⟨b, 26, none⟩ (.int .i64 v2)).setCell ⟨b, 27, none⟩ (.int .i64 v3)).setCell ⟨b, 28, none⟩ (.int .i64 v4)).setCell ⟨b, 29, none⟩ (.int .i64 v5)).setCell ⟨b, 30, none⟩ (.int .i64 v6)).setCell ⟨b, 31, none⟩ (.int .i64 v7)).setCell ⟨b, 32, none⟩ (.int .i64 v8) ∧ bQ W b { R with rep := ⟨v0, v1, v2, v3, v4, v5, v6, v7, v8⟩ } ∧ fU (fun k => k = b) w W := by
 refine ⟨_, rfl, ?_, ?_⟩
 ·have h0 := h.put 24 (.int .i64 v0) (R' := { R with rep := { R.rep with err := v0 } }) rfl
  have h1 := h0.put 25 (.int .i64 v1) (R' := { R with rep := { R.rep with err := v0, id := v1 } }) rfl
  have h2 := h1.put 26 (.int .i64 v2) (R' := { R with rep := { R.rep with err := v0, id := v1, state := v2 } }) rfl
  have h3 := h2.put 27 (.int .i64 v3) (R' := { R with rep := { R.rep with err := v0, id := v1, state := v2, start := v3 } }) rfl
  have h4 := h3.put 28 (.int .i64 v4) (R' := { R with rep := { R.rep with err := v0, id := v1, state := v2, start := v3, stop := v4 } }) rfl
  have h5 := h4.put 29 (.int .i64 v5) (R' := { R with rep := { R.rep with err := v0, id := v1, state := v2, start := v3, stop := v4, plan := v5 } }) rfl
  have h6 := h5.put 30 (.int .i64 v6) (R' := { R with rep := { R.rep with err := v0, id := v1, state := v2, start := v3, stop := v4, plan := v5, a := v6 } }) rfl
  have h7 := h6.put 31 (.int .i64 v7) (R' := { R with rep := { R.rep with err := v0, id := v1, state := v2, start := v3, stop := v4, plan := v5, a := v6, b := v7 } }) rfl
  have h8 := h7.put 32 (.int .i64 v8) (R' := { R with rep := { R.rep with err := v0, id := v1, state := v2, start := v3, stop := v4, plan := v5, a := v6, b := v7, c := v8 } }) rfl
  exact h8
 ·exact fA (fA (fA (fA (fA (fA (fA (fA (bV _ 24 _) (bV _ 25 _)) (bV _ 26 _)) (bV _ 27 _)) (bV _ 28 _)) (bV _ 29 _)) (bV _ 30 _)) (bV _ 31 _)) (bV _ 32 _)
def gJ (P : Pg) (n : Int) : Int := if (jV P.J n).st = 3 then max (jV P.J n).fin (P.now + 1) else P.now
section
variable {w : World} {b c t d p g a : Nat} {v : Value} {m : Int} {P : Pg} {R : Wk}
theorem LY (h : CW w c t d p v g a m P) (hk : PK P) (j : Jb) : Calls Tryz.prog 52 #[.pointer (some ⟨c, 0, none⟩), .agg (ah j).toArray] w fun e w' => e = .returned (.int .i64 (max j.fin (P.now + 1))) ∧ Below w.heap.size w w' := by
 obtain ⟨wA, aT⟩ : ∃ wA, wA = w.alloc (.cells (ah j).toArray 55) := ⟨_, rfl⟩
 have dE : Hid (Below w.heap.size w wA) := by show Below _ _ _; rw [aT]; exact (Below.refl _ _).alloc (Nat.le_refl _) _
 have uX : Hid (wA.heap[w.heap.size]? = some (.cells (ah j).toArray 55 (0, 0))) := by show _ = _; rw [aT]; exact heap_alloc_new w _
 have iE := Lib.hid (h.kept dE.out)
 have e7 : (ah j)[7]? = some (.int .i64 j.fin) := rfl
 have zE := bB
 obtain ⟨k, hk1⟩ : ∃ k, k = 10 := ⟨_, rfl⟩
 rw [← hk1] at zE
 have hk0 : ¬ k = 0 := by omega
 replace hk1 := Lib.hid hk1
 have jI := hk.now
 have wn : IntKind.i64.wrap (P.now + 1) = P.now + 1 := by rw [IntKind.wrap_i64]; omega
 generalize ah j = cJ at *
 generalize j.fin = jf at *
 clear h
 go_enter Tryz.func52, Tryz.ntmps52
 go_wp2_with fail
 rw [← aT]
 replace aT := Lib.hid aT
 refine Reg2.rd wA 8 14 [[],[ae],[af,af],[af,af,ae],[af,af,ae,ae],[af,af,ae,ae,ae],[af,af,ae,ae,ae,ae],[af,af,ae,ae,ae,ae,ae]] [0, 1, 0, 0, 0, 1, 1, 0] [.pure, .mU (.int .i64 jf), .pure, .pure, .pure, .mU (.pointer (some ⟨p, 0, none⟩)), .mU (.int .i64 P.now), .pure] (by kernel_rfl) (by kernel_rfl) rfl rfl ⟨trivial, Reg2.tt, trivial, trivial, trivial, Reg2.tt, Reg2.tt, trivial, trivial⟩ ⟨rfl, rfl, rfl, Nat.le_refl _, fun _ _ => rfl⟩ ?_
 dsimp only [Reg2.mk, List.zip, List.zipWith, List.take]
 repeat (refine' Reg2.ai _ (by rfl) (fun wz => ?_) ?_; rotate_left; (go_simp; first | rfl | rw [if_neg (by omega)]); simp only [Act.put, xA, xB, xC]; (try simp only [xD]); (try simp only [xE]); (try simp only [id]))
 refine Reg2.pm (fun wz hI hF => ?_) (fun r1 => ?_) (by rfl)
 ·have q0 : wz.cell? ⟨w.heap.size, 7, none⟩ = some (.int .i64 jf) := by simp [World.cell?, (hI.block _ (aG uX.out)).trans uX.out, e7]
  go_wp2_with fail
  first | exact ⟨_, rfl, rfl, Reg2.Ext.refl _⟩ | exact ⟨_, rfl, ⟨(), rfl, trivial⟩, Reg2.Ext.refl _⟩
 simp only [Act.put, xA, xB, xC]; (try simp only [xD]); (try simp only [xE]); (try simp only [id])
 repeat (refine' Reg2.ai _ (by rfl) (fun wz => ?_) ?_; rotate_left; (go_simp; first | rfl | rw [if_neg (by omega)]); simp only [Act.put, xA, xB, xC]; (try simp only [xD]); (try simp only [xE]); (try simp only [id]))
 refine Reg2.pm (fun wz hI hF => ?_) (fun r5 => ?_) (by rfl)
 ·have c0 := (iE.out.kept hI).c2
  go_wp2_with fail
  first | exact ⟨_, rfl, rfl, Reg2.Ext.refl _⟩ | exact ⟨_, rfl, ⟨(), rfl, trivial⟩, Reg2.Ext.refl _⟩
 simp only [Act.put, xA, xB, xC]; (try simp only [xD]); (try simp only [xE]); (try simp only [id])
 refine Reg2.pm (fun wz hI hF => ?_) (fun r6 => ?_) (by rfl)
 ·go_wp2_with (go_at_call 43; go_must (refine (fO (iE.out.kept hI)).mono ?_); rintro e w' ⟨rfl, rfl⟩)
  first | exact ⟨_, rfl, rfl, Reg2.Ext.refl _⟩ | exact ⟨_, rfl, ⟨(), rfl, trivial⟩, Reg2.Ext.refl _⟩
 simp only [Act.put, xA, xB, xC]; (try simp only [xD]); (try simp only [xE]); (try simp only [id])
 repeat (refine' Reg2.ai _ (by rfl) (fun wz => ?_) ?_; rotate_left; (go_simp; first | rfl | rw [if_neg (by omega)]); simp only [Act.put, xA, xB, xC]; (try simp only [xD]); (try simp only [xE]); (try simp only [id]))
 refine Reg2.az ?_
 intro w7 jH _ eu
 clear eu
 dsimp only [List.drop]
 have iP := dE.out.trans (jH.mono dE.out.size)
 go_wp2_with fail
 go_ret
 exact ⟨rfl, iP⟩
theorem LZ (h : CW w c t d p v g a m P) (hk : PK P) (hnd : ∀ j ∈ P.J, 0 ≤ j.bF ∧ j.bF ≤ 18446744073709551615) (n : Int) (hn : -9223372036854775808 ≤ n ∧ n ≤ 9223372036854775807) : Calls Tryz.prog 172 #[.pointer (some ⟨c, 0, none⟩), .int .i64 n] w fun e w' => e = .returned (.int .i64 (gJ P n)) ∧ Below w.heap.size w w' := by
 have hho := Gy h (hk.few) hnd n hn
 unfold gJ
 generalize jV P.J n = y at *
 obtain ⟨sv, hsv⟩ : ∃ sv, sv = if y.st = 3 then max y.fin (P.now + 1) else P.now := ⟨_, rfl⟩
 rw [← hsv]
 replace hsv := Lib.hid hsv
 have zE := bB
 obtain ⟨k, hk1⟩ : ∃ k, k = 10 := ⟨_, rfl⟩
 rw [← hk1] at zE
 have hk0 : ¬ k = 0 := by omega
 have lY := ax y
 rw [← hk1] at lY
 replace hk1 := Lib.hid hk1
 have e5 : (ah y)[5]? = some (.int .i64 y.st) := rfl
 have ST : Hid (∀ W : World, Sem.run Tryz.prog (storeCells ⟨W.heap.size, 0, none⟩ (ah y) 0) (W.alloc (.cells #[.int .i64 0, .int .i64 0, .int .i64 0, .int .i64 0, .int .i64 0, .int .i64 0, .int .i64 0, .int .i64 0, .int .i64 0, .int .u64 0] 55)) = .ok () (W.alloc (.cells (ah y).toArray 55))) := fun W => cz W W.heap.size (ah y) (ah gN) 55 rfl rfl (df y)
 have hun := fun (W : World) (hW : CW W c t d p v g a m P) => LY hW hk y
 have hC := Lib.hid h
 generalize ah y = cY at *
 clear h
 go_enter Tryz.func172, Tryz.ntmps172
 go_wp2_with fail
 go_at_call 20
 refine hho.mono ?_
 clear hho
 rintro e w1 ⟨rfl, hb1⟩
 have st1 := ST.out w1
 obtain ⟨w2, hw2⟩ : ∃ w2, w2 = w1.alloc (.cells cY.toArray 55) := ⟨_, rfl⟩
 rw [← hw2] at st1
 have hb2 : Below w.heap.size w w2 := by rw [hw2]; exact hb1.alloc hb1.size _
 have hz2 : w2.heap[w1.heap.size]? = some (.cells cY.toArray 55 (0, 0)) := by rw [hw2]; exact heap_alloc_new w1 _
 have c5 : w2.cell? ⟨w1.heap.size, 5, none⟩ = some (.int .i64 y.st) := by simp [World.cell?, hz2, e5]
 have UT := eX hz2 lY
 have hC2 := hC.out.kept hb2
 have hu2 := hun w2 hC2
 have hnw := fO hC2
 have c2 := hC2.c2
 replace hw2 := Lib.hid hw2
 replace hz2 := Lib.hid hz2
 by_cases hs : y.st = 3
 ·have d0 : (y.st == 3) = true := by simp [hs]
  replace hs := Lib.hid hs
  go_wp2_with fail
  go_at_call 52
  refine hu2.mono ?_
  rintro e w3 ⟨rfl, hb3⟩
  go_wp2_with fail
  go_ret
  exact ⟨by rw [hsv.out, if_pos hs.out]; rfl, hb2.trans (hb3.mono hb2.size)⟩
 ·have d0 : (y.st == 3) = false := by simp [hs]
  go_wp2_with (go_at_call 43; go_must (refine hnw.mono ?_); rintro e w' ⟨rfl, rfl⟩)
  go_ret
  exact ⟨by rw [hsv.out, if_neg hs]; rfl, hb2⟩
theorem Cy (h : SW w b c t d p v g a m R P) (e0 by' : Int) (he : e0 ≠ 0) : Calls Tryz.prog 142 #[.pointer (some ⟨b, 0, none⟩), .pointer (some ⟨c, 0, none⟩), .int .i64 e0, .int .i64 by'] w (au w b c t d p v g a m .nilFunc { R with rep := jL e0, ok := false } P) := by
 have hf := gV h.wk e0
 have d0 : (e0 != 0) = true := by simp [he]
 go_enter Tryz.func142, Tryz.ntmps142
 go_wp2_with (go_at_call 67; go_must (refine hf.mono ?_); rintro e w8 ⟨rfl, dH, fB⟩)
 go_ret
 exact ⟨rfl, v, g, h.work dH fB, WS.bu fB⟩
theorem Jg (h : SW w b c t d p v g a m R P) (hk : PK P) (ha : a ≤ 800) (hm : m ≤ 1000000) (hnd : ∀ j ∈ P.J, 0 ≤ j.bF ∧ j.bF ≤ 18446744073709551615) (hn : -9223372036854775808 ≤ R.ag.node ∧ R.ag.node ≤ 9223372036854775807) (by' : Int) (hby : -64 ≤ by' ∧ by' ≤ 64) (F : Int → Int)
  (hF : ∀ u, P.now ≤ u → F u = P.f u + had (max (gJ P R.ag.node) P.now) 1152921504606846976 by' u) (hr : ∀ u, P.now ≤ u → 0 ≤ F u ∧ F u ≤ 64) (hs : gJ P R.ag.node < 1152921504606846976) :
  Calls Tryz.prog 142 #[.pointer (some ⟨b, 0, none⟩), .pointer (some ⟨c, 0, none⟩), .int .i64 0, .int .i64 by'] w (au w b c t d p v g (a + 2) (m + 1) .nilFunc { R with rep := ⟨0, R.ag.node, oL P.T R.ag.node, 0, 0, 0, 0, 0, 0⟩ } { P with f := F }) := by
 have hS := Lib.hid h
 have q7 := h.wk.at 7 (.int .i64 R.ag.node) rfl
 have hsi := fun (W : World) (hW : CW W c t d p v g a m P) => LZ hW hk hnd R.ag.node hn
 generalize hsx : gJ P R.ag.node = sx at *
 generalize hnx : R.ag.node = nx at *
 replace hsx := Lib.hid hsx
 replace hnx := Lib.hid hnx
 clear h
 go_enter Tryz.func142, Tryz.ntmps142
 go_wp2_with fail
 refine Reg2.rd w 8 40 [[],[ae],[ae,ae],[ae,ae,ae],[af,af,af,af],[af,af,af,af,af],[af,af,af,af,ae,ae],[af,af,af,af,af,af,af]] [0, 0, 0, 1, 0, 0, 1, 0] [.pure, .pure, .pure, .mU (.pointer (some ⟨p, 0, none⟩)), .pure, .pure, .mU (.int .i64 sx), .pure] (by kernel_rfl) (by kernel_rfl) rfl rfl ⟨trivial, trivial, trivial, Reg2.tt, trivial, trivial, Reg2.tt, trivial, trivial⟩ ⟨rfl, rfl, rfl, Nat.le_refl _, fun _ _ => rfl⟩ ?_
 dsimp only [Reg2.mk, List.zip, List.zipWith, List.take]
 repeat (refine' Reg2.ai _ (by rfl) (fun wz => ?_) ?_; rotate_left; (go_simp; first | rfl | rw [if_neg (by omega)]); simp only [Act.put, xA, xB, xC]; (try simp only [xD]); (try simp only [xE]); (try simp only [id]))
 refine Reg2.pm (fun wz hI hF => ?_) (fun r3 => ?_) (by rfl)
 ·have c0 := (hS.out.cw.kept hI).c2
  go_wp2_with fail
  first | exact ⟨_, rfl, rfl, Reg2.Ext.refl _⟩ | exact ⟨_, rfl, ⟨(), rfl, trivial⟩, Reg2.Ext.refl _⟩
 simp only [Act.put, xA, xB, xC]; (try simp only [xD]); (try simp only [xE]); (try simp only [id])
 repeat (refine' Reg2.ai _ (by rfl) (fun wz => ?_) ?_; rotate_left; (go_simp; first | rfl | rw [if_neg (by omega)]); simp only [Act.put, xA, xB, xC]; (try simp only [xD]); (try simp only [xE]); (try simp only [id]))
 refine Reg2.pm (fun wz hI hF => ?_) (fun r6 => ?_) (by rfl)
 ·go_wp2_with (go_at_call 172; go_must (refine (hsi wz (hS.out.kept hI).cw).mono ?_); rintro e w' ⟨rfl, hb5⟩)
  first | exact ⟨_, rfl, ⟨(), rfl, trivial⟩, hb5⟩ | exact ⟨_, rfl, rfl, hb5⟩
 simp only [Act.put, xA, xB, xC]; (try simp only [xD]); (try simp only [xE]); (try simp only [id])
 repeat (refine' Reg2.ai _ (by rfl) (fun wz => ?_) ?_; rotate_left; (go_simp; first | rfl | rw [if_neg (by omega)]); simp only [Act.put, xA, xB, xC]; (try simp only [xD]); (try simp only [xE]); (try simp only [id]))
 refine Reg2.az ?_
 intro w4 HI4 _ eu
 clear eu
 dsimp only [List.drop]
 have bC := hS.out.kept HI4
 have hadd := Kc bC.cw hk ha hm sx 1152921504606846976 by' F hs (by omega) hby hF hr
 go_wp2_with fail
 go_at_call 170
 refine hadd.mono ?_
 clear hadd
 rintro e w5 ⟨rfl, v5, g5, fZ, hS5⟩
 have TR := bC.core fZ hS5
 have Bp := (WS.of_below HI4 : WS w w4 b c t d p v g v g).trans (WS.bZ hS5)
 have hst := uP nx hn fZ.nodes hk.pW
 rw [show ({ P with f := F } : Pg).T = P.T from rfl] at hst
 have c1 := fZ.c1
 go_wp2_with fail
 go_at_call 46
 refine hst.mono ?_
 clear hst c1
 rintro e w6 ⟨rfl, mm, vR⟩
 have hb6 : Below w5.heap.size w5 w6 := by rw [vR]; exact below_drewN (Below.refl _ _) _
 have dP := TR.kept hb6
 have rZ := Bp.trans (WS.of_below hb6)
 obtain ⟨w7, hw7, xn, OX⟩ := OW dP.wk 0 nx (oL P.T nx) 0 0 0 0 0 0
 have a24 := dP.wk.at 24 (.int .i64 R.rep.err) rfl
 have f24 := dP.wk.free 24
 have a25 := dP.wk.at 25 (.int .i64 R.rep.id) rfl
 have f25 := dP.wk.free 25
 have a26 := dP.wk.at 26 (.int .i64 R.rep.state) rfl
 have f26 := dP.wk.free 26
 have a27 := dP.wk.at 27 (.int .i64 R.rep.start) rfl
 have f27 := dP.wk.free 27
 have a28 := dP.wk.at 28 (.int .i64 R.rep.stop) rfl
 have f28 := dP.wk.free 28
 have a29 := dP.wk.at 29 (.int .i64 R.rep.plan) rfl
 have f29 := dP.wk.free 29
 have a30 := dP.wk.at 30 (.int .i64 R.rep.a) rfl
 have f30 := dP.wk.free 30
 have a31 := dP.wk.at 31 (.int .i64 R.rep.b) rfl
 have f31 := dP.wk.free 31
 have a32 := dP.wk.at 32 (.int .i64 R.rep.c) rfl
 have f32 := dP.wk.free 32
 have fT := dP.work xn OX
 have Jh := rZ.trans (WS.bu OX)
 replace vR := Lib.hid vR
 go_wp2_with fail
 rw [← hw7]
 go_ret
 have en := hnx.out
 subst en
 exact ⟨rfl, v5, g5, fT, Jh⟩
end
end Go.Proofs.YtkhfejihijdipaaGreat

namespace Go.Proofs.YtkhfejihijdipaaGreat
open Go.RowKit Go.Lib Go.Sort
def Early (M : Md) : Prop := ∀ j ∈ M.L, j.st ≤ 2 → j.fin = -1
theorem foldl_min (l : List Int) : ∀ x : Int, (l.foldl min x = x ∨ l.foldl min x ∈ l) ∧ l.foldl min x ≤ x ∧ ∀ z ∈ l, l.foldl min x ≤ z := by
 induction l with
 | nil => exact fun x => ⟨.inl rfl, Int.le_refl _, fun z hz => nomatch hz⟩
 | cons a l ih =>
  intro x
  obtain ⟨h1, h2, h3⟩ := ih (min x a)
  refine ⟨?_, by show l.foldl min (min x a) ≤ x; omega, fun z hz => ?_⟩
  ·show l.foldl min (min x a) = x ∨ l.foldl min (min x a) ∈ a :: l
   rcases h1 with h1 | h1
   ·rw [h1]
    rcases Int.le_total x a with h | h
    ·exact .inl (Int.min_eq_left h)
    ·exact .inr (by rw [Int.min_eq_right h]; exact List.mem_cons_self ..)
   ·exact .inr (List.mem_cons_of_mem _ h1)
  ·show l.foldl min (min x a) ≤ z
   rcases List.mem_cons.1 hz with rfl | hz
   ·omega
   ·exact h3 z hz
theorem Aw (l : List Int) : jU l = 1152921504606846976 ∨ jU l ∈ l := (foldl_min l _).1
theorem Ji {l : List Int} {z : Int} (h : z ∈ l) : jU l ≤ z := (foldl_min l _).2.2 z h
section
variable {M : Md}
theorem GA (hI : aB M) (hE : Early M) : jU (qF M.now (M.L.filter fun j : Jb => decide (j.state ∈ [(1 : Int), 3]))) = if aP M < 0 then 1152921504606846976 else aP M := by
 have h0 := hI.mb.now
 have hL := ql (M := M) h0.1
 have key : ∀ t, t ∈ qF M.now (M.L.filter fun j : Jb => decide (j.state ∈ [(1 : Int), 3])) ↔ (t ∈ M.L.flatMap vL ∧ M.now < t) := by
  intro t
  unfold qF
  simp only [List.mem_flatMap]
  constructor
  ·rintro ⟨j, hj, ht⟩
   obtain ⟨hjm, hjs⟩ := List.mem_filter.1 hj
   unfold Jd at ht
   obtain ⟨ht1, ht2⟩ := List.mem_filter.1 ht
   have ht2 : M.now < t := of_decide_eq_true ht2
   refine ⟨⟨j, hjm, ?_⟩, ht2⟩
   have hs : j.st = 1 ∨ j.st = 3 := by
    have : j.state = 1 ∨ j.state = 3 := by simpa using hjs
    exact this
   have ht3 : t = j.fin ∨ t = j.aK := by simpa using ht1
   unfold vL
   rcases hs with hs | hs
   ·have he := hE j hjm (by omega)
    have htp : t = j.aK := by rcases ht3 with h | h <;> omega
    have hpl : ak j = true := aY.2 ⟨hs, by omega⟩
    rw [hpl]
    simp [htp]
   ·have hr := hI.rest j hjm (by omega)
    have htp : t = j.fin := by rcases ht3 with h | h <;> omega
    simp [hs, htp]
  ·rintro ⟨⟨j, hjm, ht⟩, ht2⟩
   unfold vL at ht
   rcases List.mem_append.1 ht with h | h
   ·by_cases hs : j.st = 3
    ·rw [if_pos hs] at h
     refine ⟨j, List.mem_filter.2 ⟨hjm, ?_⟩, ?_⟩
     ·have : j.state = 3 := hs
      simp [this]
     ·unfold Jd
      rw [List.mem_singleton.1 h] at ht2 ⊢
      exact List.mem_filter.2 ⟨by simp, decide_eq_true ht2⟩
    ·rw [if_neg hs] at h; cases h
   ·by_cases hs : ak j = true
    ·rw [if_pos hs] at h
     refine ⟨j, List.mem_filter.2 ⟨hjm, ?_⟩, ?_⟩
     ·have : j.state = 1 := (aY.1 hs).1
      simp [this]
     ·unfold Jd
      rw [List.mem_singleton.1 h] at ht2 ⊢
      exact List.mem_filter.2 ⟨by simp, decide_eq_true ht2⟩
    ·rw [if_neg hs] at h; cases h
 have hbig : ∀ t ∈ M.L.flatMap vL, t ≤ 1099512676352 := by
  intro t ht
  obtain ⟨j, hjm, ht⟩ := List.mem_flatMap.1 ht
  have h1 := hI.mb.fin j hjm
  have h2 := hI.mb.aK j hjm
  unfold vL at ht
  rcases List.mem_append.1 ht with h | h
  ·split at h
   ·rw [List.mem_singleton.1 h]; omega
   ·cases h
  ·split at h
   ·rw [List.mem_singleton.1 h]; omega
   ·cases h
 rcases hL with ⟨h1, h2⟩ | ⟨h1, h2, h3, h4⟩
 ·rw [if_pos h1]
  rcases Aw (qF M.now (M.L.filter fun j : Jb => decide (j.state ∈ [(1 : Int), 3]))) with h | h
  ·exact h
  ·have := (key _).1 h
   have := h2 _ this.1
   omega
 ·rw [if_neg (by omega)]
  have h5 := Ji ((key _).2 ⟨h3, h2⟩)
  have h6 := hbig _ h3
  rcases Aw (qF M.now (M.L.filter fun j : Jb => decide (j.state ∈ [(1 : Int), 3]))) with h | h
  ·omega
  ·have h7 := (key _).1 h
   have := h4 _ h7.1 h7.2
   omega
end
section
variable {w : World} {b c t d p g a : Nat} {v : Value} {m : Int} {P : Pg} {M : Md} {R : Wk}
theorem L6 (h : CW w c t d p v g a m P) (ha : a ≤ 1000) : Calls Tryz.prog 133 #[.pointer (some ⟨p, 0, none⟩), .int .i64 P.now] w fun e w' => e = .returned (.int .i64 (P.f P.now)) ∧ Below w.heap.size w w' := by
 obtain ⟨S, aH, hp, hC, hl, _⟩ := h.kN
 obtain ⟨i, hi⟩ := hC.sm.ix P.now
 rw [hi.val hC.sm (Int.le_refl _)]
 exact Lh P.now hi hC.sm (by omega) hp
theorem Cz (h : SW w b c t d p v g a m R P) (ha : a ≤ 1000) : Calls Tryz.prog 116 #[.pointer (some ⟨b, 0, none⟩), .pointer (some ⟨c, 0, none⟩)] w (au w b c t d p v g a m (.tuple #[]) { R with rep := ⟨0, 0, 0, P.now, 0, 0, P.f P.now, 0, 0⟩ } P) := by
 have hS := Lib.hid h
 have hfr := fun (W : World) (hW : SW W b c t d p v g a m R P) => L6 hW.cw ha
 obtain ⟨fn, hfn⟩ : ∃ fn, fn = P.f P.now := ⟨_, rfl⟩
 rw [← hfn] at hfr ⊢
 replace hfn := Lib.hid hfn
 clear h
 go_enter Tryz.func116, Tryz.ntmps116
 go_wp2_with fail
 refine Reg2.rd w 17 23 [[],[af],[af,ae],[af,ae,ae],[af,ae,ae,ae],[af,ae,ae,ae,ae],[af,af,af,af,af,af],[af,af,af,af,af,af,ae],[af,af,af,af,af,af,ae,ae],[af,af,af,af,af,af,ae,ae,ae],[af,af,af,af,af,af,af,af,af,af],[af,af,af,af,af,af,af,af,af,af,ae],[af,af,af,af,af,af,af,af,af,af,ae,ae],[af,af,af,af,af,af,af,af,af,af,ae,ae,ae],[af,ae,ae,ae,ae,ae,af,af,af,af,ae,ae,ae,ae],[af,ae,ae,ae,ae,ae,ae,ae,ae,ae,ae,ae,ae,ae,ae],[af,ae,ae,ae,ae,ae,ae,ae,ae,ae,ae,ae,ae,ae,ae,ae]] [0, 0, 0, 0, 1, 1, 0, 0, 0, 1, 0, 0, 0, 1, 1, 1, 0] [.pure, .pure, .pure, .pure, .mU (.pointer (some ⟨p, 0, none⟩)), .mU (.int .i64 P.now), .pure, .pure, .pure, .mU (.pointer (some ⟨p, 0, none⟩)), .pure, .pure, .pure, .mU (.pointer (some ⟨p, 0, none⟩)), .mU (.int .i64 P.now), .mU (.int .i64 fn), .pure] (by kernel_rfl) (by kernel_rfl) rfl rfl ⟨trivial, trivial, trivial, trivial, Reg2.tt, Reg2.tt, trivial, trivial, trivial, Reg2.tt, trivial, trivial, trivial, Reg2.tt, Reg2.tt, Reg2.tt, trivial, trivial⟩ ⟨rfl, rfl, rfl, Nat.le_refl _, fun _ _ => rfl⟩ ?_
 dsimp only [Reg2.mk, List.zip, List.zipWith, List.take]
 repeat (refine' Reg2.ai _ (by rfl) (fun wz => ?_) ?_; rotate_left; (go_simp; first | rfl | rw [if_neg (by omega)]); simp only [Act.put, xA, xB, xC]; (try simp only [xD]); (try simp only [xE]); (try simp only [id]))
 refine Reg2.pm (fun wz hI hF => ?_) (fun r4 => ?_) (by rfl)
 ·have c0 := (hS.out.cw.kept hI).c2
  go_wp2_with fail
  first | exact ⟨_, rfl, rfl, Reg2.Ext.refl _⟩ | exact ⟨_, rfl, ⟨(), rfl, trivial⟩, Reg2.Ext.refl _⟩
 simp only [Act.put, xA, xB, xC]; (try simp only [xD]); (try simp only [xE]); (try simp only [id])
 refine Reg2.pm (fun wz hI hF => ?_) (fun r5 => ?_) (by rfl)
 ·go_wp2_with (go_at_call 43; go_must (refine (fO (hS.out.kept hI).cw).mono ?_); rintro e w' ⟨rfl, rfl⟩)
  first | exact ⟨_, rfl, rfl, Reg2.Ext.refl _⟩ | exact ⟨_, rfl, ⟨(), rfl, trivial⟩, Reg2.Ext.refl _⟩
 simp only [Act.put, xA, xB, xC]; (try simp only [xD]); (try simp only [xE]); (try simp only [id])
 repeat (refine' Reg2.ai _ (by rfl) (fun wz => ?_) ?_; rotate_left; (go_simp; first | rfl | rw [if_neg (by omega)]); simp only [Act.put, xA, xB, xC]; (try simp only [xD]); (try simp only [xE]); (try simp only [id]))
 refine Reg2.pm (fun wz hI hF => ?_) (fun r9 => ?_) (by rfl)
 ·have c0 := (hS.out.cw.kept hI).c2
  go_wp2_with fail
  first | exact ⟨_, rfl, rfl, Reg2.Ext.refl _⟩ | exact ⟨_, rfl, ⟨(), rfl, trivial⟩, Reg2.Ext.refl _⟩
 simp only [Act.put, xA, xB, xC]; (try simp only [xD]); (try simp only [xE]); (try simp only [id])
 repeat (refine' Reg2.ai _ (by rfl) (fun wz => ?_) ?_; rotate_left; (go_simp; first | rfl | rw [if_neg (by omega)]); simp only [Act.put, xA, xB, xC]; (try simp only [xD]); (try simp only [xE]); (try simp only [id]))
 refine Reg2.pm (fun wz hI hF => ?_) (fun Em => ?_) (by rfl)
 ·have c0 := (hS.out.cw.kept hI).c2
  go_wp2_with fail
  first | exact ⟨_, rfl, rfl, Reg2.Ext.refl _⟩ | exact ⟨_, rfl, ⟨(), rfl, trivial⟩, Reg2.Ext.refl _⟩
 simp only [Act.put, xA, xB, xC]; (try simp only [xD]); (try simp only [xE]); (try simp only [id])
 refine Reg2.pm (fun wz hI hF => ?_) (fun Ej => ?_) (by rfl)
 ·go_wp2_with (go_at_call 43; go_must (refine (fO (hS.out.kept hI).cw).mono ?_); rintro e w' ⟨rfl, rfl⟩)
  first | exact ⟨_, rfl, rfl, Reg2.Ext.refl _⟩ | exact ⟨_, rfl, ⟨(), rfl, trivial⟩, Reg2.Ext.refl _⟩
 simp only [Act.put, xA, xB, xC]; (try simp only [xD]); (try simp only [xE]); (try simp only [id])
 refine Reg2.pm (fun wz hI hF => ?_) (fun TS => ?_) (by rfl)
 ·go_wp2_with (go_at_call 133; go_must (refine (hfr wz (hS.out.kept hI)).mono ?_); rintro e w' ⟨rfl, hb5⟩)
  first | exact ⟨_, rfl, ⟨(), rfl, trivial⟩, hb5⟩ | exact ⟨_, rfl, rfl, hb5⟩
 simp only [Act.put, xA, xB, xC]; (try simp only [xD]); (try simp only [xE]); (try simp only [id])
 repeat (refine' Reg2.ai _ (by rfl) (fun wz => ?_) ?_; rotate_left; (go_simp; first | rfl | rw [if_neg (by omega)]); simp only [Act.put, xA, xB, xC]; (try simp only [xD]); (try simp only [xE]); (try simp only [id]))
 refine Reg2.az ?_
 intro w4 HI4 _ eu
 clear eu
 dsimp only [List.drop]
 have bC := hS.out.kept HI4
 obtain ⟨w7, hw7, xn, OX⟩ := OW bC.wk 0 0 0 P.now 0 0 fn 0 0
 have a24 := bC.wk.at 24 (.int .i64 R.rep.err) rfl
 have f24 := bC.wk.free 24
 have a25 := bC.wk.at 25 (.int .i64 R.rep.id) rfl
 have f25 := bC.wk.free 25
 have a26 := bC.wk.at 26 (.int .i64 R.rep.state) rfl
 have f26 := bC.wk.free 26
 have a27 := bC.wk.at 27 (.int .i64 R.rep.start) rfl
 have f27 := bC.wk.free 27
 have a28 := bC.wk.at 28 (.int .i64 R.rep.stop) rfl
 have f28 := bC.wk.free 28
 have a29 := bC.wk.at 29 (.int .i64 R.rep.plan) rfl
 have f29 := bC.wk.free 29
 have a30 := bC.wk.at 30 (.int .i64 R.rep.a) rfl
 have f30 := bC.wk.free 30
 have a31 := bC.wk.at 31 (.int .i64 R.rep.b) rfl
 have f31 := bC.wk.free 31
 have a32 := bC.wk.at 32 (.int .i64 R.rep.c) rfl
 have f32 := bC.wk.free 32
 have fT := bC.work xn OX
 have Jh := (WS.of_below HI4 : WS w w4 b c t d p v g v g).trans (WS.bu OX)
 go_wp2_with fail
 rw [← hw7]
 go_end0
 exact ⟨rfl, v, g, fT, Jh⟩
theorem uk (h : SW w b c t d p v g a m R (aj M)) (hI : aB M) (hE : Early M) (h1 : 1 ≤ M.dr.length) (hll : M.L.length ≤ 900) (ha : a ≤ 800) (hm : m ≤ 1000000) (hnx : aP M < 0 ∨ R.target < aP M) (rq : M.now ≤ R.target ∧ R.target ≤ 1099511627776) :
  Calls Tryz.prog 145 #[.pointer (some ⟨b, 0, none⟩), .pointer (some ⟨c, 0, none⟩)] w (au w b c t d p v g a (m + 1) .nilFunc { R with rep := ⟨0, 0, 0, R.target, 0, 0, ay M R.target 0, 0, 0⟩ } (aj { M with now := R.target })) := by
 have oO := dX hI h1 hll
 have hne := Cv h.cw oO (fun j hj => hI.mb.fin j hj) (fun j hj => hI.mb.aK j hj)
 rw [show (aj M).now = M.now from rfl, show (aj M).J = M.L from rfl, GA hI hE] at hne
 obtain ⟨x, hx⟩ : ∃ x, x = if aP M < 0 then 1152921504606846976 else aP M := ⟨_, rfl⟩
 rw [← hx] at hne
 have hgt : R.target < x := by rw [hx]; split <;> omega
 have d1 : decide (x > R.target) = true := decide_eq_true hgt
 replace hx := Lib.hid hx
 replace hgt := Lib.hid hgt
 have Ke := fun (W : World) (hW : SW W b c t d p v g a m R (aj M)) => yo hW.cw oO ha hm R.target rq.1 rq.2
 have Jj := fun (W : World) (hW : SW W b c t d p v g a m R (aj M)) => hW.wk.at 23 (.int .i64 R.target) rfl
 generalize hrt : R.target = rt at *
 have hS := Lib.hid h
 clear h
 go_enter Tryz.func145, Tryz.ntmps145
 go_wp2_with fail
 go_at_call 175
 refine hne.mono ?_
 clear hne
 rintro e w1 ⟨rfl, hb1⟩
 have hS1 := Lib.hid (hS.out.kept hb1)
 have q1 := Jj w1 hS1.out
 replace Jj := Lib.hid Jj
 replace hrt := Lib.hid hrt
 go_wp2_with fail
 refine Reg2.rd w1 8 44 [[],[ae],[ae,ae],[ae,ae,ae],[af,af,af,af],[af,af,af,af,ae],[af,af,af,af,ae,ae],[af,af,af,af,ae,ae,ae]] [0, 0, 0, 1, 0, 0, 0, 1] [.pure, .pure, .pure, .mU (.pointer (some ⟨p, 0, none⟩)), .pure, .pure, .pure, .mU (.int .i64 rt)] (by kernel_rfl) (by kernel_rfl) rfl rfl ⟨trivial, trivial, trivial, Reg2.tt, trivial, trivial, trivial, Reg2.tt, trivial⟩ ⟨rfl, rfl, rfl, Nat.le_refl _, fun _ _ => rfl⟩ ?_
 dsimp only [Reg2.mk, List.zip, List.zipWith, List.take]
 repeat (refine' Reg2.ai _ (by rfl) (fun wz => ?_) ?_; rotate_left; (go_simp; first | rfl | rw [if_neg (by omega)]); simp only [Act.put, xA, xB, xC]; (try simp only [xD]); (try simp only [xE]); (try simp only [id]))
 refine Reg2.pm (fun wz hI hF => ?_) (fun r3 => ?_) (by rfl)
 ·have c0 := (hS1.out.cw.kept hI).c2
  go_wp2_with fail
  first | exact ⟨_, rfl, rfl, Reg2.Ext.refl _⟩ | exact ⟨_, rfl, ⟨(), rfl, trivial⟩, Reg2.Ext.refl _⟩
 simp only [Act.put, xA, xB, xC]; (try simp only [xD]); (try simp only [xE]); (try simp only [id])
 repeat (refine' Reg2.ai _ (by rfl) (fun wz => ?_) ?_; rotate_left; (go_simp; first | rfl | rw [if_neg (by omega)]); simp only [Act.put, xA, xB, xC]; (try simp only [xD]); (try simp only [xE]); (try simp only [id]))
 refine Reg2.pm (fun wz hI hF => ?_) (fun r7 => ?_) (by rfl)
 ·have q0 := Jj.out wz (hS1.out.kept hI)
  go_wp2_with fail
  first | exact ⟨_, rfl, rfl, Reg2.Ext.refl _⟩ | exact ⟨_, rfl, ⟨(), rfl, trivial⟩, Reg2.Ext.refl _⟩
 simp only [Act.put, xA, xB, xC]; (try simp only [xD]); (try simp only [xE]); (try simp only [id])
 refine Reg2.az ?_
 intro w4 HI4 _ eu
 clear eu
 dsimp only [List.drop]
 have bC := hS1.out.kept HI4
 have L8 := Ke w4 bC
 go_wp2_with fail
 go_at_call 176
 refine L8.mono ?_
 clear L8
 rintro e w5 ⟨rfl, v5, g5, fZ, hS5⟩
 have OY := bC.core fZ hS5
 have Bp := (WS.of_below (hb1.trans (HI4.mono hb1.size)) : WS w w4 b c t d p v g v g).trans (WS.bZ hS5)
 have hck := Cz OY (by omega)
 rw [show ({ aj M with now := rt } : Pg).f = fun u => ay M u 0 from rfl, show ({ aj M with now := rt } : Pg).now = rt from rfl] at hck
 go_wp2_with fail
 go_at_call 116
 refine hck.mono ?_
 clear hck
 rintro e w6 ⟨rfl, v6, g6, dP, RN⟩
 have rZ := Bp.trans RN
 go_wp2_with fail
 go_ret
 have er := hrt.out
 clear hrt
 subst er
 exact ⟨rfl, v6, g6, dP, rZ⟩
theorem yB (h : SW w b c t d p v g a m R (aj M)) (hI : aB M) (U0 : Calm M) (hE : Early M) (h1 : 1 ≤ M.dr.length) (hll : M.L.length ≤ 900) (ha : a ≤ 800) (hm : m ≤ 1000000) (hnx : 0 ≤ aP M ∧ aP M ≤ R.target) (rq : R.target ≤ 1099511627776) :
  Calls Tryz.prog 145 #[.pointer (some ⟨b, 0, none⟩), .pointer (some ⟨c, 0, none⟩)] w (au w b c t d p v g a (m + 1) (eU 145) R (aj (dA { M with now := aP M }))) := by
 have oO := dX hI h1 hll
 have hne := Cv h.cw oO (fun j hj => hI.mb.fin j hj) (fun j hj => hI.mb.aK j hj)
 rw [show (aj M).now = M.now from rfl, show (aj M).J = M.L from rfl, GA hI hE, if_neg (by omega)] at hne
 obtain ⟨hlt, Qn, _⟩ := hI.step U0 hnx.1 (by omega)
 have hf0 : ∀ u, aP M ≤ u → 0 ≤ ay M u 0 ∧ ay M u 0 ≤ 64 := fun u hu => uT hI u (by omega)
 have hov := Qn.over
 have Ke := fun (W : World) (hW : SW W b c t d p v g a m R (aj M)) => yo hW.cw oO ha hm (aP M) (by show M.now ≤ _; omega) (by omega)
 have OZ := fun (W : World) (v1 : Value) (g1 : Nat) (hW : CW W c t d p v1 g1 a (m + 1) { aj ({ M with now := aP M } : Md) with f := fun u => ay M u 0 }) => Ja (M := { M with now := aP M }) (fun u => ay M u 0) hW Qn h1 hll hf0
 have vZ := fun (W : World) (v1 : Value) (g1 : Nat) (hW : CW W c t d p v1 g1 a (m + 1) { aj ({ ({ M with now := aP M } : Md) with L := M.L.map (aR (aP M)) } : Md) with f := fun u => ay M u 0 }) => LQ (M := { ({ M with now := aP M } : Md) with L := M.L.map (aR (aP M)) }) (fun u => ay M u 0) hW hov.1 hov.2 M.L.length (by
  have := lh (fun j => if bX (aP M) j = true then (1 : Int) else 0) 1 (M.L.map (aR (aP M))) (fun j _ => by split <;> omega)
  rw [List.length_map] at this
  have e : kU ({ ({ M with now := aP M } : Md) with L := M.L.map (aR (aP M)) } : Md) = ((M.L.map (aR (aP M))).map fun j => if bX (aP M) j = true then (1 : Int) else 0).sum := rfl
  rw [e]; omega) h1 (by rw [List.length_map]; exact hll) hf0
 have O0 : startGo M.L.length ({ ({ M with now := aP M } : Md) with L := M.L.map (aR (aP M)) } : Md) = dA { M with now := aP M } := rfl
 rw [O0] at vZ
 rw [show ({ M with now := aP M } : Md).now = aP M from rfl, show ({ M with now := aP M } : Md).L = M.L from rfl] at OZ
 rw [show ({ ({ M with now := aP M } : Md) with L := M.L.map (aR (aP M)) } : Md).now = aP M from rfl] at vZ
 have hfin : Hid (∀ {W : World} {v1 : Value} {g1 : Nat}, CW W c t d p v1 g1 a (m + 1) { aj (dA { M with now := aP M }) with f := fun u => ay M u 0 } → CW W c t d p v1 g1 a (m + 1) (aj (dA { M with now := aP M }))) := fun {W v1 g1} hW => by
  have jI : (dA { M with now := aP M }).now = aP M := by rw [← O0]; exact (uf M.L.length hov.1.mb).2.2.1
  exact hW.RI (fun u => ay (dA { M with now := aP M }) u 0) fun u hu => (AZ Qn u (by
   have hu2 : (dA { M with now := aP M }).now ≤ u := hu
   rw [jI] at hu2; exact hu2)).symm
 obtain ⟨H, hH⟩ : ∃ H, H = dA { M with now := aP M } := ⟨_, rfl⟩
 rw [← hH] at vZ hfin ⊢
 have d1 : decide (aP M > R.target) = false := decide_eq_false (by omega)
 replace hH := Lib.hid hH
 generalize Lr : aP M = x at *
 replace Lr := Lib.hid Lr
 have Jj := fun (W : World) (hW : SW W b c t d p v g a m R (aj M)) => hW.wk.at 23 (.int .i64 R.target) rfl
 generalize R.target = rt at *
 have hS := Lib.hid h
 clear h hov Qn O0
 go_enter Tryz.func145, Tryz.ntmps145
 go_wp2_with fail
 go_at_call 175
 refine hne.mono ?_
 clear hne
 rintro e w1 ⟨rfl, hb1⟩
 have hS1 := hS.out.kept hb1
 have q1 := Jj w1 hS1
 have c2 := hS1.cw.c2
 have ha1 := Ke w1 hS1
 clear Jj Ke
 go_wp2_with fail
 go_at_call 176
 refine ha1.mono ?_
 clear ha1
 rintro e w5 ⟨rfl, v5, g5, fZ, hS5⟩
 have OY := hS1.core fZ hS5
 have Bp := (WS.of_below hb1 : WS w w1 b c t d p v g v g).trans (WS.bZ hS5)
 have TT := OZ w5 v5 g5 fZ
 clear OZ q1 c2
 go_wp2_with fail
 go_at_call 177
 refine TT.mono ?_
 clear TT
 rintro e w6 ⟨rfl, v6, g6, Gg, dP⟩
 have TU := OY.core Gg dP
 have rZ := Bp.trans (WS.bZ dP)
 have hs6 := vZ w6 v6 g6 Gg
 clear vZ
 go_wp2_with fail
 go_at_call 178
 refine hs6.mono ?_
 clear hs6
 rintro e w7 ⟨rfl, v7, g7, yM, fT⟩
 have TY := TU.core (hfin.out yM) fT
 have Jh := rZ.trans (WS.bZ fT)
 go_wp2_with fail
 go_ret
 exact ⟨rfl, v7, g7, TY, Jh⟩
end
end Go.Proofs.YtkhfejihijdipaaGreat

namespace Go.Proofs.YtkhfejihijdipaaGreat
open Go.RowKit Go.Lib
section
variable {M : Md}
def mo (j : Jb) (x : Int) : Int := if ak j = true then min (x + j.lim) j.aK else x + j.lim
theorem O1 {id : Int} (h : fV M.L id ≠ 0) : (getM M id).2 = false := by
 unfold fV at h
 unfold getM
 by_cases h1 : id < 1
 ·rw [if_pos (.inl h1)]
 ·rw [if_neg h1] at h
  by_cases h2 : (M.L.length : Int) < id
  ·rw [if_pos (.inr h2)]
  ·rw [if_neg h2] at h; exact absurd rfl h
theorem tL {id : Int} (h : fV M.L id = 0) : ∃ i : Nat, i < M.L.length ∧ id = (i : Int) + 1 ∧ bE M.L id = M.L.getD i default ∧ getM M id = (M.L.getD i default, true) := by
 unfold fV at h
 by_cases h1 : id < 1
 ·rw [if_pos h1] at h; cases h
 ·rw [if_neg h1] at h
  by_cases h2 : (M.L.length : Int) < id
  ·rw [if_pos h2] at h; cases h
  ·refine ⟨(id - 1).toNat, by omega, by omega, ?_, ?_⟩
   ·unfold bE
    have hq : (id - 1).toNat < M.L.length := by omega
    rw [if_neg h1, if_neg h2, getElem!_pos M.L _ hq]
    generalize (id - 1).toNat = q at *
    simp [List.getD, hq]
   ·unfold getM
    rw [if_neg (by omega)]
theorem O3 (h : M.cl = true) (id x : Int) : eQ M id x = false := by unfold eQ; rw [if_pos (.inl h)]
theorem L9 {id x : Int} (h : x < M.now) : eQ M id x = false := by unfold eQ; rw [if_pos (.inr (.inr (.inr (.inl h))))]
theorem Jk {id x : Int} (h : 1099511627776 < x) : eQ M id x = false := by unfold eQ; rw [if_pos (.inr (.inr (.inr (.inr (.inl h)))))]
theorem Jl {id x : Int} (h : fV M.L id ≠ 0) : eQ M id x = false := by unfold eQ; rw [if_pos (.inr (.inl (O1 h)))]
theorem GD {id x : Int} (h : fV M.L id = 0) (hs : (bE M.L id).st ≠ 1) : eQ M id x = false := by
 obtain ⟨i, _, _, h3, h4⟩ := tL h
 unfold eQ
 rw [if_pos]
 exact .inr (.inr (.inl (by rw [h4, ← h3]; exact hs)))
theorem Jm {id x : Int} (h : fV M.L id = 0) (hp : ak (bE M.L id) = true) (hl : (bE M.L id).aK ≤ x) : eQ M id x = false := by
 obtain ⟨i, _, _, h3, h4⟩ := tL h
 unfold eQ
 rw [if_pos]
 exact .inr (.inr (.inr (.inr (.inr (by rw [h4, ← h3]; exact ⟨(aY.1 hp).2, hl⟩)))))
theorem Qo {x long width but : Int} (hx : 1 ≤ long) (h : ∀ t, x ≤ t → t < x + long → width ≤ ay M t but) : wG M x long width but = true := by
 unfold wG
 rw [Bool.and_eq_true, List.all_eq_true]
 refine ⟨decide_eq_true (h x (Int.le_refl _) (by omega)), fun t _ => ?_⟩
 rw [Bool.not_eq_true', Bool.and_eq_false_iff, Bool.and_eq_false_iff]
 by_cases h1 : x < t
 ·by_cases h2 : t < x + long
  ·refine .inr (decide_eq_false ?_)
   have := h t (by omega) h2
   omega
  ·exact .inl (.inr (decide_eq_false h2))
 ·exact .inl (.inl (decide_eq_false h1))
theorem Jn (hI : aB M) {id x m : Int} (hcl : M.cl = false) (h1 : M.now ≤ x) (h2 : x ≤ 1099511627776) (h : fV M.L id = 0) (hs : (bE M.L id).st = 1) (hl : ak (bE M.L id) = true → x < (bE M.L id).aK)
  (hm : BL (fun u => ay M u 0) x (mo (bE M.L id) x) m) : eQ M id x = decide ((bE M.L id).wid ≤ m) := by
 obtain ⟨i, hi, hid, h3, h4⟩ := tL h
 have hmem := aW hi
 rw [h3] at hs hl hm ⊢
 have hone := hI.one _ hmem
 have TZ := hI.ids i hi
 have e : eQ M id x = wG M x (M.L.getD i default).lim (M.L.getD i default).wid ((i : Int) + 1) := by
  unfold eQ
  rw [h4]
  show (if M.cl = true ∨ true = false ∨ _ then _ else _) = _
  rw [if_neg, TZ]
  have h5 := hs
  rintro (a1 | a1 | a1 | a1 | a1 | a1)
  ·rw [hcl] at a1; cases a1
  ·cases a1
  ·exact a1 hs
  ·omega
  ·omega
  ·have := hl (aY.2 ⟨h5, a1.1⟩)
   have h6 : (M.L.getD i default).aK ≤ x := a1.2
   omega
 rw [e]
 have xO := kZ hi hI.ids
 have hto : x < mo (M.L.getD i default) x := by
  unfold mo
  split
  ·rename_i hp; have := hl hp; omega
  ·omega
 have M5 := hI.mb.wid _ hmem
 have hcon : ∀ u, x ≤ u → u < x + (M.L.getD i default).lim → (u < mo (M.L.getD i default) x → dB u 0 (M.L.getD i default) = 0) ∧ (mo (M.L.getD i default) x ≤ u → dB u 0 (M.L.getD i default) = (M.L.getD i default).wid) := by
  intro u hu1 hu2
  unfold mo
  cases hp : ak (M.L.getD i default) with
  | false =>
   refine ⟨fun _ => dC hp, fun h6 => ?_⟩
   rw [if_neg (by decide)] at h6
   omega
  | true =>
   have h7 := hl hp
   rw [if_pos rfl, kY hp (by omega)]
   refine ⟨fun h6 => if_neg (by omega), fun h6 => if_pos (by omega)⟩
 have hsub : mo (M.L.getD i default) x ≤ x + (M.L.getD i default).lim := by unfold mo; split <;> omega
 rw [Bool.eq_iff_iff, decide_eq_true_eq]
 constructor
 ·intro hr
  have hall := wK hI.mb.now.1 h1 hr
  rcases hm.one with e1 | ⟨u, u1, u2, u3⟩
  ·omega
  ·have h6 := hall u u1 (by omega)
   rw [xO, (hcon u u1 (by omega)).1 u2] at h6
   have h7 : ay M u 0 = m := u3
   omega
 ·intro hw
  refine Qo (by omega) fun u ht1 ht2 => ?_
  rw [xO]
  rcases Int.lt_or_le u (mo (M.L.getD i default) x) with h6 | h6
  ·have h7 : m ≤ ay M u 0 := hm.all u ht1 h6
   rw [(hcon u ht1 ht2).1 h6]
   omega
  ·have h7 := hI.free u (by omega)
   rw [(hcon u ht1 ht2).2 h6]
   omega
end
end Go.Proofs.YtkhfejihijdipaaGreat

namespace Go.Proofs.YtkhfejihijdipaaGreat
open Go.RowKit Go.Lib Go.Sort
def gW (w0 : World) (y : Jb) (vs : List Value) (W : World) : Prop := Below w0.heap.size w0 W ∧ (match vs with
 | [] => True
 | [u] => ∃ k, u = .pointer (some ⟨k, 0, none⟩) ∧ w0.heap.size ≤ k ∧ W.heap[k]? = some (.cells (ah gN).toArray 55 (0, 0))
 | u :: _ :: _ => ∃ k, u = .pointer (some ⟨k, 0, none⟩) ∧ w0.heap.size ≤ k ∧ W.heap[k]? = some (.cells (ah y).toArray 55 (0, 0)))
theorem gW.ext {w0 a b : World} {y : Jb} {vs : List Value} (h : Below a.heap.size a b) (hs : gW w0 y vs a) : gW w0 y vs b := by
 obtain ⟨h1, h2⟩ := hs
 refine ⟨h1.trans (h.mono h1.size), ?_⟩
 match vs, h2 with
 | [], _ => trivial
 | [u], ⟨k, e, hk, hz⟩ => exact ⟨k, e, hk, (h.block k (aG hz)).trans hz⟩
 | u :: _ :: _, ⟨k, e, hk, hz⟩ => exact ⟨k, e, hk, (h.block k (aG hz)).trans hz⟩
theorem gW.alloc {w0 W : World} {y : Jb} (hs : gW w0 y [] W) : gW w0 y ([] ++ [.pointer (some ⟨W.heap.size, 0, none⟩)]) (W.alloc (.cells #[.int .i64 0, .int .i64 0, .int .i64 0, .int .i64 0, .int .i64 0, .int .i64 0, .int .i64 0, .int .i64 0, .int .i64 0, .int .u64 0] 55)) :=
 ⟨hs.1.alloc hs.1.size _, _, rfl, hs.1.size, heap_alloc_new W _⟩
theorem gW.zero {w0 W : World} {y : Jb} {k : Nat} (hs : gW w0 y [.pointer (some ⟨k, 0, none⟩)] W) : W.heap[k]? = some (.cells (ah gN).toArray 55 (0, 0)) ∧ w0.heap.size ≤ k := by
 obtain ⟨_, k', e, h1, h2⟩ := hs
 injection e with e
 injection e with e
 injection e with e
 subst e
 exact ⟨h2, h1⟩
theorem gW.store {w0 W : World} {y : Jb} {k : Nat} (hs : gW w0 y [.pointer (some ⟨k, 0, none⟩)] W) : gW w0 y ([.pointer (some ⟨k, 0, none⟩)] ++ [undef]) (W.setRow k (ah y).toArray) := by
 obtain ⟨hz, hk⟩ := hs.zero
 exact ⟨pX hs.1 hk _, k, rfl, hk, vU hz _⟩
theorem gW.full {w0 W : World} {y : Jb} {k : Nat} {u : Value} (hs : gW w0 y [.pointer (some ⟨k, 0, none⟩), u] W) : W.heap[k]? = some (.cells (ah y).toArray 55 (0, 0)) ∧ w0.heap.size ≤ k := by
 obtain ⟨_, k', e, h1, h2⟩ := hs
 injection e with e
 injection e with e
 injection e with e
 subst e
 exact ⟨h2, h1⟩
section
variable {w : World} {b c t d p g a : Nat} {v : Value} {m : Int} {P : Pg} {M : Md} {R : Wk}
theorem Jo (h : CW w c t d p v g a m P) (hk : PK P) (ha : a ≤ 1000) (lo hi : Int) (h0 : P.now ≤ lo) (hh : -9223372036854775808 ≤ hi ∧ hi ≤ 9223372036854775807) : Calls Tryz.prog 71 #[.pointer (some ⟨p, 0, none⟩), .int .i64 lo, .int .i64 hi] w fun e w' => ∃ r : Int, e = .returned (.int .i64 r) ∧ BL P.f lo hi r ∧ Below w.heap.size w w' := by
 obtain ⟨S, aH, hp, hC, hl, _⟩ := h.kN
 have := Bj lo hi hh hC.sm hk.now.1 (by omega) hp
 rwa [Int.max_eq_left h0] at this
theorem Et (h : CW w c t d p v g a m (aj M)) (hI : aB M) (h1 : 1 ≤ M.dr.length) (hll : M.L.length ≤ 900) (ha : a ≤ 800) (xi xt : Int) (hxt : -9223372036854775808 ≤ xt ∧ xt ≤ 9223372036854775807) (hc : M.cl = true) :
  Calls Tryz.prog 36 #[.pointer (some ⟨c, 0, none⟩), .agg #[.int .i64 xi, .int .i64 xt]] w fun e w' => e = .returned (.bool (eQ M xi xt)) ∧ Below w.heap.size w w' := by
 have oO := Lib.hid (dX hI h1 hll)
 have zJ := bB
 have zS := jQ
 obtain ⟨k, hk1⟩ : ∃ k, k = 10 := ⟨_, rfl⟩
 obtain ⟨k3, hk3⟩ : ∃ k, k = 3 := ⟨_, rfl⟩
 rw [← hk1] at zJ
 rw [← hk3] at zS
 have hk0 : ¬ k = 0 := by omega
 have yu : ¬ k3 = 0 := by omega
 replace hk1 := Lib.hid hk1
 replace hk3 := Lib.hid hk3
 obtain ⟨wA, aT⟩ : ∃ wA, wA = w.alloc (.cells #[.int .i64 xi, .int .i64 xt] 35) := ⟨_, rfl⟩
 have dE : Hid (Below w.heap.size w wA) := by show Below _ _ _; rw [aT]; exact (Below.refl _ _).alloc (Nat.le_refl _) _
 have uX : Hid (wA.heap[w.heap.size]? = some (.cells #[.int .i64 xi, .int .i64 xt] 35 (0, 0))) := by show _ = _; rw [aT]; exact heap_alloc_new w _
 have iE := Lib.hid (h.kept dE.out)
 have hcl := fun (W : World) (hW : Below wA.heap.size wA W) => gH (iE.out.kept hW)
 rw [show (aj M).cl = M.cl from rfl] at hcl
 have hnw := fun (W : World) (hW : Below wA.heap.size wA W) => fO (iE.out.kept hW)
 rw [show (aj M).now = M.now from rfl] at hnw
 rw [hc] at hcl
 have hres := O3 hc xi xt
 rw [hres]
 replace hres := Lib.hid hres
 replace hc := Lib.hid hc
 clear h
 go_enter Tryz.func36, Tryz.ntmps36
 go_wp2_with fail
 rw [← aT]
 replace aT := Lib.hid aT
 refine Reg2.rd wA 10 76 [[],[ae],[ae,ae],[ae,ae,ae],[ae,ae,ae,ae],[ae,ae,ae,af,af],[ae,ae,ae,af,af,ae],[ae,ae,ae,af,af,ae,ae],[ae,ae,ae,af,af,ae,ae,ae],[ae,ae,ae,af,af,ae,ae,ae,ae]] [0, 1, 0, 0, 1, 0, 0, 0, 1, 1] [.pure, .mU (.bool true), .pure, .pure, .mU (.int .i64 xt), .pure, .pure, .pure, .mU (.pointer (some ⟨p, 0, none⟩)), .mU (.int .i64 M.now)] (by kernel_rfl) (by kernel_rfl) rfl rfl ⟨trivial, Reg2.tt, trivial, trivial, Reg2.tt, trivial, trivial, trivial, Reg2.tt, Reg2.tt, trivial⟩ ⟨rfl, rfl, rfl, Nat.le_refl _, fun _ _ => rfl⟩ ?_
 dsimp only [Reg2.mk, List.zip, List.zipWith, List.take]
 repeat (refine' Reg2.ai _ (by rfl) (fun wz => ?_) ?_; rotate_left; (go_simp; first | rfl | rw [if_neg (by omega)]); simp only [Act.put, xA, xB, xC]; (try simp only [xD]); (try simp only [xE]); (try simp only [id]))
 refine Reg2.pm (fun wz hI hF => ?_) (fun r1 => ?_) (by rfl)
 ·go_wp2_with (go_at_call 26; go_must (refine (hcl wz hI).mono ?_); rintro e w' ⟨rfl, rfl⟩)
  first | exact ⟨_, rfl, rfl, Reg2.Ext.refl _⟩ | exact ⟨_, rfl, ⟨(), rfl, trivial⟩, Reg2.Ext.refl _⟩
 simp only [Act.put, xA, xB, xC]; (try simp only [xD]); (try simp only [xE]); (try simp only [id])
 repeat (refine' Reg2.ai _ (by rfl) (fun wz => ?_) ?_; rotate_left; (go_simp; first | rfl | rw [if_neg (by omega)]); simp only [Act.put, xA, xB, xC]; (try simp only [xD]); (try simp only [xE]); (try simp only [id]))
 refine Reg2.cZ (by rfl) ?_
 simp only [Act.put, xA, xB, xC]; (try simp only [xD]); (try simp only [xE]); (try simp only [id])
 refine Reg2.bN (by rfl) ?_
 simp only [Act.put, xA, xB, xC]; (try simp only [xD]); (try simp only [xE]); (try simp only [id])
 refine Reg2.cZ (by rfl) ?_
 simp only [Act.put, xA, xB, xC]; (try simp only [xD]); (try simp only [xE]); (try simp only [id])
 refine Reg2.cZ (by rfl) ?_
 simp only [Act.put, xA, xB, xC]; (try simp only [xD]); (try simp only [xE]); (try simp only [id])
 refine Reg2.cZ (by rfl) ?_
 simp only [Act.put, xA, xB, xC]; (try simp only [xD]); (try simp only [xE]); (try simp only [id])
 refine Reg2.bN (by rfl) ?_
 simp only [Act.put, xA, xB, xC]; (try simp only [xD]); (try simp only [xE]); (try simp only [id])
 refine Reg2.bN (by rfl) ?_
 simp only [Act.put, xA, xB, xC]; (try simp only [xD]); (try simp only [xE]); (try simp only [id])
 refine Reg2.az ?_
 intro w4 HI4 _ eu
 clear eu
 dsimp only [List.drop]
 go_wp2_with fail
 go_ret
 exact ⟨rfl, dE.out.trans (HI4.mono dE.out.size)⟩
theorem Jp (h : CW w c t d p v g a m (aj M)) (hI : aB M) (h1 : 1 ≤ M.dr.length) (hll : M.L.length ≤ 900) (ha : a ≤ 800) (xi xt : Int) (hxt : -9223372036854775808 ≤ xt ∧ xt ≤ 9223372036854775807) (hc : M.cl = false) :
  Calls Tryz.prog 36 #[.pointer (some ⟨c, 0, none⟩), .agg #[.int .i64 xi, .int .i64 xt]] w fun e w' => e = .returned (.bool (eQ M xi xt)) ∧ Below w.heap.size w w' := by
 have oO := Lib.hid (dX hI h1 hll)
 have zJ := bB
 have zS := jQ
 obtain ⟨k, hk1⟩ : ∃ k, k = 10 := ⟨_, rfl⟩
 obtain ⟨k3, hk3⟩ : ∃ k, k = 3 := ⟨_, rfl⟩
 rw [← hk1] at zJ
 rw [← hk3] at zS
 have hk0 : ¬ k = 0 := by omega
 have yu : ¬ k3 = 0 := by omega
 replace hk1 := Lib.hid hk1
 replace hk3 := Lib.hid hk3
 obtain ⟨wA, aT⟩ : ∃ wA, wA = w.alloc (.cells #[.int .i64 xi, .int .i64 xt] 35) := ⟨_, rfl⟩
 have dE : Hid (Below w.heap.size w wA) := by show Below _ _ _; rw [aT]; exact (Below.refl _ _).alloc (Nat.le_refl _) _
 have uX : Hid (wA.heap[w.heap.size]? = some (.cells #[.int .i64 xi, .int .i64 xt] 35 (0, 0))) := by show _ = _; rw [aT]; exact heap_alloc_new w _
 have iE := Lib.hid (h.kept dE.out)
 have hcl := fun (W : World) (hW : Below wA.heap.size wA W) => gH (iE.out.kept hW)
 rw [show (aj M).cl = M.cl from rfl] at hcl
 have hnw := fun (W : World) (hW : Below wA.heap.size wA W) => fO (iE.out.kept hW)
 rw [show (aj M).now = M.now from rfl] at hnw
 rw [hc] at hcl
 have his := fun (W : World) => Qj xt W hxt
 have hget := Lib.hid (fun (W : World) (hW : Below wA.heap.size wA W) => gz (iE.out.kept hW).dW xi)
 obtain ⟨rb, hrb⟩ : ∃ rb, rb = eQ M xi xt := ⟨_, rfl⟩
 rw [← hrb]
 replace hrb := Lib.hid hrb
 replace hc := Lib.hid hc
 clear h
 go_enter Tryz.func36, Tryz.ntmps36
 go_wp2_with fail
 rw [← aT]
 replace aT := Lib.hid aT
 refine Reg2.rd wA 10 76 [[],[ae],[ae,ae],[ae,ae,ae],[ae,ae,ae,ae],[ae,ae,ae,af,af],[ae,ae,ae,af,af,ae],[ae,ae,ae,af,af,ae,ae],[ae,ae,ae,af,af,ae,ae,ae],[ae,ae,ae,af,af,ae,ae,ae,ae]] [0, 1, 0, 0, 1, 0, 0, 0, 1, 1] [.pure, .mU (.bool false), .pure, .pure, .mU (.int .i64 xt), .pure, .pure, .pure, .mU (.pointer (some ⟨p, 0, none⟩)), .mU (.int .i64 M.now)] (by kernel_rfl) (by kernel_rfl) rfl rfl ⟨trivial, Reg2.tt, trivial, trivial, Reg2.tt, trivial, trivial, trivial, Reg2.tt, Reg2.tt, trivial⟩ ⟨rfl, rfl, rfl, Nat.le_refl _, fun _ _ => rfl⟩ ?_
 dsimp only [Reg2.mk, List.zip, List.zipWith, List.take]
 repeat (refine' Reg2.ai _ (by rfl) (fun wz => ?_) ?_; rotate_left; (go_simp; first | rfl | rw [if_neg (by omega)]); simp only [Act.put, xA, xB, xC]; (try simp only [xD]); (try simp only [xE]); (try simp only [id]))
 refine Reg2.pm (fun wz hI hF => ?_) (fun r1 => ?_) (by rfl)
 ·go_wp2_with (go_at_call 26; go_must (refine (hcl wz hI).mono ?_); rintro e w' ⟨rfl, rfl⟩)
  first | exact ⟨_, rfl, rfl, Reg2.Ext.refl _⟩ | exact ⟨_, rfl, ⟨(), rfl, trivial⟩, Reg2.Ext.refl _⟩
 simp only [Act.put, xA, xB, xC]; (try simp only [xD]); (try simp only [xE]); (try simp only [id])
 repeat (refine' Reg2.ai _ (by rfl) (fun wz => ?_) ?_; rotate_left; (go_simp; first | rfl | rw [if_neg (by omega)]); simp only [Act.put, xA, xB, xC]; (try simp only [xD]); (try simp only [xE]); (try simp only [id]))
 refine Reg2.pm (fun wz hI hF => ?_) (fun r4 => ?_) (by rfl)
 ·have q0 : wz.cell? ⟨w.heap.size, 1, none⟩ = some (.int .i64 xt) := by simp [World.cell?, (hI.block _ (aG uX.out)).trans uX.out]
  go_wp2_with fail
  first | exact ⟨_, rfl, rfl, Reg2.Ext.refl _⟩ | exact ⟨_, rfl, ⟨(), rfl, trivial⟩, Reg2.Ext.refl _⟩
 simp only [Act.put, xA, xB, xC]; (try simp only [xD]); (try simp only [xE]); (try simp only [id])
 repeat (refine' Reg2.ai _ (by rfl) (fun wz => ?_) ?_; rotate_left; (go_simp; first | rfl | rw [if_neg (by omega)]); simp only [Act.put, xA, xB, xC]; (try simp only [xD]); (try simp only [xE]); (try simp only [id]))
 refine Reg2.pm (fun wz hI hF => ?_) (fun r8 => ?_) (by rfl)
 ·have c0 := (iE.out.kept hI).c2
  go_wp2_with fail
  first | exact ⟨_, rfl, rfl, Reg2.Ext.refl _⟩ | exact ⟨_, rfl, ⟨(), rfl, trivial⟩, Reg2.Ext.refl _⟩
 simp only [Act.put, xA, xB, xC]; (try simp only [xD]); (try simp only [xE]); (try simp only [id])
 refine Reg2.pm (fun wz hI hF => ?_) (fun r9 => ?_) (by rfl)
 ·go_wp2_with (go_at_call 43; go_must (refine (hnw wz hI).mono ?_); rintro e w' ⟨rfl, rfl⟩)
  first | exact ⟨_, rfl, rfl, Reg2.Ext.refl _⟩ | exact ⟨_, rfl, ⟨(), rfl, trivial⟩, Reg2.Ext.refl _⟩
 simp only [Act.put, xA, xB, xC]; (try simp only [xD]); (try simp only [xE]); (try simp only [id])
 refine Reg2.az ?_
 intro w4 HI4 _ eu
 clear eu
 dsimp only [List.drop]
 have hb4 := dE.out.trans (HI4.mono dE.out.size)
 have yL : w4.heap[w.heap.size]? = some (.cells #[.int .i64 xi, .int .i64 xt] 35 (0, 0)) := (HI4.block _ (aG uX.out)).trans uX.out
 have x1 : w4.cell? ⟨w.heap.size, 1, none⟩ = some (.int .i64 xt) := by simp [World.cell?, yL]
 by_cases hlow : xt < M.now
 ·have d1 : decide (xt < M.now) = true := decide_eq_true hlow
  have hfin : Hid (rb = false) := hrb.out.trans (L9 hlow)
  replace hlow := Lib.hid hlow
  obtain rfl := hfin.out
  go_wp2_with fail
  go_ret
  exact ⟨rfl, hb4⟩
 have d1 : decide (xt < M.now) = false := decide_eq_false hlow
 by_cases hhi : 1099511627776 < xt
 ·have d2 : decide (0 ≤ xt ∧ xt ≤ 1099511627776) = false := decide_eq_false (by omega)
  rw [d2] at his
  have hfin : Hid (rb = false) := hrb.out.trans (Jk hhi)
  replace hhi := Lib.hid hhi
  obtain rfl := hfin.out
  go_wp2_with (go_at_call 69; go_must (refine (his _).mono ?_); rintro e w' ⟨rfl, rfl⟩)
  go_ret
  exact ⟨rfl, hb4⟩
 have d2 : decide (0 ≤ xt ∧ xt ≤ 1099511627776) = true := decide_eq_true (by have := hI.mb.now; omega)
 rw [d2] at his
 have x0 : w4.cell? ⟨w.heap.size, 0, none⟩ = some (.int .i64 xi) := by simp [World.cell?, yL]
 have c0 := (iE.out.kept HI4).c0
 obtain ⟨y, hy⟩ : ∃ y, y = bE M.L xi := ⟨_, rfl⟩
 obtain ⟨e0, he0⟩ : ∃ e0, e0 = fV M.L xi := ⟨_, rfl⟩
 have hgo : Hid (∀ W, Below wA.heap.size wA W → Calls Tryz.prog 70 #[.pointer (some ⟨t, 0, none⟩), .int .i64 xi] W fun e w' => e = .returned (.tuple #[.agg (ah y).toArray, .int .i64 e0]) ∧ Gr W w') := fun W hW => by
  have := hget.out W hW
  unfold iw at this
  rw [show (aj M).J = M.L from rfl, ← hy, ← he0] at this
  exact this
 have lY := ax y
 rw [← hk1.out] at lY
 have y2 : (ah y)[2]? = some (.int .i64 y.wid) := rfl
 have y3 : (ah y)[3]? = some (.int .i64 y.lim) := rfl
 have y5 : (ah y)[5]? = some (.int .i64 y.st) := rfl
 have hpy : Hid (∀ W, y.aK ≤ 1099511627776 → 0 ≤ y.lim ∧ y.lim ≤ 1048576 → Calls Tryz.prog 68 #[.agg (ah y).toArray] W fun e w' => e = .returned (.tuple #[.agg (aJ y).toArray, .bool (ak y)]) ∧ Below W.heap.size W w') := fun W a1 a2 => kr y a1 a2
 replace hy := Lib.hid hy
 replace he0 := Lib.hid he0
 have Kg := Lib.hid yL
 have nU := Lib.hid (iE.out.kept HI4)
 clear yL hget x0 c0
 go_wp2_with (go_at_call 69; go_must (refine (his _).mono ?_); rintro e w' ⟨rfl, rfl⟩)
 go_wp2_with fail
 refine Reg2.qc 12 76 [[],[ae],[ae,ae],[ae,ae,ae],[af,af,af,af],[af,af,af,af,ae],[ae,ae,ae,ae,ae,ae],[ae,ae,ae,ae,ae,ae,ae],[ae,ae,ae,ae,ae,ae,ae,ae],[ae,ae,ae,ae,ae,ae,ae,ae,af],[af,af,af,af,af,af,af,af,af,af],[ae,ae,ae,ae,ae,ae,ae,ae,ae,af,ae]] [0, 0, 0, 1, 0, 1, 1, 0, 0, 0, 3, 3]
  [.pure, .pure, .pure, .mU (.pointer (some ⟨t, 0, none⟩)), .pure, .mU (.int .i64 xi), .mU (.tuple #[.agg (ah y).toArray, .int .i64 e0]), .pure, .pure, .pure, .major Nat 0 (fun k => .pointer (some ⟨k, 0, none⟩)), .major Unit () (fun _ => undef)]
  (fun W => Below w4.heap.size w4 W) (gW w4 y) (fun a b => Below w4.heap.size a b) (by kernel_rfl) (by kernel_rfl) rfl rfl (fun vs a b h hs => gW.ext h hs) ?_ ?_ ?_ ?_ ?_ ?_ ?_
 ·intro a b he hb; exact hb.trans (Below.mono he hb.size)
 ·intro a b he hb; exact hb.trans he
 ·exact ⟨trivial, trivial, trivial, ⟨fun _ _ _ _ _ => trivial, fun _ _ _ _ _ => trivial⟩, trivial, ⟨fun _ _ _ _ _ => trivial, fun _ _ _ _ _ => trivial⟩, ⟨fun _ _ _ _ _ => trivial, fun _ _ _ _ _ => trivial⟩, trivial, trivial, trivial, trivial, trivial, trivial⟩
 ·exact ⟨(fun h => nomatch h), (fun h => nomatch h), (fun h => nomatch h), (fun h => nomatch h), (fun h => nomatch h), (fun h => nomatch h), (fun h => nomatch h), (fun h => nomatch h), (fun h => nomatch h), (fun h => nomatch h), (fun h => nomatch h), (fun _ _ => rfl), trivial⟩
 ·exact ⟨rfl, rfl, rfl, Nat.le_refl _, fun _ _ => rfl⟩
 ·exact ⟨⟨rfl, rfl, rfl, Nat.le_refl _, fun _ _ => rfl⟩, trivial⟩
 dsimp only [Reg2.mk, List.zip, List.zipWith, List.take]
 repeat (refine' Reg2.ai _ (by rfl) (fun wz => ?_) ?_; rotate_left; (go_simp; first | rfl | rw [if_neg (by omega)]); simp only [Act.put, xA, xB, xC]; (try simp only [xD]); (try simp only [xE]); (try simp only [id]))
 refine Reg2.pm (fun wz hI hF => ?_) (fun r3 => ?_) (by rfl)
 ·have c0 := (nU.out.kept hI).c0
  go_wp2_with fail
  first | exact ⟨_, rfl, rfl, Reg2.Ext.refl _⟩ | exact ⟨_, rfl, ⟨(), rfl, trivial⟩, Reg2.Ext.refl _⟩
 simp only [Act.put, xA, xB, xC]; (try simp only [xD]); (try simp only [xE]); (try simp only [id])
 repeat (refine' Reg2.ai _ (by rfl) (fun wz => ?_) ?_; rotate_left; (go_simp; first | rfl | rw [if_neg (by omega)]); simp only [Act.put, xA, xB, xC]; (try simp only [xD]); (try simp only [xE]); (try simp only [id]))
 refine Reg2.pm (fun wz hI hF => ?_) (fun r5 => ?_) (by rfl)
 ·have q0 : wz.cell? ⟨w.heap.size, 0, none⟩ = some (.int .i64 xi) := by simp [World.cell?, (hI.block _ (aG Kg.out)).trans Kg.out]
  go_wp2_with fail
  first | exact ⟨_, rfl, rfl, Reg2.Ext.refl _⟩ | exact ⟨_, rfl, ⟨(), rfl, trivial⟩, Reg2.Ext.refl _⟩
 simp only [Act.put, xA, xB, xC]; (try simp only [xD]); (try simp only [xE]); (try simp only [id])
 refine Reg2.pm (fun wz hI hF => ?_) (fun r6 => ?_) (by rfl)
 ·go_wp2_with (go_at_call 70; go_must (refine (hgo.out wz (HI4.trans (hI.mono HI4.size))).mono ?_); rintro e w' ⟨rfl, hg5⟩; have hb5 := hg5.below)
  first | exact ⟨_, rfl, ⟨(), rfl, trivial⟩, hb5⟩ | exact ⟨_, rfl, rfl, hb5⟩
 simp only [Act.put, xA, xB, xC]; (try simp only [xD]); (try simp only [xE]); (try simp only [id])
 repeat (refine' Reg2.ai _ (by rfl) (fun wz => ?_) ?_; rotate_left; (go_simp; first | rfl | rw [if_neg (by omega)]); simp only [Act.put, xA, xB, xC]; (try simp only [xD]); (try simp only [xE]); (try simp only [id]))
 refine Reg2.pj (fun wz hI hS hF => ?_) (fun yJ => ?_) (by rfl)
 ·go_wp2_with fail
  exact ⟨_, rfl, ⟨⟨_, rfl⟩, gW.alloc hS⟩, (Below.refl _ _).alloc hI.size _⟩
 simp only [Act.put, xA, xB, xC]; (try simp only [xD]); (try simp only [xE]); (try simp only [id])
 refine Reg2.pj (fun wz hI hS hF => ?_) (fun Oj => ?_) (by rfl)
 ·obtain ⟨hz, hge⟩ := gW.zero hS
  have yO := ni (x := y) hz
  have hfin := gW.store hS
  have hbw : Below w4.heap.size wz (wz.setRow yJ (ah y).toArray) := pX (Below.refl _ _) hge _
  generalize ah y = cY at *
  go_wp2_with fail
  exact ⟨_, rfl, ⟨⟨(), rfl⟩, hfin⟩, hbw⟩
 simp only [Act.put, xA, xB, xC]; (try simp only [xD]); (try simp only [xE]); (try simp only [id])
 refine Reg2.az ?_
 intro w7 jH qQ jR
 clear jR
 dsimp only [List.drop]
 obtain ⟨yN, Vv⟩ := gW.full qQ
 have iP := hb4.trans (jH.mono hb4.size)
 have RO := (jH.block _ (aG Kg.out)).trans Kg.out
 have x1 : w7.cell? ⟨w.heap.size, 1, none⟩ = some (.int .i64 xt) := by simp [World.cell?, RO]
 have b5 : w7.cell? ⟨yJ, 5, none⟩ = some (.int .i64 y.st) := by simp [World.cell?, yN, y5]
 have b3 : w7.cell? ⟨yJ, 3, none⟩ = some (.int .i64 y.lim) := by simp [World.cell?, yN, y3]
 have Ql := eX yN lY
 clear qQ
 by_cases hne : e0 ≠ 0
 ·have d3 : (e0 != 0) = true := by simp [hne]
  have hfin : Hid (rb = false) := hrb.out.trans (Jl (by rw [← he0.out]; exact hne))
  obtain rfl := hfin.out
  replace hne := Lib.hid hne
  go_wp2_with fail
  go_ret
  exact ⟨rfl, iP⟩
 have he1 : e0 = 0 := by omega
 subst he1
 clear hne
 by_cases hst : y.st ≠ 1
 ·have d4 : (y.st != 1) = true := by simp [hst]
  have hfin : Hid (rb = false) := hrb.out.trans (GD he0.out.symm (by rw [← hy.out]; exact hst))
  obtain rfl := hfin.out
  replace hst := Lib.hid hst
  go_wp2_with fail
  go_ret
  exact ⟨rfl, iP⟩
 have hs1 : y.st = 1 := by omega
 have d4 : (y.st != 1) = false := by simp [hs1]
 clear hst
 have hym : y ∈ M.L := by
  obtain ⟨i, hi, _, h3, _⟩ := tL he0.out.symm
  rw [hy.out, h3]
  exact aW hi
 have T9 := hI.mb.lim y hym
 have QI := hI.mb.aK y hym
 have hpl := hpy.out w7 QI.2 T9
 have lS : (aJ y).length = 3 := by unfold aJ; split <;> rfl
 have oS : ∀ u ∈ aJ y, u.oneCell' = true := by unfold aJ; split <;> (intro u hu; simp at hu; rcases hu with rfl | rfl | rfl <;> rfl)
 have SS : Hid (∀ W : World, Sem.run Tryz.prog (storeCells ⟨W.heap.size, 0, none⟩ (aJ y) 0) (W.alloc (.cells #[.int .i64 0, .int .i64 0, .int .i64 0] 97)) = .ok () (W.alloc (.cells (aJ y).toArray 97))) := fun W => cz W W.heap.size (aJ y) [.int .i64 0, .int .i64 0, .int .i64 0] 97 rfl lS oS
 rw [← hk3.out] at lS
 have U1 := hI.mb.now
 have U2 : IntKind.i64.wrap (xt + y.lim) = xt + y.lim := by rw [IntKind.wrap_i64]; omega
 have hro := fun (mm : Int) (hl : ak y = true → xt < y.aK) (hB : BL (fun u => ay M u 0) xt (mo y xt) mm) => Jn (id := xi) hI hc.out (by omega) (by omega) he0.out.symm (by rw [← hy.out]; exact hs1) (by rw [← hy.out]; exact hl) (by rw [← hy.out]; exact hB)
 rw [← hrb.out, ← hy.out] at hro
 have QJ := Lib.hid (fun (W : World) (hW : Below wA.heap.size wA W) (hi : Int) (hh : -9223372036854775808 ≤ hi ∧ hi ≤ 9223372036854775807) => Jo (iE.out.kept hW) oO.out (by omega) xt hi (by show M.now ≤ xt; omega) hh)
 have M5 := hI.mb.wid y hym
 have hs0 : (aJ y)[0]? = some (.int .i64 (if ak y = true then y.aK else 0)) := by unfold aJ; split <;> rfl
 obtain ⟨yw, Jq⟩ : ∃ yw, yw = y.wid := ⟨_, rfl⟩
 rw [← Jq] at y2 hro
 obtain ⟨yl, hyl⟩ : ∃ yl, yl = y.lim := ⟨_, rfl⟩
 rw [← hyl] at b3 U2 T9
 obtain ⟨yp, hyp⟩ : ∃ yp, yp = y.aK := ⟨_, rfl⟩
 rw [← hyp] at hro hs0 QI
 have hft : Hid (mo y xt = if ak y = true then min (xt + yl) yp else xt + yl) := by show _ = _; unfold mo; rw [hyl, hyp]
 replace Jq := Lib.hid Jq
 replace hyl := Lib.hid hyl
 replace hyp := Lib.hid hyp
 replace hro := Lib.hid hro
 replace hs1 := Lib.hid hs1
 have GG := Lib.hid yN
 have Kh := Lib.hid RO
 clear yN RO
 generalize kv : aJ y = cS at *
 replace kv := Lib.hid kv
 generalize yI : ah y = cY at *
 replace yI := Lib.hid yI
 have hrs := aG GG.out
 cases hP : ak y with
 | false =>
  rw [hP] at hpl
  replace hP := Lib.hid hP
  go_wp2_with fail
  go_at_call 68
  refine hpl.mono ?_
  clear hpl Ql b5 b3 x1
  rintro e w8 ⟨rfl, pY⟩
  have RP := SS.out w8
  obtain ⟨w9, wR⟩ : ∃ w9, w9 = w8.alloc (.cells cS.toArray 97) := ⟨_, rfl⟩
  rw [← wR] at RP
  have Eu : Below w7.heap.size w7 w9 := by rw [wR]; exact pY.alloc pY.size _
  have O4 := Lib.hid ((Eu.block _ (aG GG.out)).trans GG.out)
  have Ma := Lib.hid ((Eu.block _ (aG Kh.out)).trans Kh.out)
  have Jr := (HI4.trans (jH.mono HI4.size)).trans (Eu.mono (HI4.trans (jH.mono HI4.size)).size)
  have CB := iP.trans (Eu.mono iP.size)
  have Gu := Lib.hid (iE.out.kept Jr)
  replace wR := Lib.hid wR
  go_wp2_with fail
  refine Reg2.rd w9 10 76 [[],[ae],[ae,ae],[ae,ae,ae],[af,af,af,af],[af,af,af,af,ae],[af,af,af,af,af,af],[ae,ae,ae,ae,ae,ae,ae],[af,af,af,af,af,af,af,af],[af,af,af,af,af,af,af,af,ae]] [0, 0, 0, 1, 0, 1, 0, 1, 0, 1] [.pure, .pure, .pure, .mU (.pointer (some ⟨p, 0, none⟩)), .pure, .mU (.int .i64 xt), .pure, .minor Int 0 (fun x => .int .i64 x) (fun x _ => BL (fun u => ay M u 0) xt (xt + yl) x), .pure, .mU (.int .i64 yw)] (by kernel_rfl) (by kernel_rfl) rfl rfl ⟨trivial, trivial, trivial, Reg2.tt, trivial, Reg2.tt, trivial, ⟨fun _ _ _ _ h => h, fun _ _ _ _ h => h⟩, trivial, Reg2.tt, trivial⟩ ⟨rfl, rfl, rfl, Nat.le_refl _, fun _ _ => rfl⟩ ?_
  dsimp only [Reg2.mk, List.zip, List.zipWith, List.take]
  repeat (refine' Reg2.ai _ (by rfl) (fun wz => ?_) ?_; rotate_left; (go_simp; first | rfl | rw [if_neg (by omega)]); simp only [Act.put, xA, xB, xC]; (try simp only [xD]); (try simp only [xE]); (try simp only [id]))
  refine Reg2.pm (fun wz hI hF => ?_) (fun r3 => ?_) (by rfl)
  ·have c0 := (Gu.out.kept hI).c2
   go_wp2_with fail
   first | exact ⟨_, rfl, rfl, Reg2.Ext.refl _⟩ | exact ⟨_, rfl, ⟨(), rfl, trivial⟩, Reg2.Ext.refl _⟩
  simp only [Act.put, xA, xB, xC]; (try simp only [xD]); (try simp only [xE]); (try simp only [id])
  repeat (refine' Reg2.ai _ (by rfl) (fun wz => ?_) ?_; rotate_left; (go_simp; first | rfl | rw [if_neg (by omega)]); simp only [Act.put, xA, xB, xC]; (try simp only [xD]); (try simp only [xE]); (try simp only [id]))
  refine Reg2.pm (fun wz hI hF => ?_) (fun r5 => ?_) (by rfl)
  ·have q0 : wz.cell? ⟨w.heap.size, 1, none⟩ = some (.int .i64 xt) := by simp [World.cell?, (hI.block _ (aG Ma.out)).trans Ma.out]
   go_wp2_with fail
   first | exact ⟨_, rfl, rfl, Reg2.Ext.refl _⟩ | exact ⟨_, rfl, ⟨(), rfl, trivial⟩, Reg2.Ext.refl _⟩
  simp only [Act.put, xA, xB, xC]; (try simp only [xD]); (try simp only [xE]); (try simp only [id])
  repeat (refine' Reg2.ai _ (by rfl) (fun wz => ?_) ?_; rotate_left; (go_simp; first | rfl | rw [if_neg (by omega)]); simp only [Act.put, xA, xB, xC]; (try simp only [xD]); (try simp only [xE]); (try simp only [id]))
  refine Reg2.pm (fun wz hI hF => ?_) (fun r7 => ?_) (by rfl)
  ·go_wp2_with (go_at_call 71; go_must (refine (QJ.out wz (Jr.trans (hI.mono Jr.size)) (xt + yl) (by omega)).mono ?_); rintro e w' ⟨mm, rfl, hB, hb5⟩)
   exact ⟨_, rfl, ⟨mm, rfl, hB⟩, hb5⟩
  simp only [Act.put, xA, xB, xC]; (try simp only [xD]); (try simp only [xE]); (try simp only [id])
  repeat (refine' Reg2.ai _ (by rfl) (fun wz => ?_) ?_; rotate_left; (go_simp; first | rfl | rw [if_neg (by omega)]); simp only [Act.put, xA, xB, xC]; (try simp only [xD]); (try simp only [xE]); (try simp only [id]))
  refine Reg2.pm (fun wz hI hF => ?_) (fun r9 => ?_) (by rfl)
  ·have q0 : wz.cell? ⟨yJ, 2, none⟩ = some (.int .i64 yw) := by simp [World.cell?, (hI.block _ (aG O4.out)).trans O4.out, y2]
   go_wp2_with fail
   first | exact ⟨_, rfl, rfl, Reg2.Ext.refl _⟩ | exact ⟨_, rfl, ⟨(), rfl, trivial⟩, Reg2.Ext.refl _⟩
  simp only [Act.put, xA, xB, xC]; (try simp only [xD]); (try simp only [xE]); (try simp only [id])
  refine Reg2.az ?_
  intro U3 O5 _ GH
  have hB := GH.2.2.2.2.2.2.2.1
  clear GH
  dsimp only [List.drop]
  have hfin := hro.out r7 (fun hp => by rw [hP.out] at hp; cases hp) (by rw [hft.out, hP.out, if_neg (by decide)]; exact hB)
  have RQ : Hid (rb = decide (r7 ≥ yw)) := by show _ = _; rw [hfin]
  obtain rfl := RQ.out
  go_wp2_with fail
  go_ret
  exact ⟨rfl, CB.trans (O5.mono CB.size)⟩
 | true =>
  rw [hP] at hpl
  have U4 := (aY.1 hP).2
  rw [← hyp.out] at U4
  have Ua : Hid (cS[0]? = some (.int .i64 yp)) := by show _ = _; rw [hs0, if_pos hP]
  replace hP := Lib.hid hP
  replace hs0 := Lib.hid hs0
  go_wp2_with fail
  go_at_call 68
  refine hpl.mono ?_
  clear hpl Ql b5 b3 x1
  rintro e w8 ⟨rfl, pY⟩
  have RP := SS.out w8
  obtain ⟨w9, wR⟩ : ∃ w9, w9 = w8.alloc (.cells cS.toArray 97) := ⟨_, rfl⟩
  have hzs : w9.heap[w8.heap.size]? = some (.cells cS.toArray 97 (0, 0)) := by rw [wR]; exact heap_alloc_new w8 _
  rw [← wR] at RP
  have Eu : Below w7.heap.size w7 w9 := by rw [wR]; exact pY.alloc pY.size _
  have O4 := Lib.hid ((Eu.block _ (aG GG.out)).trans GG.out)
  have Ma := Lib.hid ((Eu.block _ (aG Kh.out)).trans Kh.out)
  have Jr := (HI4.trans (jH.mono HI4.size)).trans (Eu.mono (HI4.trans (jH.mono HI4.size)).size)
  have CB := iP.trans (Eu.mono iP.size)
  have Gu := Lib.hid (iE.out.kept Jr)
  have cs0 : w9.cell? ⟨w8.heap.size, 0, none⟩ = some (.int .i64 yp) := by simp [World.cell?, hzs, Ua.out]
  have V7 : w9.cell? ⟨w.heap.size, 1, none⟩ = some (.int .i64 xt) := by simp [World.cell?, Ma.out]
  replace hzs := Lib.hid hzs
  replace wR := Lib.hid wR
  by_cases hlt : yp ≤ xt
  ·have d5 : decide (xt ≥ yp) = true := decide_eq_true hlt
   have hfin : Hid (rb = false) := hrb.out.trans (Jm he0.out.symm (by rw [← hy.out]; exact hP.out) (by rw [← hy.out, ← hyp.out]; exact hlt))
   obtain rfl := hfin.out
   replace hlt := Lib.hid hlt
   go_wp2_with fail
   go_ret
   exact ⟨rfl, CB⟩
  ·have d5 : decide (xt ≥ yp) = false := decide_eq_false hlt
   go_wp2_with fail
   refine Reg2.rd w9 10 76 [[],[ae],[ae,ae],[ae,ae,ae],[af,af,af,af],[af,af,af,af,ae],[af,af,af,af,af,af],[ae,ae,ae,ae,ae,ae,ae],[af,af,af,af,af,af,af,af],[af,af,af,af,af,af,af,af,ae]] [0, 0, 0, 1, 0, 1, 0, 1, 0, 1] [.pure, .pure, .pure, .mU (.pointer (some ⟨p, 0, none⟩)), .pure, .mU (.int .i64 xt), .pure, .minor Int 0 (fun x => .int .i64 x) (fun x _ => BL (fun u => ay M u 0) xt (min (xt + yl) yp) x), .pure, .mU (.int .i64 yw)] (by kernel_rfl) (by kernel_rfl) rfl rfl ⟨trivial, trivial, trivial, Reg2.tt, trivial, Reg2.tt, trivial, ⟨fun _ _ _ _ h => h, fun _ _ _ _ h => h⟩, trivial, Reg2.tt, trivial⟩ ⟨rfl, rfl, rfl, Nat.le_refl _, fun _ _ => rfl⟩ ?_
   dsimp only [Reg2.mk, List.zip, List.zipWith, List.take]
   repeat (refine' Reg2.ai _ (by rfl) (fun wz => ?_) ?_; rotate_left; (go_simp; first | rfl | rw [if_neg (by omega)]); simp only [Act.put, xA, xB, xC]; (try simp only [xD]); (try simp only [xE]); (try simp only [id]))
   refine Reg2.pm (fun wz hI hF => ?_) (fun r3 => ?_) (by rfl)
   ·have c0 := (Gu.out.kept hI).c2
    go_wp2_with fail
    first | exact ⟨_, rfl, rfl, Reg2.Ext.refl _⟩ | exact ⟨_, rfl, ⟨(), rfl, trivial⟩, Reg2.Ext.refl _⟩
   simp only [Act.put, xA, xB, xC]; (try simp only [xD]); (try simp only [xE]); (try simp only [id])
   repeat (refine' Reg2.ai _ (by rfl) (fun wz => ?_) ?_; rotate_left; (go_simp; first | rfl | rw [if_neg (by omega)]); simp only [Act.put, xA, xB, xC]; (try simp only [xD]); (try simp only [xE]); (try simp only [id]))
   refine Reg2.pm (fun wz hI hF => ?_) (fun r5 => ?_) (by rfl)
   ·have q0 : wz.cell? ⟨w.heap.size, 1, none⟩ = some (.int .i64 xt) := by simp [World.cell?, (hI.block _ (aG Ma.out)).trans Ma.out]
    go_wp2_with fail
    first | exact ⟨_, rfl, rfl, Reg2.Ext.refl _⟩ | exact ⟨_, rfl, ⟨(), rfl, trivial⟩, Reg2.Ext.refl _⟩
   simp only [Act.put, xA, xB, xC]; (try simp only [xD]); (try simp only [xE]); (try simp only [id])
   repeat (refine' Reg2.ai _ (by rfl) (fun wz => ?_) ?_; rotate_left; (go_simp; first | rfl | rw [if_neg (by omega)]); simp only [Act.put, xA, xB, xC]; (try simp only [xD]); (try simp only [xE]); (try simp only [id]))
   refine Reg2.pm (fun wz hI hF => ?_) (fun r7 => ?_) (by rfl)
   ·go_wp2_with (go_at_call 71; go_must (refine (QJ.out wz (Jr.trans (hI.mono Jr.size)) (min (xt + yl) yp) (by omega)).mono ?_); rintro e w' ⟨mm, rfl, hB, hb5⟩)
    exact ⟨_, rfl, ⟨mm, rfl, hB⟩, hb5⟩
   simp only [Act.put, xA, xB, xC]; (try simp only [xD]); (try simp only [xE]); (try simp only [id])
   repeat (refine' Reg2.ai _ (by rfl) (fun wz => ?_) ?_; rotate_left; (go_simp; first | rfl | rw [if_neg (by omega)]); simp only [Act.put, xA, xB, xC]; (try simp only [xD]); (try simp only [xE]); (try simp only [id]))
   refine Reg2.pm (fun wz hI hF => ?_) (fun r9 => ?_) (by rfl)
   ·have q0 : wz.cell? ⟨yJ, 2, none⟩ = some (.int .i64 yw) := by simp [World.cell?, (hI.block _ (aG O4.out)).trans O4.out, y2]
    go_wp2_with fail
    first | exact ⟨_, rfl, rfl, Reg2.Ext.refl _⟩ | exact ⟨_, rfl, ⟨(), rfl, trivial⟩, Reg2.Ext.refl _⟩
   simp only [Act.put, xA, xB, xC]; (try simp only [xD]); (try simp only [xE]); (try simp only [id])
   refine Reg2.az ?_
   intro U3 O5 _ GH
   have hB := GH.2.2.2.2.2.2.2.1
   clear GH
   dsimp only [List.drop]
   have hfin := hro.out r7 (fun _ => by omega) (by rw [hft.out, hP.out, if_pos rfl]; exact hB)
   have RQ : Hid (rb = decide (r7 ≥ yw)) := by show _ = _; rw [hfin]
   obtain rfl := RQ.out
   go_wp2_with fail
   go_ret
   exact ⟨rfl, CB.trans (O5.mono CB.size)⟩
theorem CE (h : CW w c t d p v g a m (aj M)) (hI : aB M) (h1 : 1 ≤ M.dr.length) (hll : M.L.length ≤ 900) (ha : a ≤ 800) (xi xt : Int) (hxt : -9223372036854775808 ≤ xt ∧ xt ≤ 9223372036854775807) :
  Calls Tryz.prog 36 #[.pointer (some ⟨c, 0, none⟩), .agg #[.int .i64 xi, .int .i64 xt]] w fun e w' => e = .returned (.bool (eQ M xi xt)) ∧ Below w.heap.size w w' := by
 cases hc : M.cl with
 | true => exact Et h hI h1 hll ha xi xt hxt hc
 | false => exact Jp h hI h1 hll ha xi xt hxt hc
end
end Go.Proofs.YtkhfejihijdipaaGreat

namespace Go.Proofs.YtkhfejihijdipaaGreat
open Go.RowKit Go.Lib Go.Sort
section
variable {w : World} {b c t d p g a : Nat} {v : Value} {m : Int} {P : Pg} {M : Md} {R : Wk}
theorem GI (h : SW w b c t d p v g a m R P) (hk : PK P) (ha : a ≤ 800) (hm : m ≤ 1000000) (hP : ak R.aA = true) (hb1 : R.aA.aK ≤ 1099511627776) (hb2 : 0 ≤ R.aA.lim ∧ R.aA.lim ≤ 1048576) (hb3 : 1 ≤ R.aA.lim) (hb4 : 0 ≤ R.aA.wid ∧ R.aA.wid ≤ 64) (F : Int → Int)
  (hF : ∀ t, P.now ≤ t → F t = P.f t + had (max R.aA.aK P.now) (R.aA.aK + R.aA.lim) R.aA.wid t) (hr : ∀ t, P.now ≤ t → 0 ≤ F t ∧ F t ≤ 64) :
  Calls Tryz.prog 94 #[.pointer (some ⟨b, 0, none⟩), .pointer (some ⟨c, 0, none⟩)] w (au w b c t d p v g (a + 2) (m + 1) (eU 125) R { P with f := F }) := by
 have zJ := bB
 have zS := jQ
 obtain ⟨k, hk1⟩ : ∃ k, k = 10 := ⟨_, rfl⟩
 obtain ⟨k3, hk3⟩ : ∃ k, k = 3 := ⟨_, rfl⟩
 rw [← hk1] at zJ
 rw [← hk3] at zS
 have hk0 : ¬ k = 0 := by omega
 have yu : ¬ k3 = 0 := by omega
 have lJ := ax R.aA
 rw [← hk1] at lJ
 replace hk1 := Lib.hid hk1
 have hS := Lib.hid h
 have p8 := h.wk.l9 lJ
 have hpl := kr (w := w) R.aA hb1 hb2
 have lS : (aJ R.aA).length = 3 := by unfold aJ; split <;> rfl
 have oS : ∀ u ∈ aJ R.aA, u.oneCell' = true := by unfold aJ; split <;> (intro u hu; simp at hu; rcases hu with rfl | rfl | rfl <;> rfl)
 have ST : Hid (∀ W : World, Sem.run Tryz.prog (storeCells ⟨W.heap.size, 0, none⟩ (aJ R.aA) 0) (W.alloc (.cells #[.int .i64 0, .int .i64 0, .int .i64 0] 97)) = .ok () (W.alloc (.cells (aJ R.aA).toArray 97))) := fun W => cz W W.heap.size (aJ R.aA) [.int .i64 0, .int .i64 0, .int .i64 0] 97 rfl lS oS
 rw [← hk3] at lS
 replace hk3 := Lib.hid hk3
 generalize kv : aJ R.aA = cS at *
 replace kv := Lib.hid kv
 generalize ah R.aA = cJ at *
 clear h
 have kW : cS = [.int .i64 R.aA.aK, .int .i64 (R.aA.aK + R.aA.lim), .int .i64 R.aA.wid] := by rw [← kv.out]; unfold aJ; rw [if_pos hP]
 rw [hP] at hpl
 replace hP := Lib.hid hP
 replace kW := Lib.hid kW
 go_enter Tryz.func94, Tryz.ntmps94
 go_wp2_with fail
 go_at_call 68
 refine hpl.mono ?_
 clear hpl p8
 rintro e w1 ⟨rfl, hb⟩
 have st1 := ST.out w1
 obtain ⟨w2, hw2⟩ : ∃ w2, w2 = w1.alloc (.cells cS.toArray 97) := ⟨_, rfl⟩
 rw [← hw2] at st1
 have hb2' : Below w.heap.size w w2 := by rw [hw2]; exact hb.alloc hb.size _
 have hy2 : Hid (w2.heap[w1.heap.size]? = some (.cells cS.toArray 97 (0, 0))) := by show _ = _; rw [hw2]; exact heap_alloc_new w1 _
 have hs2 : w2.heap.size = w1.heap.size + 1 := by rw [hw2]; simp
 replace hw2 := Lib.hid hw2
 have hS2 := Lib.hid (hS.out.kept hb2')
 go_wp2_with fail
 refine Reg2.rd w2 5 22 [[],[ae],[ae,ae],[ae,ae,ae],[af,af,af,af]] [0, 0, 0, 1, 1] [.pure, .pure, .pure, .mU (.pointer (some ⟨p, 0, none⟩)), .mU (.agg cS.toArray)] (by kernel_rfl) (by kernel_rfl) rfl rfl ⟨trivial, trivial, trivial, Reg2.tt, Reg2.tt, trivial⟩ ⟨rfl, rfl, rfl, Nat.le_refl _, fun _ _ => rfl⟩ ?_
 dsimp only [Reg2.mk, List.zip, List.zipWith, List.take]
 repeat (refine' Reg2.ai _ (by rfl) (fun wz => ?_) ?_; rotate_left; (go_simp; first | rfl | rw [if_neg (by omega)]); simp only [Act.put, xA, xB, xC]; (try simp only [xD]); (try simp only [xE]); (try simp only [id]))
 refine Reg2.pm (fun wz hI hF => ?_) (fun r3 => ?_) (by rfl)
 ·have c0 := (hS2.out.cw.kept hI).c2
  go_wp2_with fail
  first | exact ⟨_, rfl, rfl, Reg2.Ext.refl _⟩ | exact ⟨_, rfl, ⟨(), rfl, trivial⟩, Reg2.Ext.refl _⟩
 simp only [Act.put, xA, xB, xC]; (try simp only [xD]); (try simp only [xE]); (try simp only [id])
 refine Reg2.pm (fun wz hI hF => ?_) (fun r4 => ?_) (by rfl)
 ·have d0 := eX ((hI.block _ (aG hy2.out)).trans hy2.out) lS
  go_wp2_with fail
  first | exact ⟨_, rfl, rfl, Reg2.Ext.refl _⟩ | exact ⟨_, rfl, ⟨(), rfl, trivial⟩, Reg2.Ext.refl _⟩
 simp only [Act.put, xA, xB, xC]; (try simp only [xD]); (try simp only [xE]); (try simp only [id])
 refine Reg2.az ?_
 intro w4 HI4 _ eu
 clear eu
 dsimp only [List.drop]
 have bC := hS2.out.kept HI4
 have hrel := rT bC.cw hk ha hm R.aA.aK (R.aA.aK + R.aA.lim) R.aA.wid F (by omega) (by omega) hb4 hF hr
 have Gq := kW.out
 clear kv kW
 subst Gq
 go_wp2_with fail
 go_at_call 124
 refine hrel.mono ?_
 clear hrel
 rintro e w5 ⟨rfl, v5, g5, fZ, hS5⟩
 have dP := bC.core fZ hS5
 have hfin := (WS.of_below (hb2'.trans (HI4.mono hb2'.size)) : WS w w4 b c t d p v g v g).trans (WS.bZ hS5)
 go_wp2_with fail
 go_ret
 exact ⟨rfl, v5, g5, dP, hfin⟩
theorem GJ (h : SW w b c t d p v g a m R P) (hP : ak R.aA = false) (hb1 : R.aA.aK ≤ 1099511627776) (hb2 : 0 ≤ R.aA.lim ∧ R.aA.lim ≤ 1048576) :
  Calls Tryz.prog 94 #[.pointer (some ⟨b, 0, none⟩), .pointer (some ⟨c, 0, none⟩)] w (au w b c t d p v g a m (eU 125) R P) := by
 have zJ := bB
 have zS := jQ
 obtain ⟨k, hk1⟩ : ∃ k, k = 10 := ⟨_, rfl⟩
 obtain ⟨k3, hk3⟩ : ∃ k, k = 3 := ⟨_, rfl⟩
 rw [← hk1] at zJ
 rw [← hk3] at zS
 have hk0 : ¬ k = 0 := by omega
 have yu : ¬ k3 = 0 := by omega
 have lJ := ax R.aA
 rw [← hk1] at lJ
 replace hk1 := Lib.hid hk1
 have hS := Lib.hid h
 have p8 := h.wk.l9 lJ
 have hpl := kr (w := w) R.aA hb1 hb2
 have lS : (aJ R.aA).length = 3 := by unfold aJ; split <;> rfl
 have oS : ∀ u ∈ aJ R.aA, u.oneCell' = true := by unfold aJ; split <;> (intro u hu; simp at hu; rcases hu with rfl | rfl | rfl <;> rfl)
 have ST : Hid (∀ W : World, Sem.run Tryz.prog (storeCells ⟨W.heap.size, 0, none⟩ (aJ R.aA) 0) (W.alloc (.cells #[.int .i64 0, .int .i64 0, .int .i64 0] 97)) = .ok () (W.alloc (.cells (aJ R.aA).toArray 97))) := fun W => cz W W.heap.size (aJ R.aA) [.int .i64 0, .int .i64 0, .int .i64 0] 97 rfl lS oS
 rw [← hk3] at lS
 replace hk3 := Lib.hid hk3
 generalize kv : aJ R.aA = cS at *
 replace kv := Lib.hid kv
 generalize ah R.aA = cJ at *
 clear h
 rw [hP] at hpl
 go_enter Tryz.func94, Tryz.ntmps94
 go_wp2_with fail
 go_at_call 68
 refine hpl.mono ?_
 clear hpl p8
 rintro e w1 ⟨rfl, hb⟩
 have st1 := ST.out w1
 obtain ⟨w2, hw2⟩ : ∃ w2, w2 = w1.alloc (.cells cS.toArray 97) := ⟨_, rfl⟩
 rw [← hw2] at st1
 have hb2' : Below w.heap.size w w2 := by rw [hw2]; exact hb.alloc hb.size _
 have hy2 : Hid (w2.heap[w1.heap.size]? = some (.cells cS.toArray 97 (0, 0))) := by show _ = _; rw [hw2]; exact heap_alloc_new w1 _
 have hs2 : w2.heap.size = w1.heap.size + 1 := by rw [hw2]; simp
 replace hw2 := Lib.hid hw2
 have hS2 := Lib.hid (hS.out.kept hb2')
 go_wp2_with fail
 go_ret
 exact ⟨rfl, v, g, hS2.out, WS.of_below hb2'⟩
theorem Mc (h : SW w b c t d p v g a m R P) (hk : PK P) (ha : a ≤ 800) (hm : m ≤ 1000000) (hst : R.aA.st = 1) (hx : 0 ≤ R.dG ∧ R.dG ≤ 1099511627776) (hb2 : 1 ≤ R.aA.lim ∧ R.aA.lim ≤ 1048576) (hb4 : 0 ≤ R.aA.wid ∧ R.aA.wid ≤ 64) (F : Int → Int)
  (hF : ∀ t, P.now ≤ t → F t = P.f t + had (max R.dG P.now) (R.dG + R.aA.lim) (-R.aA.wid) t) (hr : ∀ t, P.now ≤ t → 0 ≤ F t ∧ F t ≤ 64) :
  Calls Tryz.prog 125 #[.pointer (some ⟨b, 0, none⟩), .pointer (some ⟨c, 0, none⟩)] w (au w b c t d p v g (a + 2) (m + 1) (eU 148) { R with aA := R.aA.aC R.dG } { P with f := F }) := by
 have zJ := bB
 have zS := jQ
 obtain ⟨k, hk1⟩ : ∃ k, k = 10 := ⟨_, rfl⟩
 obtain ⟨k3, hk3⟩ : ∃ k, k = 3 := ⟨_, rfl⟩
 rw [← hk1] at zJ
 rw [← hk3] at zS
 have hk0 : ¬ k = 0 := by omega
 have yu : ¬ k3 = 0 := by omega
 have IE := h.wk.at 10 (.int .i64 R.dG) rfl
 have c20 := h.wk.at 20 (.int .i64 R.aA.aK) rfl
 have f20 := h.wk.free 20
 have hW1 := h.wk.plan R.dG
 have hS1 := h.work hW1 (bV w 20 (.int .i64 R.dG))
 have hf1 : WS w (w.setCell ⟨b, 20, none⟩ (.int .i64 R.dG)) b c t d p v g v g := WS.bu (bV w 20 (.int .i64 R.dG))
 obtain ⟨y, hy⟩ : ∃ y, y = R.aA.aC R.dG := ⟨_, rfl⟩
 have hyp : y.aK = R.dG := by rw [hy]; rfl
 have hyl : y.lim = R.aA.lim := by rw [hy]; rfl
 have Jq : y.wid = R.aA.wid := by rw [hy]; rfl
 have hP : ak y = true := aY.2 ⟨by rw [hy]; exact hst, by rw [hyp]; exact hx.1⟩
 rw [← hy] at hS1 hW1 ⊢
 replace hy := Lib.hid hy
 have lJ := ax y
 rw [← hk1] at lJ
 replace hk1 := Lib.hid hk1
 have p8 := hW1.l9 (R := { R with aA := y }) lJ
 rw [show ({ R with aA := y } : Wk).aA = y from rfl] at p8
 have hpl := kr (w := w.setCell ⟨b, 20, none⟩ (.int .i64 R.dG)) y (by rw [hyp]; exact hx.2) (by rw [hyl]; omega)
 have kW : aJ y = [.int .i64 R.dG, .int .i64 (R.dG + R.aA.lim), .int .i64 R.aA.wid] := by unfold aJ; rw [if_pos hP, hyp, hyl, Jq]
 rw [hP] at hpl
 have lS : (aJ y).length = 3 := by rw [kW]; rfl
 have oS : ∀ u ∈ aJ y, u.oneCell' = true := by rw [kW]; intro u hu; simp at hu; rcases hu with rfl | rfl | rfl <;> rfl
 have ST : Hid (∀ W : World, Sem.run Tryz.prog (storeCells ⟨W.heap.size, 0, none⟩ (aJ y) 0) (W.alloc (.cells #[.int .i64 0, .int .i64 0, .int .i64 0] 97)) = .ok () (W.alloc (.cells (aJ y).toArray 97))) := fun W => cz W W.heap.size (aJ y) [.int .i64 0, .int .i64 0, .int .i64 0] 97 rfl lS oS
 rw [← hk3] at lS
 replace hk3 := Lib.hid hk3
 generalize kv : aJ y = cS at *
 replace kv := Lib.hid kv
 generalize ah y = cJ at *
 replace kW := Lib.hid kW
 replace hP := Lib.hid hP
 replace hyp := Lib.hid hyp
 replace hyl := Lib.hid hyl
 replace Jq := Lib.hid Jq
 clear h
 generalize R.dG = xa at *
 go_enter Tryz.func125, Tryz.ntmps125
 go_wp2_with fail
 go_at_call 68
 refine hpl.mono ?_
 clear hpl p8 IE c20 f20
 rintro e w1 ⟨rfl, hb⟩
 have st1 := ST.out w1
 obtain ⟨w2, hw2⟩ : ∃ w2, w2 = w1.alloc (.cells cS.toArray 97) := ⟨_, rfl⟩
 rw [← hw2] at st1
 have hb2' : Below (w.setCell ⟨b, 20, none⟩ (.int .i64 xa)).heap.size (w.setCell ⟨b, 20, none⟩ (.int .i64 xa)) w2 := by rw [hw2]; exact hb.alloc hb.size _
 have hy2 : Hid (w2.heap[w1.heap.size]? = some (.cells cS.toArray 97 (0, 0))) := by show _ = _; rw [hw2]; exact heap_alloc_new w1 _
 replace hw2 := Lib.hid hw2
 have hS2 := Lib.hid (hS1.kept hb2')
 have hf2 := hf1.trans (WS.of_below hb2')
 go_wp2_with fail
 refine Reg2.rd w2 5 31 [[],[ae],[ae,ae],[ae,ae,ae],[af,af,af,af]] [0, 0, 0, 1, 1] [.pure, .pure, .pure, .mU (.pointer (some ⟨p, 0, none⟩)), .mU (.agg cS.toArray)] (by kernel_rfl) (by kernel_rfl) rfl rfl ⟨trivial, trivial, trivial, Reg2.tt, Reg2.tt, trivial⟩ ⟨rfl, rfl, rfl, Nat.le_refl _, fun _ _ => rfl⟩ ?_
 dsimp only [Reg2.mk, List.zip, List.zipWith, List.take]
 repeat (refine' Reg2.ai _ (by rfl) (fun wz => ?_) ?_; rotate_left; (go_simp; first | rfl | rw [if_neg (by omega)]); simp only [Act.put, xA, xB, xC]; (try simp only [xD]); (try simp only [xE]); (try simp only [id]))
 refine Reg2.pm (fun wz hI hF => ?_) (fun r3 => ?_) (by rfl)
 ·have c0 := (hS2.out.cw.kept hI).c2
  go_wp2_with fail
  first | exact ⟨_, rfl, rfl, Reg2.Ext.refl _⟩ | exact ⟨_, rfl, ⟨(), rfl, trivial⟩, Reg2.Ext.refl _⟩
 simp only [Act.put, xA, xB, xC]; (try simp only [xD]); (try simp only [xE]); (try simp only [id])
 refine Reg2.pm (fun wz hI hF => ?_) (fun r4 => ?_) (by rfl)
 ·have d0 := eX ((hI.block _ (aG hy2.out)).trans hy2.out) lS
  go_wp2_with fail
  first | exact ⟨_, rfl, rfl, Reg2.Ext.refl _⟩ | exact ⟨_, rfl, ⟨(), rfl, trivial⟩, Reg2.Ext.refl _⟩
 simp only [Act.put, xA, xB, xC]; (try simp only [xD]); (try simp only [xE]); (try simp only [id])
 refine Reg2.az ?_
 intro w4 HI4 _ eu
 clear eu
 dsimp only [List.drop]
 have bC := hS2.out.kept HI4
 have hrel := FZ bC.cw hk ha hm xa (xa + R.aA.lim) R.aA.wid F (by omega) (by omega) hb4 hF hr
 have Gq := kW.out
 clear kv kW
 subst Gq
 go_wp2_with fail
 go_at_call 147
 refine hrel.mono ?_
 clear hrel
 rintro e w5 ⟨rfl, v5, g5, fZ, hS5⟩
 have dP := bC.core fZ hS5
 have hfin := (hf2.trans (WS.of_below HI4)).trans (WS.bZ hS5)
 go_wp2_with fail
 go_ret
 exact ⟨rfl, v5, g5, dP, hfin⟩
theorem GK (h : SW w b c t d p v g a m R P) (hk : PK P) (hx : R.dG = P.now) (hj : -9223372036854775808 ≤ R.aA.wid ∧ R.aA.wid ≤ 9223372036854775807) {s : Nat} {T0 : List Int} (hT0 : oK P.T R.aA.wid s 0 T0) :
  Calls Tryz.prog 148 #[.pointer (some ⟨b, 0, none⟩), .pointer (some ⟨c, 0, none⟩)] w (au w b c t d p v g a m .nilFunc R { P with T := T0, J := bS P.J (fG P.now) R.aA.id (fun j : Jb => decide (j.state = 1)) (kH P.now s) }) := by
 have zJ := bB
 obtain ⟨k, hk1⟩ : ∃ k, k = 10 := ⟨_, rfl⟩
 rw [← hk1] at zJ
 have hk0 : ¬ k = 0 := by omega
 have lJ := ax R.aA
 rw [← hk1] at lJ
 replace hk1 := Lib.hid hk1
 have d1 : (R.dG == P.now) = true := by simp [hx]
 have RB := fun (W : World) (hW : SW W b c t d p v g a m R P) => hW.wk.l9 lJ
 have hla := fun (W : World) (hW : SW W b c t d p v g a m R P) => launch_fn hW.cw hk R.aA hj hT0
 have hS := Lib.hid h
 replace hx := Lib.hid hx
 generalize ah R.aA = cJ at *
 clear h
 go_enter Tryz.func148, Tryz.ntmps148
 go_wp2_with fail
 refine Reg2.rd w 10 37 [[],[ae],[ae,ae],[ae,ae,ae],[ae,ae,ae,ae],[af,af,af,af,af],[af,af,af,af,af,ae],[af,af,af,af,af,ae,ae],[af,af,af,af,af,ae,ae,ae],[af,af,af,af,af,ae,ae,ae,ae]] [0, 0, 0, 0, 1, 0, 0, 0, 1, 1] [.pure, .pure, .pure, .pure, .mU (.int .i64 R.dG), .pure, .pure, .pure, .mU (.pointer (some ⟨p, 0, none⟩)), .mU (.int .i64 P.now)] (by kernel_rfl) (by kernel_rfl) rfl rfl ⟨trivial, trivial, trivial, trivial, Reg2.tt, trivial, trivial, trivial, Reg2.tt, Reg2.tt, trivial⟩ ⟨rfl, rfl, rfl, Nat.le_refl _, fun _ _ => rfl⟩ ?_
 dsimp only [Reg2.mk, List.zip, List.zipWith, List.take]
 repeat (refine' Reg2.ai _ (by rfl) (fun wz => ?_) ?_; rotate_left; (go_simp; first | rfl | rw [if_neg (by omega)]); simp only [Act.put, xA, xB, xC]; (try simp only [xD]); (try simp only [xE]); (try simp only [id]))
 refine Reg2.pm (fun wz hI hF => ?_) (fun r4 => ?_) (by rfl)
 ·have q0 := (hS.out.kept hI).wk.at 10 (.int .i64 R.dG) rfl
  go_wp2_with fail
  first | exact ⟨_, rfl, rfl, Reg2.Ext.refl _⟩ | exact ⟨_, rfl, ⟨(), rfl, trivial⟩, Reg2.Ext.refl _⟩
 simp only [Act.put, xA, xB, xC]; (try simp only [xD]); (try simp only [xE]); (try simp only [id])
 repeat (refine' Reg2.ai _ (by rfl) (fun wz => ?_) ?_; rotate_left; (go_simp; first | rfl | rw [if_neg (by omega)]); simp only [Act.put, xA, xB, xC]; (try simp only [xD]); (try simp only [xE]); (try simp only [id]))
 refine Reg2.pm (fun wz hI hF => ?_) (fun r8 => ?_) (by rfl)
 ·have c0 := (hS.out.cw.kept hI).c2
  go_wp2_with fail
  first | exact ⟨_, rfl, rfl, Reg2.Ext.refl _⟩ | exact ⟨_, rfl, ⟨(), rfl, trivial⟩, Reg2.Ext.refl _⟩
 simp only [Act.put, xA, xB, xC]; (try simp only [xD]); (try simp only [xE]); (try simp only [id])
 refine Reg2.pm (fun wz hI hF => ?_) (fun r9 => ?_) (by rfl)
 ·go_wp2_with (go_at_call 43; go_must (refine (fO (hS.out.kept hI).cw).mono ?_); rintro e w' ⟨rfl, rfl⟩)
  first | exact ⟨_, rfl, rfl, Reg2.Ext.refl _⟩ | exact ⟨_, rfl, ⟨(), rfl, trivial⟩, Reg2.Ext.refl _⟩
 simp only [Act.put, xA, xB, xC]; (try simp only [xD]); (try simp only [xE]); (try simp only [id])
 refine Reg2.az ?_
 intro w4 HI4 _ eu
 clear eu
 dsimp only [List.drop]
 have bC := hS.out.kept HI4
 have UW := RB w4 bC
 have hl4 := hla w4 bC
 go_wp2_with fail
 go_at_call 179
 refine hl4.mono ?_
 clear hl4
 rintro e w5 ⟨rfl, v5, g5, fZ, hS5⟩
 have dP := bC.core fZ hS5
 have hfin := (WS.of_below HI4 : WS w w4 b c t d p v g v g).trans (WS.bZ hS5)
 go_wp2_with fail
 go_ret
 exact ⟨rfl, v5, g5, dP, hfin⟩
theorem Bq (h : SW w b c t d p v g a m R P) (hx : R.dG ≠ P.now) :
  Calls Tryz.prog 148 #[.pointer (some ⟨b, 0, none⟩), .pointer (some ⟨c, 0, none⟩)] w (au w b c t d p v g a m .nilFunc R { P with J := bS P.J (gB R.dG) R.ku (fun j : Jb => decide (j.state = 1)) (jW R.dG) }) := by
 have d1 : (R.dG == P.now) = false := by simp [hx]
 have hpl := fun (W : World) (hW : SW W b c t d p v g a m R P) => Ck hW.cw R.ku R.dG
 have hS := Lib.hid h
 replace hx := Lib.hid hx
 clear h
 go_enter Tryz.func148, Tryz.ntmps148
 go_wp2_with fail
 refine Reg2.rd w 10 37 [[],[ae],[ae,ae],[ae,ae,ae],[ae,ae,ae,ae],[af,af,af,af,af],[af,af,af,af,af,ae],[af,af,af,af,af,ae,ae],[af,af,af,af,af,ae,ae,ae],[af,af,af,af,af,ae,ae,ae,ae]] [0, 0, 0, 0, 1, 0, 0, 0, 1, 1] [.pure, .pure, .pure, .pure, .mU (.int .i64 R.dG), .pure, .pure, .pure, .mU (.pointer (some ⟨p, 0, none⟩)), .mU (.int .i64 P.now)] (by kernel_rfl) (by kernel_rfl) rfl rfl ⟨trivial, trivial, trivial, trivial, Reg2.tt, trivial, trivial, trivial, Reg2.tt, Reg2.tt, trivial⟩ ⟨rfl, rfl, rfl, Nat.le_refl _, fun _ _ => rfl⟩ ?_
 dsimp only [Reg2.mk, List.zip, List.zipWith, List.take]
 repeat (refine' Reg2.ai _ (by rfl) (fun wz => ?_) ?_; rotate_left; (go_simp; first | rfl | rw [if_neg (by omega)]); simp only [Act.put, xA, xB, xC]; (try simp only [xD]); (try simp only [xE]); (try simp only [id]))
 refine Reg2.pm (fun wz hI hF => ?_) (fun r4 => ?_) (by rfl)
 ·have q0 := (hS.out.kept hI).wk.at 10 (.int .i64 R.dG) rfl
  go_wp2_with fail
  first | exact ⟨_, rfl, rfl, Reg2.Ext.refl _⟩ | exact ⟨_, rfl, ⟨(), rfl, trivial⟩, Reg2.Ext.refl _⟩
 simp only [Act.put, xA, xB, xC]; (try simp only [xD]); (try simp only [xE]); (try simp only [id])
 repeat (refine' Reg2.ai _ (by rfl) (fun wz => ?_) ?_; rotate_left; (go_simp; first | rfl | rw [if_neg (by omega)]); simp only [Act.put, xA, xB, xC]; (try simp only [xD]); (try simp only [xE]); (try simp only [id]))
 refine Reg2.pm (fun wz hI hF => ?_) (fun r8 => ?_) (by rfl)
 ·have c0 := (hS.out.cw.kept hI).c2
  go_wp2_with fail
  first | exact ⟨_, rfl, rfl, Reg2.Ext.refl _⟩ | exact ⟨_, rfl, ⟨(), rfl, trivial⟩, Reg2.Ext.refl _⟩
 simp only [Act.put, xA, xB, xC]; (try simp only [xD]); (try simp only [xE]); (try simp only [id])
 refine Reg2.pm (fun wz hI hF => ?_) (fun r9 => ?_) (by rfl)
 ·go_wp2_with (go_at_call 43; go_must (refine (fO (hS.out.kept hI).cw).mono ?_); rintro e w' ⟨rfl, rfl⟩)
  first | exact ⟨_, rfl, rfl, Reg2.Ext.refl _⟩ | exact ⟨_, rfl, ⟨(), rfl, trivial⟩, Reg2.Ext.refl _⟩
 simp only [Act.put, xA, xB, xC]; (try simp only [xD]); (try simp only [xE]); (try simp only [id])
 refine Reg2.az ?_
 intro w4 HI4 _ eu
 clear eu
 dsimp only [List.drop]
 have bC := Lib.hid (hS.out.kept HI4)
 go_wp2_with fail
 refine Reg2.rd w4 14 37 [[],[ae],[ae,ae],[ae,ae,ae],[af,af,af,af],[af,af,af,af,ae],[af,af,af,af,ae,ae],[af,af,af,af,ae,ae,ae],[af,af,af,af,ae,ae,ae,ae],[af,af,af,af,af,af,af,af,af],[af,af,af,af,af,af,af,af,af,ae],[af,af,af,af,af,af,af,af,af,ae,ae],[af,af,af,af,af,af,af,af,af,ae,ae,ae],[af,af,af,af,af,af,af,af,af,ae,ae,ae,ae]] [0, 0, 0, 1, 0, 0, 0, 0, 1, 0, 0, 0, 0, 1] [.pure, .pure, .pure, .mU (.pointer (some ⟨t, 0, none⟩)), .pure, .pure, .pure, .pure, .mU (.int .i64 R.ku), .pure, .pure, .pure, .pure, .mU (.int .i64 R.dG)] (by kernel_rfl) (by kernel_rfl) rfl rfl ⟨trivial, trivial, trivial, Reg2.tt, trivial, trivial, trivial, trivial, Reg2.tt, trivial, trivial, trivial, trivial, Reg2.tt, trivial⟩ ⟨rfl, rfl, rfl, Nat.le_refl _, fun _ _ => rfl⟩ ?_
 dsimp only [Reg2.mk, List.zip, List.zipWith, List.take]
 repeat (refine' Reg2.ai _ (by rfl) (fun wz => ?_) ?_; rotate_left; (go_simp; first | rfl | rw [if_neg (by omega)]); simp only [Act.put, xA, xB, xC]; (try simp only [xD]); (try simp only [xE]); (try simp only [id]))
 refine Reg2.pm (fun wz hI hF => ?_) (fun r3 => ?_) (by rfl)
 ·have c0 := (bC.out.cw.kept hI).c0
  go_wp2_with fail
  first | exact ⟨_, rfl, rfl, Reg2.Ext.refl _⟩ | exact ⟨_, rfl, ⟨(), rfl, trivial⟩, Reg2.Ext.refl _⟩
 simp only [Act.put, xA, xB, xC]; (try simp only [xD]); (try simp only [xE]); (try simp only [id])
 repeat (refine' Reg2.ai _ (by rfl) (fun wz => ?_) ?_; rotate_left; (go_simp; first | rfl | rw [if_neg (by omega)]); simp only [Act.put, xA, xB, xC]; (try simp only [xD]); (try simp only [xE]); (try simp only [id]))
 refine Reg2.pm (fun wz hI hF => ?_) (fun r8 => ?_) (by rfl)
 ·have q0 := (bC.out.kept hI).wk.at 9 (.int .i64 R.ku) rfl
  go_wp2_with fail
  first | exact ⟨_, rfl, rfl, Reg2.Ext.refl _⟩ | exact ⟨_, rfl, ⟨(), rfl, trivial⟩, Reg2.Ext.refl _⟩
 simp only [Act.put, xA, xB, xC]; (try simp only [xD]); (try simp only [xE]); (try simp only [id])
 repeat (refine' Reg2.ai _ (by rfl) (fun wz => ?_) ?_; rotate_left; (go_simp; first | rfl | rw [if_neg (by omega)]); simp only [Act.put, xA, xB, xC]; (try simp only [xD]); (try simp only [xE]); (try simp only [id]))
 refine Reg2.pm (fun wz hI hF => ?_) (fun Em => ?_) (by rfl)
 ·have q0 := (bC.out.kept hI).wk.at 10 (.int .i64 R.dG) rfl
  go_wp2_with fail
  first | exact ⟨_, rfl, rfl, Reg2.Ext.refl _⟩ | exact ⟨_, rfl, ⟨(), rfl, trivial⟩, Reg2.Ext.refl _⟩
 simp only [Act.put, xA, xB, xC]; (try simp only [xD]); (try simp only [xE]); (try simp only [id])
 refine Reg2.az ?_
 intro w5 Ih _ eu
 clear eu
 dsimp only [List.drop]
 have hS5 := bC.out.kept Ih
 have Ub := hpl w5 hS5
 go_wp2_with fail
 go_at_call 180
 refine Ub.mono ?_
 clear Ub
 rintro e w6 ⟨rfl, v6, g6, Gg, dP⟩
 have fT := hS5.core Gg dP
 have hfin := (WS.of_below (HI4.trans (Ih.mono HI4.size)) : WS w w5 b c t d p v g v g).trans (WS.bZ dP)
 go_wp2_with fail
 go_ret
 exact ⟨rfl, v6, g6, fT, hfin⟩
theorem Br (h : SW w b c t d p v g a m R P) (hc : P.cl = true) :
  Calls Tryz.prog 65 #[.pointer (some ⟨b, 0, none⟩), .pointer (some ⟨c, 0, none⟩)] w (au w b c t d p v g a m .nilFunc { R with rep := jL 12, ok := false } P) := by
 have hcl := gH h.cw
 rw [hc] at hcl
 have hf := gV h.wk 12
 go_enter Tryz.func65, Tryz.ntmps65
 go_wp2_with (first | (go_at_call 26; go_must (refine hcl.mono ?_); rintro e w' ⟨rfl, rfl⟩) | (go_at_call 67; go_must (refine hf.mono ?_); rintro e w8 ⟨rfl, dH, fB⟩))
 go_ret
 exact ⟨rfl, v, g, h.work dH fB, WS.bu fB⟩
theorem wo (h : bQ w b R) : Sem.run Tryz.prog (loadCellsFrom ⟨b, 9, none⟩ 0 2 #[]) w = .ok #[.int .i64 R.ku, .int .i64 R.dG] w :=
 vV (cs := [.int .i64 R.ku, .int .i64 R.dG]) h rfl fun j u hj => by
  rcases (show j = 0 ∨ j = 1 by have := (List.getElem?_eq_some_iff.1 hj).1; simp at this; omega) with rfl | rfl
  ·exact hj
  ·exact hj
theorem Me (h : SW w b c t d p v g a m R (aj M)) (hI : aB M) (h1 : 1 ≤ M.dr.length) (hll : M.L.length ≤ 900) (ha : a ≤ 800) (hxt : -9223372036854775808 ≤ R.dG ∧ R.dG ≤ 9223372036854775807) (hc : M.cl = false) (hfit : eQ M R.ku R.dG = false) :
  Calls Tryz.prog 65 #[.pointer (some ⟨b, 0, none⟩), .pointer (some ⟨c, 0, none⟩)] w (au w b c t d p v g a m .nilFunc R (aj M)) := by
 have hcl := gH h.cw
 rw [show (aj M).cl = false from hc] at hcl
 have hft := CE h.cw hI h1 hll ha R.ku R.dG hxt
 rw [hfit] at hft
 have ld := wo h.wk
 have x9 := h.wk.at 9 (.int .i64 R.ku) rfl
 have IE := h.wk.at 10 (.int .i64 R.dG) rfl
 go_enter Tryz.func65, Tryz.ntmps65
 go_wp2_with (first | (go_at_call 26; go_must (refine hcl.mono ?_); rintro e w' ⟨rfl, rfl⟩) | (go_at_call 36; go_must (refine hft.mono ?_); rintro e w8 ⟨rfl, pY⟩))
 go_ret
 exact ⟨rfl, v, g, h.kept pY, WS.of_below pY⟩
theorem Js (h : SW w b c t d p v g a m R (aj M)) (hI : aB M) (h1 : 1 ≤ M.dr.length) (hll : M.L.length ≤ 900) (ha : a ≤ 800) (hxt : -9223372036854775808 ≤ R.dG ∧ R.dG ≤ 9223372036854775807) (hc : M.cl = false) (hfit : eQ M R.ku R.dG = true) :
  Calls Tryz.prog 65 #[.pointer (some ⟨b, 0, none⟩), .pointer (some ⟨c, 0, none⟩)] w (au w b c t d p v g a m (eU 94) { R with aA := bE M.L R.ku, ok := true } (aj M)) := by
 have zJ := bB
 obtain ⟨k, hk1⟩ : ∃ k, k = 10 := ⟨_, rfl⟩
 rw [← hk1] at zJ
 have hk0 : ¬ k = 0 := by omega
 have hcl := gH h.cw
 rw [show (aj M).cl = false from hc] at hcl
 have hft := CE h.cw hI h1 hll ha R.ku R.dG hxt
 rw [hfit] at hft
 have ld := wo h.wk
 have x9 := h.wk.at 9 (.int .i64 R.ku) rfl
 have IE := h.wk.at 10 (.int .i64 R.dG) rfl
 obtain ⟨x, hx⟩ : ∃ x, x = bE M.L R.ku := ⟨_, rfl⟩
 rw [← hx]
 have hget := Lib.hid (fun (W : World) (hW : SW W b c t d p v g a m R (aj M)) => show Calls Tryz.prog 70 #[.pointer (some ⟨t, 0, none⟩), .int .i64 R.ku] W fun e w' => e = .returned (.tuple #[.agg (ah x).toArray, .int .i64 (fV M.L R.ku)]) ∧ Gr W w' from by
  have := gz hW.cw.dW R.ku
  unfold iw at this
  rw [show (aj M).J = M.L from rfl, ← hx] at this
  exact this)
 replace hx := Lib.hid hx
 have lJ := ax x
 rw [← hk1] at lJ
 replace hk1 := Lib.hid hk1
 have hj := fun (W : World) (hW : SW W b c t d p v g a m R (aj M)) => hW.wk.rW x
 generalize ah x = cJ at *
 obtain ⟨W9, jM⟩ : ∃ W9, W9 = fH { R with aA := x } := ⟨_, rfl⟩
 rw [← jM] at hj
 replace jM := Lib.hid jM
 have hS := Lib.hid h
 clear h
 go_enter Tryz.func65, Tryz.ntmps65
 go_wp2_with (first | (go_at_call 26; go_must (refine hcl.mono ?_); rintro e w' ⟨rfl, rfl⟩) | (go_at_call 36; go_must (refine hft.mono ?_); rintro e w2 ⟨rfl, hb2⟩))
 have hS2 := Lib.hid (hS.out.kept hb2)
 have c0 := hS2.out.cw.c0
 have q9 := hS2.out.wk.at 9 (.int .i64 R.ku) rfl
 clear hcl hft ld x9 IE
 go_region_with (go_at_call 70; go_must (refine (hget.out _ hS2.out.drew).mono ?_); rintro e w' ⟨rfl, hgr⟩; have qG := hS2.out.drew.kept hgr.below; obtain ⟨yO, oz⟩ := hj w' qG)
 all_goals
  have fC := qG.work oz (cu w' W9.toArray)
  have hfr : WS w2 (w'.setRow b W9.toArray) b c t d p v g v g := ((WS.of_below hgr.below : WS w2.drew w' b c t d p v g v g).trans (WS.bu (cu w' W9.toArray))).xq
  have hfr2 := (WS.of_below hb2 : WS w w2 b c t d p v g v g).trans hfr
  clear yO oz qG hgr c0 q9 hfr
  generalize w'.setRow b W9.toArray = w9 at *
  have a33 := fC.wk.at 33 (.bool R.ok) rfl
  have f33 := fC.wk.free 33
  have OV := fC.work (fC.wk.QC true) (bV w9 33 (.bool true))
  have Uc := hfr2.trans (WS.bu (bV w9 33 (.bool true)))
  go_wp2_with fail
  go_ret
  have ex := hx.out
  clear hx
  subst ex
  exact ⟨rfl, v, g, OV, Uc⟩
end
end Go.Proofs.YtkhfejihijdipaaGreat

namespace Go.Proofs.YtkhfejihijdipaaGreat
open Go.RowKit Go.Lib Go.Sort
section
variable {w : World} {b c t d p g a : Nat} {v : Value} {m : Int} {P P1 : Pg} {M : Md} {R : Wk}
theorem lH.uniq {l l1 l2 : List Int} {n : Int} {d : Bool} {e1 e2 : Int} (h : lH l n d e1 l1) (h' : lH l n d e2 l2) : e1 = e2 ∧ l1 = l2 := by
 by_cases h1 : n < 0 ∨ (l.length : Int) ≤ n
 ·obtain ⟨rfl, rfl⟩ := h.out h1
  obtain ⟨rfl, rfl⟩ := h'.out h1
  exact ⟨rfl, rfl⟩
 ·by_cases h2 : d = decide (l.getD n.toNat 0 < 3)
  ·obtain ⟨rfl, rfl⟩ := h.good (by omega) (by omega) h2
   obtain ⟨rfl, rfl⟩ := h'.good (by omega) (by omega) h2
   exact ⟨rfl, rfl⟩
  ·obtain ⟨rfl, rfl⟩ := h.bad (by omega) (by omega) h2
   obtain ⟨rfl, rfl⟩ := h'.bad (by omega) (by omega) h2
   exact ⟨rfl, rfl⟩
def Mf (b c t d p a : Nat) (m : Int) (R : Wk) (P : Pg) (x : Int) (T' : List Int) (a' : Nat) (m' : Int) (R' : Wk) (P' : Pg) : Prop :=
 ∀ (W : World) (v1 : Value) (g1 : Nat), SW W b c t d p v1 g1 a m R { P with T := T' } → Calls Tryz.prog 142 #[.pointer (some ⟨b, 0, none⟩), .pointer (some ⟨c, 0, none⟩), .int .i64 x, .int .i64 (-1)] W (au W b c t d p v1 g1 a' m' .nilFunc R' P')
def Mg (b c t d p a : Nat) (m : Int) (R : Wk) (P : Pg) (x : Int) (T' : List Int) (a' : Nat) (m' : Int) (R' : Wk) (P' : Pg) : Prop :=
 ∀ (W : World) (v1 : Value) (g1 : Nat), SW W b c t d p v1 g1 a m R { P with T := T' } → Calls Tryz.prog 142 #[.pointer (some ⟨b, 0, none⟩), .pointer (some ⟨c, 0, none⟩), .int .i64 x, .int .i64 1] W (au W b c t d p v1 g1 a' m' .nilFunc R' P')
theorem resume_fn (h : SW w b c t d p v g a m R P) (hk : PK P) (hn : -9223372036854775808 ≤ R.ag.node ∧ R.ag.node ≤ 9223372036854775807) {x0 : Int} {T0 : List Int} (hT0 : lH P.T R.ag.node false x0 T0) {a' : Nat} {m' : Int} {R' : Wk} {P' : Pg}
  (RS : Mg b c t d p a m R P x0 T0 a' m' R' P') :
  Calls Tryz.prog 122 #[.pointer (some ⟨b, 0, none⟩), .pointer (some ⟨c, 0, none⟩)] w (au w b c t d p v g a' m' .nilFunc R' P') := by
 have hS := Lib.hid h
 replace hT0 := Lib.hid hT0
 have hmu := fun (W : World) (hW : SW W b c t d p v g a m R P) => F3 hW.cw hk R.ag.node hn
 clear h
 go_enter Tryz.func122, Tryz.ntmps122
 go_wp2_with fail
 refine Reg2.qX 12 18 [[],[af],[af,af],[af,af,ae],[af,af,ae,ae],[af,af,ae,ae,ae],[af,af,af,af,af,af],[af,af,af,af,af,af,ae],[af,af,af,af,af,af,ae,ae],[af,af,af,af,af,af,ae,ae,ae],[af,af,af,af,af,af,ae,ae,ae,ae],[af,af,ae,ae,ae,ae,ae,ae,ae,ae,ae]] [0, 0, 0, 0, 0, 2, 0, 0, 0, 0, 2, 3]
  [.pure, .pure, .pure, .pure, .pure, .pinned Unit () (fun _ => .pointer (some ⟨d, 0, none⟩)) (fun _ _ => True), .pure, .pure, .pure, .pure, .pinned Unit () (fun _ => .int .i64 R.ag.node) (fun _ _ => True), .major Unit () (fun _ => .int .i64 x0)]
  (fun _ => True) (fun vs W => match vs with | [] => Below w.heap.size w W | _ :: _ => (gI w b c t d p v g a m R { P with T := T0 }) W) (fun _ _ => True) (by kernel_rfl) (by kernel_rfl) rfl rfl (fun vs a b h hs => by cases vs with | nil => exact Below.trans hs (h.mono (Below.size hs)) | cons v vs => exact gI.ext a b h hs) ?_ ?_ ?_ ?_ ?_ ?_
 ·intro a b he hb; trivial
 ·intro a b he hb; trivial
 ·exact ⟨trivial, trivial, trivial, trivial, trivial, ⟨fun _ _ _ _ _ => trivial, fun _ _ _ _ _ => trivial⟩, trivial, trivial, trivial, trivial, ⟨fun _ _ _ _ _ => trivial, fun _ _ _ _ _ => trivial⟩, trivial, trivial⟩
 ·trivial
 ·exact ⟨rfl, rfl, rfl, Nat.le_refl _, fun _ _ => rfl⟩
 dsimp only [Reg2.mk, List.zip, List.zipWith, List.take]
 repeat (refine' Reg2.ai _ (by rfl) (fun wz => ?_) ?_; rotate_left; (go_simp; first | rfl | rw [if_neg (by omega)]); simp only [Act.put, xA, xB, xC]; (try simp only [xD]); (try simp only [xE]); (try simp only [id]))
 refine Reg2.pp (fun wz _ hI hF => ?_) (fun r5 => ?_) (by rfl)
 ·have c0 := (hS.out.cw.kept hI).c1
  go_wp2_with fail
  first | exact ⟨_, rfl, rfl, Reg2.Ext.refl _⟩ | exact ⟨_, rfl, ⟨(), rfl, trivial⟩, Reg2.Ext.refl _⟩
 simp only [Act.put, xA, xB, xC]; (try simp only [xD]); (try simp only [xE]); (try simp only [id])
 repeat (refine' Reg2.ai _ (by rfl) (fun wz => ?_) ?_; rotate_left; (go_simp; first | rfl | rw [if_neg (by omega)]); simp only [Act.put, xA, xB, xC]; (try simp only [xD]); (try simp only [xE]); (try simp only [id]))
 refine Reg2.pp (fun wz _ hI hF => ?_) (fun yJ => ?_) (by rfl)
 ·have q0 := (hS.out.kept hI).wk.at 7 (.int .i64 R.ag.node) rfl
  go_wp2_with fail
  first | exact ⟨_, rfl, rfl, Reg2.Ext.refl _⟩ | exact ⟨_, rfl, ⟨(), rfl, trivial⟩, Reg2.Ext.refl _⟩
 simp only [Act.put, xA, xB, xC]; (try simp only [xD]); (try simp only [xE]); (try simp only [id])
 refine Reg2.pj (fun wz _ hI hF => ?_) (fun Oj => ?_) (by rfl)
 ·go_wp2_with (go_at_call 143; go_must (refine (hmu wz (hS.out.kept hI)).mono ?_); rintro e w' ⟨x, T', hT, hL, rfl, v4, g4, nU, bC⟩)
  obtain ⟨rfl, rfl⟩ := hT0.out.uniq hT
  have hpost : gI w b c t d p v g a m R { P with T := T0 } w' := ⟨v4, g4, (hS.out.kept hI).core nU bC, (WS.of_below hI).trans (WS.bZ bC)⟩
  exact ⟨_, rfl, ⟨⟨(), rfl⟩, hpost⟩, trivial⟩
 simp only [Act.put, xA, xB, xC]; (try simp only [xD]); (try simp only [xE]); (try simp only [id])
 refine Reg2.az ?_
 intro w7 _ qQ jR
 clear jR
 dsimp only [List.drop]
 obtain ⟨v7, g7, fT, xn⟩ : gI w b c t d p v g a m R { P with T := T0 } w7 := qQ
 have O6 := RS w7 v7 g7 fT
 go_wp2_with fail
 go_at_call 142
 refine O6.mono ?_
 clear O6
 rintro e w8 ⟨rfl, v8, g8, fQ, dH⟩
 go_wp2_with fail
 go_ret
 exact ⟨rfl, v8, g8, fQ, xn.trans dH⟩
theorem yC (h : SW w b c t d p v g a m R P) (hk : PK P) (RU : P = aj M) (hI : aB M) (h1 : 1 ≤ M.dr.length) (hll : M.L.length ≤ 900) (ha : a ≤ 800) (hm : m ≤ 1000000) (hhit : dI ky M.L = none) (hn : -9223372036854775808 ≤ R.ag.node ∧ R.ag.node ≤ 9223372036854775807) {x0 : Int} {T0 : List Int} (hT0 : lH P.T R.ag.node true x0 T0) {a' : Nat} {m' : Int} {R' : Wk} {P' : Pg}
  (RS : Mf b c t d p a m R P x0 T0 a' m' R' P') :
  Calls Tryz.prog 141 #[.pointer (some ⟨b, 0, none⟩), .pointer (some ⟨c, 0, none⟩)] w (au w b c t d p v g a' m' .nilFunc R' P') := by
 obtain ⟨wA, aT⟩ : ∃ wA, wA = w.alloc (.cells #[.int .i64 1] 3) := ⟨_, rfl⟩
 have dE : Below w.heap.size w wA := by rw [aT]; exact (Below.refl _ _).alloc (Nat.le_refl _) _
 have Jc : aF enc1 1 wA (.slice (some ⟨w.heap.size, 0, none⟩) 1 1) [1] := by rw [aT]; exact fF w w.heap.size [1] rfl (by decide)
 have Jt := h.kept dE
 have hin := uL Jt.cw.dW (by rw [RU]; show M.L.length ≤ 1000; omega) Jc
 have hJ : P.J = M.L := by rw [RU]; rfl
 rw [hJ] at hin
 have hdr := fun (W : World) (u : Value) (hC : CW W c t d p v g a m P) (hu : aF ah 10 W u (M.L.filter fun j : Jb => decide (j.state ∈ [(1 : Int)]))) => uV (RU ▸ hC) hI h1 hll ha hm u _ (fun j : Jb => decide (j.state ∈ [(1 : Int)])) hu rfl
 have hno : M.L.findIdx? (fun j : Jb => decide (j.state ∈ [(1 : Int)]) && ak j) = none := by have := hhit; unfold dI at this; rw [← Gh] at this; exact this
 rw [hno] at hdr
 have c0 := h.cw.c0
 have hS := Lib.hid h
 replace hT0 := Lib.hid hT0
 have hmu := fun (W : World) (hW : SW W b c t d p v g a m R P) => IX hW.cw hk R.ag.node hn
 rw [aT] at hin
 clear h hno hhit
 go_enter Tryz.func141, Tryz.ntmps141
 go_wp2_with fail
 go_at_call 18
 refine hin.mono ?_
 clear hin c0
 rw [← aT]
 rintro e w1 ⟨u, rfl, ho, hb1⟩
 have hS1 := Jt.kept hb1
 have hd1 := hdr w1 u hS1.cw (aF.iJ ho ax rfl rfl)
 replace aT := Lib.hid aT
 clear ho hdr
 go_wp2_with fail
 go_at_call 164
 refine hd1.mono ?_
 clear hd1
 rintro e w2 (⟨_, rfl, hb2⟩ | ⟨i, hbad, _⟩)
 rotate_left
 ·cases hbad
 have hbw := dE.trans ((hb1.trans (hb2.mono hb1.size)).mono dE.size)
 have hS2 := Lib.hid (hS1.kept hb2)
 replace hS1 := Lib.hid hS1
 replace Jt := Lib.hid Jt
 go_wp2_with fail
 refine Reg2.qX 12 26 [[],[af],[af,af],[af,af,ae],[af,af,ae,ae],[af,af,ae,ae,ae],[af,af,af,af,af,af],[af,af,af,af,af,af,ae],[af,af,af,af,af,af,ae,ae],[af,af,af,af,af,af,ae,ae,ae],[af,af,af,af,af,af,ae,ae,ae,ae],[af,af,ae,ae,ae,ae,ae,ae,ae,ae,ae]] [0, 0, 0, 0, 0, 2, 0, 0, 0, 0, 2, 3]
  [.pure, .pure, .pure, .pure, .pure, .pinned Unit () (fun _ => .pointer (some ⟨d, 0, none⟩)) (fun _ _ => True), .pure, .pure, .pure, .pure, .pinned Unit () (fun _ => .int .i64 R.ag.node) (fun _ _ => True), .major Unit () (fun _ => .int .i64 x0)]
  (fun _ => True) (fun vs W => match vs with | [] => Below w2.heap.size w2 W | _ :: _ => (gI w2 b c t d p v g a m R { P with T := T0 }) W) (fun _ _ => True) (by kernel_rfl) (by kernel_rfl) rfl rfl (fun vs a b h hs => by cases vs with | nil => exact Below.trans hs (h.mono (Below.size hs)) | cons v vs => exact gI.ext a b h hs) ?_ ?_ ?_ ?_ ?_ ?_
 ·intro a b he hb; trivial
 ·intro a b he hb; trivial
 ·exact ⟨trivial, trivial, trivial, trivial, trivial, ⟨fun _ _ _ _ _ => trivial, fun _ _ _ _ _ => trivial⟩, trivial, trivial, trivial, trivial, ⟨fun _ _ _ _ _ => trivial, fun _ _ _ _ _ => trivial⟩, trivial, trivial⟩
 ·trivial
 ·exact ⟨rfl, rfl, rfl, Nat.le_refl _, fun _ _ => rfl⟩
 dsimp only [Reg2.mk, List.zip, List.zipWith, List.take]
 repeat (refine' Reg2.ai _ (by rfl) (fun wz => ?_) ?_; rotate_left; (go_simp; first | rfl | rw [if_neg (by omega)]); simp only [Act.put, xA, xB, xC]; (try simp only [xD]); (try simp only [xE]); (try simp only [id]))
 refine Reg2.pp (fun wz _ hI hF => ?_) (fun r5 => ?_) (by rfl)
 ·have c0 := (hS2.out.cw.kept hI).c1
  go_wp2_with fail
  first | exact ⟨_, rfl, rfl, Reg2.Ext.refl _⟩ | exact ⟨_, rfl, ⟨(), rfl, trivial⟩, Reg2.Ext.refl _⟩
 simp only [Act.put, xA, xB, xC]; (try simp only [xD]); (try simp only [xE]); (try simp only [id])
 repeat (refine' Reg2.ai _ (by rfl) (fun wz => ?_) ?_; rotate_left; (go_simp; first | rfl | rw [if_neg (by omega)]); simp only [Act.put, xA, xB, xC]; (try simp only [xD]); (try simp only [xE]); (try simp only [id]))
 refine Reg2.pp (fun wz _ hI hF => ?_) (fun yJ => ?_) (by rfl)
 ·have q0 := (hS2.out.kept hI).wk.at 7 (.int .i64 R.ag.node) rfl
  go_wp2_with fail
  first | exact ⟨_, rfl, rfl, Reg2.Ext.refl _⟩ | exact ⟨_, rfl, ⟨(), rfl, trivial⟩, Reg2.Ext.refl _⟩
 simp only [Act.put, xA, xB, xC]; (try simp only [xD]); (try simp only [xE]); (try simp only [id])
 refine Reg2.pj (fun wz _ hI hF => ?_) (fun Oj => ?_) (by rfl)
 ·go_wp2_with (go_at_call 171; go_must (refine (hmu wz (hS2.out.kept hI)).mono ?_); rintro e w' ⟨x, T', hT, hL, rfl, v4, g4, nU, bC⟩)
  obtain ⟨rfl, rfl⟩ := hT0.out.uniq hT
  have hpost : gI w2 b c t d p v g a m R { P with T := T0 } w' := ⟨v4, g4, (hS2.out.kept hI).core nU bC, (WS.of_below hI).trans (WS.bZ bC)⟩
  exact ⟨_, rfl, ⟨⟨(), rfl⟩, hpost⟩, trivial⟩
 simp only [Act.put, xA, xB, xC]; (try simp only [xD]); (try simp only [xE]); (try simp only [id])
 refine Reg2.az ?_
 intro w7 _ qQ jR
 clear jR
 dsimp only [List.drop]
 obtain ⟨v7, g7, fT, xn⟩ : gI w2 b c t d p v g a m R { P with T := T0 } w7 := qQ
 have O6 := RS w7 v7 g7 fT
 go_wp2_with fail
 go_at_call 142
 refine O6.mono ?_
 clear O6
 rintro e w8 ⟨rfl, v8, g8, fQ, dH⟩
 go_wp2_with fail
 go_ret
 exact ⟨rfl, v8, g8, fQ, ((WS.of_below hbw).trans xn).trans dH⟩
theorem yD (h : SW w b c t d p v g a m R (aj M)) (hI : aB M) (h1 : 1 ≤ M.dr.length) (hll : M.L.length ≤ 900) (ha : a ≤ 800) (hm : m ≤ 1000000) {i : Nat} (hhit : dI ky M.L = some i) :
  Calls Tryz.prog 141 #[.pointer (some ⟨b, 0, none⟩), .pointer (some ⟨c, 0, none⟩)] w (au w b c t d p v g (a + 2) (m + 1) (eU 141) R (aj { M with L := M.L.set i ((M.L.getD i default).aC (-1)) })) := by
 obtain ⟨wA, aT⟩ : ∃ wA, wA = w.alloc (.cells #[.int .i64 1] 3) := ⟨_, rfl⟩
 have dE : Below w.heap.size w wA := by rw [aT]; exact (Below.refl _ _).alloc (Nat.le_refl _) _
 have Jc : aF enc1 1 wA (.slice (some ⟨w.heap.size, 0, none⟩) 1 1) [1] := by rw [aT]; exact fF w w.heap.size [1] rfl (by decide)
 have Jt := h.kept dE
 have hin := uL Jt.cw.dW (by show M.L.length ≤ 1000; omega) Jc
 rw [show (aj M).J = M.L from rfl] at hin
 have hdr := fun (W : World) (u : Value) (hC : CW W c t d p v g a m (aj M)) (hu : aF ah 10 W u (M.L.filter fun j : Jb => decide (j.state ∈ [(1 : Int)]))) => uV hC hI h1 hll ha hm u _ (fun j : Jb => decide (j.state ∈ [(1 : Int)])) hu rfl
 have hno : M.L.findIdx? (fun j : Jb => decide (j.state ∈ [(1 : Int)]) && ak j) = some i := by have := hhit; unfold dI at this; rw [← Gh] at this; exact this
 rw [hno] at hdr
 have c0 := h.cw.c0
 rw [aT] at hin
 clear h hno hhit
 go_enter Tryz.func141, Tryz.ntmps141
 go_wp2_with fail
 go_at_call 18
 refine hin.mono ?_
 clear hin c0
 rw [← aT]
 rintro e w1 ⟨u, rfl, ho, hb1⟩
 have hS1 := Jt.kept hb1
 have hd1 := hdr w1 u hS1.cw (aF.iJ ho ax rfl rfl)
 replace aT := Lib.hid aT
 clear ho hdr
 go_wp2_with fail
 go_at_call 164
 refine hd1.mono ?_
 clear hd1
 rintro e w2 (⟨hbad, _⟩ | ⟨i2, he, rfl, v2, g2, hC2, hS2⟩)
 ·cases hbad
 obtain rfl := Option.some.inj he
 have Ud := hS1.core hC2 hS2
 have hf := (WS.of_below (dE.trans (hb1.mono dE.size)) : WS w w1 b c t d p v g v g).trans (WS.bZ hS2)
 go_wp2_with fail
 go_ret
 exact ⟨rfl, v2, g2, Ud, hf⟩
theorem CF (h : SW w b c t d p v g a m R P) (hk : PK P) (hn : -9223372036854775808 ≤ R.ag.node ∧ R.ag.node ≤ 9223372036854775807) (hst : oL P.T R.ag.node = 1 ∨ oL P.T R.ag.node = 2) {L : Value} {a' : Nat} {m' : Int} {R' : Wk} {P' : Pg}
  (hcl : ∀ W, SW W b c t d p v g a m R P → Calls Tryz.prog 141 #[.pointer (some ⟨b, 0, none⟩), .pointer (some ⟨c, 0, none⟩)] W (au W b c t d p v g a' m' L R' P')) :
  Calls Tryz.prog 121 #[.pointer (some ⟨b, 0, none⟩), .pointer (some ⟨c, 0, none⟩)] w (au w b c t d p v g a' m' L R' P') := by
 have hS := Lib.hid h
 have vZ := fun (W : World) (hW : SW W b c t d p v g a m R P) => uP R.ag.node hn hW.cw.nodes hk.pW
 generalize hsx : oL P.T R.ag.node = sx at *
 replace hsx := Lib.hid hsx
 clear h
 go_enter Tryz.func121, Tryz.ntmps121
 go_wp2_with fail
 refine Reg2.rd w 9 28 [[],[ae],[ae,ae],[ae,ae,ae],[af,af,af,af],[af,af,af,af,ae],[af,af,af,af,ae,ae],[af,af,af,af,ae,ae,ae],[af,af,af,af,ae,ae,ae,ae]] [0, 0, 0, 1, 0, 0, 0, 0, 1] [.pure, .pure, .pure, .mU (.pointer (some ⟨d, 0, none⟩)), .pure, .pure, .pure, .pure, .mU (.int .i64 R.ag.node)] (by kernel_rfl) (by kernel_rfl) rfl rfl ⟨trivial, trivial, trivial, Reg2.tt, trivial, trivial, trivial, trivial, Reg2.tt, trivial⟩ ⟨rfl, rfl, rfl, Nat.le_refl _, fun _ _ => rfl⟩ ?_
 dsimp only [Reg2.mk, List.zip, List.zipWith, List.take]
 repeat (refine' Reg2.ai _ (by rfl) (fun wz => ?_) ?_; rotate_left; (go_simp; first | rfl | rw [if_neg (by omega)]); simp only [Act.put, xA, xB, xC]; (try simp only [xD]); (try simp only [xE]); (try simp only [id]))
 refine Reg2.pm (fun wz hI hF => ?_) (fun r3 => ?_) (by rfl)
 ·have c0 := (hS.out.cw.kept hI).c1
  go_wp2_with fail
  first | exact ⟨_, rfl, rfl, Reg2.Ext.refl _⟩ | exact ⟨_, rfl, ⟨(), rfl, trivial⟩, Reg2.Ext.refl _⟩
 simp only [Act.put, xA, xB, xC]; (try simp only [xD]); (try simp only [xE]); (try simp only [id])
 repeat (refine' Reg2.ai _ (by rfl) (fun wz => ?_) ?_; rotate_left; (go_simp; first | rfl | rw [if_neg (by omega)]); simp only [Act.put, xA, xB, xC]; (try simp only [xD]); (try simp only [xE]); (try simp only [id]))
 refine Reg2.pm (fun wz hI hF => ?_) (fun r8 => ?_) (by rfl)
 ·have q0 := (hS.out.kept hI).wk.at 7 (.int .i64 R.ag.node) rfl
  go_wp2_with fail
  first | exact ⟨_, rfl, rfl, Reg2.Ext.refl _⟩ | exact ⟨_, rfl, ⟨(), rfl, trivial⟩, Reg2.Ext.refl _⟩
 simp only [Act.put, xA, xB, xC]; (try simp only [xD]); (try simp only [xE]); (try simp only [id])
 refine Reg2.az ?_
 intro w4 HI4 _ eu
 clear eu
 dsimp only [List.drop]
 have bC := hS.out.kept HI4
 have GL := vZ w4 bC
 go_wp2_with fail
 go_at_call 46
 refine GL.mono ?_
 clear GL
 rintro e w5 ⟨rfl, mm, uR⟩
 have hb5 : Below w4.heap.size w4 w5 := by rw [uR]; exact below_drewN (Below.refl _ _) _
 have hS5 := bC.kept hb5
 have O7 := hcl w5 hS5
 have Bp := HI4.trans (hb5.mono HI4.size)
 replace uR := Lib.hid uR
 rcases hst with rfl | rfl
 all_goals
  go_wp2_with fail
  go_at_call 141
  refine O7.mono ?_
  clear O7
  rintro e w8 ⟨rfl, v8, g8, fQ, dH⟩
  go_wp2_with fail
  go_ret
  exact ⟨rfl, v8, g8, fQ, (WS.of_below Bp).trans dH⟩
theorem CG (h : SW w b c t d p v g a m R P) (hk : PK P) (hn : -9223372036854775808 ≤ R.ag.node ∧ R.ag.node ≤ 9223372036854775807) (e0 : Int) (hst : (oL P.T R.ag.node = 0 ∧ e0 = 11) ∨ ((oL P.T R.ag.node = 3 ∨ oL P.T R.ag.node = 4) ∧ e0 = 8)) :
  Calls Tryz.prog 121 #[.pointer (some ⟨b, 0, none⟩), .pointer (some ⟨c, 0, none⟩)] w (au w b c t d p v g a m .nilFunc { R with rep := jL e0, ok := false } P) := by
 have hS := Lib.hid h
 have vZ := fun (W : World) (hW : SW W b c t d p v g a m R P) => uP R.ag.node hn hW.cw.nodes hk.pW
 generalize hsx : oL P.T R.ag.node = sx at *
 replace hsx := Lib.hid hsx
 clear h
 go_enter Tryz.func121, Tryz.ntmps121
 go_wp2_with fail
 refine Reg2.rd w 9 28 [[],[ae],[ae,ae],[ae,ae,ae],[af,af,af,af],[af,af,af,af,ae],[af,af,af,af,ae,ae],[af,af,af,af,ae,ae,ae],[af,af,af,af,ae,ae,ae,ae]] [0, 0, 0, 1, 0, 0, 0, 0, 1] [.pure, .pure, .pure, .mU (.pointer (some ⟨d, 0, none⟩)), .pure, .pure, .pure, .pure, .mU (.int .i64 R.ag.node)] (by kernel_rfl) (by kernel_rfl) rfl rfl ⟨trivial, trivial, trivial, Reg2.tt, trivial, trivial, trivial, trivial, Reg2.tt, trivial⟩ ⟨rfl, rfl, rfl, Nat.le_refl _, fun _ _ => rfl⟩ ?_
 dsimp only [Reg2.mk, List.zip, List.zipWith, List.take]
 repeat (refine' Reg2.ai _ (by rfl) (fun wz => ?_) ?_; rotate_left; (go_simp; first | rfl | rw [if_neg (by omega)]); simp only [Act.put, xA, xB, xC]; (try simp only [xD]); (try simp only [xE]); (try simp only [id]))
 refine Reg2.pm (fun wz hI hF => ?_) (fun r3 => ?_) (by rfl)
 ·have c0 := (hS.out.cw.kept hI).c1
  go_wp2_with fail
  first | exact ⟨_, rfl, rfl, Reg2.Ext.refl _⟩ | exact ⟨_, rfl, ⟨(), rfl, trivial⟩, Reg2.Ext.refl _⟩
 simp only [Act.put, xA, xB, xC]; (try simp only [xD]); (try simp only [xE]); (try simp only [id])
 repeat (refine' Reg2.ai _ (by rfl) (fun wz => ?_) ?_; rotate_left; (go_simp; first | rfl | rw [if_neg (by omega)]); simp only [Act.put, xA, xB, xC]; (try simp only [xD]); (try simp only [xE]); (try simp only [id]))
 refine Reg2.pm (fun wz hI hF => ?_) (fun r8 => ?_) (by rfl)
 ·have q0 := (hS.out.kept hI).wk.at 7 (.int .i64 R.ag.node) rfl
  go_wp2_with fail
  first | exact ⟨_, rfl, rfl, Reg2.Ext.refl _⟩ | exact ⟨_, rfl, ⟨(), rfl, trivial⟩, Reg2.Ext.refl _⟩
 simp only [Act.put, xA, xB, xC]; (try simp only [xD]); (try simp only [xE]); (try simp only [id])
 refine Reg2.az ?_
 intro w4 HI4 _ eu
 clear eu
 dsimp only [List.drop]
 have bC := hS.out.kept HI4
 have GL := vZ w4 bC
 go_wp2_with fail
 go_at_call 46
 refine GL.mono ?_
 clear GL
 rintro e w5 ⟨rfl, mm, uR⟩
 have hb5 : Below w4.heap.size w4 w5 := by rw [uR]; exact below_drewN (Below.refl _ _) _
 have hS5 := bC.kept hb5
 have Bp := HI4.trans (hb5.mono HI4.size)
 replace uR := Lib.hid uR
 rcases hst with ⟨rfl, rfl⟩ | ⟨rfl | rfl, rfl⟩
 ·have hf := gV hS5.wk 11
  go_wp2_with (go_at_call 67; go_must (refine hf.mono ?_); rintro e w8 ⟨rfl, dH, fB⟩)
  go_ret
  exact ⟨rfl, v, g, hS5.work dH fB, (WS.of_below Bp).trans (WS.bu fB)⟩
 all_goals
  have hf := gV hS5.wk 8
  go_wp2_with (go_at_call 67; go_must (refine hf.mono ?_); rintro e w8 ⟨rfl, dH, fB⟩)
  go_ret
  exact ⟨rfl, v, g, hS5.work dH fB, (WS.of_below Bp).trans (WS.bu fB)⟩
end
end Go.Proofs.YtkhfejihijdipaaGreat

namespace Go.Proofs.YtkhfejihijdipaaGreat
open Go.RowKit Go.Lib Go.Sort
section
variable {w : World} {b c t d p g a : Nat} {v : Value} {m : Int} {P : Pg} {R : Wk}
theorem Mh (h : SW w b c t d p v g a m R P) (hk : PK P) (hlow : R.ag.till < 1) :
  Calls Tryz.prog 123 #[.pointer (some ⟨b, 0, none⟩), .pointer (some ⟨c, 0, none⟩)] w (au w b c t d p v g a m .nilFunc { R with rep := jL 10, ok := false } P) := by
 have hS := Lib.hid h
 have hsub := fun (W : World) => Ap 1099511627776 P.now W
 have hnw := hk.now
 obtain ⟨sb, hsb⟩ : ∃ sb, sb = 1099511627776 - P.now := ⟨_, rfl⟩
 rw [show hd (hd 1099511627776 - hd P.now) = sb by rw [hsb]; unfold hd; omega] at hsub
 obtain ⟨ty, hty⟩ : ∃ ty, R.ag.till = ty := ⟨_, rfl⟩
 rw [hty] at hlow
 have d1 : decide (ty < 1) = true := decide_eq_true hlow
 replace hty := Lib.hid hty
 replace hsb := Lib.hid hsb
 clear h
 go_enter Tryz.func123, Tryz.ntmps123
 go_wp2_with fail
 refine Reg2.rd w 18 44 [[],[ae],[ae,ae],[ae,ae,ae],[ae,ae,ae,ae],[ae,ae,ae,ae,ae],[ae,ae,ae,ae,ae,ae],[ae,ae,ae,ae,ae,ae,ae],[ae,ae,ae,ae,ae,ae,ae,ae],[ae,ae,ae,ae,ae,ae,ae,ae,ae],[ae,ae,ae,ae,ae,ae,ae,ae,ae,ae],[ae,ae,ae,ae,ae,ae,ae,ae,ae,ae,ae],[ae,ae,ae,ae,ae,ae,ae,af,af,af,af,af],[ae,ae,ae,ae,ae,ae,ae,af,af,af,af,af,ae],[ae,ae,ae,ae,ae,ae,ae,af,af,af,af,af,ae,ae],[ae,ae,ae,ae,ae,ae,ae,af,af,af,af,af,ae,ae,ae],[ae,ae,ae,ae,ae,ae,ae,af,af,af,af,af,ae,ae,ae,ae],[ae,ae,ae,ae,ae,ae,ae,af,af,af,af,af,ae,ae,ae,ae,ae]] [0, 0, 0, 0, 1, 0, 0, 0, 0, 0, 0, 1, 0, 0, 0, 1, 1, 1] [.pure, .pure, .pure, .pure, .mU (.int .i64 ty), .pure, .pure, .pure, .pure, .pure, .pure, .mU (.int .i64 ty), .pure, .pure, .pure, .mU (.pointer (some ⟨p, 0, none⟩)), .mU (.int .i64 P.now), .mU (.int .i64 sb)] (by kernel_rfl) (by kernel_rfl) rfl rfl ⟨trivial, trivial, trivial, trivial, Reg2.tt, trivial, trivial, trivial, trivial, trivial, trivial, Reg2.tt, trivial, trivial, trivial, Reg2.tt, Reg2.tt, Reg2.tt, trivial⟩ ⟨rfl, rfl, rfl, Nat.le_refl _, fun _ _ => rfl⟩ ?_
 dsimp only [Reg2.mk, List.zip, List.zipWith, List.take]
 repeat (refine' Reg2.ai _ (by rfl) (fun wz => ?_) ?_; rotate_left; (go_simp; first | rfl | rw [if_neg (by omega)]); simp only [Act.put, xA, xB, xC]; (try simp only [xD]); (try simp only [xE]); (try simp only [id]))
 refine Reg2.pm (fun wz hI hF => ?_) (fun r4 => ?_) (by rfl)
 ·have q0 := (hS.out.kept hI).wk.at 8 (.int .i64 R.ag.till) rfl
  rw [hty.out] at q0
  go_wp2_with fail
  first | exact ⟨_, rfl, rfl, Reg2.Ext.refl _⟩ | exact ⟨_, rfl, ⟨(), rfl, trivial⟩, Reg2.Ext.refl _⟩
 simp only [Act.put, xA, xB, xC]; (try simp only [xD]); (try simp only [xE]); (try simp only [id])
 repeat (refine' Reg2.ai _ (by rfl) (fun wz => ?_) ?_; rotate_left; (go_simp; first | rfl | rw [if_neg (by omega)]); simp only [Act.put, xA, xB, xC]; (try simp only [xD]); (try simp only [xE]); (try simp only [id]))
 refine Reg2.cZ (by rfl) ?_
 simp only [Act.put, xA, xB, xC]; (try simp only [xD]); (try simp only [xE]); (try simp only [id])
 refine Reg2.cZ (by rfl) ?_
 simp only [Act.put, xA, xB, xC]; (try simp only [xD]); (try simp only [xE]); (try simp only [id])
 refine Reg2.cZ (by rfl) ?_
 simp only [Act.put, xA, xB, xC]; (try simp only [xD]); (try simp only [xE]); (try simp only [id])
 refine Reg2.cZ (by rfl) ?_
 simp only [Act.put, xA, xB, xC]; (try simp only [xD]); (try simp only [xE]); (try simp only [id])
 refine Reg2.bN (by rfl) ?_
 simp only [Act.put, xA, xB, xC]; (try simp only [xD]); (try simp only [xE]); (try simp only [id])
 refine Reg2.cZ (by rfl) ?_
 simp only [Act.put, xA, xB, xC]; (try simp only [xD]); (try simp only [xE]); (try simp only [id])
 refine Reg2.cZ (by rfl) ?_
 simp only [Act.put, xA, xB, xC]; (try simp only [xD]); (try simp only [xE]); (try simp only [id])
 refine Reg2.cZ (by rfl) ?_
 simp only [Act.put, xA, xB, xC]; (try simp only [xD]); (try simp only [xE]); (try simp only [id])
 refine Reg2.bN (by rfl) ?_
 simp only [Act.put, xA, xB, xC]; (try simp only [xD]); (try simp only [xE]); (try simp only [id])
 refine Reg2.bN (by rfl) ?_
 simp only [Act.put, xA, xB, xC]; (try simp only [xD]); (try simp only [xE]); (try simp only [id])
 refine Reg2.bN (by rfl) ?_
 simp only [Act.put, xA, xB, xC]; (try simp only [xD]); (try simp only [xE]); (try simp only [id])
 refine Reg2.az ?_
 intro w4 HI4 _ eu
 clear eu
 dsimp only [List.drop]
 have bC := hS.out.kept HI4
 have hf := gV bC.wk 10
 go_wp2_with (go_at_call 67; go_must (refine hf.mono ?_); rintro e w8 ⟨rfl, dH, fB⟩)
 go_ret
 exact ⟨rfl, v, g, bC.work dH fB, (WS.of_below HI4).trans (WS.bu fB)⟩
theorem Ju (h : SW w b c t d p v g a m R P) (hk : PK P) (hlow : ¬ R.ag.till < 1) (hhi : 1099511627776 - P.now < R.ag.till) :
  Calls Tryz.prog 123 #[.pointer (some ⟨b, 0, none⟩), .pointer (some ⟨c, 0, none⟩)] w (au w b c t d p v g a m .nilFunc { R with rep := jL 10, ok := false } P) := by
 have hS := Lib.hid h
 have hsub := fun (W : World) => Ap 1099511627776 P.now W
 have hnw := hk.now
 obtain ⟨sb, hsb⟩ : ∃ sb, sb = 1099511627776 - P.now := ⟨_, rfl⟩
 rw [show hd (hd 1099511627776 - hd P.now) = sb by rw [hsb]; unfold hd; omega] at hsub
 obtain ⟨ty, hty⟩ : ∃ ty, R.ag.till = ty := ⟨_, rfl⟩
 rw [hty] at hlow hhi
 have d1 : decide (ty < 1) = false := decide_eq_false hlow
 have d2 : decide (ty > sb) = true := decide_eq_true (by omega)
 replace hhi := Lib.hid hhi
 replace hty := Lib.hid hty
 replace hsb := Lib.hid hsb
 clear h
 go_enter Tryz.func123, Tryz.ntmps123
 go_wp2_with fail
 refine Reg2.rd w 18 44 [[],[ae],[ae,ae],[ae,ae,ae],[ae,ae,ae,ae],[ae,ae,ae,ae,ae],[ae,ae,ae,ae,ae,ae],[ae,ae,ae,ae,ae,ae,ae],[ae,ae,ae,ae,ae,ae,ae,ae],[ae,ae,ae,ae,ae,ae,ae,ae,ae],[ae,ae,ae,ae,ae,ae,ae,ae,ae,ae],[ae,ae,ae,ae,ae,ae,ae,ae,ae,ae,ae],[ae,ae,ae,ae,ae,ae,ae,af,af,af,af,af],[ae,ae,ae,ae,ae,ae,ae,af,af,af,af,af,ae],[ae,ae,ae,ae,ae,ae,ae,af,af,af,af,af,ae,ae],[ae,ae,ae,ae,ae,ae,ae,af,af,af,af,af,ae,ae,ae],[ae,ae,ae,ae,ae,ae,ae,af,af,af,af,af,ae,ae,ae,ae],[ae,ae,ae,ae,ae,ae,ae,af,af,af,af,af,ae,ae,ae,ae,ae]] [0, 0, 0, 0, 1, 0, 0, 0, 0, 0, 0, 1, 0, 0, 0, 1, 1, 1] [.pure, .pure, .pure, .pure, .mU (.int .i64 ty), .pure, .pure, .pure, .pure, .pure, .pure, .mU (.int .i64 ty), .pure, .pure, .pure, .mU (.pointer (some ⟨p, 0, none⟩)), .mU (.int .i64 P.now), .mU (.int .i64 sb)] (by kernel_rfl) (by kernel_rfl) rfl rfl ⟨trivial, trivial, trivial, trivial, Reg2.tt, trivial, trivial, trivial, trivial, trivial, trivial, Reg2.tt, trivial, trivial, trivial, Reg2.tt, Reg2.tt, Reg2.tt, trivial⟩ ⟨rfl, rfl, rfl, Nat.le_refl _, fun _ _ => rfl⟩ ?_
 dsimp only [Reg2.mk, List.zip, List.zipWith, List.take]
 repeat (refine' Reg2.ai _ (by rfl) (fun wz => ?_) ?_; rotate_left; (go_simp; first | rfl | rw [if_neg (by omega)]); simp only [Act.put, xA, xB, xC]; (try simp only [xD]); (try simp only [xE]); (try simp only [id]))
 refine Reg2.pm (fun wz hI hF => ?_) (fun r4 => ?_) (by rfl)
 ·have q0 := (hS.out.kept hI).wk.at 8 (.int .i64 R.ag.till) rfl
  rw [hty.out] at q0
  go_wp2_with fail
  first | exact ⟨_, rfl, rfl, Reg2.Ext.refl _⟩ | exact ⟨_, rfl, ⟨(), rfl, trivial⟩, Reg2.Ext.refl _⟩
 simp only [Act.put, xA, xB, xC]; (try simp only [xD]); (try simp only [xE]); (try simp only [id])
 repeat (refine' Reg2.ai _ (by rfl) (fun wz => ?_) ?_; rotate_left; (go_simp; first | rfl | rw [if_neg (by omega)]); simp only [Act.put, xA, xB, xC]; (try simp only [xD]); (try simp only [xE]); (try simp only [id]))
 refine Reg2.pm (fun wz hI hF => ?_) (fun Oj => ?_) (by rfl)
 ·have q0 := (hS.out.kept hI).wk.at 8 (.int .i64 R.ag.till) rfl
  rw [hty.out] at q0
  go_wp2_with fail
  first | exact ⟨_, rfl, rfl, Reg2.Ext.refl _⟩ | exact ⟨_, rfl, ⟨(), rfl, trivial⟩, Reg2.Ext.refl _⟩
 simp only [Act.put, xA, xB, xC]; (try simp only [xD]); (try simp only [xE]); (try simp only [id])
 repeat (refine' Reg2.ai _ (by rfl) (fun wz => ?_) ?_; rotate_left; (go_simp; first | rfl | rw [if_neg (by omega)]); simp only [Act.put, xA, xB, xC]; (try simp only [xD]); (try simp only [xE]); (try simp only [id]))
 refine Reg2.pm (fun wz hI hF => ?_) (fun TS => ?_) (by rfl)
 ·have c0 := (hS.out.cw.kept hI).c2
  go_wp2_with fail
  first | exact ⟨_, rfl, rfl, Reg2.Ext.refl _⟩ | exact ⟨_, rfl, ⟨(), rfl, trivial⟩, Reg2.Ext.refl _⟩
 simp only [Act.put, xA, xB, xC]; (try simp only [xD]); (try simp only [xE]); (try simp only [id])
 refine Reg2.pm (fun wz hI hF => ?_) (fun r16 => ?_) (by rfl)
 ·go_wp2_with (go_at_call 43; go_must (refine (fO (hS.out.kept hI).cw).mono ?_); rintro e w' ⟨rfl, rfl⟩)
  first | exact ⟨_, rfl, rfl, Reg2.Ext.refl _⟩ | exact ⟨_, rfl, ⟨(), rfl, trivial⟩, Reg2.Ext.refl _⟩
 simp only [Act.put, xA, xB, xC]; (try simp only [xD]); (try simp only [xE]); (try simp only [id])
 refine Reg2.pm (fun wz hI hF => ?_) (fun TF => ?_) (by rfl)
 ·go_wp2_with (go_at_call 144; go_must (refine (hsub wz).mono ?_); rintro e w' ⟨rfl, rfl⟩)
  first | exact ⟨_, rfl, rfl, Reg2.Ext.refl _⟩ | exact ⟨_, rfl, ⟨(), rfl, trivial⟩, Reg2.Ext.refl _⟩
 simp only [Act.put, xA, xB, xC]; (try simp only [xD]); (try simp only [xE]); (try simp only [id])
 refine Reg2.az ?_
 intro w4 HI4 _ eu
 clear eu
 dsimp only [List.drop]
 have bC := hS.out.kept HI4
 have hf := gV bC.wk 10
 go_wp2_with (go_at_call 67; go_must (refine hf.mono ?_); rintro e w8 ⟨rfl, dH, fB⟩)
 go_ret
 exact ⟨rfl, v, g, bC.work dH fB, (WS.of_below HI4).trans (WS.bu fB)⟩
theorem GM (h : SW w b c t d p v g a m R P) (hk : PK P) (hlow : ¬ R.ag.till < 1) (hhi : ¬ 1099511627776 - P.now < R.ag.till) {L : Value} {a' : Nat} {m' : Int} {R' : Wk} {P' : Pg}
  (hfw : ∀ W, SW W b c t d p v g a m { R with target := P.now + R.ag.till } P → Calls Tryz.prog 145 #[.pointer (some ⟨b, 0, none⟩), .pointer (some ⟨c, 0, none⟩)] W (au W b c t d p v g a' m' L R' P')) :
  Calls Tryz.prog 123 #[.pointer (some ⟨b, 0, none⟩), .pointer (some ⟨c, 0, none⟩)] w (au w b c t d p v g a' m' L R' P') := by
 have hS := Lib.hid h
 have hsub := fun (W : World) => Ap 1099511627776 P.now W
 have hnw := hk.now
 obtain ⟨sb, hsb⟩ : ∃ sb, sb = 1099511627776 - P.now := ⟨_, rfl⟩
 rw [show hd (hd 1099511627776 - hd P.now) = sb by rw [hsb]; unfold hd; omega] at hsub
 obtain ⟨ty, hty⟩ : ∃ ty, R.ag.till = ty := ⟨_, rfl⟩
 rw [hty] at hlow hhi hfw
 have d1 : decide (ty < 1) = false := decide_eq_false hlow
 have d2 : decide (ty > sb) = false := decide_eq_false (by omega)
 have wt : IntKind.i64.wrap (P.now + ty) = P.now + ty := by rw [IntKind.wrap_i64]; omega
 replace hhi := Lib.hid hhi
 replace hty := Lib.hid hty
 replace hsb := Lib.hid hsb
 clear h
 go_enter Tryz.func123, Tryz.ntmps123
 go_wp2_with fail
 refine Reg2.rd w 18 44 [[],[ae],[ae,ae],[ae,ae,ae],[ae,ae,ae,ae],[ae,ae,ae,ae,ae],[ae,ae,ae,ae,ae,ae],[ae,ae,ae,ae,ae,ae,ae],[ae,ae,ae,ae,ae,ae,ae,ae],[ae,ae,ae,ae,ae,ae,ae,ae,ae],[ae,ae,ae,ae,ae,ae,ae,ae,ae,ae],[ae,ae,ae,ae,ae,ae,ae,ae,ae,ae,ae],[ae,ae,ae,ae,ae,ae,ae,af,af,af,af,af],[ae,ae,ae,ae,ae,ae,ae,af,af,af,af,af,ae],[ae,ae,ae,ae,ae,ae,ae,af,af,af,af,af,ae,ae],[ae,ae,ae,ae,ae,ae,ae,af,af,af,af,af,ae,ae,ae],[ae,ae,ae,ae,ae,ae,ae,af,af,af,af,af,ae,ae,ae,ae],[ae,ae,ae,ae,ae,ae,ae,af,af,af,af,af,ae,ae,ae,ae,ae]] [0, 0, 0, 0, 1, 0, 0, 0, 0, 0, 0, 1, 0, 0, 0, 1, 1, 1] [.pure, .pure, .pure, .pure, .mU (.int .i64 ty), .pure, .pure, .pure, .pure, .pure, .pure, .mU (.int .i64 ty), .pure, .pure, .pure, .mU (.pointer (some ⟨p, 0, none⟩)), .mU (.int .i64 P.now), .mU (.int .i64 sb)] (by kernel_rfl) (by kernel_rfl) rfl rfl ⟨trivial, trivial, trivial, trivial, Reg2.tt, trivial, trivial, trivial, trivial, trivial, trivial, Reg2.tt, trivial, trivial, trivial, Reg2.tt, Reg2.tt, Reg2.tt, trivial⟩ ⟨rfl, rfl, rfl, Nat.le_refl _, fun _ _ => rfl⟩ ?_
 dsimp only [Reg2.mk, List.zip, List.zipWith, List.take]
 repeat (refine' Reg2.ai _ (by rfl) (fun wz => ?_) ?_; rotate_left; (go_simp; first | rfl | rw [if_neg (by omega)]); simp only [Act.put, xA, xB, xC]; (try simp only [xD]); (try simp only [xE]); (try simp only [id]))
 refine Reg2.pm (fun wz hI hF => ?_) (fun r4 => ?_) (by rfl)
 ·have q0 := (hS.out.kept hI).wk.at 8 (.int .i64 R.ag.till) rfl
  rw [hty.out] at q0
  go_wp2_with fail
  first | exact ⟨_, rfl, rfl, Reg2.Ext.refl _⟩ | exact ⟨_, rfl, ⟨(), rfl, trivial⟩, Reg2.Ext.refl _⟩
 simp only [Act.put, xA, xB, xC]; (try simp only [xD]); (try simp only [xE]); (try simp only [id])
 repeat (refine' Reg2.ai _ (by rfl) (fun wz => ?_) ?_; rotate_left; (go_simp; first | rfl | rw [if_neg (by omega)]); simp only [Act.put, xA, xB, xC]; (try simp only [xD]); (try simp only [xE]); (try simp only [id]))
 refine Reg2.pm (fun wz hI hF => ?_) (fun Oj => ?_) (by rfl)
 ·have q0 := (hS.out.kept hI).wk.at 8 (.int .i64 R.ag.till) rfl
  rw [hty.out] at q0
  go_wp2_with fail
  first | exact ⟨_, rfl, rfl, Reg2.Ext.refl _⟩ | exact ⟨_, rfl, ⟨(), rfl, trivial⟩, Reg2.Ext.refl _⟩
 simp only [Act.put, xA, xB, xC]; (try simp only [xD]); (try simp only [xE]); (try simp only [id])
 repeat (refine' Reg2.ai _ (by rfl) (fun wz => ?_) ?_; rotate_left; (go_simp; first | rfl | rw [if_neg (by omega)]); simp only [Act.put, xA, xB, xC]; (try simp only [xD]); (try simp only [xE]); (try simp only [id]))
 refine Reg2.pm (fun wz hI hF => ?_) (fun TS => ?_) (by rfl)
 ·have c0 := (hS.out.cw.kept hI).c2
  go_wp2_with fail
  first | exact ⟨_, rfl, rfl, Reg2.Ext.refl _⟩ | exact ⟨_, rfl, ⟨(), rfl, trivial⟩, Reg2.Ext.refl _⟩
 simp only [Act.put, xA, xB, xC]; (try simp only [xD]); (try simp only [xE]); (try simp only [id])
 refine Reg2.pm (fun wz hI hF => ?_) (fun r16 => ?_) (by rfl)
 ·go_wp2_with (go_at_call 43; go_must (refine (fO (hS.out.kept hI).cw).mono ?_); rintro e w' ⟨rfl, rfl⟩)
  first | exact ⟨_, rfl, rfl, Reg2.Ext.refl _⟩ | exact ⟨_, rfl, ⟨(), rfl, trivial⟩, Reg2.Ext.refl _⟩
 simp only [Act.put, xA, xB, xC]; (try simp only [xD]); (try simp only [xE]); (try simp only [id])
 refine Reg2.pm (fun wz hI hF => ?_) (fun TF => ?_) (by rfl)
 ·go_wp2_with (go_at_call 144; go_must (refine (hsub wz).mono ?_); rintro e w' ⟨rfl, rfl⟩)
  first | exact ⟨_, rfl, rfl, Reg2.Ext.refl _⟩ | exact ⟨_, rfl, ⟨(), rfl, trivial⟩, Reg2.Ext.refl _⟩
 simp only [Act.put, xA, xB, xC]; (try simp only [xD]); (try simp only [xE]); (try simp only [id])
 refine Reg2.az ?_
 intro w4 HI4 _ eu
 clear eu
 dsimp only [List.drop]
 have bC := Lib.hid (hS.out.kept HI4)
 go_wp2_with fail
 refine Reg2.rd w4 12 44 [[],[af],[af,ae],[af,ae,ae],[af,ae,ae,ae],[af,ae,ae,ae,ae],[af,af,af,af,af,af],[af,af,af,af,af,af,ae],[af,af,af,af,af,af,ae,ae],[af,af,af,af,af,af,ae,ae,ae],[af,af,af,af,af,af,ae,ae,ae,ae],[af,ae,ae,ae,ae,ae,ae,ae,ae,ae,ae]] [0, 0, 0, 0, 1, 1, 0, 0, 0, 0, 1, 0] [.pure, .pure, .pure, .pure, .mU (.pointer (some ⟨p, 0, none⟩)), .mU (.int .i64 P.now), .pure, .pure, .pure, .pure, .mU (.int .i64 ty), .pure] (by kernel_rfl) (by kernel_rfl) rfl rfl ⟨trivial, trivial, trivial, trivial, Reg2.tt, Reg2.tt, trivial, trivial, trivial, trivial, Reg2.tt, trivial, trivial⟩ ⟨rfl, rfl, rfl, Nat.le_refl _, fun _ _ => rfl⟩ ?_
 dsimp only [Reg2.mk, List.zip, List.zipWith, List.take]
 repeat (refine' Reg2.ai _ (by rfl) (fun wz => ?_) ?_; rotate_left; (go_simp; first | rfl | rw [if_neg (by omega)]); simp only [Act.put, xA, xB, xC]; (try simp only [xD]); (try simp only [xE]); (try simp only [id]))
 refine Reg2.pm (fun wz hI hF => ?_) (fun r4 => ?_) (by rfl)
 ·have c0 := (bC.out.cw.kept hI).c2
  go_wp2_with fail
  first | exact ⟨_, rfl, rfl, Reg2.Ext.refl _⟩ | exact ⟨_, rfl, ⟨(), rfl, trivial⟩, Reg2.Ext.refl _⟩
 simp only [Act.put, xA, xB, xC]; (try simp only [xD]); (try simp only [xE]); (try simp only [id])
 refine Reg2.pm (fun wz hI hF => ?_) (fun r5 => ?_) (by rfl)
 ·go_wp2_with (go_at_call 43; go_must (refine (fO (bC.out.kept hI).cw).mono ?_); rintro e w' ⟨rfl, rfl⟩)
  first | exact ⟨_, rfl, rfl, Reg2.Ext.refl _⟩ | exact ⟨_, rfl, ⟨(), rfl, trivial⟩, Reg2.Ext.refl _⟩
 simp only [Act.put, xA, xB, xC]; (try simp only [xD]); (try simp only [xE]); (try simp only [id])
 repeat (refine' Reg2.ai _ (by rfl) (fun wz => ?_) ?_; rotate_left; (go_simp; first | rfl | rw [if_neg (by omega)]); simp only [Act.put, xA, xB, xC]; (try simp only [xD]); (try simp only [xE]); (try simp only [id]))
 refine Reg2.pm (fun wz hI hF => ?_) (fun yJ => ?_) (by rfl)
 ·have q0 := (bC.out.kept hI).wk.at 8 (.int .i64 R.ag.till) rfl
  rw [hty.out] at q0
  go_wp2_with fail
  first | exact ⟨_, rfl, rfl, Reg2.Ext.refl _⟩ | exact ⟨_, rfl, ⟨(), rfl, trivial⟩, Reg2.Ext.refl _⟩
 simp only [Act.put, xA, xB, xC]; (try simp only [xD]); (try simp only [xE]); (try simp only [id])
 repeat (refine' Reg2.ai _ (by rfl) (fun wz => ?_) ?_; rotate_left; (go_simp; first | rfl | rw [if_neg (by omega)]); simp only [Act.put, xA, xB, xC]; (try simp only [xD]); (try simp only [xE]); (try simp only [id]))
 refine Reg2.az ?_
 intro w6 Gf _ eu
 clear eu
 dsimp only [List.drop]
 have dP := bC.out.kept Gf
 have a23 := dP.wk.at 23 (.int .i64 R.target) rfl
 have f23 := dP.wk.free 23
 have fT := dP.work (dP.wk.target (P.now + ty)) (bV w6 23 (.int .i64 (P.now + ty)))
 have Jh := (WS.of_below (HI4.trans (Gf.mono HI4.size)) : WS w w6 b c t d p v g v g).trans (WS.bu (bV w6 23 (.int .i64 (P.now + ty))))
 have QK := hfw _ fT
 go_wp2_with fail
 go_at_call 145
 refine QK.mono ?_
 clear QK
 rintro e w8 ⟨rfl, v8, g8, fQ, dH⟩
 have Je := Jh.trans dH
 go_wp2_with fail
 go_ret
 exact ⟨rfl, v8, g8, fQ, Je⟩
end
end Go.Proofs.YtkhfejihijdipaaGreat

namespace Go.Proofs.YtkhfejihijdipaaGreat
open Go.RowKit Go.Lib Go.Sort
section
variable {w : World} {b c t d p g a : Nat} {v : Value} {m : Int} {P : Pg} {M : Md} {R : Wk}
theorem yP (h : SW w b c t d p v g a m R P) (hq : R.ag.kind = 6) (e1 : Int) (he1 : e1 ≠ 0) (he : fV P.J R.ag.id = e1) :
  Calls Tryz.prog 92 #[.pointer (some ⟨b, 0, none⟩), .pointer (some ⟨c, 0, none⟩)] w (au w b c t d p v g a m .nilFunc { R with rep := jL e1, ok := false } P) := by
 have zJ := bB
 obtain ⟨k, hk1⟩ : ∃ k, k = 10 := ⟨_, rfl⟩
 rw [← hk1] at zJ
 have hk0 : ¬ k = 0 := by omega
 have lY := ax (bE P.J R.ag.id)
 rw [← hk1] at lY
 replace hk1 := Lib.hid hk1
 have q0 := h.wk.at 0 (.int .i64 R.ag.kind) rfl
 rw [hq] at q0
 obtain ⟨y, hy⟩ : ∃ y, y = bE P.J R.ag.id := ⟨_, rfl⟩
 obtain ⟨e0, he0⟩ : ∃ e0, e0 = fV P.J R.ag.id := ⟨_, rfl⟩
 have hgo : Hid (∀ W, SW W b c t d p v g a m R P → Calls Tryz.prog 70 #[.pointer (some ⟨t, 0, none⟩), .int .i64 R.ag.id] W fun e w' => e = .returned (.tuple #[.agg (ah y).toArray, .int .i64 e0]) ∧ Gr W w') := fun W hW => by
  have := gz hW.cw.dW R.ag.id
  unfold iw at this
  rw [← hy, ← he0] at this
  exact this
 rw [← he0] at he
 rw [← hy] at lY
 replace he := Lib.hid he
 have hS := Lib.hid h
 replace he0 := Lib.hid he0
 replace hy := Lib.hid hy
 replace hq := Lib.hid hq
 clear h
 go_enter Tryz.func92, Tryz.ntmps92
 go_wp2_with fail
 refine Reg2.qc 15 73 [[],[ae],[ae,ae],[ae,ae,ae],[af,af,af,af],[af,af,af,af,ae],[af,af,af,af,ae,ae],[af,af,af,af,ae,ae,ae],[af,af,af,af,ae,ae,ae,ae],[ae,ae,ae,ae,ae,ae,ae,ae,ae],[ae,ae,ae,ae,ae,ae,ae,ae,ae,ae],[ae,ae,ae,ae,ae,ae,ae,ae,ae,ae,ae],[ae,ae,ae,ae,ae,ae,ae,ae,ae,ae,ae,af],[af,af,af,af,af,af,af,af,af,af,af,af,af],[ae,ae,ae,ae,ae,ae,ae,ae,ae,ae,ae,ae,af,ae]] [0, 0, 0, 1, 0, 0, 0, 0, 1, 1, 0, 0, 0, 3, 3]
  [.pure, .pure, .pure, .mU (.pointer (some ⟨t, 0, none⟩)), .pure, .pure, .pure, .pure, .mU (.int .i64 R.ag.id), .mU (.tuple #[.agg (ah y).toArray, .int .i64 e0]), .pure, .pure, .pure, .major Nat 0 (fun k => .pointer (some ⟨k, 0, none⟩)), .major Unit () (fun _ => undef)]
  (fun W => Below w.heap.size w W) (gW w y) (fun a b => Below w.heap.size a b) (by kernel_rfl) (by kernel_rfl) rfl rfl (fun vs a b h hs => gW.ext h hs) ?_ ?_ ?_ ?_ ?_ ?_ ?_
 ·intro a b he hb; exact hb.trans (Below.mono he hb.size)
 ·intro a b he hb; exact hb.trans he
 ·exact ⟨trivial, trivial, trivial, ⟨fun _ _ _ _ _ => trivial, fun _ _ _ _ _ => trivial⟩, trivial, trivial, trivial, trivial, ⟨fun _ _ _ _ _ => trivial, fun _ _ _ _ _ => trivial⟩, ⟨fun _ _ _ _ _ => trivial, fun _ _ _ _ _ => trivial⟩, trivial, trivial, trivial, trivial, trivial, trivial⟩
 ·exact ⟨(fun h => nomatch h), (fun h => nomatch h), (fun h => nomatch h), (fun h => nomatch h), (fun h => nomatch h), (fun h => nomatch h), (fun h => nomatch h), (fun h => nomatch h), (fun h => nomatch h), (fun h => nomatch h), (fun h => nomatch h), (fun h => nomatch h), (fun h => nomatch h), (fun h => nomatch h), (fun _ _ => rfl), trivial⟩
 ·exact ⟨rfl, rfl, rfl, Nat.le_refl _, fun _ _ => rfl⟩
 ·exact ⟨⟨rfl, rfl, rfl, Nat.le_refl _, fun _ _ => rfl⟩, trivial⟩
 dsimp only [Reg2.mk, List.zip, List.zipWith, List.take]
 repeat (refine' Reg2.ai _ (by rfl) (fun wz => ?_) ?_; rotate_left; (go_simp; first | rfl | rw [if_neg (by omega)]); simp only [Act.put, xA, xB, xC]; (try simp only [xD]); (try simp only [xE]); (try simp only [id]))
 refine Reg2.pm (fun wz hI hF => ?_) (fun r3 => ?_) (by rfl)
 ·have c0 := (hS.out.kept hI).cw.c0
  go_wp2_with fail
  first | exact ⟨_, rfl, rfl, Reg2.Ext.refl _⟩ | exact ⟨_, rfl, ⟨(), rfl, trivial⟩, Reg2.Ext.refl _⟩
 simp only [Act.put, xA, xB, xC]; (try simp only [xD]); (try simp only [xE]); (try simp only [id])
 repeat (refine' Reg2.ai _ (by rfl) (fun wz => ?_) ?_; rotate_left; (go_simp; first | rfl | rw [if_neg (by omega)]); simp only [Act.put, xA, xB, xC]; (try simp only [xD]); (try simp only [xE]); (try simp only [id]))
 refine Reg2.pm (fun wz hI hF => ?_) (fun r8 => ?_) (by rfl)
 ·have q0 := (hS.out.kept hI).wk.at 1 (.int .i64 R.ag.id) rfl
  go_wp2_with fail
  first | exact ⟨_, rfl, rfl, Reg2.Ext.refl _⟩ | exact ⟨_, rfl, ⟨(), rfl, trivial⟩, Reg2.Ext.refl _⟩
 simp only [Act.put, xA, xB, xC]; (try simp only [xD]); (try simp only [xE]); (try simp only [id])
 refine Reg2.pm (fun wz hI hF => ?_) (fun r9 => ?_) (by rfl)
 ·go_wp2_with (go_at_call 70; go_must (refine (hgo.out wz (hS.out.kept hI)).mono ?_); rintro e w' ⟨rfl, hg5⟩; have hb5 := hg5.below)
  first | exact ⟨_, rfl, ⟨(), rfl, trivial⟩, hb5⟩ | exact ⟨_, rfl, rfl, hb5⟩
 simp only [Act.put, xA, xB, xC]; (try simp only [xD]); (try simp only [xE]); (try simp only [id])
 repeat (refine' Reg2.ai _ (by rfl) (fun wz => ?_) ?_; rotate_left; (go_simp; first | rfl | rw [if_neg (by omega)]); simp only [Act.put, xA, xB, xC]; (try simp only [xD]); (try simp only [xE]); (try simp only [id]))
 refine Reg2.pj (fun wz hI hS hF => ?_) (fun Em => ?_) (by rfl)
 ·go_wp2_with fail
  exact ⟨_, rfl, ⟨⟨_, rfl⟩, gW.alloc hS⟩, (Below.refl _ _).alloc hI.size _⟩
 simp only [Act.put, xA, xB, xC]; (try simp only [xD]); (try simp only [xE]); (try simp only [id])
 refine Reg2.pj (fun wz hI hS hF => ?_) (fun Ej => ?_) (by rfl)
 ·obtain ⟨hz, hge⟩ := gW.zero hS
  have yO := ni (x := y) hz
  have hfin := gW.store hS
  have hbw : Below w.heap.size wz (wz.setRow Em (ah y).toArray) := pX (Below.refl _ _) hge _
  generalize ah y = cY at *
  go_wp2_with fail
  exact ⟨_, rfl, ⟨⟨(), rfl⟩, hfin⟩, hbw⟩
 simp only [Act.put, xA, xB, xC]; (try simp only [xD]); (try simp only [xE]); (try simp only [id])
 refine Reg2.az ?_
 intro w7 jH qQ jR
 clear jR qQ
 dsimp only [List.drop]
 have fT := hS.out.kept jH
 have d3 : (e0 != 0) = true := by rw [he.out]; simp [he1]
 have hf := gV fT.wk e0
 go_wp2_with (go_at_call 67; go_must (refine hf.mono ?_); rintro e w8 ⟨rfl, dH, fB⟩)
 go_ret
 have e9 := he.out
 clear he
 subst e9
 exact ⟨rfl, v, g, fT.work dH fB, (WS.of_below jH).trans (WS.bu fB)⟩
theorem Ay (h : SW w b c t d p v g a m R P) (hq : R.ag.kind = 6) (he : fV P.J R.ag.id = 0) :
  Calls Tryz.prog 92 #[.pointer (some ⟨b, 0, none⟩), .pointer (some ⟨c, 0, none⟩)] w (au w b c t d p v g a m .nilFunc { R with rep := iB (bE P.J R.ag.id) } P) := by
 have zJ := bB
 obtain ⟨k, hk1⟩ : ∃ k, k = 10 := ⟨_, rfl⟩
 rw [← hk1] at zJ
 have hk0 : ¬ k = 0 := by omega
 have lY := ax (bE P.J R.ag.id)
 rw [← hk1] at lY
 replace hk1 := Lib.hid hk1
 have q0 := h.wk.at 0 (.int .i64 R.ag.kind) rfl
 rw [hq] at q0
 obtain ⟨y, hy⟩ : ∃ y, y = bE P.J R.ag.id := ⟨_, rfl⟩
 obtain ⟨e0, he0⟩ : ∃ e0, e0 = fV P.J R.ag.id := ⟨_, rfl⟩
 have hgo : Hid (∀ W, SW W b c t d p v g a m R P → Calls Tryz.prog 70 #[.pointer (some ⟨t, 0, none⟩), .int .i64 R.ag.id] W fun e w' => e = .returned (.tuple #[.agg (ah y).toArray, .int .i64 e0]) ∧ Gr W w') := fun W hW => by
  have := gz hW.cw.dW R.ag.id
  unfold iw at this
  rw [← hy, ← he0] at this
  exact this
 rw [← he0] at he
 rw [← hy] at lY
 replace he := Lib.hid he
 have hS := Lib.hid h
 replace he0 := Lib.hid he0
 replace hy := Lib.hid hy
 replace hq := Lib.hid hq
 clear h
 go_enter Tryz.func92, Tryz.ntmps92
 go_wp2_with fail
 refine Reg2.qc 15 73 [[],[ae],[ae,ae],[ae,ae,ae],[af,af,af,af],[af,af,af,af,ae],[af,af,af,af,ae,ae],[af,af,af,af,ae,ae,ae],[af,af,af,af,ae,ae,ae,ae],[ae,ae,ae,ae,ae,ae,ae,ae,ae],[ae,ae,ae,ae,ae,ae,ae,ae,ae,ae],[ae,ae,ae,ae,ae,ae,ae,ae,ae,ae,ae],[ae,ae,ae,ae,ae,ae,ae,ae,ae,ae,ae,af],[af,af,af,af,af,af,af,af,af,af,af,af,af],[ae,ae,ae,ae,ae,ae,ae,ae,ae,ae,ae,ae,af,ae]] [0, 0, 0, 1, 0, 0, 0, 0, 1, 1, 0, 0, 0, 3, 3]
  [.pure, .pure, .pure, .mU (.pointer (some ⟨t, 0, none⟩)), .pure, .pure, .pure, .pure, .mU (.int .i64 R.ag.id), .mU (.tuple #[.agg (ah y).toArray, .int .i64 e0]), .pure, .pure, .pure, .major Nat 0 (fun k => .pointer (some ⟨k, 0, none⟩)), .major Unit () (fun _ => undef)]
  (fun W => Below w.heap.size w W) (gW w y) (fun a b => Below w.heap.size a b) (by kernel_rfl) (by kernel_rfl) rfl rfl (fun vs a b h hs => gW.ext h hs) ?_ ?_ ?_ ?_ ?_ ?_ ?_
 ·intro a b he hb; exact hb.trans (Below.mono he hb.size)
 ·intro a b he hb; exact hb.trans he
 ·exact ⟨trivial, trivial, trivial, ⟨fun _ _ _ _ _ => trivial, fun _ _ _ _ _ => trivial⟩, trivial, trivial, trivial, trivial, ⟨fun _ _ _ _ _ => trivial, fun _ _ _ _ _ => trivial⟩, ⟨fun _ _ _ _ _ => trivial, fun _ _ _ _ _ => trivial⟩, trivial, trivial, trivial, trivial, trivial, trivial⟩
 ·exact ⟨(fun h => nomatch h), (fun h => nomatch h), (fun h => nomatch h), (fun h => nomatch h), (fun h => nomatch h), (fun h => nomatch h), (fun h => nomatch h), (fun h => nomatch h), (fun h => nomatch h), (fun h => nomatch h), (fun h => nomatch h), (fun h => nomatch h), (fun h => nomatch h), (fun h => nomatch h), (fun _ _ => rfl), trivial⟩
 ·exact ⟨rfl, rfl, rfl, Nat.le_refl _, fun _ _ => rfl⟩
 ·exact ⟨⟨rfl, rfl, rfl, Nat.le_refl _, fun _ _ => rfl⟩, trivial⟩
 dsimp only [Reg2.mk, List.zip, List.zipWith, List.take]
 repeat (refine' Reg2.ai _ (by rfl) (fun wz => ?_) ?_; rotate_left; (go_simp; first | rfl | rw [if_neg (by omega)]); simp only [Act.put, xA, xB, xC]; (try simp only [xD]); (try simp only [xE]); (try simp only [id]))
 refine Reg2.pm (fun wz hI hF => ?_) (fun r3 => ?_) (by rfl)
 ·have c0 := (hS.out.kept hI).cw.c0
  go_wp2_with fail
  first | exact ⟨_, rfl, rfl, Reg2.Ext.refl _⟩ | exact ⟨_, rfl, ⟨(), rfl, trivial⟩, Reg2.Ext.refl _⟩
 simp only [Act.put, xA, xB, xC]; (try simp only [xD]); (try simp only [xE]); (try simp only [id])
 repeat (refine' Reg2.ai _ (by rfl) (fun wz => ?_) ?_; rotate_left; (go_simp; first | rfl | rw [if_neg (by omega)]); simp only [Act.put, xA, xB, xC]; (try simp only [xD]); (try simp only [xE]); (try simp only [id]))
 refine Reg2.pm (fun wz hI hF => ?_) (fun r8 => ?_) (by rfl)
 ·have q0 := (hS.out.kept hI).wk.at 1 (.int .i64 R.ag.id) rfl
  go_wp2_with fail
  first | exact ⟨_, rfl, rfl, Reg2.Ext.refl _⟩ | exact ⟨_, rfl, ⟨(), rfl, trivial⟩, Reg2.Ext.refl _⟩
 simp only [Act.put, xA, xB, xC]; (try simp only [xD]); (try simp only [xE]); (try simp only [id])
 refine Reg2.pm (fun wz hI hF => ?_) (fun r9 => ?_) (by rfl)
 ·go_wp2_with (go_at_call 70; go_must (refine (hgo.out wz (hS.out.kept hI)).mono ?_); rintro e w' ⟨rfl, hg5⟩; have hb5 := hg5.below)
  first | exact ⟨_, rfl, ⟨(), rfl, trivial⟩, hb5⟩ | exact ⟨_, rfl, rfl, hb5⟩
 simp only [Act.put, xA, xB, xC]; (try simp only [xD]); (try simp only [xE]); (try simp only [id])
 repeat (refine' Reg2.ai _ (by rfl) (fun wz => ?_) ?_; rotate_left; (go_simp; first | rfl | rw [if_neg (by omega)]); simp only [Act.put, xA, xB, xC]; (try simp only [xD]); (try simp only [xE]); (try simp only [id]))
 refine Reg2.pj (fun wz hI hS hF => ?_) (fun Em => ?_) (by rfl)
 ·go_wp2_with fail
  exact ⟨_, rfl, ⟨⟨_, rfl⟩, gW.alloc hS⟩, (Below.refl _ _).alloc hI.size _⟩
 simp only [Act.put, xA, xB, xC]; (try simp only [xD]); (try simp only [xE]); (try simp only [id])
 refine Reg2.pj (fun wz hI hS hF => ?_) (fun Ej => ?_) (by rfl)
 ·obtain ⟨hz, hge⟩ := gW.zero hS
  have yO := ni (x := y) hz
  have hfin := gW.store hS
  have hbw : Below w.heap.size wz (wz.setRow Em (ah y).toArray) := pX (Below.refl _ _) hge _
  generalize ah y = cY at *
  go_wp2_with fail
  exact ⟨_, rfl, ⟨⟨(), rfl⟩, hfin⟩, hbw⟩
 simp only [Act.put, xA, xB, xC]; (try simp only [xD]); (try simp only [xE]); (try simp only [id])
 refine Reg2.az ?_
 intro w7 jH qQ jR
 clear jR qQ
 dsimp only [List.drop]
 have fT := hS.out.kept jH
 have d3 : (e0 != 0) = false := by rw [he.out]; rfl
 have q1 := fT.wk.at 1 (.int .i64 R.ag.id) rfl
 have ht := mX fT R.ag.id
 go_wp2_with (go_at_call 112; go_must (refine ht.mono ?_); rintro e w8 ⟨rfl, dH, fB⟩)
 go_ret
 exact ⟨rfl, v, g, fT.work dH fB, (WS.of_below jH).trans (WS.bu fB)⟩
theorem Jv (h : SW w b c t d p v g a m R P) (hk : PK P) (hq : R.ag.kind = 10) :
  Calls Tryz.prog 92 #[.pointer (some ⟨b, 0, none⟩), .pointer (some ⟨c, 0, none⟩)] w (au w b c t d p v g a m .nilFunc { R with rep := ⟨0, 0, 0, 0, 0, 0, (aM (gK P.T) 64 : Int), (aM (bI P.T) 64 : Int), (aM (fun i => bK P.T i && !bI P.T i) 64 : Int)⟩ } P) := by
 have q0 := h.wk.at 0 (.int .i64 R.ag.kind) rfl
 rw [hq] at q0
 replace hq := Lib.hid hq
 have zY := Am
 obtain ⟨k9, bY⟩ : ∃ k, k = 9 := ⟨_, rfl⟩
 rw [← bY] at zY
 have hk0 : ¬ k9 = 0 := by omega
 have cc := h.cw.c1
 have hco := FJ h.cw.nodes hk.pW
 have hth := fun (x y z : Int) (W : World) => xk x y z W
 obtain ⟨v0, hv0⟩ : ∃ x : Int, x = (aM (gK P.T) 64 : Int) := ⟨_, rfl⟩
 obtain ⟨v1, hv1⟩ : ∃ x : Int, x = (aM (bI P.T) 64 : Int) := ⟨_, rfl⟩
 obtain ⟨v2, hv2⟩ : ∃ x : Int, x = (aM (fun i => bK P.T i && !bI P.T i) 64 : Int) := ⟨_, rfl⟩
 rw [← hv0, ← hv1, ← hv2] at hco ⊢
 replace hv0 := Lib.hid hv0
 replace hv1 := Lib.hid hv1
 replace hv2 := Lib.hid hv2
 have hS := Lib.hid h
 clear h
 go_enter Tryz.func92, Tryz.ntmps92
 go_wp2_with fail
 go_at_call 114
 refine hco.mono ?_
 clear hco
 rintro e w1 ⟨rfl, mm, hw1⟩
 have hb1 : Below w.heap.size w w1 := by rw [hw1]; exact below_drewN (Below.refl _ _) _
 replace hw1 := Lib.hid hw1
 have hS1 := hS.out.kept hb1
 go_wp2_with fail
 go_at_call 113
 refine (hth _ _ _ w1).mono ?_
 clear hth
 rintro e w2 ⟨rfl, hb2⟩
 have hS2 := hS1.kept hb2
 obtain ⟨y, hy⟩ : ∃ y : Ry, y = ⟨0, 0, 0, 0, 0, 0, v0, v1, v2⟩ := ⟨_, rfl⟩
 rw [← hy]
 replace hy := Lib.hid hy
 obtain ⟨st, hW3⟩ := hS2.wk.Eg y
 have lY := mW y
 rw [← bY] at lY
 replace bY := Lib.hid bY
 have wu := hS2.work hW3 (cu w2 _)
 have hfin := ((WS.of_below (hb1.trans (hb2.mono hb1.size)) : WS w w2 b c t d p v g v g)).trans (WS.bu (cu w2 (fH { R with rep := y }).toArray))
 generalize fH { R with rep := y } = W2 at *
 generalize fP y = cY at *
 go_wp2_with fail
 go_ret
 have ey := hy.out
 clear hy
 subst ey
 exact ⟨rfl, v, g, wu, hfin⟩
theorem Jw (h : SW w b c t d p v g a m R P) (hk : PK P) (hq : R.ag.kind = 11) :
  Calls Tryz.prog 92 #[.pointer (some ⟨b, 0, none⟩), .pointer (some ⟨c, 0, none⟩)] w (au w b c t d p v g a m .nilFunc { R with rep := ⟨0, 0, 0, 0, 0, 0, (cnt 1 P.J : Int), (cnt 2 P.J : Int), (cnt 3 P.J : Int)⟩ } P) := by
 have q0 := h.wk.at 0 (.int .i64 R.ag.kind) rfl
 rw [hq] at q0
 replace hq := Lib.hid hq
 have zY := Am
 obtain ⟨k9, bY⟩ : ∃ k, k = 9 := ⟨_, rfl⟩
 rw [← bY] at zY
 have hk0 : ¬ k9 = 0 := by omega
 have cc := h.cw.c0
 have hco := zL h.cw.dW (by have := hk.few; omega)
 have hth := fun (x y z : Int) (W : World) => xk x y z W
 obtain ⟨v0, hv0⟩ : ∃ x : Int, x = (cnt 1 P.J : Int) := ⟨_, rfl⟩
 obtain ⟨v1, hv1⟩ : ∃ x : Int, x = (cnt 2 P.J : Int) := ⟨_, rfl⟩
 obtain ⟨v2, hv2⟩ : ∃ x : Int, x = (cnt 3 P.J : Int) := ⟨_, rfl⟩
 rw [← hv0, ← hv1, ← hv2] at hco ⊢
 replace hv0 := Lib.hid hv0
 replace hv1 := Lib.hid hv1
 replace hv2 := Lib.hid hv2
 have hS := Lib.hid h
 clear h
 go_enter Tryz.func92, Tryz.ntmps92
 go_wp2_with fail
 go_at_call 115
 refine hco.mono ?_
 clear hco
 rintro e w1 ⟨rfl, hb1⟩
 have hS1 := hS.out.kept hb1
 go_wp2_with fail
 go_at_call 113
 refine (hth _ _ _ w1).mono ?_
 clear hth
 rintro e w2 ⟨rfl, hb2⟩
 have hS2 := hS1.kept hb2
 obtain ⟨y, hy⟩ : ∃ y : Ry, y = ⟨0, 0, 0, 0, 0, 0, v0, v1, v2⟩ := ⟨_, rfl⟩
 rw [← hy]
 replace hy := Lib.hid hy
 obtain ⟨st, hW3⟩ := hS2.wk.Eg y
 have lY := mW y
 rw [← bY] at lY
 replace bY := Lib.hid bY
 have wu := hS2.work hW3 (cu w2 _)
 have hfin := ((WS.of_below (hb1.trans (hb2.mono hb1.size)) : WS w w2 b c t d p v g v g)).trans (WS.bu (cu w2 (fH { R with rep := y }).toArray))
 generalize fH { R with rep := y } = W2 at *
 generalize fP y = cY at *
 go_wp2_with fail
 go_ret
 have ey := hy.out
 clear hy
 subst ey
 exact ⟨rfl, v, g, wu, hfin⟩
theorem GN (h : SW w b c t d p v g a m R P) (ha : a ≤ 1000) (hq : R.ag.kind = 12) :
  Calls Tryz.prog 92 #[.pointer (some ⟨b, 0, none⟩), .pointer (some ⟨c, 0, none⟩)] w (au w b c t d p v g a m .nilFunc { R with rep := ⟨0, 0, 0, P.now, 0, 0, P.f P.now, 0, 0⟩ } P) := by
 have q0 := h.wk.at 0 (.int .i64 R.ag.kind) rfl
 rw [hq] at q0
 replace hq := Lib.hid hq
 have hc := Cz h ha
 go_enter Tryz.func92, Tryz.ntmps92
 go_wp2_with (go_at_call 116; go_must (refine hc.mono ?_); rintro e w8 ⟨rfl, v8, g8, fQ, dH⟩)
 go_ret
 exact ⟨rfl, v8, g8, fQ, dH⟩
theorem Bt (h : SW w b c t d p v g a m R P) (hc : P.cl = true) :
  Calls Tryz.prog 64 #[.pointer (some ⟨b, 0, none⟩), .pointer (some ⟨c, 0, none⟩)] w (au w b c t d p v g a m .nilFunc { R with rep := jL 12, ok := false } P) := by
 have hcl := gH h.cw
 rw [hc] at hcl
 have hf := gV h.wk 12
 go_enter Tryz.func64, Tryz.ntmps64
 go_wp2_with (first | (go_at_call 26; go_must (refine hcl.mono ?_); rintro e w' ⟨rfl, rfl⟩) | (go_at_call 67; go_must (refine hf.mono ?_); rintro e w8 ⟨rfl, dH, fB⟩))
 go_ret
 exact ⟨rfl, v, g, h.work dH fB, WS.bu fB⟩
theorem GQ (h : SW w b c t d p v g a m R P) (hc : P.cl = false) (hq : ¬ (1 ≤ R.ag.kind ∧ R.ag.kind ≤ 13)) :
  Calls Tryz.prog 64 #[.pointer (some ⟨b, 0, none⟩), .pointer (some ⟨c, 0, none⟩)] w (au w b c t d p v g a m .nilFunc { R with rep := jL 4, ok := false } P) := by
 have hcl := gH h.cw
 rw [hc] at hcl
 have hf := gV h.wk 4
 have q0 := h.wk.at 0 (.int .i64 R.ag.kind) rfl
 have his := I6 R.ag.kind w
 rw [show (decide (1 ≤ R.ag.kind) && decide (R.ag.kind ≤ 13)) = false by rw [Bool.and_eq_false_iff, decide_eq_false_iff_not, decide_eq_false_iff_not]; omega] at his
 generalize R.ag.kind = kk at *
 replace hq := Lib.hid hq
 go_enter Tryz.func64, Tryz.ntmps64
 go_wp2_with (first | (go_at_call 26; go_must (refine hcl.mono ?_); rintro e w' ⟨rfl, rfl⟩) | (go_at_call 90; go_must (refine his.mono ?_); rintro e w' ⟨rfl, rfl⟩) | (go_at_call 67; go_must (refine hf.mono ?_); rintro e w8 ⟨rfl, dH, fB⟩))
 go_ret
 exact ⟨rfl, v, g, h.work dH fB, WS.bu fB⟩
theorem GR (h : SW w b c t d p v g a m R P) (hc : P.cl = false) (hq : 1 ≤ R.ag.kind ∧ R.ag.kind ≤ 13) (hr : iZ R.ag.kind = true) {L : Value} {a' : Nat} {m' : Int} {R' : Wk} {P' : Pg}
  (hn : Calls Tryz.prog 92 #[.pointer (some ⟨b, 0, none⟩), .pointer (some ⟨c, 0, none⟩)] w (au w b c t d p v g a' m' L R' P')) :
  Calls Tryz.prog 64 #[.pointer (some ⟨b, 0, none⟩), .pointer (some ⟨c, 0, none⟩)] w (au w b c t d p v g a' m' L R' P') := by
 have hcl := gH h.cw
 rw [hc] at hcl
 have q0 := h.wk.at 0 (.int .i64 R.ag.kind) rfl
 have his := I6 R.ag.kind w
 rw [show (decide (1 ≤ R.ag.kind) && decide (R.ag.kind ≤ 13)) = true by rw [decide_eq_true hq.1, decide_eq_true hq.2]; rfl] at his
 have hre := Ct R.ag.kind w
 rw [hr] at hre
 generalize R.ag.kind = kk at *
 replace hq := Lib.hid hq
 replace hr := Lib.hid hr
 go_enter Tryz.func64, Tryz.ntmps64
 go_wp2_with (first | (go_at_call 26; go_must (refine hcl.mono ?_); rintro e w' ⟨rfl, rfl⟩) | (go_at_call 90; go_must (refine his.mono ?_); rintro e w' ⟨rfl, rfl⟩) | (go_at_call 91; go_must (refine hre.mono ?_); rintro e w' ⟨rfl, rfl⟩) | (go_at_call 92; go_must (refine hn.mono ?_); rintro e w8 ⟨rfl, v8, g8, fQ, dH⟩))
 go_ret
 exact ⟨rfl, v8, g8, fQ, dH⟩
theorem fe (h : SW w b c t d p v g a m R P) (hc : P.cl = false) (hq : 1 ≤ R.ag.kind ∧ R.ag.kind ≤ 13) (hr : iZ R.ag.kind = false) {L : Value} {a' : Nat} {m' : Int} {R' : Wk} {P' : Pg}
  (hn : Calls Tryz.prog 93 #[.pointer (some ⟨b, 0, none⟩), .pointer (some ⟨c, 0, none⟩)] w (au w b c t d p v g a' m' L R' P')) :
  Calls Tryz.prog 64 #[.pointer (some ⟨b, 0, none⟩), .pointer (some ⟨c, 0, none⟩)] w (au w b c t d p v g a' m' L R' P') := by
 have hcl := gH h.cw
 rw [hc] at hcl
 have q0 := h.wk.at 0 (.int .i64 R.ag.kind) rfl
 have his := I6 R.ag.kind w
 rw [show (decide (1 ≤ R.ag.kind) && decide (R.ag.kind ≤ 13)) = true by rw [decide_eq_true hq.1, decide_eq_true hq.2]; rfl] at his
 have hre := Ct R.ag.kind w
 rw [hr] at hre
 generalize R.ag.kind = kk at *
 replace hq := Lib.hid hq
 replace hr := Lib.hid hr
 go_enter Tryz.func64, Tryz.ntmps64
 go_wp2_with (first | (go_at_call 26; go_must (refine hcl.mono ?_); rintro e w' ⟨rfl, rfl⟩) | (go_at_call 90; go_must (refine his.mono ?_); rintro e w' ⟨rfl, rfl⟩) | (go_at_call 91; go_must (refine hre.mono ?_); rintro e w' ⟨rfl, rfl⟩) | (go_at_call 93; go_must (refine hn.mono ?_); rintro e w8 ⟨rfl, v8, g8, fQ, dH⟩))
 go_ret
 exact ⟨rfl, v8, g8, fQ, dH⟩
theorem Mj (h : SW w b c t d p v g a m R P) (hq : R.ag.kind = 1) {L : Value} {a' : Nat} {m' : Int} {R' : Wk} {P' : Pg}
  (hn : Calls Tryz.prog 117 #[.pointer (some ⟨b, 0, none⟩), .pointer (some ⟨c, 0, none⟩)] w (au w b c t d p v g a' m' L R' P')) :
  Calls Tryz.prog 93 #[.pointer (some ⟨b, 0, none⟩), .pointer (some ⟨c, 0, none⟩)] w (au w b c t d p v g a' m' L R' P') := by
 have q0 := h.wk.at 0 (.int .i64 R.ag.kind) rfl
 rw [hq] at q0
 replace hq := Lib.hid hq
 go_enter Tryz.func93, Tryz.ntmps93
 go_wp2_with (go_at_call 117; go_must (refine hn.mono ?_); rintro e w8 ⟨rfl, v8, g8, fQ, dH⟩)
 go_ret
 exact ⟨rfl, v8, g8, fQ, dH⟩
theorem Mk (h : SW w b c t d p v g a m R P) (hq : R.ag.kind = 2) {L : Value} {a' : Nat} {m' : Int} {R' : Wk} {P' : Pg}
  (hn : Calls Tryz.prog 118 #[.pointer (some ⟨b, 0, none⟩), .pointer (some ⟨c, 0, none⟩), .int .i64 5] w (au w b c t d p v g a' m' L R' P')) :
  Calls Tryz.prog 93 #[.pointer (some ⟨b, 0, none⟩), .pointer (some ⟨c, 0, none⟩)] w (au w b c t d p v g a' m' L R' P') := by
 have q0 := h.wk.at 0 (.int .i64 R.ag.kind) rfl
 rw [hq] at q0
 replace hq := Lib.hid hq
 go_enter Tryz.func93, Tryz.ntmps93
 go_wp2_with (go_at_call 118; go_must (refine hn.mono ?_); rintro e w8 ⟨rfl, v8, g8, fQ, dH⟩)
 go_ret
 exact ⟨rfl, v8, g8, fQ, dH⟩
theorem Ml (h : SW w b c t d p v g a m R P) (hq : R.ag.kind = 5) {L : Value} {a' : Nat} {m' : Int} {R' : Wk} {P' : Pg}
  (hn : Calls Tryz.prog 118 #[.pointer (some ⟨b, 0, none⟩), .pointer (some ⟨c, 0, none⟩), .int .i64 4] w (au w b c t d p v g a' m' L R' P')) :
  Calls Tryz.prog 93 #[.pointer (some ⟨b, 0, none⟩), .pointer (some ⟨c, 0, none⟩)] w (au w b c t d p v g a' m' L R' P') := by
 have q0 := h.wk.at 0 (.int .i64 R.ag.kind) rfl
 rw [hq] at q0
 replace hq := Lib.hid hq
 go_enter Tryz.func93, Tryz.ntmps93
 go_wp2_with (go_at_call 118; go_must (refine hn.mono ?_); rintro e w8 ⟨rfl, v8, g8, fQ, dH⟩)
 go_ret
 exact ⟨rfl, v8, g8, fQ, dH⟩
theorem Mm (h : SW w b c t d p v g a m R P) (hq : R.ag.kind = 3) {L : Value} {a' : Nat} {m' : Int} {R' : Wk} {P' : Pg}
  (hn : Calls Tryz.prog 119 #[.pointer (some ⟨b, 0, none⟩), .pointer (some ⟨c, 0, none⟩)] w (au w b c t d p v g a' m' L R' P')) :
  Calls Tryz.prog 93 #[.pointer (some ⟨b, 0, none⟩), .pointer (some ⟨c, 0, none⟩)] w (au w b c t d p v g a' m' L R' P') := by
 have q0 := h.wk.at 0 (.int .i64 R.ag.kind) rfl
 rw [hq] at q0
 replace hq := Lib.hid hq
 go_enter Tryz.func93, Tryz.ntmps93
 go_wp2_with (go_at_call 119; go_must (refine hn.mono ?_); rintro e w8 ⟨rfl, v8, g8, fQ, dH⟩)
 go_ret
 exact ⟨rfl, v8, g8, fQ, dH⟩
theorem Mo (h : SW w b c t d p v g a m R P) (hq : R.ag.kind = 4) {L : Value} {a' : Nat} {m' : Int} {R' : Wk} {P' : Pg}
  (hn : Calls Tryz.prog 120 #[.pointer (some ⟨b, 0, none⟩), .pointer (some ⟨c, 0, none⟩)] w (au w b c t d p v g a' m' L R' P')) :
  Calls Tryz.prog 93 #[.pointer (some ⟨b, 0, none⟩), .pointer (some ⟨c, 0, none⟩)] w (au w b c t d p v g a' m' L R' P') := by
 have q0 := h.wk.at 0 (.int .i64 R.ag.kind) rfl
 rw [hq] at q0
 replace hq := Lib.hid hq
 go_enter Tryz.func93, Tryz.ntmps93
 go_wp2_with (go_at_call 120; go_must (refine hn.mono ?_); rintro e w8 ⟨rfl, v8, g8, fQ, dH⟩)
 go_ret
 exact ⟨rfl, v8, g8, fQ, dH⟩
theorem Mq (h : SW w b c t d p v g a m R P) (hq : R.ag.kind = 7) {L : Value} {a' : Nat} {m' : Int} {R' : Wk} {P' : Pg}
  (hn : Calls Tryz.prog 121 #[.pointer (some ⟨b, 0, none⟩), .pointer (some ⟨c, 0, none⟩)] w (au w b c t d p v g a' m' L R' P')) :
  Calls Tryz.prog 93 #[.pointer (some ⟨b, 0, none⟩), .pointer (some ⟨c, 0, none⟩)] w (au w b c t d p v g a' m' L R' P') := by
 have q0 := h.wk.at 0 (.int .i64 R.ag.kind) rfl
 rw [hq] at q0
 replace hq := Lib.hid hq
 go_enter Tryz.func93, Tryz.ntmps93
 go_wp2_with (go_at_call 121; go_must (refine hn.mono ?_); rintro e w8 ⟨rfl, v8, g8, fQ, dH⟩)
 go_ret
 exact ⟨rfl, v8, g8, fQ, dH⟩
theorem Mr (h : SW w b c t d p v g a m R P) (hq : R.ag.kind = 8) {L : Value} {a' : Nat} {m' : Int} {R' : Wk} {P' : Pg}
  (hn : Calls Tryz.prog 122 #[.pointer (some ⟨b, 0, none⟩), .pointer (some ⟨c, 0, none⟩)] w (au w b c t d p v g a' m' L R' P')) :
  Calls Tryz.prog 93 #[.pointer (some ⟨b, 0, none⟩), .pointer (some ⟨c, 0, none⟩)] w (au w b c t d p v g a' m' L R' P') := by
 have q0 := h.wk.at 0 (.int .i64 R.ag.kind) rfl
 rw [hq] at q0
 replace hq := Lib.hid hq
 go_enter Tryz.func93, Tryz.ntmps93
 go_wp2_with (go_at_call 122; go_must (refine hn.mono ?_); rintro e w8 ⟨rfl, v8, g8, fQ, dH⟩)
 go_ret
 exact ⟨rfl, v8, g8, fQ, dH⟩
theorem Ms (h : SW w b c t d p v g a m R P) (hq : R.ag.kind = 9) {L : Value} {a' : Nat} {m' : Int} {R' : Wk} {P' : Pg}
  (hn : Calls Tryz.prog 123 #[.pointer (some ⟨b, 0, none⟩), .pointer (some ⟨c, 0, none⟩)] w (au w b c t d p v g a' m' L R' P')) :
  Calls Tryz.prog 93 #[.pointer (some ⟨b, 0, none⟩), .pointer (some ⟨c, 0, none⟩)] w (au w b c t d p v g a' m' L R' P') := by
 have q0 := h.wk.at 0 (.int .i64 R.ag.kind) rfl
 rw [hq] at q0
 replace hq := Lib.hid hq
 go_enter Tryz.func93, Tryz.ntmps93
 go_wp2_with (go_at_call 123; go_must (refine hn.mono ?_); rintro e w8 ⟨rfl, v8, g8, fQ, dH⟩)
 go_ret
 exact ⟨rfl, v8, g8, fQ, dH⟩
theorem Jy (h : SW w b c t d p v g a m R P) (hq : R.ag.kind = 13) :
  Calls Tryz.prog 93 #[.pointer (some ⟨b, 0, none⟩), .pointer (some ⟨c, 0, none⟩)] w (au w b c t d p v g a m .nilFunc R { P with cl := true }) := by
 have q0 := h.wk.at 0 (.int .i64 R.ag.kind) rfl
 rw [hq] at q0
 replace hq := Lib.hid hq
 have c4 := h.cw.c4
 have f4 := h.cw.fz 4
 obtain ⟨hC, hS⟩ := h.cw.close
 have hS2 := h.core hC hS
 have hW2 := (WS.bZ hS : WS w (w.setCell ⟨c, 4, none⟩ (.bool true)) b c t d p v g v g)
 go_enter Tryz.func93, Tryz.ntmps93
 go_wp2_with fail
 go_ret
 exact ⟨rfl, v, g, hS2, hW2⟩
end
end Go.Proofs.YtkhfejihijdipaaGreat

namespace Go.Proofs.YtkhfejihijdipaaGreat
open Go.RowKit Go.Lib Go.Sort
theorem Mt (n : Nat) : bW (dF n) = List.replicate n 1 := by
 refine nO (by rw [bq]; simp [dF]) fun i hi => ?_
 have hin : i < n := by rw [bq] at hi; simpa [dF] using hi
 rw [bU, dR (by simpa [dF] using hin)]
 have h1 : ¬ 0 ≤ holderL (dF n).L i := by unfold dF holderL; simp
 rw [if_neg h1]
 simp [dF, List.getD_eq_getElem?_getD, hin]
theorem Jz (n : Nat) (t : Int) : ay (dF n) t 0 = n := by
 unfold ay aI bM
 have h1 : (List.range (dF n).dr.length).countP (bL (dF n) t) = n := by
  have e : (dF n).dr.length = n := by simp [dF]
  rw [e]
  have : (List.range n).countP (bL (dF n) t) = (List.range n).length := by
   rw [List.countP_eq_length]
   intro k hk
   have hk := List.mem_range.1 hk
   unfold bL dF holderL
   simp [List.getD_eq_getElem?_getD, hk]
  rw [this, List.length_range]
 rw [h1]
 simp [dF]
structure Ki (w0 w : World) (c t d p : Nat) (v : Value) (g a : Nat) (m : Int) (P : Pg) : Prop where
 cw : CW w c t d p v g a m P
 lo : ∀ k, eF c t d p v g k → w0.heap.size ≤ k
section
variable {w : World}
theorem Mv (n : Int) (w : World) (h : n < 1 ∨ 64 < n) : Calls Tryz.prog 9 #[.int .i64 n] w fun e w' => e = .returned (.tuple #[.pointer none, .int .i64 1]) ∧ w = w' := by
 have hn := FL n w h
 go_enter Tryz.func9, Tryz.ntmps9
 go_wp2_with (go_at_call 38; go_must (refine hn.mono ?_); rintro e w' ⟨rfl, rfl⟩)
 go_ret2
 exact ⟨rfl, rfl⟩
theorem GU (n : Nat) (w : World) (h1 : 1 ≤ n) (h2 : n ≤ 64) : Calls Tryz.prog 9 #[.int .i64 n] w fun e w' => ∃ c t d p v g, e = .returned (.tuple #[.pointer (some ⟨c, 0, none⟩), .int .i64 0]) ∧ Ki w w' c t d p v g 1 0 (aj (dF n)) ∧ Below w.heap.size w w' := by
 have hn := FN n w h1 h2
 go_enter Tryz.func9, Tryz.ntmps9
 go_wp2_with fail
 go_at_call 38
 refine hn.mono ?_
 clear hn
 rintro e w1 ⟨rfl, hT1, hb1⟩
 have hs1 : w.heap.size < w1.heap.size := aG hT1
 have hp := FX (n : Int) w1 (by omega)
 go_wp2_with fail
 go_at_call 39
 refine hp.mono ?_
 clear hp
 rintro e w2 ⟨p, g, rfl, hP2, lp, lg, hb2⟩
 have Ue : TW w2 w.heap.size (List.replicate n 1) := hT1.kept hb2
 have hj := Il w2
 go_wp2_with fail
 go_at_call 40
 refine hj.mono ?_
 clear hj
 rintro e w3 ⟨rfl, hw3⟩
 have hb3 : Below w2.heap.size w2 w3 := by rw [← hw3]; exact (Below.refl _ _).alloc (Nat.le_refl _) _
 have hJ3 : TV w3 w2.heap.size (.slice none 0 0) [] := by rw [← hw3]; exact BV.SY w2
 have tT := Ue.kept hb3
 have hP3 := hP2.kept hb3
 have hs2 := hb2.size
 replace hw3 := Lib.hid hw3
 obtain ⟨w4, hw4⟩ : ∃ w4, w4 = w3.alloc (.cells #[.pointer (some ⟨w2.heap.size, 0, none⟩), .pointer (some ⟨w.heap.size, 0, none⟩), .pointer (some ⟨p, 0, none⟩), .bool true, .bool false] 48) := ⟨_, rfl⟩
 have hb4 : Below w3.heap.size w3 w4 := by rw [hw4]; exact (Below.refl _ _).alloc (Nat.le_refl _) _
 have hc4 : w4.heap[w3.heap.size]? = some (.cells #[.pointer (some ⟨w2.heap.size, 0, none⟩), .pointer (some ⟨w.heap.size, 0, none⟩), .pointer (some ⟨p, 0, none⟩), .bool true, .bool false] 48 (0, 0)) := by rw [hw4]; exact heap_alloc_new w3 _
 have hs3 := hb3.size
 have hCW : Hid (CW w4 w3.heap.size w2.heap.size w.heap.size p (.slice none 0 0) g 1 0 (aj (dF n))) := by
  refine ⟨hc4, hJ3.kept hb4, by show TW w4 w.heap.size (bW (dF n)); rw [Mt]; exact tT.kept hb4, [(0, (n : Int))], 0, hP3.kept hb4, ?_, Nat.le_refl _, Int.le_refl _, Int.le_refl _⟩
  exact (N7 n).congr fun t _ => (Jz n t).symm
 have hlo : Hid (∀ k, eF w3.heap.size w2.heap.size w.heap.size p (.slice none 0 0) g k → w.heap.size ≤ k) := by
  rintro k (rfl | rfl | rfl | rfl | hv | rfl)
  ·omega
  ·omega
  ·exact Nat.le_refl _
  ·omega
  ·cases hv
  ·omega
 have hbw := hb1.trans ((hb2.trans ((hb3.trans (hb4.mono hb3.size)).mono hb2.size)).mono hb1.size)
 clear hc4 hJ3 tT hP3 hT1 Ue hP2
 go_wp2_with fail
 rw [← hw4]
 go_ret2
 exact ⟨w3.heap.size, w2.heap.size, w.heap.size, p, .slice none 0 0, g, rfl, ⟨hCW.out, hlo.out⟩, hbw⟩
def yE (r : Rq) : Wk := ⟨kQ r, 0, 0, eU 64, gN, 0, 0, qC, false⟩
def CJ (i t : Int) : Wk := ⟨Rx, i, t, eU 65, gN, 0, 0, qC, false⟩
theorem oQ (i t : Int) (w : World) : Calls Tryz.prog 28 #[.agg #[.int .i64 i, .int .i64 t]] w fun e w' => ∃ b, e = .returned (.pointer (some ⟨b, 0, none⟩)) ∧ bQ w' b (CJ i t) ∧ w.heap.size ≤ b ∧ Below w.heap.size w w' := by
 obtain ⟨w2, hw2⟩ : ∃ w2, w2 = (w.alloc (.cells #[.int .i64 i, .int .i64 t] 35)).alloc (.cells (fH (CJ i t)).toArray 115) := ⟨_, rfl⟩
 have hb2 : Below w.heap.size w w2 := by rw [hw2]; exact ((Below.refl _ _).alloc (Nat.le_refl _) _).alloc (by simp) _
 have hW2 : bQ w2 (w.heap.size + 1) (CJ i t) := by show _ = _; rw [hw2]; exact heap_alloc2_new w _ _
 have hl : (fH (CJ i t)).toArray = #[.int .i64 0, .int .i64 0, .int .i64 0, .int .i64 0, .int .i64 0, .int .i64 0, .bool false, .int .i64 0, .int .i64 0, .int .i64 i, .int .i64 t, .func (.func 65) #[] #[], .int .i64 0, .int .i64 0, .int .i64 0, .int .i64 0, .int .i64 0, .int .i64 0, .int .i64 0, .int .i64 0, .int .i64 0, .int .u64 0, .int .i64 0, .int .i64 0, .int .i64 0, .int .i64 0, .int .i64 0, .int .i64 0, .int .i64 0, .int .i64 0, .int .i64 0, .int .i64 0, .int .i64 0, .bool false] := rfl
 rw [hl] at hw2
 replace hl := Lib.hid hl
 go_enter Tryz.func28, Tryz.ntmps28
 go_wp2_with fail
 rw [← hw2]
 go_ret
 exact ⟨w.heap.size + 1, rfl, hW2, Nat.le_succ _, hb2⟩
theorem si (r : Rq) (w : World) : Calls Tryz.prog 27 #[.agg (encR r).toArray] w fun e w' => ∃ b, e = .returned (.pointer (some ⟨b, 0, none⟩)) ∧ bQ w' b (yE r) ∧ w.heap.size ≤ b ∧ Below w.heap.size w w' := by
 have zR := kE
 obtain ⟨k9, bY⟩ : ∃ k, k = 9 := ⟨_, rfl⟩
 rw [← bY] at zR
 have hk0 : ¬ k9 = 0 := by omega
 have lR := iq r
 rw [← bY] at lR
 replace bY := Lib.hid bY
 obtain ⟨wA, aT⟩ : ∃ wA, wA = w.alloc (.cells (encR r).toArray 33) := ⟨_, rfl⟩
 have dE : Below w.heap.size w wA := by rw [aT]; exact (Below.refl _ _).alloc (Nat.le_refl _) _
 have uX : wA.heap[w.heap.size]? = some (.cells (encR r).toArray 33 (0, 0)) := by rw [aT]; exact heap_alloc_new w _
 have Uf := eX uX lR
 have hcl := LC r wA
 rw [aT] at Uf hcl
 generalize hcr : encR r = cR at *
 replace hcr := Lib.hid hcr
 go_enter Tryz.func27, Tryz.ntmps27
 go_wp2_with fail
 go_at_call 63
 refine hcl.mono ?_
 clear hcl Uf
 rw [← aT]
 rintro e w1 ⟨rfl, hb1⟩
 replace aT := Lib.hid aT
 obtain ⟨y1, y2, y3, y4, y5, y6, y7, y8, y9, hy⟩ : ∃ y1 y2 y3 y4 y5 y6 y7 y8 y9, kQ r = ⟨y1, y2, y3, y4, y5, y6, y7, y8, y9⟩ := ⟨_, _, _, _, _, _, _, _, _, rfl⟩
 obtain ⟨w2, hw2⟩ : ∃ w2, w2 = w1.alloc (.cells (fH (yE r)).toArray 115) := ⟨_, rfl⟩
 have hb2 : Below w1.heap.size w1 w2 := by rw [hw2]; exact (Below.refl _ _).alloc (Nat.le_refl _) _
 have hW2 : bQ w2 w1.heap.size (yE r) := by show _ = _; rw [hw2]; exact heap_alloc_new w1 _
 have hl : (fH (yE r)).toArray = #[.int .i64 y1, .int .i64 y2, .int .i64 y3, .int .i64 y4, .int .i64 y5, .int .i64 y6, .bool y7, .int .i64 y8, .int .i64 y9, .int .i64 0, .int .i64 0, .func (.func 64) #[] #[], .int .i64 0, .int .i64 0, .int .i64 0, .int .i64 0, .int .i64 0, .int .i64 0, .int .i64 0, .int .i64 0, .int .i64 0, .int .u64 0, .int .i64 0, .int .i64 0, .int .i64 0, .int .i64 0, .int .i64 0, .int .i64 0, .int .i64 0, .int .i64 0, .int .i64 0, .int .i64 0, .int .i64 0, .bool false] := by unfold yE; rw [hy]; rfl
 have hbw := dE.trans ((hb1.trans (hb2.mono hb1.size)).mono dE.size)
 have hlo : w.heap.size ≤ w1.heap.size := Nat.le_trans dE.size hb1.size
 rw [hl] at hw2
 rw [hy, show (encR ⟨y1, y2, y3, y4, y5, y6, y7, y8, y9⟩).toArray = #[.int .i64 y1, .int .i64 y2, .int .i64 y3, .int .i64 y4, .int .i64 y5, .int .i64 y6, .bool y7, .int .i64 y8, .int .i64 y9] from rfl]
 replace hl := Lib.hid hl
 replace hy := Lib.hid hy
 obtain rfl := bY.out
 go_wp2_with fail
 rw [← hw2]
 go_ret
 exact ⟨w1.heap.size, rfl, hW2, hlo, hbw⟩
end
end Go.Proofs.YtkhfejihijdipaaGreat

namespace Go.Proofs.YtkhfejihijdipaaGreat
open Go.RowKit Go.Lib Go.Sort
def Goes (b c : Nat) : Nat → World → (World → Prop) → Prop
 | 0, _, _ => False
 | N + 1, w, Q => Calls Tryz.prog 31 #[.pointer (some ⟨b, 0, none⟩), .pointer (some ⟨c, 0, none⟩)] w fun e w' => (e = .returned (.bool true) ∧ Q w') ∨ (e = .returned (.bool false) ∧ Goes b c N w' Q)
theorem Goes.mono {b c : Nat} {Q Q' : World → Prop} (hQ : ∀ w, Q w → Q' w) : ∀ {N : Nat} {w : World}, Goes b c N w Q → Goes b c N w Q'
 | 0, _, h => h
 | N + 1, _, h => Calls.mono h fun e w' hp => by
  rcases hp with ⟨h1, h2⟩ | ⟨h1, h2⟩
  ·exact .inl ⟨h1, hQ _ h2⟩
  ·exact .inr ⟨h1, Goes.mono hQ h2⟩
theorem Goes.succ {b c : Nat} {Q : World → Prop} : ∀ {N : Nat} {w : World}, Goes b c N w Q → Goes b c (N + 1) w Q
 | 0, _, h => h.elim
 | N + 1, _, h => Calls.mono h fun e w' hp => by
  rcases hp with ⟨h1, h2⟩ | ⟨h1, h2⟩
  ·exact .inl ⟨h1, h2⟩
  ·exact .inr ⟨h1, Goes.succ h2⟩
theorem Goes.more {b c N N' : Nat} {w : World} {Q : World → Prop} (hN : N ≤ N') (h : Goes b c N w Q) : Goes b c N' w Q := by
 induction N' with
 | zero =>
  obtain rfl : N = 0 := by omega
  exact h
 | succ N' ih =>
  rcases Nat.lt_or_ge N' N with h1 | h1
  ·obtain rfl : N = N' + 1 := by omega
   exact h
  ·exact (ih h1).succ
theorem Mw {b c N : Nat} {w : World} {Q : World → Prop} (h : Goes b c N w Q) (hN : N ≤ 1999) : Calls Tryz.prog 29 #[.pointer (some ⟨c, 0, none⟩), .pointer (some ⟨b, 0, none⟩)] w fun e w' => ∃ n : Int, 0 < n ∧ n < 2000 ∧ e = .returned (.int .i64 n) ∧ Q w' := by
 go_enter Tryz.func29, Tryz.ntmps29
 go_wp2_with fail
 go_loopw [5] (fun ii wr => ∃ (n K : Nat), ii = .int .i64 n ∧ 1 ≤ n ∧ n + K ≤ 2000 ∧ Goes b c K wr Q) (fun ii _ => 2000 - (intOf ii).toNat)
 case atStart => exact ⟨1, N, rfl, Nat.le_refl _, by omega, h⟩
 case round =>
  obtain ⟨n, K, rfl, hn, hK, hg⟩ := hrel
  cases K with
  | zero => exact hg.elim
  | succ K =>
   have d1 : decide ((n : Int) < 2000) = true := decide_eq_true (by omega)
   have b1 : (n : Int) < 2000 := by omega
   have wi : IntKind.i64.wrap ((n : Int) + 1) = (n : Int) + 1 := by rw [IntKind.wrap_i64]; omega
   unfold Goes at hg
   go_wp2_with fail
   go_at_call 31
   refine hg.mono ?_
   clear hg
   rintro e w' (⟨rfl, hq⟩ | ⟨rfl, hq⟩)
   ·go_wp2_with fail
    go_ret
    exact ⟨n, by omega, by omega, rfl, hq⟩
   ·have V8 : K ≠ 0 := fun e => by subst e; exact hq.elim
    go_wp2_with fail
    go_roundw
    case rel => exact ⟨n + 1, K, by go_num, by omega, by omega, hq⟩
    case measure => simp [intOf]; omega
structure Fin (w0 : World) (b c t d p : Nat) (v0 : Value) (g0 : Nat) (mx : Int) (M : Md) (y : Ry) (ok : Bool) (w : World) : Prop where
 ex : ∃ v g a m R, SW w b c t d p v g a m R (aj M) ∧ a ≤ 800 ∧ m ≤ mx ∧ R.left = .nilFunc ∧ R.rep = y ∧ R.ok = ok ∧ WS w0 w b c t d p v0 g0 v g
section
variable {w0 w : World} {b c t d p g g0 a N : Nat} {v v0 : Value} {m mx : Int} {P : Pg} {M M' : Md} {R : Wk} {Q : World → Prop}
theorem uZ {k k' a' : Nat} {m' : Int} {R' : Wk} {P' : Pg} (h : SW w b c t d p v g a m R P) (hl : R.left = eU k) (hl' : R'.left = eU k)
  (hk : ∀ args w, Sem.run Tryz.prog (callFunc k args) w = .ok (.enter k args) w)
  (hp : Calls Tryz.prog k #[.pointer (some ⟨b, 0, none⟩), .pointer (some ⟨c, 0, none⟩)] w (au w b c t d p v g a' m' (eU k') R' P'))
  (hn : ∀ w' v' g', SW w' b c t d p v' g' a' m' { R' with left := eU k' } P' → WS w w' b c t d p v g v' g' → Goes b c N w' Q) : Goes b c (N + 1) w Q := by
 refine (Ga h hl hl' (.inr ⟨⟨k', rfl⟩, rfl⟩) hk hp).mono ?_
 rintro e w' ⟨rfl, v', g', h1, h2⟩
 exact .inr ⟨rfl, hn w' v' g' h1 h2⟩
theorem u6 {k a' : Nat} {m' : Int} {R' : Wk} (h : SW w b c t d p v g a m R P) (hl : R.left = eU k) (hl' : R'.left = eU k)
  (hk : ∀ args w, Sem.run Tryz.prog (callFunc k args) w = .ok (.enter k args) w)
  (hp : Calls Tryz.prog k #[.pointer (some ⟨b, 0, none⟩), .pointer (some ⟨c, 0, none⟩)] w (au w b c t d p v g a' m' .nilFunc R' (aj M')))
  (ha : a' ≤ 800) (hm : m' ≤ mx) (hw : WS w0 w b c t d p v0 g0 v g) : Goes b c (N + 1) w (Fin w0 b c t d p v0 g0 mx M' R'.rep R'.ok) := by
 refine (Ga h hl hl' (.inl ⟨rfl, rfl⟩) hk hp).mono ?_
 rintro e w' ⟨rfl, v', g', h1, h2⟩
 exact .inl ⟨rfl, ⟨v', g', a', m', _, h1, ha, hm, rfl, rfl, rfl, hw.trans h2⟩⟩
theorem qH : ∀ args w, Sem.run Tryz.prog (callFunc 135 args) w = .ok (.enter 135 args) w := fun _ _ => rfl
theorem aZ : ∀ args w, Sem.run Tryz.prog (callFunc 64 args) w = .ok (.enter 64 args) w := fun _ _ => rfl
theorem xy : ∀ args w, Sem.run Tryz.prog (callFunc 65 args) w = .ok (.enter 65 args) w := fun _ _ => rfl
theorem CK : ∀ args w, Sem.run Tryz.prog (callFunc 94 args) w = .ok (.enter 94 args) w := fun _ _ => rfl
theorem Mx : ∀ args w, Sem.run Tryz.prog (callFunc 125 args) w = .ok (.enter 125 args) w := fun _ _ => rfl
theorem Az : ∀ args w, Sem.run Tryz.prog (callFunc 148 args) w = .ok (.enter 148 args) w := fun _ _ => rfl
theorem GV : ∀ args w, Sem.run Tryz.prog (callFunc 137 args) w = .ok (.enter 137 args) w := fun _ _ => rfl
theorem u7 : ∀ args w, Sem.run Tryz.prog (callFunc 139 args) w = .ok (.enter 139 args) w := fun _ _ => rfl
theorem CL : ∀ args w, Sem.run Tryz.prog (callFunc 141 args) w = .ok (.enter 141 args) w := fun _ _ => rfl
theorem yF : ∀ args w, Sem.run Tryz.prog (callFunc 145 args) w = .ok (.enter 145 args) w := fun _ _ => rfl
theorem sj (hl : R.left = eU 135) (hid : R.aA.id ≠ 0) (h1 : 1 ≤ M.dr.length) (hll : M.L.length ≤ 900) (hmx : mx ≤ 1000000) (q : Nat) :
  ∀ {L : List Jb} {w : World} {v : Value} {g a : Nat} {m : Int}, L.length = M.L.length → hits R.aA L ≤ q → aB { M with L := L } → dZ { M with L := L } R.aA = M' → SW w b c t d p v g a m R (aj { M with L := L }) → a + 2 * hits R.aA L ≤ 800 → m + hits R.aA L ≤ mx → WS w0 w b c t d p v0 g0 v g →
   Goes b c (q + 1) w (Fin w0 b c t d p v0 g0 mx M' R.rep R.ok) := by
 induction q with
 | zero =>
  intro L w v g a m hL hq hI hM hS ha hm hw
  have hd := vW hS hI h1 (by show L.length ≤ 900; omega) (by omega) (by omega) hid
  refine u6 (k := 135) (M' := M') (a' := a) (m' := m) hS hl hl qH (hd.mono fun e w' hp => ?_) (by omega) (by omega) hw
  rcases hp with ⟨ho, hp⟩ | ⟨i, ho, _⟩
  ·have := qo (M := { M with L := L }) ho
   rw [this] at hM
   rw [← hM]; exact hp
  ·have := (iT (L := L) ho).2.2.2.2
   omega
 | succ q ih =>
  intro L w v g a m hL hq hI hM hS ha hm hw
  have hd := vW hS hI h1 (by show L.length ≤ 900; omega) (by omega) (by omega) hid
  cases ho : dI R.aA L with
  | none =>
   refine u6 (k := 135) (M' := M') (a' := a) (m' := m) hS hl hl qH (hd.mono fun e w' hp => ?_) (by omega) (by omega) hw
   rcases hp with ⟨_, hp⟩ | ⟨i, h2, _⟩
   ·have := qo (M := { M with L := L }) ho
    rw [this] at hM
    rw [← hM]; exact hp
   ·have h3 : dI R.aA L = some i := h2
    rw [ho] at h3; cases h3
  | some i =>
   obtain ⟨hi, _, _, _, hh⟩ := iT ho
   refine uZ (k := 135) (k' := 135) (a' := a + 2) (m' := m + 1) (R' := R) (P' := aj { M with L := L.set i ((L.getD i default).aC (-1)) }) hS hl hl qH (hd.mono fun e w' hp => ?_) fun w' v' g' hS' hw' => ?_
   ·rcases hp with ⟨h2, _⟩ | ⟨i2, h2, hp⟩
    ·have h3 : dI R.aA L = none := h2
     rw [ho] at h3; cases h3
    ·have h3 : dI R.aA L = some i2 := h2
     rw [ho] at h3
     obtain rfl := Option.some.inj h3
     exact hp
   ·rw [← hl] at hS'
    exact ih (L := L.set i ((L.getD i default).aC (-1))) (by rw [List.length_set]; exact hL) (by omega) (hI.vJ hi) ((uE (M := { M with L := L }) ho).trans hM) hS' (by omega) (by omega) (hw.trans hw')
end
end Go.Proofs.YtkhfejihijdipaaGreat

namespace Go.Proofs.YtkhfejihijdipaaGreat
open Go.RowKit Go.Lib Go.Sort
def oC (x : Rl) : Ry := ⟨x.1, x.2.1, x.2.2.1, x.2.2.2.1, x.2.2.2.2.1, x.2.2.2.2.2.1, x.2.2.2.2.2.2.1, x.2.2.2.2.2.2.2.1, x.2.2.2.2.2.2.2.2⟩
section
variable {M : Md}
theorem ma (M : Md) : (lL M).length ≤ 1 + 2 * M.L.length := by
 have key : ∀ (ts : List Int) (acc : List (Int × Int)), (ts.foldl (stepOn M) acc).length ≤ acc.length + ts.length := by
  intro ts
  induction ts with
  | nil => intro acc; simp
  | cons t ts ih =>
   intro acc
   have h1 := ih (stepOn M acc t)
   have h2 : (stepOn M acc t).length ≤ acc.length + 1 := by
    unfold stepOn
    split
    ·split
     ·omega
     ·simp
    ·simp
   show (ts.foldl (stepOn M) (stepOn M acc t)).length ≤ acc.length + (ts.length + 1)
   omega
 have h3 : ∀ (n : Nat) (last : Int), (timesGo M.L n last).length ≤ n := by
  intro n
  induction n with
  | zero => intro last; simp [timesGo]
  | succ n ih =>
   intro last
   unfold timesGo
   split
   ·simp
   ·simp only [List.length_cons]; have := ih (jJ M.L last); omega
 have h1 := key (lK M) []
 have h4 := h3 (2 * M.L.length) M.now
 unfold lL
 unfold lK at h1 ⊢
 simp only [List.length_cons, List.length_nil] at h1
 omega
theorem CW.O8 {w : World} {c t d p g a : Nat} {v : Value} {m : Int} (h : CW w c t d p v g a m (aj M)) (hI : aB M) : CW w c t d p v g (1 + 2 * M.L.length) m (aj M) := by
 obtain ⟨S, aH, hp, hC, hl, h0⟩ := h.kN
 have e : S = lL M := hC.uniq (zu hI) fun _ _ => rfl
 exact ⟨h.cell, h.dW, h.nodes, S, aH, hp, hC, by rw [e]; exact ma M, h0⟩
theorem JA (M : Md) (hn : M.dr.length ≤ 64) (r : Rq) (hk : r.kind = 1) : (lT M.dr.length r = 9 ∧ fM M (toW r) = 9) ∨ (lT M.dr.length r = 0 ∧ iH M.L r = fM M (toW r)) := by
 have hlive : CV M = iX M.L := rfl
 have s1 : (r.user < 0 ∨ 255 < r.user ∨ r.prio < 0 ∨ 1000 < r.prio) → fM M (toW r) = 1 := fun h => if_pos h
 have s2 : ¬ (r.user < 0 ∨ 255 < r.user ∨ r.prio < 0 ∨ 1000 < r.prio) → (r.width < 1 ∨ (M.dr.length : Int) < r.width) → fM M (toW r) = 9 := fun h h' => (if_neg h).trans (if_pos h')
 have s3 : ¬ (r.user < 0 ∨ 255 < r.user ∨ r.prio < 0 ∨ 1000 < r.prio) → ¬ (r.width < 1 ∨ (M.dr.length : Int) < r.width) → (r.limit < 1 ∨ 1048576 < r.limit) → fM M (toW r) = 10 := fun h h' h2 => (if_neg h).trans ((if_neg h').trans (if_pos h2))
 have s4 : ¬ (r.user < 0 ∨ 255 < r.user ∨ r.prio < 0 ∨ 1000 < r.prio) → ¬ (r.width < 1 ∨ (M.dr.length : Int) < r.width) → ¬ (r.limit < 1 ∨ 1048576 < r.limit) → (63 < CV M ∨ 1023 < M.L.length) → fM M (toW r) = 6 := fun h h' h2 h3 => (if_neg h).trans ((if_neg h').trans ((if_neg h2).trans (if_pos h3)))
 have s5 : ¬ (r.user < 0 ∨ 255 < r.user ∨ r.prio < 0 ∨ 1000 < r.prio) → ¬ (r.width < 1 ∨ (M.dr.length : Int) < r.width) → ¬ (r.limit < 1 ∨ 1048576 < r.limit) → ¬ (63 < CV M ∨ 1023 < M.L.length) → fM M (toW r) = 0 := fun h h' h2 h3 => (if_neg h).trans ((if_neg h').trans ((if_neg h2).trans (if_neg h3)))
 have b1 : aN r ≠ 0 → iH M.L r = aN r := fun h => if_pos h
 have b2 : aN r = 0 → (64 ≤ iX M.L ∨ 1024 ≤ M.L.length) → iH M.L r = 6 := fun h h' => (if_neg (by omega)).trans (if_pos h')
 have b3 : aN r = 0 → ¬ (64 ≤ iX M.L ∨ 1024 ≤ M.L.length) → iH M.L r = 0 := fun h h' => (if_neg (by omega)).trans (if_neg h')
 have x1 : (r.kind = 1 ∧ (M.dr.length : Int) < r.width ∧ r.width ≤ 64 ∧ aN r ≠ 1) → lT M.dr.length r = 9 := fun h => if_pos h
 have x2 : ¬ (r.kind = 1 ∧ (M.dr.length : Int) < r.width ∧ r.width ≤ 64 ∧ aN r ≠ 1) → lT M.dr.length r = 0 := fun h => if_neg h
 by_cases h1 : r.user < 0 ∨ 255 < r.user ∨ r.prio < 0 ∨ 1000 < r.prio
 ·have hR : aN r = 1 := by unfold aN; (repeat' split) <;> omega
  exact .inr ⟨x2 (by omega), by rw [s1 h1, b1 (by omega), hR]⟩
 ·by_cases h2 : r.width < 1
  ·have hR : aN r = 9 := by unfold aN; (repeat' split) <;> omega
   exact .inr ⟨x2 (by omega), by rw [s2 h1 (.inl h2), b1 (by omega), hR]⟩
  ·by_cases h3 : (M.dr.length : Int) < r.width
   ·by_cases h4 : r.width ≤ 64
    ·have hR : aN r ≠ 1 := by unfold aN; (repeat' split) <;> omega
     exact .inl ⟨x1 ⟨hk, h3, h4, hR⟩, s2 h1 (.inr h3)⟩
    ·have hR : aN r = 9 := by unfold aN; (repeat' split) <;> omega
     exact .inr ⟨x2 (by omega), by rw [s2 h1 (.inr h3), b1 (by omega), hR]⟩
   ·by_cases h5 : r.limit < 1 ∨ 1048576 < r.limit
    ·have hR : aN r = 10 := by unfold aN; (repeat' split) <;> omega
     exact .inr ⟨x2 (by omega), by rw [s3 h1 (by omega) h5, b1 (by omega), hR]⟩
    ·have hR : aN r = 0 := by unfold aN; (repeat' split) <;> omega
     refine .inr ⟨x2 (by omega), ?_⟩
     by_cases h6 : 63 < iX M.L ∨ 1023 < M.L.length
     ·rw [s4 h1 (by omega) h5 h6, b2 hR (by omega)]
     ·rw [s5 h1 (by omega) h5 h6, b3 hR (by omega)]
end
section
variable {w0 w : World} {b c t d p g g0 a N : Nat} {v v0 : Value} {m mx : Int} {P : Pg} {M M' : Md} {R : Wk} {Q : World → Prop}
theorem AA (j : Jb) (L : List Jb) : hits j L ≤ L.length := List.countP_le_length
theorem aV {k a' : Nat} {m' : Int} {R' : Wk} {M1 : Md} {y : Ry} {o : Bool} (hk : ∀ args w, Sem.run Tryz.prog (callFunc k args) w = .ok (.enter k args) w)
  (hp : Calls Tryz.prog k #[.pointer (some ⟨b, 0, none⟩), .pointer (some ⟨c, 0, none⟩)] w (au w b c t d p v g a' m' .nilFunc R' (aj M1)))
  (h : SW w b c t d p v g a m R P) (hl : R.left = eU k) (hl' : R'.left = R.left) (ha : a' ≤ 800) (hm : m' ≤ mx) (hw : WS w0 w b c t d p v0 g0 v g) (hM : M1 = M') (hy : R'.rep = y) (ho : R'.ok = o) : Goes b c (N + 1) w (Fin w0 b c t d p v0 g0 mx M' y o) := by
 subst hM hy ho
 exact u6 h hl (hl'.trans hl) hk hp ha hm hw
theorem Ev (h : SW w b c t d p v g a m R (aj M)) (hl : R.left = eU 64) (hI : aB M) (hcl : M.cl = false) (h1 : 1 ≤ M.dr.length) (hll : M.L.length ≤ 190) (ha : a ≤ 1 + 2 * M.L.length) (hm : m + 1000 ≤ mx) (hmx : mx ≤ 1000000) (hw : WS w0 w b c t d p v0 g0 v g)
  (hk : R.ag.kind = 1) (ho : R.ok = false) : Goes b c 1000 w (Fin w0 b c t d p v0 g0 mx (ic M (toW R.ag)).2 (oC (ic M (toW R.ag)).1) false) := by
 have oO := dX hI h1 (by omega)
 have hrd : iZ R.ag.kind = false := by rw [hk]; rfl
 have iO : ∀ {L : Value} {a' : Nat} {m' : Int} {R' : Wk} {P' : Pg}, Calls Tryz.prog 117 #[.pointer (some ⟨b, 0, none⟩), .pointer (some ⟨c, 0, none⟩)] w (au w b c t d p v g a' m' L R' P') → Calls Tryz.prog 64 #[.pointer (some ⟨b, 0, none⟩), .pointer (some ⟨c, 0, none⟩)] w (au w b c t d p v g a' m' L R' P') := fun hn => fe h hcl (by rw [hk]; decide) hrd (Mj h hk hn)
 unfold ic
 rcases JA M hI.mb.nn R.ag hk with ⟨e1, e2⟩ | ⟨e1, e2⟩
 ·rw [if_pos (by rw [e2]; decide), e2]
  exact aV (N := 999) aZ (iO (Bn h oO e1)) h hl rfl (by omega) (by omega) hw rfl rfl rfl
 ·by_cases e3 : fM M (toW R.ag) = 0
  ·rw [if_neg (by omega)]
   rw [e3] at e2
   cases hh : R.ag.held with
   | true =>
    rw [if_pos (show (toW R.ag).held = true from hh)]
    exact aV (N := 999) aZ (iO (Ar h oO e1 e2 hh)) h hl rfl (by omega) (by omega) hw rfl rfl ho
   | false =>
    rw [if_neg (show ¬ (toW R.ag).held = true by rw [show (toW R.ag).held = R.ag.held from rfl, hh]; decide)]
    have hc := e3
    unfold fM at hc
    have hst : (bR M (toW R.ag)).st = 1 := by show (if R.ag.held then (2 : Int) else 1) = 1; rw [hh]; rfl
    have hI1 : aB { M with L := M.L ++ [bR M (toW R.ag)] } := by
     split at hc
     ·omega
     split at hc
     ·omega
     split at hc
     ·omega
     split at hc
     ·omega
     rename_i h2 h3 h4 h5
     have hn := hI.mb.nn
     exact hI.app (bR M (toW R.ag)) (hI.mb.app _ (by omega) (by show 0 ≤ (toW R.ag).wid ∧ (toW R.ag).wid ≤ 64; omega) (by show 0 ≤ (toW R.ag).lim ∧ (toW R.ag).lim ≤ 1048576; omega) (by show (-1 : Int) ≤ -1 ∧ (-1 : Int) ≤ _; omega) (by show (-1 : Int) ≤ -1 ∧ (-1 : Int) ≤ _; omega) (by show (0 : Int) ≤ 0 ∧ (0 : Int) ≤ _; omega)) rfl ⟨show 1 ≤ (toW R.ag).wid by omega, show (toW R.ag).wid ≤ _ by omega, show 1 ≤ (toW R.ag).lim by omega, by omega, by omega⟩ rfl (by omega)
    refine (uZ (N := 901) (k := 64) (k' := 135) (R' := { R with rep := iB (bR M (toW R.ag)), aA := bR M (toW R.ag) }) h hl hl aZ (iO (Gp h oO e1 e2 hh)) fun w' v' g' hS' hw' => ?_).more (show 902 ≤ 1000 by decide)
    have hL : (M.L ++ [bR M (toW R.ag)]).length = M.L.length + 1 := by simp
    have Ug := AA (bR M (toW R.ag)) (M.L ++ [bR M (toW R.ag)])
    have := sj (M := { M with L := M.L ++ [bR M (toW R.ag)] }) (M' := dZ { M with L := M.L ++ [bR M (toW R.ag)] } (bR M (toW R.ag))) (R := { ({ R with rep := iB (bR M (toW R.ag)), aA := bR M (toW R.ag) } : Wk) with left := eU 135 }) (w0 := w0) (b := b) (c := c) (t := t) (d := d) (p := p) (v0 := v0) (g0 := g0) (mx := mx) rfl (by show (M.L.length : Int) + 1 ≠ 0; omega) h1 (by show (M.L ++ [bR M (toW R.ag)]).length ≤ 900; omega) hmx 900 (L := M.L ++ [bR M (toW R.ag)]) rfl (by show hits (bR M (toW R.ag)) _ ≤ 900; omega) hI1 rfl hS' (by show a + 2 * hits (bR M (toW R.ag)) _ ≤ 800; omega) (by show m + (hits (bR M (toW R.ag)) _ : Nat) ≤ mx; omega) (hw.trans hw')
    rw [show ({ ({ R with rep := iB (bR M (toW R.ag)), aA := bR M (toW R.ag) } : Wk) with left := eU 135 } : Wk).ok = false from ho] at this
    exact this
  ·rw [if_pos e3]
   exact aV (N := 999) aZ (iO (submit_bad h oO e1 (fM M (toW R.ag)) e3 e2)) h hl rfl (by omega) (by omega) hw rfl rfl rfl
end
end Go.Proofs.YtkhfejihijdipaaGreat
