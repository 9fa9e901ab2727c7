/-
 Own words and walks, merged: part 7 of 9.
-/
import Derived.Test.YtnihdgcfamoplaaGreatIa6
set_option maxRecDepth 1000000
set_option maxHeartbeats 8000000
set_option linter.all false
namespace Go.Proofs.YtnihdgcfamoplaaGreat
open Go.RowKit Go.Lib Go.Sort
theorem Qu {w : World} {b : Nat} {R : Wk} (h : cO w b R) (v0 v1 v2 v3 v4 v5 v6 v7 v8 : Int) : ∃ W, W = (((((((((w).setCell ⟨b, 24, none⟩ (.int .i64 v0)).setCell ⟨b, 25, none⟩ (.int .i64 v1)).setCell ⟨b, 26, none⟩ (.int .i64 v2)).setCell ⟨b, 27, none⟩ (.int .i64 v3)).setCell ⟨b, 28, none⟩ (.int .i64 v4)).setCell ⟨b, 29, none⟩ (.int .i64 v5)).setCell ⟨b, 30, none⟩ (.int .i64 v6)).setCell ⟨b, 31, none⟩ (.int .i64 v7)).setCell ⟨b, 32, none⟩ (.int .i64 v8) ∧ cO W b { R with rep := ⟨v0, v1, v2, v3, v4, v5, v6, v7, v8⟩ } ∧ eO (fun k => k = b) w W := by
 refine ⟨_, rfl, ?_, ?_⟩
 ·have h0 := h.put 24 (.int .i64 v0) (R' := { R with rep := { R.rep with err := v0 } }) rfl
  have h1 := h0.put 25 (.int .i64 v1) (R' := { R with rep := { R.rep with err := v0, id := v1 } }) rfl
  have h2 := h1.put 26 (.int .i64 v2) (R' := { R with rep := { R.rep with err := v0, id := v1, state := v2 } }) rfl
  have h3 := h2.put 27 (.int .i64 v3) (R' := { R with rep := { R.rep with err := v0, id := v1, state := v2, start := v3 } }) rfl
  have h4 := h3.put 28 (.int .i64 v4) (R' := { R with rep := { R.rep with err := v0, id := v1, state := v2, start := v3, stop := v4 } }) rfl
  have h5 := h4.put 29 (.int .i64 v5) (R' := { R with rep := { R.rep with err := v0, id := v1, state := v2, start := v3, stop := v4, plan := v5 } }) rfl
  have h6 := h5.put 30 (.int .i64 v6) (R' := { R with rep := { R.rep with err := v0, id := v1, state := v2, start := v3, stop := v4, plan := v5, a := v6 } }) rfl
  have h7 := h6.put 31 (.int .i64 v7) (R' := { R with rep := { R.rep with err := v0, id := v1, state := v2, start := v3, stop := v4, plan := v5, a := v6, b := v7 } }) rfl
  have h8 := h7.put 32 (.int .i64 v8) (R' := { R with rep := { R.rep with err := v0, id := v1, state := v2, start := v3, stop := v4, plan := v5, a := v6, b := v7, c := v8 } }) rfl
  exact h8
 ·exact gu (gu (gu (gu (gu (gu (gu (gu (dB _ 24 _) (dB _ 25 _)) (dB _ 26 _)) (dB _ 27 _)) (dB _ 28 _)) (dB _ 29 _)) (dB _ 30 _)) (dB _ 31 _)) (dB _ 32 _)
def ik (P : Pg) (n : Int) : Int := if (kK P.J n).st = 3 then max (kK P.J n).fin (P.now + 1) else P.now
section
variable {w : World} {b c t d p g a : Nat} {v : Value} {m : Int} {P : Pg} {R : Wk}
theorem Nz (h : CW w c t d p v g a m P) (hk : PK P) (j : Jb) : Calls Tryz.prog 183 #[.pointer (some ⟨c, 0, none⟩), .agg (ah j).toArray] w fun e w' => e = .returned (.int .i64 (max j.fin (P.now + 1))) ∧ Below w.heap.size w w' := by
 obtain ⟨wA, aK⟩ : ∃ wA, wA = w.alloc (.cells (ah j).toArray 63) := ⟨_, rfl⟩
 have bR : Hid (Below w.heap.size w wA) := by show Below _ _ _; rw [aK]; exact (Below.refl _ _).alloc (Nat.le_refl _) _
 have vF : Hid (wA.heap[w.heap.size]? = some (.cells (ah j).toArray 63 (0, 0))) := by show _ = _; rw [aK]; exact heap_alloc_new w _
 have iZ := Lib.hid (h.kept bR.out)
 have e7 : (ah j)[7]? = some (.int .i64 j.fin) := rfl
 have zE := bL
 obtain ⟨k, hk1⟩ : ∃ k, k = 10 := ⟨_, rfl⟩
 rw [← hk1] at zE
 have hk0 : ¬ k = 0 := by omega
 replace hk1 := Lib.hid hk1
 have kg := hk.now
 have wn : IntKind.i64.wrap (P.now + 1) = P.now + 1 := by rw [IntKind.wrap_i64]; omega
 generalize ah j = cJ at *
 generalize j.fin = jf at *
 clear h
 go_enter Tryz.func183, Tryz.ntmps183
 go_wp2_with fail
 rw [← aK]
 replace aK := Lib.hid aK
 refine Reg2.rd wA 8 14 [[],[ae],[af,af],[af,af,ae],[af,af,ae,ae],[af,af,ae,ae,ae],[af,af,ae,ae,ae,ae],[af,af,ae,ae,ae,ae,ae]] [0, 1, 0, 0, 0, 1, 1, 0] [.pure, .mU (.int .i64 jf), .pure, .pure, .pure, .mU (.pointer (some ⟨p, 0, none⟩)), .mU (.int .i64 P.now), .pure] (by kernel_rfl) (by kernel_rfl) rfl rfl ⟨trivial, Reg2.tt, trivial, trivial, trivial, Reg2.tt, Reg2.tt, trivial, trivial⟩ ⟨rfl, rfl, rfl, Nat.le_refl _, fun _ _ => rfl⟩ ?_
 dsimp only [Reg2.mk, List.zip, List.zipWith, List.take]
 repeat (refine' Reg2.ai _ (by rfl) (fun wz => ?_) ?_; rotate_left; (go_simp; first | rfl | rw [if_neg (by omega)]); simp only [Act.put, xA, xB, xC]; (try simp only [xD]); (try simp only [xE]); (try simp only [id]))
 refine Reg2.pm (fun wz hI hF => ?_) (fun r1 => ?_) (by rfl)
 ·have q0 : wz.cell? ⟨w.heap.size, 7, none⟩ = some (.int .i64 jf) := by simp [World.cell?, (hI.block _ (aG vF.out)).trans vF.out, e7]
  go_wp2_with fail
  first | exact ⟨_, rfl, rfl, Reg2.Ext.refl _⟩ | exact ⟨_, rfl, ⟨(), rfl, trivial⟩, Reg2.Ext.refl _⟩
 simp only [Act.put, xA, xB, xC]; (try simp only [xD]); (try simp only [xE]); (try simp only [id])
 repeat (refine' Reg2.ai _ (by rfl) (fun wz => ?_) ?_; rotate_left; (go_simp; first | rfl | rw [if_neg (by omega)]); simp only [Act.put, xA, xB, xC]; (try simp only [xD]); (try simp only [xE]); (try simp only [id]))
 refine Reg2.pm (fun wz hI hF => ?_) (fun r5 => ?_) (by rfl)
 ·have c0 := (iZ.out.kept hI).c2
  go_wp2_with fail
  first | exact ⟨_, rfl, rfl, Reg2.Ext.refl _⟩ | exact ⟨_, rfl, ⟨(), rfl, trivial⟩, Reg2.Ext.refl _⟩
 simp only [Act.put, xA, xB, xC]; (try simp only [xD]); (try simp only [xE]); (try simp only [id])
 refine Reg2.pm (fun wz hI hF => ?_) (fun r6 => ?_) (by rfl)
 ·go_wp2_with (go_at_call 25; go_must (refine (gQ (iZ.out.kept hI)).mono ?_); rintro e w' ⟨rfl, rfl⟩)
  first | exact ⟨_, rfl, rfl, Reg2.Ext.refl _⟩ | exact ⟨_, rfl, ⟨(), rfl, trivial⟩, Reg2.Ext.refl _⟩
 simp only [Act.put, xA, xB, xC]; (try simp only [xD]); (try simp only [xE]); (try simp only [id])
 repeat (refine' Reg2.ai _ (by rfl) (fun wz => ?_) ?_; rotate_left; (go_simp; first | rfl | rw [if_neg (by omega)]); simp only [Act.put, xA, xB, xC]; (try simp only [xD]); (try simp only [xE]); (try simp only [id]))
 refine Reg2.aC ?_
 intro w7 jZ _ fG
 clear fG
 dsimp only [List.drop]
 have kV := bR.out.trans (jZ.mono bR.out.size)
 go_wp2_with fail
 go_ret
 exact ⟨rfl, kV⟩
theorem NA (h : CW w c t d p v g a m P) (hk : PK P) (hnd : ∀ j ∈ P.J, 0 ≤ j.bP ∧ j.bP ≤ 18446744073709551615) (n : Int) (hn : -9223372036854775808 ≤ n ∧ n ≤ 9223372036854775807) : Calls Tryz.prog 166 #[.pointer (some ⟨c, 0, none⟩), .int .i64 n] w fun e w' => e = .returned (.int .i64 (ik P n)) ∧ Below w.heap.size w w' := by
 have hho := Ij h (hk.few) hnd n hn
 unfold ik
 generalize kK P.J n = y at *
 obtain ⟨sv, hsv⟩ : ∃ sv, sv = if y.st = 3 then max y.fin (P.now + 1) else P.now := ⟨_, rfl⟩
 rw [← hsv]
 replace hsv := Lib.hid hsv
 have zE := bL
 obtain ⟨k, hk1⟩ : ∃ k, k = 10 := ⟨_, rfl⟩
 rw [← hk1] at zE
 have hk0 : ¬ k = 0 := by omega
 have lY := ax y
 rw [← hk1] at lY
 replace hk1 := Lib.hid hk1
 have e5 : (ah y)[5]? = some (.int .i64 y.st) := rfl
 have ST : Hid (∀ W : World, Sem.run Tryz.prog (storeCells ⟨W.heap.size, 0, none⟩ (ah y) 0) (W.alloc (.cells #[.int .i64 0, .int .i64 0, .int .i64 0, .int .i64 0, .int .i64 0, .int .i64 0, .int .i64 0, .int .i64 0, .int .i64 0, .int .u64 0] 63)) = .ok () (W.alloc (.cells (ah y).toArray 63))) := fun W => dF W W.heap.size (ah y) (ah iA) 63 rfl rfl (dK y)
 have hun := fun (W : World) (hW : CW W c t d p v g a m P) => Nz hW hk y
 have hC := Lib.hid h
 generalize ah y = cY at *
 clear h
 go_enter Tryz.func166, Tryz.ntmps166
 go_wp2_with fail
 go_at_call 182
 refine hho.mono ?_
 clear hho
 rintro e w1 ⟨rfl, hb1⟩
 have st1 := ST.out w1
 obtain ⟨w2, hw2⟩ : ∃ w2, w2 = w1.alloc (.cells cY.toArray 63) := ⟨_, rfl⟩
 rw [← hw2] at st1
 have hb2 : Below w.heap.size w w2 := by rw [hw2]; exact hb1.alloc hb1.size _
 have hz2 : w2.heap[w1.heap.size]? = some (.cells cY.toArray 63 (0, 0)) := by rw [hw2]; exact heap_alloc_new w1 _
 have c5 : w2.cell? ⟨w1.heap.size, 5, none⟩ = some (.int .i64 y.st) := by simp [World.cell?, hz2, e5]
 have WM := fQ hz2 lY
 have hC2 := hC.out.kept hb2
 have hu2 := hun w2 hC2
 have hnw := gQ hC2
 have c2 := hC2.c2
 replace hw2 := Lib.hid hw2
 replace hz2 := Lib.hid hz2
 by_cases hs : y.st = 3
 ·have d0 : (y.st == 3) = true := by simp [hs]
  replace hs := Lib.hid hs
  go_wp2_with fail
  go_at_call 183
  refine hu2.mono ?_
  rintro e w3 ⟨rfl, hb3⟩
  go_wp2_with fail
  go_ret
  exact ⟨by rw [hsv.out, if_pos hs.out]; rfl, hb2.trans (hb3.mono hb2.size)⟩
 ·have d0 : (y.st == 3) = false := by simp [hs]
  go_wp2_with (go_at_call 25; go_must (refine hnw.mono ?_); rintro e w' ⟨rfl, rfl⟩)
  go_ret
  exact ⟨by rw [hsv.out, if_neg hs]; rfl, hb2⟩
theorem DI (h : SW w b c t d p v g a m R P) (e0 by' : Int) (he : e0 ≠ 0) : Calls Tryz.prog 145 #[.pointer (some ⟨b, 0, none⟩), .pointer (some ⟨c, 0, none⟩), .int .i64 e0, .int .i64 by'] w (au w b c t d p v g a m .nilFunc { R with rep := ku e0, ok := false } P) := by
 have hf := iI h.wk e0
 have d0 : (e0 != 0) = true := by simp [he]
 go_enter Tryz.func145, Tryz.ntmps145
 go_wp2_with (go_at_call 95; go_must (refine hf.mono ?_); rintro e w8 ⟨rfl, dU, gy⟩)
 go_ret
 exact ⟨rfl, v, g, h.work dU gy, WS.bH gy⟩
theorem Kk (h : SW w b c t d p v g a m R P) (hk : PK P) (ha : a ≤ 800) (hm : m ≤ 1000000) (hnd : ∀ j ∈ P.J, 0 ≤ j.bP ∧ j.bP ≤ 18446744073709551615) (hn : -9223372036854775808 ≤ R.ag.node ∧ R.ag.node ≤ 9223372036854775807) (by' : Int) (hby : -64 ≤ by' ∧ by' ≤ 64) (F : Int → Int)
  (hF : ∀ u, P.now ≤ u → F u = P.f u + had (max (ik P R.ag.node) P.now) 1152921504606846976 by' u) (hr : ∀ u, P.now ≤ u → 0 ≤ F u ∧ F u ≤ 64) (hs : ik P R.ag.node < 1152921504606846976) :
  Calls Tryz.prog 145 #[.pointer (some ⟨b, 0, none⟩), .pointer (some ⟨c, 0, none⟩), .int .i64 0, .int .i64 by'] w (au w b c t d p v g (a + 2) (m + 1) .nilFunc { R with rep := ⟨0, R.ag.node, pO P.T R.ag.node, 0, 0, 0, 0, 0, 0⟩ } { P with f := F }) := by
 have hS := Lib.hid h
 have q7 := h.wk.at 7 (.int .i64 R.ag.node) rfl
 have hsi := fun (W : World) (hW : CW W c t d p v g a m P) => NA hW hk hnd R.ag.node hn
 generalize hsx : ik P R.ag.node = sx at *
 generalize hnx : R.ag.node = nx at *
 replace hsx := Lib.hid hsx
 replace hnx := Lib.hid hnx
 clear h
 go_enter Tryz.func145, Tryz.ntmps145
 go_wp2_with fail
 refine Reg2.rd w 8 40 [[],[ae],[ae,ae],[ae,ae,ae],[af,af,af,af],[af,af,af,af,af],[af,af,af,af,ae,ae],[af,af,af,af,af,af,af]] [0, 0, 0, 1, 0, 0, 1, 0] [.pure, .pure, .pure, .mU (.pointer (some ⟨p, 0, none⟩)), .pure, .pure, .mU (.int .i64 sx), .pure] (by kernel_rfl) (by kernel_rfl) rfl rfl ⟨trivial, trivial, trivial, Reg2.tt, trivial, trivial, Reg2.tt, trivial, trivial⟩ ⟨rfl, rfl, rfl, Nat.le_refl _, fun _ _ => rfl⟩ ?_
 dsimp only [Reg2.mk, List.zip, List.zipWith, List.take]
 repeat (refine' Reg2.ai _ (by rfl) (fun wz => ?_) ?_; rotate_left; (go_simp; first | rfl | rw [if_neg (by omega)]); simp only [Act.put, xA, xB, xC]; (try simp only [xD]); (try simp only [xE]); (try simp only [id]))
 refine Reg2.pm (fun wz hI hF => ?_) (fun r3 => ?_) (by rfl)
 ·have c0 := (hS.out.cw.kept hI).c2
  go_wp2_with fail
  first | exact ⟨_, rfl, rfl, Reg2.Ext.refl _⟩ | exact ⟨_, rfl, ⟨(), rfl, trivial⟩, Reg2.Ext.refl _⟩
 simp only [Act.put, xA, xB, xC]; (try simp only [xD]); (try simp only [xE]); (try simp only [id])
 repeat (refine' Reg2.ai _ (by rfl) (fun wz => ?_) ?_; rotate_left; (go_simp; first | rfl | rw [if_neg (by omega)]); simp only [Act.put, xA, xB, xC]; (try simp only [xD]); (try simp only [xE]); (try simp only [id]))
 refine Reg2.pm (fun wz hI hF => ?_) (fun r6 => ?_) (by rfl)
 ·go_wp2_with (go_at_call 166; go_must (refine (hsi wz (hS.out.kept hI).cw).mono ?_); rintro e w' ⟨rfl, hb5⟩)
  first | exact ⟨_, rfl, ⟨(), rfl, trivial⟩, hb5⟩ | exact ⟨_, rfl, rfl, hb5⟩
 simp only [Act.put, xA, xB, xC]; (try simp only [xD]); (try simp only [xE]); (try simp only [id])
 repeat (refine' Reg2.ai _ (by rfl) (fun wz => ?_) ?_; rotate_left; (go_simp; first | rfl | rw [if_neg (by omega)]); simp only [Act.put, xA, xB, xC]; (try simp only [xD]); (try simp only [xE]); (try simp only [id]))
 refine Reg2.aC ?_
 intro w4 HI4 _ fG
 clear fG
 dsimp only [List.drop]
 have bN := hS.out.kept HI4
 have hadd := Ls bN.cw hk ha hm sx 1152921504606846976 by' F hs (by omega) hby hF hr
 go_wp2_with fail
 go_at_call 152
 refine hadd.mono ?_
 clear hadd
 rintro e w5 ⟨rfl, v5, g5, gL, hS5⟩
 have VG := bN.core gL hS5
 have Co := (WS.of_below HI4 : WS w w4 b c t d p v g v g).trans (WS.dE hS5)
 have hst := vw nx hn gL.nodes hk.qo
 rw [show ({ P with f := F } : Pg).T = P.T from rfl] at hst
 have c1 := gL.c1
 go_wp2_with fail
 go_at_call 54
 refine hst.mono ?_
 clear hst c1
 rintro e w6 ⟨rfl, mm, wH⟩
 have hb6 : Below w5.heap.size w5 w6 := by rw [wH]; exact below_drewN (Below.refl _ _) _
 have dR := VG.kept hb6
 have sW := Co.trans (WS.of_below hb6)
 obtain ⟨w7, hw7, xX, Qv⟩ := Qu dR.wk 0 nx (pO P.T nx) 0 0 0 0 0 0
 have a24 := dR.wk.at 24 (.int .i64 R.rep.err) rfl
 have f24 := dR.wk.free 24
 have a25 := dR.wk.at 25 (.int .i64 R.rep.id) rfl
 have f25 := dR.wk.free 25
 have a26 := dR.wk.at 26 (.int .i64 R.rep.state) rfl
 have f26 := dR.wk.free 26
 have a27 := dR.wk.at 27 (.int .i64 R.rep.start) rfl
 have f27 := dR.wk.free 27
 have a28 := dR.wk.at 28 (.int .i64 R.rep.stop) rfl
 have f28 := dR.wk.free 28
 have a29 := dR.wk.at 29 (.int .i64 R.rep.plan) rfl
 have f29 := dR.wk.free 29
 have a30 := dR.wk.at 30 (.int .i64 R.rep.a) rfl
 have f30 := dR.wk.free 30
 have a31 := dR.wk.at 31 (.int .i64 R.rep.b) rfl
 have f31 := dR.wk.free 31
 have a32 := dR.wk.at 32 (.int .i64 R.rep.c) rfl
 have f32 := dR.wk.free 32
 have gM := dR.work xX Qv
 have Kl := sW.trans (WS.bH Qv)
 replace wH := Lib.hid wH
 go_wp2_with fail
 rw [← hw7]
 go_ret
 have en := hnx.out
 subst en
 exact ⟨rfl, v5, g5, gM, Kl⟩
end
end Go.Proofs.YtnihdgcfamoplaaGreat

namespace Go.Proofs.YtnihdgcfamoplaaGreat
open Go.RowKit Go.Lib Go.Sort
def Early (M : Md) : Prop := ∀ j ∈ M.L, j.st ≤ 2 → j.fin = -1
theorem foldl_min (l : List Int) : ∀ x : Int, (l.foldl min x = x ∨ l.foldl min x ∈ l) ∧ l.foldl min x ≤ x ∧ ∀ z ∈ l, l.foldl min x ≤ z := by
 induction l with
 | nil => exact fun x => ⟨.inl rfl, Int.le_refl _, fun z hz => nomatch hz⟩
 | cons a l ih =>
  intro x
  obtain ⟨h1, h2, h3⟩ := ih (min x a)
  refine ⟨?_, by show l.foldl min (min x a) ≤ x; omega, fun z hz => ?_⟩
  ·show l.foldl min (min x a) = x ∨ l.foldl min (min x a) ∈ a :: l
   rcases h1 with h1 | h1
   ·rw [h1]
    rcases Int.le_total x a with h | h
    ·exact .inl (Int.min_eq_left h)
    ·exact .inr (by rw [Int.min_eq_right h]; exact List.mem_cons_self ..)
   ·exact .inr (List.mem_cons_of_mem _ h1)
  ·show l.foldl min (min x a) ≤ z
   rcases List.mem_cons.1 hz with rfl | hz
   ·omega
   ·exact h3 z hz
theorem Bq (l : List Int) : kJ l = 1152921504606846976 ∨ kJ l ∈ l := (foldl_min l _).1
theorem Km {l : List Int} {z : Int} (h : z ∈ l) : kJ l ≤ z := (foldl_min l _).2.2 z h
section
variable {M : Md}
theorem Il (hI : aF M) (hE : Early M) : kJ (qV M.now (M.L.filter fun j : Jb => decide (j.state ∈ [(1 : Int), 3]))) = if aV M < 0 then 1152921504606846976 else aV M := by
 have h0 := hI.mb.now
 have hL := qI (M := M) h0.1
 have key : ∀ t, t ∈ qV M.now (M.L.filter fun j : Jb => decide (j.state ∈ [(1 : Int), 3])) ↔ (t ∈ M.L.flatMap wC ∧ M.now < t) := by
  intro t
  unfold qV
  simp only [List.mem_flatMap]
  constructor
  ·rintro ⟨j, hj, ht⟩
   obtain ⟨hjm, hjs⟩ := List.mem_filter.1 hj
   unfold Kh at ht
   obtain ⟨ht1, ht2⟩ := List.mem_filter.1 ht
   have ht2 : M.now < t := of_decide_eq_true ht2
   refine ⟨⟨j, hjm, ?_⟩, ht2⟩
   have hs : j.st = 1 ∨ j.st = 3 := by
    have : j.state = 1 ∨ j.state = 3 := by simpa using hjs
    exact this
   have ht3 : t = j.fin ∨ t = j.aL := by simpa using ht1
   unfold wC
   rcases hs with hs | hs
   ·have he := hE j hjm (by omega)
    have htp : t = j.aL := by rcases ht3 with h | h <;> omega
    have hpl : ak j = true := bC.2 ⟨hs, by omega⟩
    rw [hpl]
    simp [htp]
   ·have hr := hI.rest j hjm (by omega)
    have htp : t = j.fin := by rcases ht3 with h | h <;> omega
    simp [hs, htp]
  ·rintro ⟨⟨j, hjm, ht⟩, ht2⟩
   unfold wC at ht
   rcases List.mem_append.1 ht with h | h
   ·by_cases hs : j.st = 3
    ·rw [if_pos hs] at h
     refine ⟨j, List.mem_filter.2 ⟨hjm, ?_⟩, ?_⟩
     ·have : j.state = 3 := hs
      simp [this]
     ·unfold Kh
      rw [List.mem_singleton.1 h] at ht2 ⊢
      exact List.mem_filter.2 ⟨by simp, decide_eq_true ht2⟩
    ·rw [if_neg hs] at h; cases h
   ·by_cases hs : ak j = true
    ·rw [if_pos hs] at h
     refine ⟨j, List.mem_filter.2 ⟨hjm, ?_⟩, ?_⟩
     ·have : j.state = 1 := (bC.1 hs).1
      simp [this]
     ·unfold Kh
      rw [List.mem_singleton.1 h] at ht2 ⊢
      exact List.mem_filter.2 ⟨by simp, decide_eq_true ht2⟩
    ·rw [if_neg hs] at h; cases h
 have hbig : ∀ t ∈ M.L.flatMap wC, t ≤ 1099512676352 := by
  intro t ht
  obtain ⟨j, hjm, ht⟩ := List.mem_flatMap.1 ht
  have h1 := hI.mb.fin j hjm
  have h2 := hI.mb.aL j hjm
  unfold wC at ht
  rcases List.mem_append.1 ht with h | h
  ·split at h
   ·rw [List.mem_singleton.1 h]; omega
   ·cases h
  ·split at h
   ·rw [List.mem_singleton.1 h]; omega
   ·cases h
 rcases hL with ⟨h1, h2⟩ | ⟨h1, h2, h3, h4⟩
 ·rw [if_pos h1]
  rcases Bq (qV M.now (M.L.filter fun j : Jb => decide (j.state ∈ [(1 : Int), 3]))) with h | h
  ·exact h
  ·have := (key _).1 h
   have := h2 _ this.1
   omega
 ·rw [if_neg (by omega)]
  have h5 := Km ((key _).2 ⟨h3, h2⟩)
  have h6 := hbig _ h3
  rcases Bq (qV M.now (M.L.filter fun j : Jb => decide (j.state ∈ [(1 : Int), 3]))) with h | h
  ·omega
  ·have h7 := (key _).1 h
   have := h4 _ h7.1 h7.2
   omega
end
section
variable {w : World} {b c t d p g a : Nat} {v : Value} {m : Int} {P : Pg} {M : Md} {R : Wk}
theorem NB (h : CW w c t d p v g a m P) (ha : a ≤ 1000) : Calls Tryz.prog 135 #[.pointer (some ⟨p, 0, none⟩), .int .i64 P.now] w fun e w' => e = .returned (.int .i64 (P.f P.now)) ∧ Below w.heap.size w w' := by
 obtain ⟨S, aJ, hp, hC, hl, _⟩ := h.kT
 obtain ⟨i, hi⟩ := hC.sm.ix P.now
 rw [hi.val hC.sm (Int.le_refl _)]
 exact MX P.now hi hC.sm (by omega) hp
theorem DJ (h : SW w b c t d p v g a m R P) (ha : a ≤ 1000) : Calls Tryz.prog 118 #[.pointer (some ⟨b, 0, none⟩), .pointer (some ⟨c, 0, none⟩)] w (au w b c t d p v g a m (.tuple #[]) { R with rep := ⟨0, 0, 0, P.now, 0, 0, P.f P.now, 0, 0⟩ } P) := by
 have hS := Lib.hid h
 have hfr := fun (W : World) (hW : SW W b c t d p v g a m R P) => NB hW.cw ha
 obtain ⟨fn, hfn⟩ : ∃ fn, fn = P.f P.now := ⟨_, rfl⟩
 rw [← hfn] at hfr ⊢
 replace hfn := Lib.hid hfn
 clear h
 go_enter Tryz.func118, Tryz.ntmps118
 go_wp2_with fail
 refine Reg2.rd w 17 23 [[],[af],[af,ae],[af,ae,ae],[af,ae,ae,ae],[af,ae,ae,ae,ae],[af,af,af,af,af,af],[af,af,af,af,af,af,ae],[af,af,af,af,af,af,ae,ae],[af,af,af,af,af,af,ae,ae,ae],[af,af,af,af,af,af,af,af,af,af],[af,af,af,af,af,af,af,af,af,af,ae],[af,af,af,af,af,af,af,af,af,af,ae,ae],[af,af,af,af,af,af,af,af,af,af,ae,ae,ae],[af,ae,ae,ae,ae,ae,af,af,af,af,ae,ae,ae,ae],[af,ae,ae,ae,ae,ae,ae,ae,ae,ae,ae,ae,ae,ae,ae],[af,ae,ae,ae,ae,ae,ae,ae,ae,ae,ae,ae,ae,ae,ae,ae]] [0, 0, 0, 0, 1, 1, 0, 0, 0, 1, 0, 0, 0, 1, 1, 1, 0] [.pure, .pure, .pure, .pure, .mU (.pointer (some ⟨p, 0, none⟩)), .mU (.int .i64 P.now), .pure, .pure, .pure, .mU (.pointer (some ⟨p, 0, none⟩)), .pure, .pure, .pure, .mU (.pointer (some ⟨p, 0, none⟩)), .mU (.int .i64 P.now), .mU (.int .i64 fn), .pure] (by kernel_rfl) (by kernel_rfl) rfl rfl ⟨trivial, trivial, trivial, trivial, Reg2.tt, Reg2.tt, trivial, trivial, trivial, Reg2.tt, trivial, trivial, trivial, Reg2.tt, Reg2.tt, Reg2.tt, trivial, trivial⟩ ⟨rfl, rfl, rfl, Nat.le_refl _, fun _ _ => rfl⟩ ?_
 dsimp only [Reg2.mk, List.zip, List.zipWith, List.take]
 repeat (refine' Reg2.ai _ (by rfl) (fun wz => ?_) ?_; rotate_left; (go_simp; first | rfl | rw [if_neg (by omega)]); simp only [Act.put, xA, xB, xC]; (try simp only [xD]); (try simp only [xE]); (try simp only [id]))
 refine Reg2.pm (fun wz hI hF => ?_) (fun r4 => ?_) (by rfl)
 ·have c0 := (hS.out.cw.kept hI).c2
  go_wp2_with fail
  first | exact ⟨_, rfl, rfl, Reg2.Ext.refl _⟩ | exact ⟨_, rfl, ⟨(), rfl, trivial⟩, Reg2.Ext.refl _⟩
 simp only [Act.put, xA, xB, xC]; (try simp only [xD]); (try simp only [xE]); (try simp only [id])
 refine Reg2.pm (fun wz hI hF => ?_) (fun r5 => ?_) (by rfl)
 ·go_wp2_with (go_at_call 25; go_must (refine (gQ (hS.out.kept hI).cw).mono ?_); rintro e w' ⟨rfl, rfl⟩)
  first | exact ⟨_, rfl, rfl, Reg2.Ext.refl _⟩ | exact ⟨_, rfl, ⟨(), rfl, trivial⟩, Reg2.Ext.refl _⟩
 simp only [Act.put, xA, xB, xC]; (try simp only [xD]); (try simp only [xE]); (try simp only [id])
 repeat (refine' Reg2.ai _ (by rfl) (fun wz => ?_) ?_; rotate_left; (go_simp; first | rfl | rw [if_neg (by omega)]); simp only [Act.put, xA, xB, xC]; (try simp only [xD]); (try simp only [xE]); (try simp only [id]))
 refine Reg2.pm (fun wz hI hF => ?_) (fun r9 => ?_) (by rfl)
 ·have c0 := (hS.out.cw.kept hI).c2
  go_wp2_with fail
  first | exact ⟨_, rfl, rfl, Reg2.Ext.refl _⟩ | exact ⟨_, rfl, ⟨(), rfl, trivial⟩, Reg2.Ext.refl _⟩
 simp only [Act.put, xA, xB, xC]; (try simp only [xD]); (try simp only [xE]); (try simp only [id])
 repeat (refine' Reg2.ai _ (by rfl) (fun wz => ?_) ?_; rotate_left; (go_simp; first | rfl | rw [if_neg (by omega)]); simp only [Act.put, xA, xB, xC]; (try simp only [xD]); (try simp only [xE]); (try simp only [id]))
 refine Reg2.pm (fun wz hI hF => ?_) (fun Fh => ?_) (by rfl)
 ·have c0 := (hS.out.cw.kept hI).c2
  go_wp2_with fail
  first | exact ⟨_, rfl, rfl, Reg2.Ext.refl _⟩ | exact ⟨_, rfl, ⟨(), rfl, trivial⟩, Reg2.Ext.refl _⟩
 simp only [Act.put, xA, xB, xC]; (try simp only [xD]); (try simp only [xE]); (try simp only [id])
 refine Reg2.pm (fun wz hI hF => ?_) (fun Ck => ?_) (by rfl)
 ·go_wp2_with (go_at_call 25; go_must (refine (gQ (hS.out.kept hI).cw).mono ?_); rintro e w' ⟨rfl, rfl⟩)
  first | exact ⟨_, rfl, rfl, Reg2.Ext.refl _⟩ | exact ⟨_, rfl, ⟨(), rfl, trivial⟩, Reg2.Ext.refl _⟩
 simp only [Act.put, xA, xB, xC]; (try simp only [xD]); (try simp only [xE]); (try simp only [id])
 refine Reg2.pm (fun wz hI hF => ?_) (fun Uf => ?_) (by rfl)
 ·go_wp2_with (go_at_call 135; go_must (refine (hfr wz (hS.out.kept hI)).mono ?_); rintro e w' ⟨rfl, hb5⟩)
  first | exact ⟨_, rfl, ⟨(), rfl, trivial⟩, hb5⟩ | exact ⟨_, rfl, rfl, hb5⟩
 simp only [Act.put, xA, xB, xC]; (try simp only [xD]); (try simp only [xE]); (try simp only [id])
 repeat (refine' Reg2.ai _ (by rfl) (fun wz => ?_) ?_; rotate_left; (go_simp; first | rfl | rw [if_neg (by omega)]); simp only [Act.put, xA, xB, xC]; (try simp only [xD]); (try simp only [xE]); (try simp only [id]))
 refine Reg2.aC ?_
 intro w4 HI4 _ fG
 clear fG
 dsimp only [List.drop]
 have bN := hS.out.kept HI4
 obtain ⟨w7, hw7, xX, Qv⟩ := Qu bN.wk 0 0 0 P.now 0 0 fn 0 0
 have a24 := bN.wk.at 24 (.int .i64 R.rep.err) rfl
 have f24 := bN.wk.free 24
 have a25 := bN.wk.at 25 (.int .i64 R.rep.id) rfl
 have f25 := bN.wk.free 25
 have a26 := bN.wk.at 26 (.int .i64 R.rep.state) rfl
 have f26 := bN.wk.free 26
 have a27 := bN.wk.at 27 (.int .i64 R.rep.start) rfl
 have f27 := bN.wk.free 27
 have a28 := bN.wk.at 28 (.int .i64 R.rep.stop) rfl
 have f28 := bN.wk.free 28
 have a29 := bN.wk.at 29 (.int .i64 R.rep.plan) rfl
 have f29 := bN.wk.free 29
 have a30 := bN.wk.at 30 (.int .i64 R.rep.a) rfl
 have f30 := bN.wk.free 30
 have a31 := bN.wk.at 31 (.int .i64 R.rep.b) rfl
 have f31 := bN.wk.free 31
 have a32 := bN.wk.at 32 (.int .i64 R.rep.c) rfl
 have f32 := bN.wk.free 32
 have gM := bN.work xX Qv
 have Kl := (WS.of_below HI4 : WS w w4 b c t d p v g v g).trans (WS.bH Qv)
 go_wp2_with fail
 rw [← hw7]
 go_end0
 exact ⟨rfl, v, g, gM, Kl⟩
theorem uM (h : SW w b c t d p v g a m R (aj M)) (hI : aF M) (hE : Early M) (h1 : 1 ≤ M.dr.length) (hll : M.L.length ≤ 900) (ha : a ≤ 800) (hm : m ≤ 1000000) (hnx : aV M < 0 ∨ R.target < aV M) (rV : M.now ≤ R.target ∧ R.target ≤ 1099511627776) :
  Calls Tryz.prog 148 #[.pointer (some ⟨b, 0, none⟩), .pointer (some ⟨c, 0, none⟩)] w (au w b c t d p v g a (m + 1) .nilFunc { R with rep := ⟨0, 0, 0, R.target, 0, 0, ay M R.target 0, 0, 0⟩ } (aj { M with now := R.target })) := by
 have rF := fA hI h1 hll
 have hne := DC h.cw rF (fun j hj => hI.mb.fin j hj) (fun j hj => hI.mb.aL j hj)
 rw [show (aj M).now = M.now from rfl, show (aj M).J = M.L from rfl, Il hI hE] at hne
 obtain ⟨x, hx⟩ : ∃ x, x = if aV M < 0 then 1152921504606846976 else aV M := ⟨_, rfl⟩
 rw [← hx] at hne
 have hgt : R.target < x := by rw [hx]; split <;> omega
 have d1 : decide (x > R.target) = true := decide_eq_true hgt
 replace hx := Lib.hid hx
 replace hgt := Lib.hid hgt
 have Lu := fun (W : World) (hW : SW W b c t d p v g a m R (aj M)) => yS hW.cw rF ha hm R.target rV.1 rV.2
 have Kn := fun (W : World) (hW : SW W b c t d p v g a m R (aj M)) => hW.wk.at 23 (.int .i64 R.target) rfl
 generalize hrt : R.target = rt at *
 have hS := Lib.hid h
 clear h
 go_enter Tryz.func148, Tryz.ntmps148
 go_wp2_with fail
 go_at_call 169
 refine hne.mono ?_
 clear hne
 rintro e w1 ⟨rfl, hb1⟩
 have hS1 := Lib.hid (hS.out.kept hb1)
 have q1 := Kn w1 hS1.out
 replace Kn := Lib.hid Kn
 replace hrt := Lib.hid hrt
 go_wp2_with fail
 refine Reg2.rd w1 8 44 [[],[ae],[ae,ae],[ae,ae,ae],[af,af,af,af],[af,af,af,af,ae],[af,af,af,af,ae,ae],[af,af,af,af,ae,ae,ae]] [0, 0, 0, 1, 0, 0, 0, 1] [.pure, .pure, .pure, .mU (.pointer (some ⟨p, 0, none⟩)), .pure, .pure, .pure, .mU (.int .i64 rt)] (by kernel_rfl) (by kernel_rfl) rfl rfl ⟨trivial, trivial, trivial, Reg2.tt, trivial, trivial, trivial, Reg2.tt, trivial⟩ ⟨rfl, rfl, rfl, Nat.le_refl _, fun _ _ => rfl⟩ ?_
 dsimp only [Reg2.mk, List.zip, List.zipWith, List.take]
 repeat (refine' Reg2.ai _ (by rfl) (fun wz => ?_) ?_; rotate_left; (go_simp; first | rfl | rw [if_neg (by omega)]); simp only [Act.put, xA, xB, xC]; (try simp only [xD]); (try simp only [xE]); (try simp only [id]))
 refine Reg2.pm (fun wz hI hF => ?_) (fun r3 => ?_) (by rfl)
 ·have c0 := (hS1.out.cw.kept hI).c2
  go_wp2_with fail
  first | exact ⟨_, rfl, rfl, Reg2.Ext.refl _⟩ | exact ⟨_, rfl, ⟨(), rfl, trivial⟩, Reg2.Ext.refl _⟩
 simp only [Act.put, xA, xB, xC]; (try simp only [xD]); (try simp only [xE]); (try simp only [id])
 repeat (refine' Reg2.ai _ (by rfl) (fun wz => ?_) ?_; rotate_left; (go_simp; first | rfl | rw [if_neg (by omega)]); simp only [Act.put, xA, xB, xC]; (try simp only [xD]); (try simp only [xE]); (try simp only [id]))
 refine Reg2.pm (fun wz hI hF => ?_) (fun r7 => ?_) (by rfl)
 ·have q0 := Kn.out wz (hS1.out.kept hI)
  go_wp2_with fail
  first | exact ⟨_, rfl, rfl, Reg2.Ext.refl _⟩ | exact ⟨_, rfl, ⟨(), rfl, trivial⟩, Reg2.Ext.refl _⟩
 simp only [Act.put, xA, xB, xC]; (try simp only [xD]); (try simp only [xE]); (try simp only [id])
 refine Reg2.aC ?_
 intro w4 HI4 _ fG
 clear fG
 dsimp only [List.drop]
 have bN := hS1.out.kept HI4
 have VH := Lu w4 bN
 go_wp2_with fail
 go_at_call 170
 refine VH.mono ?_
 clear VH
 rintro e w5 ⟨rfl, v5, g5, gL, hS5⟩
 have Qw := bN.core gL hS5
 have Co := (WS.of_below (hb1.trans (HI4.mono hb1.size)) : WS w w4 b c t d p v g v g).trans (WS.dE hS5)
 have hck := DJ Qw (by omega)
 rw [show ({ aj M with now := rt } : Pg).f = fun u => ay M u 0 from rfl, show ({ aj M with now := rt } : Pg).now = rt from rfl] at hck
 go_wp2_with fail
 go_at_call 118
 refine hck.mono ?_
 clear hck
 rintro e w6 ⟨rfl, v6, g6, dR, WV⟩
 have sW := Co.trans WV
 go_wp2_with fail
 go_ret
 have er := hrt.out
 clear hrt
 subst er
 exact ⟨rfl, v6, g6, dR, sW⟩
theorem yZ (h : SW w b c t d p v g a m R (aj M)) (hI : aF M) (WW : Calm M) (hE : Early M) (h1 : 1 ≤ M.dr.length) (hll : M.L.length ≤ 900) (ha : a ≤ 800) (hm : m ≤ 1000000) (hnx : 0 ≤ aV M ∧ aV M ≤ R.target) (rV : R.target ≤ 1099511627776) :
  Calls Tryz.prog 148 #[.pointer (some ⟨b, 0, none⟩), .pointer (some ⟨c, 0, none⟩)] w (au w b c t d p v g a (m + 1) (fP 148) R (aj (dN { M with now := aV M }))) := by
 have rF := fA hI h1 hll
 have hne := DC h.cw rF (fun j hj => hI.mb.fin j hj) (fun j hj => hI.mb.aL j hj)
 rw [show (aj M).now = M.now from rfl, show (aj M).J = M.L from rfl, Il hI hE, if_neg (by omega)] at hne
 obtain ⟨hlt, RY, _⟩ := hI.step WW hnx.1 (by omega)
 have hf0 : ∀ u, aV M ≤ u → 0 ≤ ay M u 0 ∧ ay M u 0 ≤ 64 := fun u hu => vC hI u (by omega)
 have hov := RY.over
 have Lu := fun (W : World) (hW : SW W b c t d p v g a m R (aj M)) => yS hW.cw rF ha hm (aV M) (by show M.now ≤ _; omega) (by omega)
 have Qx := fun (W : World) (v1 : Value) (g1 : Nat) (hW : CW W c t d p v1 g1 a (m + 1) { aj ({ M with now := aV M } : Md) with f := fun u => ay M u 0 }) => Ke (M := { M with now := aV M }) (fun u => ay M u 0) hW RY h1 hll hf0
 have wP := fun (W : World) (v1 : Value) (g1 : Nat) (hW : CW W c t d p v1 g1 a (m + 1) { aj ({ ({ M with now := aV M } : Md) with L := M.L.map (bg (aV M)) } : Md) with f := fun u => ay M u 0 }) => Nt (M := { ({ M with now := aV M } : Md) with L := M.L.map (bg (aV M)) }) (fun u => ay M u 0) hW hov.1 hov.2 M.L.length (by
  have := mg (fun j => if dD (aV M) j = true then (1 : Int) else 0) 1 (M.L.map (bg (aV M))) (fun j _ => by split <;> omega)
  rw [List.length_map] at this
  have e : lV ({ ({ M with now := aV M } : Md) with L := M.L.map (bg (aV M)) } : Md) = ((M.L.map (bg (aV M))).map fun j => if dD (aV M) j = true then (1 : Int) else 0).sum := rfl
  rw [e]; omega) h1 (by rw [List.length_map]; exact hll) hf0
 have Qy : startGo M.L.length ({ ({ M with now := aV M } : Md) with L := M.L.map (bg (aV M)) } : Md) = dN { M with now := aV M } := rfl
 rw [Qy] at wP
 rw [show ({ M with now := aV M } : Md).now = aV M from rfl, show ({ M with now := aV M } : Md).L = M.L from rfl] at Qx
 rw [show ({ ({ M with now := aV M } : Md) with L := M.L.map (bg (aV M)) } : Md).now = aV M from rfl] at wP
 have hfin : Hid (∀ {W : World} {v1 : Value} {g1 : Nat}, CW W c t d p v1 g1 a (m + 1) { aj (dN { M with now := aV M }) with f := fun u => ay M u 0 } → CW W c t d p v1 g1 a (m + 1) (aj (dN { M with now := aV M }))) := fun {W v1 g1} hW => by
  have kg : (dN { M with now := aV M }).now = aV M := by rw [← Qy]; exact (uH M.L.length hov.1.mb).2.2.1
  exact hW.Ub (fun u => ay (dN { M with now := aV M }) u 0) fun u hu => (BP RY u (by
   have hu2 : (dN { M with now := aV M }).now ≤ u := hu
   rw [kg] at hu2; exact hu2)).symm
 obtain ⟨H, hH⟩ : ∃ H, H = dN { M with now := aV M } := ⟨_, rfl⟩
 rw [← hH] at wP hfin ⊢
 have d1 : decide (aV M > R.target) = false := decide_eq_false (by omega)
 replace hH := Lib.hid hH
 generalize M7 : aV M = x at *
 replace M7 := Lib.hid M7
 have Kn := fun (W : World) (hW : SW W b c t d p v g a m R (aj M)) => hW.wk.at 23 (.int .i64 R.target) rfl
 generalize R.target = rt at *
 have hS := Lib.hid h
 clear h hov RY Qy
 go_enter Tryz.func148, Tryz.ntmps148
 go_wp2_with fail
 go_at_call 169
 refine hne.mono ?_
 clear hne
 rintro e w1 ⟨rfl, hb1⟩
 have hS1 := hS.out.kept hb1
 have q1 := Kn w1 hS1
 have c2 := hS1.cw.c2
 have ha1 := Lu w1 hS1
 clear Kn Lu
 go_wp2_with fail
 go_at_call 170
 refine ha1.mono ?_
 clear ha1
 rintro e w5 ⟨rfl, v5, g5, gL, hS5⟩
 have Qw := hS1.core gL hS5
 have Co := (WS.of_below hb1 : WS w w1 b c t d p v g v g).trans (WS.dE hS5)
 have VI := Qx w5 v5 g5 gL
 clear Qx q1 c2
 go_wp2_with fail
 go_at_call 171
 refine VI.mono ?_
 clear VI
 rintro e w6 ⟨rfl, v6, g6, HV, dR⟩
 have VJ := Qw.core HV dR
 have sW := Co.trans (WS.dE dR)
 have hs6 := wP w6 v6 g6 HV
 clear wP
 go_wp2_with fail
 go_at_call 172
 refine hs6.mono ?_
 clear hs6
 rintro e w7 ⟨rfl, v7, g7, zt, gM⟩
 have VK := VJ.core (hfin.out zt) gM
 have Kl := sW.trans (WS.dE gM)
 go_wp2_with fail
 go_ret
 exact ⟨rfl, v7, g7, VK, Kl⟩
end
end Go.Proofs.YtnihdgcfamoplaaGreat

namespace Go.Proofs.YtnihdgcfamoplaaGreat
open Go.RowKit Go.Lib
section
variable {M : Md}
def mZ (j : Jb) (x : Int) : Int := if ak j = true then min (x + j.lim) j.aL else x + j.lim
theorem Qz {id : Int} (h : gP M.L id ≠ 0) : (getM M id).2 = false := by
 unfold gP at h
 unfold getM
 by_cases h1 : id < 1
 ·rw [if_pos (.inl h1)]
 ·rw [if_neg h1] at h
  by_cases h2 : (M.L.length : Int) < id
  ·rw [if_pos (.inr h2)]
  ·rw [if_neg h2] at h; exact absurd rfl h
theorem uw {id : Int} (h : gP M.L id = 0) : ∃ i : Nat, i < M.L.length ∧ id = (i : Int) + 1 ∧ bM M.L id = M.L.getD i default ∧ getM M id = (M.L.getD i default, true) := by
 unfold gP at h
 by_cases h1 : id < 1
 ·rw [if_pos h1] at h; cases h
 ·rw [if_neg h1] at h
  by_cases h2 : (M.L.length : Int) < id
  ·rw [if_pos h2] at h; cases h
  ·refine ⟨(id - 1).toNat, by omega, by omega, ?_, ?_⟩
   ·unfold bM
    have hq : (id - 1).toNat < M.L.length := by omega
    rw [if_neg h1, if_neg h2, getElem!_pos M.L _ hq]
    generalize (id - 1).toNat = q at *
    simp [List.getD, hq]
   ·unfold getM
    rw [if_neg (by omega)]
theorem QA (h : M.cl = true) (id x : Int) : fM M id x = false := by unfold fM; rw [if_pos (.inl h)]
theorem NC {id x : Int} (h : x < M.now) : fM M id x = false := by unfold fM; rw [if_pos (.inr (.inr (.inr (.inl h))))]
theorem Ko {id x : Int} (h : 1099511627776 < x) : fM M id x = false := by unfold fM; rw [if_pos (.inr (.inr (.inr (.inr (.inl h)))))]
theorem Kq {id x : Int} (h : gP M.L id ≠ 0) : fM M id x = false := by unfold fM; rw [if_pos (.inr (.inl (Qz h)))]
theorem Im {id x : Int} (h : gP M.L id = 0) (hs : (bM M.L id).st ≠ 1) : fM M id x = false := by
 obtain ⟨i, _, _, h3, h4⟩ := uw h
 unfold fM
 rw [if_pos]
 exact .inr (.inr (.inl (by rw [h4, ← h3]; exact hs)))
theorem Kr {id x : Int} (h : gP M.L id = 0) (hp : ak (bM M.L id) = true) (hl : (bM M.L id).aL ≤ x) : fM M id x = false := by
 obtain ⟨i, _, _, h3, h4⟩ := uw h
 unfold fM
 rw [if_pos]
 exact .inr (.inr (.inr (.inr (.inr (by rw [h4, ← h3]; exact ⟨(bC.1 hp).2, hl⟩)))))
theorem RZ {x long width but : Int} (hx : 1 ≤ long) (h : ∀ t, x ≤ t → t < x + long → width ≤ ay M t but) : xc M x long width but = true := by
 unfold xc
 rw [Bool.and_eq_true, List.all_eq_true]
 refine ⟨decide_eq_true (h x (Int.le_refl _) (by omega)), fun t _ => ?_⟩
 rw [Bool.not_eq_true', Bool.and_eq_false_iff, Bool.and_eq_false_iff]
 by_cases h1 : x < t
 ·by_cases h2 : t < x + long
  ·refine .inr (decide_eq_false ?_)
   have := h t (by omega) h2
   omega
  ·exact .inl (.inr (decide_eq_false h2))
 ·exact .inl (.inl (decide_eq_false h1))
theorem Kt (hI : aF M) {id x m : Int} (hcl : M.cl = false) (h1 : M.now ≤ x) (h2 : x ≤ 1099511627776) (h : gP M.L id = 0) (hs : (bM M.L id).st = 1) (hl : ak (bM M.L id) = true → x < (bM M.L id).aL)
  (hm : BL (fun u => ay M u 0) x (mZ (bM M.L id) x) m) : fM M id x = decide ((bM M.L id).wid ≤ m) := by
 obtain ⟨i, hi, hid, h3, h4⟩ := uw h
 have hmem := bA hi
 rw [h3] at hs hl hm ⊢
 have hone := hI.one _ hmem
 have VL := hI.ids i hi
 have e : fM M id x = xc M x (M.L.getD i default).lim (M.L.getD i default).wid ((i : Int) + 1) := by
  unfold fM
  rw [h4]
  show (if M.cl = true ∨ true = false ∨ _ then _ else _) = _
  rw [if_neg, VL]
  have h5 := hs
  rintro (a1 | a1 | a1 | a1 | a1 | a1)
  ·rw [hcl] at a1; cases a1
  ·cases a1
  ·exact a1 hs
  ·omega
  ·omega
  ·have := hl (bC.2 ⟨h5, a1.1⟩)
   have h6 : (M.L.getD i default).aL ≤ x := a1.2
   omega
 rw [e]
 have yA := mf hi hI.ids
 have hto : x < mZ (M.L.getD i default) x := by
  unfold mZ
  split
  ·rename_i hp; have := hl hp; omega
  ·omega
 have OH := hI.mb.wid _ hmem
 have hcon : ∀ u, x ≤ u → u < x + (M.L.getD i default).lim → (u < mZ (M.L.getD i default) x → dO u 0 (M.L.getD i default) = 0) ∧ (mZ (M.L.getD i default) x ≤ u → dO u 0 (M.L.getD i default) = (M.L.getD i default).wid) := by
  intro u hu1 hu2
  unfold mZ
  cases hp : ak (M.L.getD i default) with
  | false =>
   refine ⟨fun _ => dP hp, fun h6 => ?_⟩
   rw [if_neg (by decide)] at h6
   omega
  | true =>
   have h7 := hl hp
   rw [if_pos rfl, ma hp (by omega)]
   refine ⟨fun h6 => if_neg (by omega), fun h6 => if_pos (by omega)⟩
 have hsub : mZ (M.L.getD i default) x ≤ x + (M.L.getD i default).lim := by unfold mZ; split <;> omega
 rw [Bool.eq_iff_iff, decide_eq_true_eq]
 constructor
 ·intro hr
  have hall := xm hI.mb.now.1 h1 hr
  rcases hm.one with e1 | ⟨u, u1, u2, u3⟩
  ·omega
  ·have h6 := hall u u1 (by omega)
   rw [yA, (hcon u u1 (by omega)).1 u2] at h6
   have h7 : ay M u 0 = m := u3
   omega
 ·intro hw
  refine RZ (by omega) fun u ht1 ht2 => ?_
  rw [yA]
  rcases Int.lt_or_le u (mZ (M.L.getD i default) x) with h6 | h6
  ·have h7 : m ≤ ay M u 0 := hm.all u ht1 h6
   rw [(hcon u ht1 ht2).1 h6]
   omega
  ·have h7 := hI.free u (by omega)
   rw [(hcon u ht1 ht2).2 h6]
   omega
end
end Go.Proofs.YtnihdgcfamoplaaGreat

namespace Go.Proofs.YtnihdgcfamoplaaGreat
open Go.RowKit Go.Lib Go.Sort
def iJ (w0 : World) (y : Jb) (vs : List Value) (W : World) : Prop := Below w0.heap.size w0 W ∧ (match vs with
 | [] => True
 | [u] => ∃ k, u = .pointer (some ⟨k, 0, none⟩) ∧ w0.heap.size ≤ k ∧ W.heap[k]? = some (.cells (ah iA).toArray 63 (0, 0))
 | u :: _ :: _ => ∃ k, u = .pointer (some ⟨k, 0, none⟩) ∧ w0.heap.size ≤ k ∧ W.heap[k]? = some (.cells (ah y).toArray 63 (0, 0)))
theorem iJ.ext {w0 a b : World} {y : Jb} {vs : List Value} (h : Below a.heap.size a b) (hs : iJ w0 y vs a) : iJ w0 y vs b := by
 obtain ⟨h1, h2⟩ := hs
 refine ⟨h1.trans (h.mono h1.size), ?_⟩
 match vs, h2 with
 | [], _ => trivial
 | [u], ⟨k, e, hk, hz⟩ => exact ⟨k, e, hk, (h.block k (aG hz)).trans hz⟩
 | u :: _ :: _, ⟨k, e, hk, hz⟩ => exact ⟨k, e, hk, (h.block k (aG hz)).trans hz⟩
theorem iJ.alloc {w0 W : World} {y : Jb} (hs : iJ w0 y [] W) : iJ w0 y ([] ++ [.pointer (some ⟨W.heap.size, 0, none⟩)]) (W.alloc (.cells #[.int .i64 0, .int .i64 0, .int .i64 0, .int .i64 0, .int .i64 0, .int .i64 0, .int .i64 0, .int .i64 0, .int .i64 0, .int .u64 0] 63)) :=
 ⟨hs.1.alloc hs.1.size _, _, rfl, hs.1.size, heap_alloc_new W _⟩
theorem iJ.zero {w0 W : World} {y : Jb} {k : Nat} (hs : iJ w0 y [.pointer (some ⟨k, 0, none⟩)] W) : W.heap[k]? = some (.cells (ah iA).toArray 63 (0, 0)) ∧ w0.heap.size ≤ k := by
 obtain ⟨_, k', e, h1, h2⟩ := hs
 injection e with e
 injection e with e
 injection e with e
 subst e
 exact ⟨h2, h1⟩
theorem iJ.store {w0 W : World} {y : Jb} {k : Nat} (hs : iJ w0 y [.pointer (some ⟨k, 0, none⟩)] W) : iJ w0 y ([.pointer (some ⟨k, 0, none⟩)] ++ [undef]) (W.setRow k (ah y).toArray) := by
 obtain ⟨hz, hk⟩ := hs.zero
 exact ⟨qp hs.1 hk _, k, rfl, hk, wK hz _⟩
theorem iJ.full {w0 W : World} {y : Jb} {k : Nat} {u : Value} (hs : iJ w0 y [.pointer (some ⟨k, 0, none⟩), u] W) : W.heap[k]? = some (.cells (ah y).toArray 63 (0, 0)) ∧ w0.heap.size ≤ k := by
 obtain ⟨_, k', e, h1, h2⟩ := hs
 injection e with e
 injection e with e
 injection e with e
 subst e
 exact ⟨h2, h1⟩
section
variable {w : World} {b c t d p g a : Nat} {v : Value} {m : Int} {P : Pg} {M : Md} {R : Wk}
theorem Ku (h : CW w c t d p v g a m P) (hk : PK P) (ha : a ≤ 1000) (lo hi : Int) (h0 : P.now ≤ lo) (hh : -9223372036854775808 ≤ hi ∧ hi ≤ 9223372036854775807) : Calls Tryz.prog 111 #[.pointer (some ⟨p, 0, none⟩), .int .i64 lo, .int .i64 hi] w fun e w' => ∃ r : Int, e = .returned (.int .i64 r) ∧ BL P.f lo hi r ∧ Below w.heap.size w w' := by
 obtain ⟨S, aJ, hp, hC, hl, _⟩ := h.kT
 have := Ci lo hi hh hC.sm hk.now.1 (by omega) hp
 rwa [Int.max_eq_left h0] at this
theorem Fw (h : CW w c t d p v g a m (aj M)) (hI : aF M) (h1 : 1 ≤ M.dr.length) (hll : M.L.length ≤ 900) (ha : a ≤ 800) (xi xt : Int) (hxt : -9223372036854775808 ≤ xt ∧ xt ≤ 9223372036854775807) (hc : M.cl = true) :
  Calls Tryz.prog 96 #[.pointer (some ⟨c, 0, none⟩), .agg #[.int .i64 xi, .int .i64 xt]] w fun e w' => e = .returned (.bool (fM M xi xt)) ∧ Below w.heap.size w w' := by
 have rF := Lib.hid (fA hI h1 hll)
 have zJ := bL
 have zS := kF
 obtain ⟨k, hk1⟩ : ∃ k, k = 10 := ⟨_, rfl⟩
 obtain ⟨k3, hk3⟩ : ∃ k, k = 3 := ⟨_, rfl⟩
 rw [← hk1] at zJ
 rw [← hk3] at zS
 have hk0 : ¬ k = 0 := by omega
 have yU : ¬ k3 = 0 := by omega
 replace hk1 := Lib.hid hk1
 replace hk3 := Lib.hid hk3
 obtain ⟨wA, aK⟩ : ∃ wA, wA = w.alloc (.cells #[.int .i64 xi, .int .i64 xt] 34) := ⟨_, rfl⟩
 have bR : Hid (Below w.heap.size w wA) := by show Below _ _ _; rw [aK]; exact (Below.refl _ _).alloc (Nat.le_refl _) _
 have vF : Hid (wA.heap[w.heap.size]? = some (.cells #[.int .i64 xi, .int .i64 xt] 34 (0, 0))) := by show _ = _; rw [aK]; exact heap_alloc_new w _
 have iZ := Lib.hid (h.kept bR.out)
 have hcl := fun (W : World) (hW : Below wA.heap.size wA W) => jv (iZ.out.kept hW)
 rw [show (aj M).cl = M.cl from rfl] at hcl
 have hnw := fun (W : World) (hW : Below wA.heap.size wA W) => gQ (iZ.out.kept hW)
 rw [show (aj M).now = M.now from rfl] at hnw
 rw [hc] at hcl
 have hres := QA hc xi xt
 rw [hres]
 replace hres := Lib.hid hres
 replace hc := Lib.hid hc
 clear h
 go_enter Tryz.func96, Tryz.ntmps96
 go_wp2_with fail
 rw [← aK]
 replace aK := Lib.hid aK
 refine Reg2.rd wA 10 76 [[],[ae],[ae,ae],[ae,ae,ae],[ae,ae,ae,ae],[ae,ae,ae,af,af],[ae,ae,ae,af,af,ae],[ae,ae,ae,af,af,ae,ae],[ae,ae,ae,af,af,ae,ae,ae],[ae,ae,ae,af,af,ae,ae,ae,ae]] [0, 1, 0, 0, 1, 0, 0, 0, 1, 1] [.pure, .mU (.bool true), .pure, .pure, .mU (.int .i64 xt), .pure, .pure, .pure, .mU (.pointer (some ⟨p, 0, none⟩)), .mU (.int .i64 M.now)] (by kernel_rfl) (by kernel_rfl) rfl rfl ⟨trivial, Reg2.tt, trivial, trivial, Reg2.tt, trivial, trivial, trivial, Reg2.tt, Reg2.tt, trivial⟩ ⟨rfl, rfl, rfl, Nat.le_refl _, fun _ _ => rfl⟩ ?_
 dsimp only [Reg2.mk, List.zip, List.zipWith, List.take]
 repeat (refine' Reg2.ai _ (by rfl) (fun wz => ?_) ?_; rotate_left; (go_simp; first | rfl | rw [if_neg (by omega)]); simp only [Act.put, xA, xB, xC]; (try simp only [xD]); (try simp only [xE]); (try simp only [id]))
 refine Reg2.pm (fun wz hI hF => ?_) (fun r1 => ?_) (by rfl)
 ·go_wp2_with (go_at_call 21; go_must (refine (hcl wz hI).mono ?_); rintro e w' ⟨rfl, rfl⟩)
  first | exact ⟨_, rfl, rfl, Reg2.Ext.refl _⟩ | exact ⟨_, rfl, ⟨(), rfl, trivial⟩, Reg2.Ext.refl _⟩
 simp only [Act.put, xA, xB, xC]; (try simp only [xD]); (try simp only [xE]); (try simp only [id])
 repeat (refine' Reg2.ai _ (by rfl) (fun wz => ?_) ?_; rotate_left; (go_simp; first | rfl | rw [if_neg (by omega)]); simp only [Act.put, xA, xB, xC]; (try simp only [xD]); (try simp only [xE]); (try simp only [id]))
 refine Reg2.dJ (by rfl) ?_
 simp only [Act.put, xA, xB, xC]; (try simp only [xD]); (try simp only [xE]); (try simp only [id])
 refine Reg2.cu (by rfl) ?_
 simp only [Act.put, xA, xB, xC]; (try simp only [xD]); (try simp only [xE]); (try simp only [id])
 refine Reg2.dJ (by rfl) ?_
 simp only [Act.put, xA, xB, xC]; (try simp only [xD]); (try simp only [xE]); (try simp only [id])
 refine Reg2.dJ (by rfl) ?_
 simp only [Act.put, xA, xB, xC]; (try simp only [xD]); (try simp only [xE]); (try simp only [id])
 refine Reg2.dJ (by rfl) ?_
 simp only [Act.put, xA, xB, xC]; (try simp only [xD]); (try simp only [xE]); (try simp only [id])
 refine Reg2.cu (by rfl) ?_
 simp only [Act.put, xA, xB, xC]; (try simp only [xD]); (try simp only [xE]); (try simp only [id])
 refine Reg2.cu (by rfl) ?_
 simp only [Act.put, xA, xB, xC]; (try simp only [xD]); (try simp only [xE]); (try simp only [id])
 refine Reg2.aC ?_
 intro w4 HI4 _ fG
 clear fG
 dsimp only [List.drop]
 go_wp2_with fail
 go_ret
 exact ⟨rfl, bR.out.trans (HI4.mono bR.out.size)⟩
theorem Kv (h : CW w c t d p v g a m (aj M)) (hI : aF M) (h1 : 1 ≤ M.dr.length) (hll : M.L.length ≤ 900) (ha : a ≤ 800) (xi xt : Int) (hxt : -9223372036854775808 ≤ xt ∧ xt ≤ 9223372036854775807) (hc : M.cl = false) :
  Calls Tryz.prog 96 #[.pointer (some ⟨c, 0, none⟩), .agg #[.int .i64 xi, .int .i64 xt]] w fun e w' => e = .returned (.bool (fM M xi xt)) ∧ Below w.heap.size w w' := by
 have rF := Lib.hid (fA hI h1 hll)
 have zJ := bL
 have zS := kF
 obtain ⟨k, hk1⟩ : ∃ k, k = 10 := ⟨_, rfl⟩
 obtain ⟨k3, hk3⟩ : ∃ k, k = 3 := ⟨_, rfl⟩
 rw [← hk1] at zJ
 rw [← hk3] at zS
 have hk0 : ¬ k = 0 := by omega
 have yU : ¬ k3 = 0 := by omega
 replace hk1 := Lib.hid hk1
 replace hk3 := Lib.hid hk3
 obtain ⟨wA, aK⟩ : ∃ wA, wA = w.alloc (.cells #[.int .i64 xi, .int .i64 xt] 34) := ⟨_, rfl⟩
 have bR : Hid (Below w.heap.size w wA) := by show Below _ _ _; rw [aK]; exact (Below.refl _ _).alloc (Nat.le_refl _) _
 have vF : Hid (wA.heap[w.heap.size]? = some (.cells #[.int .i64 xi, .int .i64 xt] 34 (0, 0))) := by show _ = _; rw [aK]; exact heap_alloc_new w _
 have iZ := Lib.hid (h.kept bR.out)
 have hcl := fun (W : World) (hW : Below wA.heap.size wA W) => jv (iZ.out.kept hW)
 rw [show (aj M).cl = M.cl from rfl] at hcl
 have hnw := fun (W : World) (hW : Below wA.heap.size wA W) => gQ (iZ.out.kept hW)
 rw [show (aj M).now = M.now from rfl] at hnw
 rw [hc] at hcl
 have his := fun (W : World) => RS xt W hxt
 have hget := Lib.hid (fun (W : World) (hW : Below wA.heap.size wA W) => gK (iZ.out.kept hW).dX xi)
 obtain ⟨rb, hrb⟩ : ∃ rb, rb = fM M xi xt := ⟨_, rfl⟩
 rw [← hrb]
 replace hrb := Lib.hid hrb
 replace hc := Lib.hid hc
 clear h
 go_enter Tryz.func96, Tryz.ntmps96
 go_wp2_with fail
 rw [← aK]
 replace aK := Lib.hid aK
 refine Reg2.rd wA 10 76 [[],[ae],[ae,ae],[ae,ae,ae],[ae,ae,ae,ae],[ae,ae,ae,af,af],[ae,ae,ae,af,af,ae],[ae,ae,ae,af,af,ae,ae],[ae,ae,ae,af,af,ae,ae,ae],[ae,ae,ae,af,af,ae,ae,ae,ae]] [0, 1, 0, 0, 1, 0, 0, 0, 1, 1] [.pure, .mU (.bool false), .pure, .pure, .mU (.int .i64 xt), .pure, .pure, .pure, .mU (.pointer (some ⟨p, 0, none⟩)), .mU (.int .i64 M.now)] (by kernel_rfl) (by kernel_rfl) rfl rfl ⟨trivial, Reg2.tt, trivial, trivial, Reg2.tt, trivial, trivial, trivial, Reg2.tt, Reg2.tt, trivial⟩ ⟨rfl, rfl, rfl, Nat.le_refl _, fun _ _ => rfl⟩ ?_
 dsimp only [Reg2.mk, List.zip, List.zipWith, List.take]
 repeat (refine' Reg2.ai _ (by rfl) (fun wz => ?_) ?_; rotate_left; (go_simp; first | rfl | rw [if_neg (by omega)]); simp only [Act.put, xA, xB, xC]; (try simp only [xD]); (try simp only [xE]); (try simp only [id]))
 refine Reg2.pm (fun wz hI hF => ?_) (fun r1 => ?_) (by rfl)
 ·go_wp2_with (go_at_call 21; go_must (refine (hcl wz hI).mono ?_); rintro e w' ⟨rfl, rfl⟩)
  first | exact ⟨_, rfl, rfl, Reg2.Ext.refl _⟩ | exact ⟨_, rfl, ⟨(), rfl, trivial⟩, Reg2.Ext.refl _⟩
 simp only [Act.put, xA, xB, xC]; (try simp only [xD]); (try simp only [xE]); (try simp only [id])
 repeat (refine' Reg2.ai _ (by rfl) (fun wz => ?_) ?_; rotate_left; (go_simp; first | rfl | rw [if_neg (by omega)]); simp only [Act.put, xA, xB, xC]; (try simp only [xD]); (try simp only [xE]); (try simp only [id]))
 refine Reg2.pm (fun wz hI hF => ?_) (fun r4 => ?_) (by rfl)
 ·have q0 : wz.cell? ⟨w.heap.size, 1, none⟩ = some (.int .i64 xt) := by simp [World.cell?, (hI.block _ (aG vF.out)).trans vF.out]
  go_wp2_with fail
  first | exact ⟨_, rfl, rfl, Reg2.Ext.refl _⟩ | exact ⟨_, rfl, ⟨(), rfl, trivial⟩, Reg2.Ext.refl _⟩
 simp only [Act.put, xA, xB, xC]; (try simp only [xD]); (try simp only [xE]); (try simp only [id])
 repeat (refine' Reg2.ai _ (by rfl) (fun wz => ?_) ?_; rotate_left; (go_simp; first | rfl | rw [if_neg (by omega)]); simp only [Act.put, xA, xB, xC]; (try simp only [xD]); (try simp only [xE]); (try simp only [id]))
 refine Reg2.pm (fun wz hI hF => ?_) (fun r8 => ?_) (by rfl)
 ·have c0 := (iZ.out.kept hI).c2
  go_wp2_with fail
  first | exact ⟨_, rfl, rfl, Reg2.Ext.refl _⟩ | exact ⟨_, rfl, ⟨(), rfl, trivial⟩, Reg2.Ext.refl _⟩
 simp only [Act.put, xA, xB, xC]; (try simp only [xD]); (try simp only [xE]); (try simp only [id])
 refine Reg2.pm (fun wz hI hF => ?_) (fun r9 => ?_) (by rfl)
 ·go_wp2_with (go_at_call 25; go_must (refine (hnw wz hI).mono ?_); rintro e w' ⟨rfl, rfl⟩)
  first | exact ⟨_, rfl, rfl, Reg2.Ext.refl _⟩ | exact ⟨_, rfl, ⟨(), rfl, trivial⟩, Reg2.Ext.refl _⟩
 simp only [Act.put, xA, xB, xC]; (try simp only [xD]); (try simp only [xE]); (try simp only [id])
 refine Reg2.aC ?_
 intro w4 HI4 _ fG
 clear fG
 dsimp only [List.drop]
 have hb4 := bR.out.trans (HI4.mono bR.out.size)
 have zq : w4.heap[w.heap.size]? = some (.cells #[.int .i64 xi, .int .i64 xt] 34 (0, 0)) := (HI4.block _ (aG vF.out)).trans vF.out
 have x1 : w4.cell? ⟨w.heap.size, 1, none⟩ = some (.int .i64 xt) := by simp [World.cell?, zq]
 by_cases hlow : xt < M.now
 ·have d1 : decide (xt < M.now) = true := decide_eq_true hlow
  have hfin : Hid (rb = false) := hrb.out.trans (NC hlow)
  replace hlow := Lib.hid hlow
  obtain rfl := hfin.out
  go_wp2_with fail
  go_ret
  exact ⟨rfl, hb4⟩
 have d1 : decide (xt < M.now) = false := decide_eq_false hlow
 by_cases hhi : 1099511627776 < xt
 ·have d2 : decide (0 ≤ xt ∧ xt ≤ 1099511627776) = false := decide_eq_false (by omega)
  rw [d2] at his
  have hfin : Hid (rb = false) := hrb.out.trans (Ko hhi)
  replace hhi := Lib.hid hhi
  obtain rfl := hfin.out
  go_wp2_with (go_at_call 109; go_must (refine (his _).mono ?_); rintro e w' ⟨rfl, rfl⟩)
  go_ret
  exact ⟨rfl, hb4⟩
 have d2 : decide (0 ≤ xt ∧ xt ≤ 1099511627776) = true := decide_eq_true (by have := hI.mb.now; omega)
 rw [d2] at his
 have x0 : w4.cell? ⟨w.heap.size, 0, none⟩ = some (.int .i64 xi) := by simp [World.cell?, zq]
 have c0 := (iZ.out.kept HI4).c0
 obtain ⟨y, hy⟩ : ∃ y, y = bM M.L xi := ⟨_, rfl⟩
 obtain ⟨e0, he0⟩ : ∃ e0, e0 = gP M.L xi := ⟨_, rfl⟩
 have hgo : Hid (∀ W, Below wA.heap.size wA W → Calls Tryz.prog 33 #[.pointer (some ⟨t, 0, none⟩), .int .i64 xi] W fun e w' => e = .returned (.tuple #[.agg (ah y).toArray, .int .i64 e0]) ∧ Gr W w') := fun W hW => by
  have := hget.out W hW
  unfold iF at this
  rw [show (aj M).J = M.L from rfl, ← hy, ← he0] at this
  exact this
 have lY := ax y
 rw [← hk1.out] at lY
 have y2 : (ah y)[2]? = some (.int .i64 y.wid) := rfl
 have y3 : (ah y)[3]? = some (.int .i64 y.lim) := rfl
 have y5 : (ah y)[5]? = some (.int .i64 y.st) := rfl
 have hpy : Hid (∀ W, y.aL ≤ 1099511627776 → 0 ≤ y.lim ∧ y.lim ≤ 1048576 → Calls Tryz.prog 110 #[.agg (ah y).toArray] W fun e w' => e = .returned (.tuple #[.agg (aN y).toArray, .bool (ak y)]) ∧ Below W.heap.size W w') := fun W a1 a2 => kU y a1 a2
 replace hy := Lib.hid hy
 replace he0 := Lib.hid he0
 have Lv := Lib.hid zq
 have oM := Lib.hid (iZ.out.kept HI4)
 clear zq hget x0 c0
 go_wp2_with (go_at_call 109; go_must (refine (his _).mono ?_); rintro e w' ⟨rfl, rfl⟩)
 go_wp2_with fail
 refine Reg2.qD 12 76 [[],[ae],[ae,ae],[ae,ae,ae],[af,af,af,af],[af,af,af,af,ae],[ae,ae,ae,ae,ae,ae],[ae,ae,ae,ae,ae,ae,ae],[ae,ae,ae,ae,ae,ae,ae,ae],[ae,ae,ae,ae,ae,ae,ae,ae,af],[af,af,af,af,af,af,af,af,af,af],[ae,ae,ae,ae,ae,ae,ae,ae,ae,af,ae]] [0, 0, 0, 1, 0, 1, 1, 0, 0, 0, 3, 3]
  [.pure, .pure, .pure, .mU (.pointer (some ⟨t, 0, none⟩)), .pure, .mU (.int .i64 xi), .mU (.tuple #[.agg (ah y).toArray, .int .i64 e0]), .pure, .pure, .pure, .major Nat 0 (fun k => .pointer (some ⟨k, 0, none⟩)), .major Unit () (fun _ => undef)]
  (fun W => Below w4.heap.size w4 W) (iJ w4 y) (fun a b => Below w4.heap.size a b) (by kernel_rfl) (by kernel_rfl) rfl rfl (fun vs a b h hs => iJ.ext h hs) ?_ ?_ ?_ ?_ ?_ ?_ ?_
 ·intro a b he hb; exact hb.trans (Below.mono he hb.size)
 ·intro a b he hb; exact hb.trans he
 ·exact ⟨trivial, trivial, trivial, ⟨fun _ _ _ _ _ => trivial, fun _ _ _ _ _ => trivial⟩, trivial, ⟨fun _ _ _ _ _ => trivial, fun _ _ _ _ _ => trivial⟩, ⟨fun _ _ _ _ _ => trivial, fun _ _ _ _ _ => trivial⟩, trivial, trivial, trivial, trivial, trivial, trivial⟩
 ·exact ⟨(fun h => nomatch h), (fun h => nomatch h), (fun h => nomatch h), (fun h => nomatch h), (fun h => nomatch h), (fun h => nomatch h), (fun h => nomatch h), (fun h => nomatch h), (fun h => nomatch h), (fun h => nomatch h), (fun h => nomatch h), (fun _ _ => rfl), trivial⟩
 ·exact ⟨rfl, rfl, rfl, Nat.le_refl _, fun _ _ => rfl⟩
 ·exact ⟨⟨rfl, rfl, rfl, Nat.le_refl _, fun _ _ => rfl⟩, trivial⟩
 dsimp only [Reg2.mk, List.zip, List.zipWith, List.take]
 repeat (refine' Reg2.ai _ (by rfl) (fun wz => ?_) ?_; rotate_left; (go_simp; first | rfl | rw [if_neg (by omega)]); simp only [Act.put, xA, xB, xC]; (try simp only [xD]); (try simp only [xE]); (try simp only [id]))
 refine Reg2.pm (fun wz hI hF => ?_) (fun r3 => ?_) (by rfl)
 ·have c0 := (oM.out.kept hI).c0
  go_wp2_with fail
  first | exact ⟨_, rfl, rfl, Reg2.Ext.refl _⟩ | exact ⟨_, rfl, ⟨(), rfl, trivial⟩, Reg2.Ext.refl _⟩
 simp only [Act.put, xA, xB, xC]; (try simp only [xD]); (try simp only [xE]); (try simp only [id])
 repeat (refine' Reg2.ai _ (by rfl) (fun wz => ?_) ?_; rotate_left; (go_simp; first | rfl | rw [if_neg (by omega)]); simp only [Act.put, xA, xB, xC]; (try simp only [xD]); (try simp only [xE]); (try simp only [id]))
 refine Reg2.pm (fun wz hI hF => ?_) (fun r5 => ?_) (by rfl)
 ·have q0 : wz.cell? ⟨w.heap.size, 0, none⟩ = some (.int .i64 xi) := by simp [World.cell?, (hI.block _ (aG Lv.out)).trans Lv.out]
  go_wp2_with fail
  first | exact ⟨_, rfl, rfl, Reg2.Ext.refl _⟩ | exact ⟨_, rfl, ⟨(), rfl, trivial⟩, Reg2.Ext.refl _⟩
 simp only [Act.put, xA, xB, xC]; (try simp only [xD]); (try simp only [xE]); (try simp only [id])
 refine Reg2.pm (fun wz hI hF => ?_) (fun r6 => ?_) (by rfl)
 ·go_wp2_with (go_at_call 33; go_must (refine (hgo.out wz (HI4.trans (hI.mono HI4.size))).mono ?_); rintro e w' ⟨rfl, hg5⟩; have hb5 := hg5.below)
  first | exact ⟨_, rfl, ⟨(), rfl, trivial⟩, hb5⟩ | exact ⟨_, rfl, rfl, hb5⟩
 simp only [Act.put, xA, xB, xC]; (try simp only [xD]); (try simp only [xE]); (try simp only [id])
 repeat (refine' Reg2.ai _ (by rfl) (fun wz => ?_) ?_; rotate_left; (go_simp; first | rfl | rw [if_neg (by omega)]); simp only [Act.put, xA, xB, xC]; (try simp only [xD]); (try simp only [xE]); (try simp only [id]))
 refine Reg2.pj (fun wz hI hS hF => ?_) (fun zn => ?_) (by rfl)
 ·go_wp2_with fail
  exact ⟨_, rfl, ⟨⟨_, rfl⟩, iJ.alloc hS⟩, (Below.refl _ _).alloc hI.size _⟩
 simp only [Act.put, xA, xB, xC]; (try simp only [xD]); (try simp only [xE]); (try simp only [id])
 refine Reg2.pj (fun wz hI hS hF => ?_) (fun Nh => ?_) (by rfl)
 ·obtain ⟨hz, hge⟩ := iJ.zero hS
  have zw := nS (x := y) hz
  have hfin := iJ.store hS
  have hbw : Below w4.heap.size wz (wz.setRow zn (ah y).toArray) := qp (Below.refl _ _) hge _
  generalize ah y = cY at *
  go_wp2_with fail
  exact ⟨_, rfl, ⟨⟨(), rfl⟩, hfin⟩, hbw⟩
 simp only [Act.put, xA, xB, xC]; (try simp only [xD]); (try simp only [xE]); (try simp only [id])
 refine Reg2.aC ?_
 intro w7 jZ rG kG
 clear kG
 dsimp only [List.drop]
 obtain ⟨zu, XG⟩ := iJ.full rG
 have kV := hb4.trans (jZ.mono hb4.size)
 have Ug := (jZ.block _ (aG Lv.out)).trans Lv.out
 have x1 : w7.cell? ⟨w.heap.size, 1, none⟩ = some (.int .i64 xt) := by simp [World.cell?, Ug]
 have b5 : w7.cell? ⟨zn, 5, none⟩ = some (.int .i64 y.st) := by simp [World.cell?, zu, y5]
 have b3 : w7.cell? ⟨zn, 3, none⟩ = some (.int .i64 y.lim) := by simp [World.cell?, zu, y3]
 have RU := fQ zu lY
 clear rG
 by_cases hne : e0 ≠ 0
 ·have d3 : (e0 != 0) = true := by simp [hne]
  have hfin : Hid (rb = false) := hrb.out.trans (Kq (by rw [← he0.out]; exact hne))
  obtain rfl := hfin.out
  replace hne := Lib.hid hne
  go_wp2_with fail
  go_ret
  exact ⟨rfl, kV⟩
 have he1 : e0 = 0 := by omega
 subst he1
 clear hne
 by_cases hst : y.st ≠ 1
 ·have d4 : (y.st != 1) = true := by simp [hst]
  have hfin : Hid (rb = false) := hrb.out.trans (Im he0.out.symm (by rw [← hy.out]; exact hst))
  obtain rfl := hfin.out
  replace hst := Lib.hid hst
  go_wp2_with fail
  go_ret
  exact ⟨rfl, kV⟩
 have hs1 : y.st = 1 := by omega
 have d4 : (y.st != 1) = false := by simp [hs1]
 clear hst
 have hym : y ∈ M.L := by
  obtain ⟨i, hi, _, h3, _⟩ := uw he0.out.symm
  rw [hy.out, h3]
  exact bA hi
 have VM := hI.mb.lim y hym
 have SI := hI.mb.aL y hym
 have hpl := hpy.out w7 SI.2 VM
 have lS : (aN y).length = 3 := by unfold aN; split <;> rfl
 have oS : ∀ u ∈ aN y, u.oneCell' = true := by unfold aN; split <;> (intro u hu; simp at hu; rcases hu with rfl | rfl | rfl <;> rfl)
 have SS : Hid (∀ W : World, Sem.run Tryz.prog (storeCells ⟨W.heap.size, 0, none⟩ (aN y) 0) (W.alloc (.cells #[.int .i64 0, .int .i64 0, .int .i64 0] 152)) = .ok () (W.alloc (.cells (aN y).toArray 152))) := fun W => dF W W.heap.size (aN y) [.int .i64 0, .int .i64 0, .int .i64 0] 152 rfl lS oS
 rw [← hk3.out] at lS
 have WX := hI.mb.now
 have WY : IntKind.i64.wrap (xt + y.lim) = xt + y.lim := by rw [IntKind.wrap_i64]; omega
 have hro := fun (mm : Int) (hl : ak y = true → xt < y.aL) (hB : BL (fun u => ay M u 0) xt (mZ y xt) mm) => Kt (id := xi) hI hc.out (by omega) (by omega) he0.out.symm (by rw [← hy.out]; exact hs1) (by rw [← hy.out]; exact hl) (by rw [← hy.out]; exact hB)
 rw [← hrb.out, ← hy.out] at hro
 have SK := Lib.hid (fun (W : World) (hW : Below wA.heap.size wA W) (hi : Int) (hh : -9223372036854775808 ≤ hi ∧ hi ≤ 9223372036854775807) => Ku (iZ.out.kept hW) rF.out (by omega) xt hi (by show M.now ≤ xt; omega) hh)
 have OH := hI.mb.wid y hym
 have hs0 : (aN y)[0]? = some (.int .i64 (if ak y = true then y.aL else 0)) := by unfold aN; split <;> rfl
 obtain ⟨yw, Kw⟩ : ∃ yw, yw = y.wid := ⟨_, rfl⟩
 rw [← Kw] at y2 hro
 obtain ⟨yl, hyl⟩ : ∃ yl, yl = y.lim := ⟨_, rfl⟩
 rw [← hyl] at b3 WY VM
 obtain ⟨yp, hyp⟩ : ∃ yp, yp = y.aL := ⟨_, rfl⟩
 rw [← hyp] at hro hs0 SI
 have hft : Hid (mZ y xt = if ak y = true then min (xt + yl) yp else xt + yl) := by show _ = _; unfold mZ; rw [hyl, hyp]
 replace Kw := Lib.hid Kw
 replace hyl := Lib.hid hyl
 replace hyp := Lib.hid hyp
 replace hro := Lib.hid hro
 replace hs1 := Lib.hid hs1
 have Io := Lib.hid zu
 have Lx := Lib.hid Ug
 clear zu Ug
 generalize kX : aN y = cS at *
 replace kX := Lib.hid kX
 generalize xK : ah y = cY at *
 replace xK := Lib.hid xK
 have hrs := aG Io.out
 cases hP : ak y with
 | false =>
  rw [hP] at hpl
  replace hP := Lib.hid hP
  go_wp2_with fail
  go_at_call 110
  refine hpl.mono ?_
  clear hpl RU b5 b3 x1
  rintro e w8 ⟨rfl, uE⟩
  have Uh := SS.out w8
  obtain ⟨w9, xG⟩ : ∃ w9, w9 = w8.alloc (.cells cS.toArray 152) := ⟨_, rfl⟩
  rw [← xG] at Uh
  have Fx : Below w7.heap.size w7 w9 := by rw [xG]; exact uE.alloc uE.size _
  have QB := Lib.hid ((Fx.block _ (aG Io.out)).trans Io.out)
  have ND := Lib.hid ((Fx.block _ (aG Lx.out)).trans Lx.out)
  have Ky := (HI4.trans (jZ.mono HI4.size)).trans (Fx.mono (HI4.trans (jZ.mono HI4.size)).size)
  have DK := kV.trans (Fx.mono kV.size)
  have Ie := Lib.hid (iZ.out.kept Ky)
  replace xG := Lib.hid xG
  go_wp2_with fail
  refine Reg2.rd w9 10 76 [[],[ae],[ae,ae],[ae,ae,ae],[af,af,af,af],[af,af,af,af,ae],[af,af,af,af,af,af],[ae,ae,ae,ae,ae,ae,ae],[af,af,af,af,af,af,af,af],[af,af,af,af,af,af,af,af,ae]] [0, 0, 0, 1, 0, 1, 0, 1, 0, 1] [.pure, .pure, .pure, .mU (.pointer (some ⟨p, 0, none⟩)), .pure, .mU (.int .i64 xt), .pure, .minor Int 0 (fun x => .int .i64 x) (fun x _ => BL (fun u => ay M u 0) xt (xt + yl) x), .pure, .mU (.int .i64 yw)] (by kernel_rfl) (by kernel_rfl) rfl rfl ⟨trivial, trivial, trivial, Reg2.tt, trivial, Reg2.tt, trivial, ⟨fun _ _ _ _ h => h, fun _ _ _ _ h => h⟩, trivial, Reg2.tt, trivial⟩ ⟨rfl, rfl, rfl, Nat.le_refl _, fun _ _ => rfl⟩ ?_
  dsimp only [Reg2.mk, List.zip, List.zipWith, List.take]
  repeat (refine' Reg2.ai _ (by rfl) (fun wz => ?_) ?_; rotate_left; (go_simp; first | rfl | rw [if_neg (by omega)]); simp only [Act.put, xA, xB, xC]; (try simp only [xD]); (try simp only [xE]); (try simp only [id]))
  refine Reg2.pm (fun wz hI hF => ?_) (fun r3 => ?_) (by rfl)
  ·have c0 := (Ie.out.kept hI).c2
   go_wp2_with fail
   first | exact ⟨_, rfl, rfl, Reg2.Ext.refl _⟩ | exact ⟨_, rfl, ⟨(), rfl, trivial⟩, Reg2.Ext.refl _⟩
  simp only [Act.put, xA, xB, xC]; (try simp only [xD]); (try simp only [xE]); (try simp only [id])
  repeat (refine' Reg2.ai _ (by rfl) (fun wz => ?_) ?_; rotate_left; (go_simp; first | rfl | rw [if_neg (by omega)]); simp only [Act.put, xA, xB, xC]; (try simp only [xD]); (try simp only [xE]); (try simp only [id]))
  refine Reg2.pm (fun wz hI hF => ?_) (fun r5 => ?_) (by rfl)
  ·have q0 : wz.cell? ⟨w.heap.size, 1, none⟩ = some (.int .i64 xt) := by simp [World.cell?, (hI.block _ (aG ND.out)).trans ND.out]
   go_wp2_with fail
   first | exact ⟨_, rfl, rfl, Reg2.Ext.refl _⟩ | exact ⟨_, rfl, ⟨(), rfl, trivial⟩, Reg2.Ext.refl _⟩
  simp only [Act.put, xA, xB, xC]; (try simp only [xD]); (try simp only [xE]); (try simp only [id])
  repeat (refine' Reg2.ai _ (by rfl) (fun wz => ?_) ?_; rotate_left; (go_simp; first | rfl | rw [if_neg (by omega)]); simp only [Act.put, xA, xB, xC]; (try simp only [xD]); (try simp only [xE]); (try simp only [id]))
  refine Reg2.pm (fun wz hI hF => ?_) (fun r7 => ?_) (by rfl)
  ·go_wp2_with (go_at_call 111; go_must (refine (SK.out wz (Ky.trans (hI.mono Ky.size)) (xt + yl) (by omega)).mono ?_); rintro e w' ⟨mm, rfl, hB, hb5⟩)
   exact ⟨_, rfl, ⟨mm, rfl, hB⟩, hb5⟩
  simp only [Act.put, xA, xB, xC]; (try simp only [xD]); (try simp only [xE]); (try simp only [id])
  repeat (refine' Reg2.ai _ (by rfl) (fun wz => ?_) ?_; rotate_left; (go_simp; first | rfl | rw [if_neg (by omega)]); simp only [Act.put, xA, xB, xC]; (try simp only [xD]); (try simp only [xE]); (try simp only [id]))
  refine Reg2.pm (fun wz hI hF => ?_) (fun r9 => ?_) (by rfl)
  ·have q0 : wz.cell? ⟨zn, 2, none⟩ = some (.int .i64 yw) := by simp [World.cell?, (hI.block _ (aG QB.out)).trans QB.out, y2]
   go_wp2_with fail
   first | exact ⟨_, rfl, rfl, Reg2.Ext.refl _⟩ | exact ⟨_, rfl, ⟨(), rfl, trivial⟩, Reg2.Ext.refl _⟩
  simp only [Act.put, xA, xB, xC]; (try simp only [xD]); (try simp only [xE]); (try simp only [id])
  refine Reg2.aC ?_
  intro WZ QC _ Ip
  have hB := Ip.2.2.2.2.2.2.2.1
  clear Ip
  dsimp only [List.drop]
  have hfin := hro.out r7 (fun hp => by rw [hP.out] at hp; cases hp) (by rw [hft.out, hP.out, if_neg (by decide)]; exact hB)
  have Ui : Hid (rb = decide (r7 ≥ yw)) := by show _ = _; rw [hfin]
  obtain rfl := Ui.out
  go_wp2_with fail
  go_ret
  exact ⟨rfl, DK.trans (QC.mono DK.size)⟩
 | true =>
  rw [hP] at hpl
  have Xa := (bC.1 hP).2
  rw [← hyp.out] at Xa
  have VN : Hid (cS[0]? = some (.int .i64 yp)) := by show _ = _; rw [hs0, if_pos hP]
  replace hP := Lib.hid hP
  replace hs0 := Lib.hid hs0
  go_wp2_with fail
  go_at_call 110
  refine hpl.mono ?_
  clear hpl RU b5 b3 x1
  rintro e w8 ⟨rfl, uE⟩
  have Uh := SS.out w8
  obtain ⟨w9, xG⟩ : ∃ w9, w9 = w8.alloc (.cells cS.toArray 152) := ⟨_, rfl⟩
  have hzs : w9.heap[w8.heap.size]? = some (.cells cS.toArray 152 (0, 0)) := by rw [xG]; exact heap_alloc_new w8 _
  rw [← xG] at Uh
  have Fx : Below w7.heap.size w7 w9 := by rw [xG]; exact uE.alloc uE.size _
  have QB := Lib.hid ((Fx.block _ (aG Io.out)).trans Io.out)
  have ND := Lib.hid ((Fx.block _ (aG Lx.out)).trans Lx.out)
  have Ky := (HI4.trans (jZ.mono HI4.size)).trans (Fx.mono (HI4.trans (jZ.mono HI4.size)).size)
  have DK := kV.trans (Fx.mono kV.size)
  have Ie := Lib.hid (iZ.out.kept Ky)
  have cs0 : w9.cell? ⟨w8.heap.size, 0, none⟩ = some (.int .i64 yp) := by simp [World.cell?, hzs, VN.out]
  have Yj : w9.cell? ⟨w.heap.size, 1, none⟩ = some (.int .i64 xt) := by simp [World.cell?, ND.out]
  replace hzs := Lib.hid hzs
  replace xG := Lib.hid xG
  by_cases hlt : yp ≤ xt
  ·have d5 : decide (xt ≥ yp) = true := decide_eq_true hlt
   have hfin : Hid (rb = false) := hrb.out.trans (Kr he0.out.symm (by rw [← hy.out]; exact hP.out) (by rw [← hy.out, ← hyp.out]; exact hlt))
   obtain rfl := hfin.out
   replace hlt := Lib.hid hlt
   go_wp2_with fail
   go_ret
   exact ⟨rfl, DK⟩
  ·have d5 : decide (xt ≥ yp) = false := decide_eq_false hlt
   go_wp2_with fail
   refine Reg2.rd w9 10 76 [[],[ae],[ae,ae],[ae,ae,ae],[af,af,af,af],[af,af,af,af,ae],[af,af,af,af,af,af],[ae,ae,ae,ae,ae,ae,ae],[af,af,af,af,af,af,af,af],[af,af,af,af,af,af,af,af,ae]] [0, 0, 0, 1, 0, 1, 0, 1, 0, 1] [.pure, .pure, .pure, .mU (.pointer (some ⟨p, 0, none⟩)), .pure, .mU (.int .i64 xt), .pure, .minor Int 0 (fun x => .int .i64 x) (fun x _ => BL (fun u => ay M u 0) xt (min (xt + yl) yp) x), .pure, .mU (.int .i64 yw)] (by kernel_rfl) (by kernel_rfl) rfl rfl ⟨trivial, trivial, trivial, Reg2.tt, trivial, Reg2.tt, trivial, ⟨fun _ _ _ _ h => h, fun _ _ _ _ h => h⟩, trivial, Reg2.tt, trivial⟩ ⟨rfl, rfl, rfl, Nat.le_refl _, fun _ _ => rfl⟩ ?_
   dsimp only [Reg2.mk, List.zip, List.zipWith, List.take]
   repeat (refine' Reg2.ai _ (by rfl) (fun wz => ?_) ?_; rotate_left; (go_simp; first | rfl | rw [if_neg (by omega)]); simp only [Act.put, xA, xB, xC]; (try simp only [xD]); (try simp only [xE]); (try simp only [id]))
   refine Reg2.pm (fun wz hI hF => ?_) (fun r3 => ?_) (by rfl)
   ·have c0 := (Ie.out.kept hI).c2
    go_wp2_with fail
    first | exact ⟨_, rfl, rfl, Reg2.Ext.refl _⟩ | exact ⟨_, rfl, ⟨(), rfl, trivial⟩, Reg2.Ext.refl _⟩
   simp only [Act.put, xA, xB, xC]; (try simp only [xD]); (try simp only [xE]); (try simp only [id])
   repeat (refine' Reg2.ai _ (by rfl) (fun wz => ?_) ?_; rotate_left; (go_simp; first | rfl | rw [if_neg (by omega)]); simp only [Act.put, xA, xB, xC]; (try simp only [xD]); (try simp only [xE]); (try simp only [id]))
   refine Reg2.pm (fun wz hI hF => ?_) (fun r5 => ?_) (by rfl)
   ·have q0 : wz.cell? ⟨w.heap.size, 1, none⟩ = some (.int .i64 xt) := by simp [World.cell?, (hI.block _ (aG ND.out)).trans ND.out]
    go_wp2_with fail
    first | exact ⟨_, rfl, rfl, Reg2.Ext.refl _⟩ | exact ⟨_, rfl, ⟨(), rfl, trivial⟩, Reg2.Ext.refl _⟩
   simp only [Act.put, xA, xB, xC]; (try simp only [xD]); (try simp only [xE]); (try simp only [id])
   repeat (refine' Reg2.ai _ (by rfl) (fun wz => ?_) ?_; rotate_left; (go_simp; first | rfl | rw [if_neg (by omega)]); simp only [Act.put, xA, xB, xC]; (try simp only [xD]); (try simp only [xE]); (try simp only [id]))
   refine Reg2.pm (fun wz hI hF => ?_) (fun r7 => ?_) (by rfl)
   ·go_wp2_with (go_at_call 111; go_must (refine (SK.out wz (Ky.trans (hI.mono Ky.size)) (min (xt + yl) yp) (by omega)).mono ?_); rintro e w' ⟨mm, rfl, hB, hb5⟩)
    exact ⟨_, rfl, ⟨mm, rfl, hB⟩, hb5⟩
   simp only [Act.put, xA, xB, xC]; (try simp only [xD]); (try simp only [xE]); (try simp only [id])
   repeat (refine' Reg2.ai _ (by rfl) (fun wz => ?_) ?_; rotate_left; (go_simp; first | rfl | rw [if_neg (by omega)]); simp only [Act.put, xA, xB, xC]; (try simp only [xD]); (try simp only [xE]); (try simp only [id]))
   refine Reg2.pm (fun wz hI hF => ?_) (fun r9 => ?_) (by rfl)
   ·have q0 : wz.cell? ⟨zn, 2, none⟩ = some (.int .i64 yw) := by simp [World.cell?, (hI.block _ (aG QB.out)).trans QB.out, y2]
    go_wp2_with fail
    first | exact ⟨_, rfl, rfl, Reg2.Ext.refl _⟩ | exact ⟨_, rfl, ⟨(), rfl, trivial⟩, Reg2.Ext.refl _⟩
   simp only [Act.put, xA, xB, xC]; (try simp only [xD]); (try simp only [xE]); (try simp only [id])
   refine Reg2.aC ?_
   intro WZ QC _ Ip
   have hB := Ip.2.2.2.2.2.2.2.1
   clear Ip
   dsimp only [List.drop]
   have hfin := hro.out r7 (fun _ => by omega) (by rw [hft.out, hP.out, if_pos rfl]; exact hB)
   have Ui : Hid (rb = decide (r7 ≥ yw)) := by show _ = _; rw [hfin]
   obtain rfl := Ui.out
   go_wp2_with fail
   go_ret
   exact ⟨rfl, DK.trans (QC.mono DK.size)⟩
theorem DL (h : CW w c t d p v g a m (aj M)) (hI : aF M) (h1 : 1 ≤ M.dr.length) (hll : M.L.length ≤ 900) (ha : a ≤ 800) (xi xt : Int) (hxt : -9223372036854775808 ≤ xt ∧ xt ≤ 9223372036854775807) :
  Calls Tryz.prog 96 #[.pointer (some ⟨c, 0, none⟩), .agg #[.int .i64 xi, .int .i64 xt]] w fun e w' => e = .returned (.bool (fM M xi xt)) ∧ Below w.heap.size w w' := by
 cases hc : M.cl with
 | true => exact Fw h hI h1 hll ha xi xt hxt hc
 | false => exact Kv h hI h1 hll ha xi xt hxt hc
end
end Go.Proofs.YtnihdgcfamoplaaGreat

namespace Go.Proofs.YtnihdgcfamoplaaGreat
open Go.RowKit Go.Lib Go.Sort
section
variable {w : World} {b c t d p g a : Nat} {v : Value} {m : Int} {P : Pg} {M : Md} {R : Wk}
theorem Iq (h : SW w b c t d p v g a m R P) (hk : PK P) (ha : a ≤ 800) (hm : m ≤ 1000000) (hP : ak R.aD = true) (hb1 : R.aD.aL ≤ 1099511627776) (hb2 : 0 ≤ R.aD.lim ∧ R.aD.lim ≤ 1048576) (hb3 : 1 ≤ R.aD.lim) (hb4 : 0 ≤ R.aD.wid ∧ R.aD.wid ≤ 64) (F : Int → Int)
  (hF : ∀ t, P.now ≤ t → F t = P.f t + had (max R.aD.aL P.now) (R.aD.aL + R.aD.lim) R.aD.wid t) (hr : ∀ t, P.now ≤ t → 0 ≤ F t ∧ F t ≤ 64) :
  Calls Tryz.prog 97 #[.pointer (some ⟨b, 0, none⟩), .pointer (some ⟨c, 0, none⟩)] w (au w b c t d p v g (a + 2) (m + 1) (fP 113) R { P with f := F }) := by
 have zJ := bL
 have zS := kF
 obtain ⟨k, hk1⟩ : ∃ k, k = 10 := ⟨_, rfl⟩
 obtain ⟨k3, hk3⟩ : ∃ k, k = 3 := ⟨_, rfl⟩
 rw [← hk1] at zJ
 rw [← hk3] at zS
 have hk0 : ¬ k = 0 := by omega
 have yU : ¬ k3 = 0 := by omega
 have lJ := ax R.aD
 rw [← hk1] at lJ
 replace hk1 := Lib.hid hk1
 have hS := Lib.hid h
 have qw := h.wk.mV lJ
 have hpl := kU (w := w) R.aD hb1 hb2
 have lS : (aN R.aD).length = 3 := by unfold aN; split <;> rfl
 have oS : ∀ u ∈ aN R.aD, u.oneCell' = true := by unfold aN; split <;> (intro u hu; simp at hu; rcases hu with rfl | rfl | rfl <;> rfl)
 have ST : Hid (∀ W : World, Sem.run Tryz.prog (storeCells ⟨W.heap.size, 0, none⟩ (aN R.aD) 0) (W.alloc (.cells #[.int .i64 0, .int .i64 0, .int .i64 0] 152)) = .ok () (W.alloc (.cells (aN R.aD).toArray 152))) := fun W => dF W W.heap.size (aN R.aD) [.int .i64 0, .int .i64 0, .int .i64 0] 152 rfl lS oS
 rw [← hk3] at lS
 replace hk3 := Lib.hid hk3
 generalize kX : aN R.aD = cS at *
 replace kX := Lib.hid kX
 generalize ah R.aD = cJ at *
 clear h
 have lX : cS = [.int .i64 R.aD.aL, .int .i64 (R.aD.aL + R.aD.lim), .int .i64 R.aD.wid] := by rw [← kX.out]; unfold aN; rw [if_pos hP]
 rw [hP] at hpl
 replace hP := Lib.hid hP
 replace lX := Lib.hid lX
 go_enter Tryz.func97, Tryz.ntmps97
 go_wp2_with fail
 go_at_call 110
 refine hpl.mono ?_
 clear hpl qw
 rintro e w1 ⟨rfl, hb⟩
 have st1 := ST.out w1
 obtain ⟨w2, hw2⟩ : ∃ w2, w2 = w1.alloc (.cells cS.toArray 152) := ⟨_, rfl⟩
 rw [← hw2] at st1
 have hb2' : Below w.heap.size w w2 := by rw [hw2]; exact hb.alloc hb.size _
 have hy2 : Hid (w2.heap[w1.heap.size]? = some (.cells cS.toArray 152 (0, 0))) := by show _ = _; rw [hw2]; exact heap_alloc_new w1 _
 have hs2 : w2.heap.size = w1.heap.size + 1 := by rw [hw2]; simp
 replace hw2 := Lib.hid hw2
 have hS2 := Lib.hid (hS.out.kept hb2')
 go_wp2_with fail
 refine Reg2.rd w2 5 22 [[],[ae],[ae,ae],[ae,ae,ae],[af,af,af,af]] [0, 0, 0, 1, 1] [.pure, .pure, .pure, .mU (.pointer (some ⟨p, 0, none⟩)), .mU (.agg cS.toArray)] (by kernel_rfl) (by kernel_rfl) rfl rfl ⟨trivial, trivial, trivial, Reg2.tt, Reg2.tt, trivial⟩ ⟨rfl, rfl, rfl, Nat.le_refl _, fun _ _ => rfl⟩ ?_
 dsimp only [Reg2.mk, List.zip, List.zipWith, List.take]
 repeat (refine' Reg2.ai _ (by rfl) (fun wz => ?_) ?_; rotate_left; (go_simp; first | rfl | rw [if_neg (by omega)]); simp only [Act.put, xA, xB, xC]; (try simp only [xD]); (try simp only [xE]); (try simp only [id]))
 refine Reg2.pm (fun wz hI hF => ?_) (fun r3 => ?_) (by rfl)
 ·have c0 := (hS2.out.cw.kept hI).c2
  go_wp2_with fail
  first | exact ⟨_, rfl, rfl, Reg2.Ext.refl _⟩ | exact ⟨_, rfl, ⟨(), rfl, trivial⟩, Reg2.Ext.refl _⟩
 simp only [Act.put, xA, xB, xC]; (try simp only [xD]); (try simp only [xE]); (try simp only [id])
 refine Reg2.pm (fun wz hI hF => ?_) (fun r4 => ?_) (by rfl)
 ·have d0 := fQ ((hI.block _ (aG hy2.out)).trans hy2.out) lS
  go_wp2_with fail
  first | exact ⟨_, rfl, rfl, Reg2.Ext.refl _⟩ | exact ⟨_, rfl, ⟨(), rfl, trivial⟩, Reg2.Ext.refl _⟩
 simp only [Act.put, xA, xB, xC]; (try simp only [xD]); (try simp only [xE]); (try simp only [id])
 refine Reg2.aC ?_
 intro w4 HI4 _ fG
 clear fG
 dsimp only [List.drop]
 have bN := hS2.out.kept HI4
 have hrel := sO bN.cw hk ha hm R.aD.aL (R.aD.aL + R.aD.lim) R.aD.wid F (by omega) (by omega) hb4 hF hr
 have Ia := lX.out
 clear kX lX
 subst Ia
 go_wp2_with fail
 go_at_call 112
 refine hrel.mono ?_
 clear hrel
 rintro e w5 ⟨rfl, v5, g5, gL, hS5⟩
 have dR := bN.core gL hS5
 have hfin := (WS.of_below (hb2'.trans (HI4.mono hb2'.size)) : WS w w4 b c t d p v g v g).trans (WS.dE hS5)
 go_wp2_with fail
 go_ret
 exact ⟨rfl, v5, g5, dR, hfin⟩
theorem Ir (h : SW w b c t d p v g a m R P) (hP : ak R.aD = false) (hb1 : R.aD.aL ≤ 1099511627776) (hb2 : 0 ≤ R.aD.lim ∧ R.aD.lim ≤ 1048576) :
  Calls Tryz.prog 97 #[.pointer (some ⟨b, 0, none⟩), .pointer (some ⟨c, 0, none⟩)] w (au w b c t d p v g a m (fP 113) R P) := by
 have zJ := bL
 have zS := kF
 obtain ⟨k, hk1⟩ : ∃ k, k = 10 := ⟨_, rfl⟩
 obtain ⟨k3, hk3⟩ : ∃ k, k = 3 := ⟨_, rfl⟩
 rw [← hk1] at zJ
 rw [← hk3] at zS
 have hk0 : ¬ k = 0 := by omega
 have yU : ¬ k3 = 0 := by omega
 have lJ := ax R.aD
 rw [← hk1] at lJ
 replace hk1 := Lib.hid hk1
 have hS := Lib.hid h
 have qw := h.wk.mV lJ
 have hpl := kU (w := w) R.aD hb1 hb2
 have lS : (aN R.aD).length = 3 := by unfold aN; split <;> rfl
 have oS : ∀ u ∈ aN R.aD, u.oneCell' = true := by unfold aN; split <;> (intro u hu; simp at hu; rcases hu with rfl | rfl | rfl <;> rfl)
 have ST : Hid (∀ W : World, Sem.run Tryz.prog (storeCells ⟨W.heap.size, 0, none⟩ (aN R.aD) 0) (W.alloc (.cells #[.int .i64 0, .int .i64 0, .int .i64 0] 152)) = .ok () (W.alloc (.cells (aN R.aD).toArray 152))) := fun W => dF W W.heap.size (aN R.aD) [.int .i64 0, .int .i64 0, .int .i64 0] 152 rfl lS oS
 rw [← hk3] at lS
 replace hk3 := Lib.hid hk3
 generalize kX : aN R.aD = cS at *
 replace kX := Lib.hid kX
 generalize ah R.aD = cJ at *
 clear h
 rw [hP] at hpl
 go_enter Tryz.func97, Tryz.ntmps97
 go_wp2_with fail
 go_at_call 110
 refine hpl.mono ?_
 clear hpl qw
 rintro e w1 ⟨rfl, hb⟩
 have st1 := ST.out w1
 obtain ⟨w2, hw2⟩ : ∃ w2, w2 = w1.alloc (.cells cS.toArray 152) := ⟨_, rfl⟩
 rw [← hw2] at st1
 have hb2' : Below w.heap.size w w2 := by rw [hw2]; exact hb.alloc hb.size _
 have hy2 : Hid (w2.heap[w1.heap.size]? = some (.cells cS.toArray 152 (0, 0))) := by show _ = _; rw [hw2]; exact heap_alloc_new w1 _
 have hs2 : w2.heap.size = w1.heap.size + 1 := by rw [hw2]; simp
 replace hw2 := Lib.hid hw2
 have hS2 := Lib.hid (hS.out.kept hb2')
 go_wp2_with fail
 go_ret
 exact ⟨rfl, v, g, hS2.out, WS.of_below hb2'⟩
theorem NF (h : SW w b c t d p v g a m R P) (hk : PK P) (ha : a ≤ 800) (hm : m ≤ 1000000) (hst : R.aD.st = 1) (hx : 0 ≤ R.dS ∧ R.dS ≤ 1099511627776) (hb2 : 1 ≤ R.aD.lim ∧ R.aD.lim ≤ 1048576) (hb4 : 0 ≤ R.aD.wid ∧ R.aD.wid ≤ 64) (F : Int → Int)
  (hF : ∀ t, P.now ≤ t → F t = P.f t + had (max R.dS P.now) (R.dS + R.aD.lim) (-R.aD.wid) t) (hr : ∀ t, P.now ≤ t → 0 ≤ F t ∧ F t ≤ 64) :
  Calls Tryz.prog 113 #[.pointer (some ⟨b, 0, none⟩), .pointer (some ⟨c, 0, none⟩)] w (au w b c t d p v g (a + 2) (m + 1) (fP 133) { R with aD := R.aD.aH R.dS } { P with f := F }) := by
 have zJ := bL
 have zS := kF
 obtain ⟨k, hk1⟩ : ∃ k, k = 10 := ⟨_, rfl⟩
 obtain ⟨k3, hk3⟩ : ∃ k, k = 3 := ⟨_, rfl⟩
 rw [← hk1] at zJ
 rw [← hk3] at zS
 have hk0 : ¬ k = 0 := by omega
 have yU : ¬ k3 = 0 := by omega
 have JO := h.wk.at 10 (.int .i64 R.dS) rfl
 have c20 := h.wk.at 20 (.int .i64 R.aD.aL) rfl
 have f20 := h.wk.free 20
 have hW1 := h.wk.plan R.dS
 have hS1 := h.work hW1 (dB w 20 (.int .i64 R.dS))
 have hf1 : WS w (w.setCell ⟨b, 20, none⟩ (.int .i64 R.dS)) b c t d p v g v g := WS.bH (dB w 20 (.int .i64 R.dS))
 obtain ⟨y, hy⟩ : ∃ y, y = R.aD.aH R.dS := ⟨_, rfl⟩
 have hyp : y.aL = R.dS := by rw [hy]; rfl
 have hyl : y.lim = R.aD.lim := by rw [hy]; rfl
 have Kw : y.wid = R.aD.wid := by rw [hy]; rfl
 have hP : ak y = true := bC.2 ⟨by rw [hy]; exact hst, by rw [hyp]; exact hx.1⟩
 rw [← hy] at hS1 hW1 ⊢
 replace hy := Lib.hid hy
 have lJ := ax y
 rw [← hk1] at lJ
 replace hk1 := Lib.hid hk1
 have qw := hW1.mV (R := { R with aD := y }) lJ
 rw [show ({ R with aD := y } : Wk).aD = y from rfl] at qw
 have hpl := kU (w := w.setCell ⟨b, 20, none⟩ (.int .i64 R.dS)) y (by rw [hyp]; exact hx.2) (by rw [hyl]; omega)
 have lX : aN y = [.int .i64 R.dS, .int .i64 (R.dS + R.aD.lim), .int .i64 R.aD.wid] := by unfold aN; rw [if_pos hP, hyp, hyl, Kw]
 rw [hP] at hpl
 have lS : (aN y).length = 3 := by rw [lX]; rfl
 have oS : ∀ u ∈ aN y, u.oneCell' = true := by rw [lX]; intro u hu; simp at hu; rcases hu with rfl | rfl | rfl <;> rfl
 have ST : Hid (∀ W : World, Sem.run Tryz.prog (storeCells ⟨W.heap.size, 0, none⟩ (aN y) 0) (W.alloc (.cells #[.int .i64 0, .int .i64 0, .int .i64 0] 152)) = .ok () (W.alloc (.cells (aN y).toArray 152))) := fun W => dF W W.heap.size (aN y) [.int .i64 0, .int .i64 0, .int .i64 0] 152 rfl lS oS
 rw [← hk3] at lS
 replace hk3 := Lib.hid hk3
 generalize kX : aN y = cS at *
 replace kX := Lib.hid kX
 generalize ah y = cJ at *
 replace lX := Lib.hid lX
 replace hP := Lib.hid hP
 replace hyp := Lib.hid hyp
 replace hyl := Lib.hid hyl
 replace Kw := Lib.hid Kw
 clear h
 generalize R.dS = xa at *
 go_enter Tryz.func113, Tryz.ntmps113
 go_wp2_with fail
 go_at_call 110
 refine hpl.mono ?_
 clear hpl qw JO c20 f20
 rintro e w1 ⟨rfl, hb⟩
 have st1 := ST.out w1
 obtain ⟨w2, hw2⟩ : ∃ w2, w2 = w1.alloc (.cells cS.toArray 152) := ⟨_, rfl⟩
 rw [← hw2] at st1
 have hb2' : Below (w.setCell ⟨b, 20, none⟩ (.int .i64 xa)).heap.size (w.setCell ⟨b, 20, none⟩ (.int .i64 xa)) w2 := by rw [hw2]; exact hb.alloc hb.size _
 have hy2 : Hid (w2.heap[w1.heap.size]? = some (.cells cS.toArray 152 (0, 0))) := by show _ = _; rw [hw2]; exact heap_alloc_new w1 _
 replace hw2 := Lib.hid hw2
 have hS2 := Lib.hid (hS1.kept hb2')
 have hf2 := hf1.trans (WS.of_below hb2')
 go_wp2_with fail
 refine Reg2.rd w2 5 31 [[],[ae],[ae,ae],[ae,ae,ae],[af,af,af,af]] [0, 0, 0, 1, 1] [.pure, .pure, .pure, .mU (.pointer (some ⟨p, 0, none⟩)), .mU (.agg cS.toArray)] (by kernel_rfl) (by kernel_rfl) rfl rfl ⟨trivial, trivial, trivial, Reg2.tt, Reg2.tt, trivial⟩ ⟨rfl, rfl, rfl, Nat.le_refl _, fun _ _ => rfl⟩ ?_
 dsimp only [Reg2.mk, List.zip, List.zipWith, List.take]
 repeat (refine' Reg2.ai _ (by rfl) (fun wz => ?_) ?_; rotate_left; (go_simp; first | rfl | rw [if_neg (by omega)]); simp only [Act.put, xA, xB, xC]; (try simp only [xD]); (try simp only [xE]); (try simp only [id]))
 refine Reg2.pm (fun wz hI hF => ?_) (fun r3 => ?_) (by rfl)
 ·have c0 := (hS2.out.cw.kept hI).c2
  go_wp2_with fail
  first | exact ⟨_, rfl, rfl, Reg2.Ext.refl _⟩ | exact ⟨_, rfl, ⟨(), rfl, trivial⟩, Reg2.Ext.refl _⟩
 simp only [Act.put, xA, xB, xC]; (try simp only [xD]); (try simp only [xE]); (try simp only [id])
 refine Reg2.pm (fun wz hI hF => ?_) (fun r4 => ?_) (by rfl)
 ·have d0 := fQ ((hI.block _ (aG hy2.out)).trans hy2.out) lS
  go_wp2_with fail
  first | exact ⟨_, rfl, rfl, Reg2.Ext.refl _⟩ | exact ⟨_, rfl, ⟨(), rfl, trivial⟩, Reg2.Ext.refl _⟩
 simp only [Act.put, xA, xB, xC]; (try simp only [xD]); (try simp only [xE]); (try simp only [id])
 refine Reg2.aC ?_
 intro w4 HI4 _ fG
 clear fG
 dsimp only [List.drop]
 have bN := hS2.out.kept HI4
 have hrel := Hf bN.cw hk ha hm xa (xa + R.aD.lim) R.aD.wid F (by omega) (by omega) hb4 hF hr
 have Ia := lX.out
 clear kX lX
 subst Ia
 go_wp2_with fail
 go_at_call 132
 refine hrel.mono ?_
 clear hrel
 rintro e w5 ⟨rfl, v5, g5, gL, hS5⟩
 have dR := bN.core gL hS5
 have hfin := (hf2.trans (WS.of_below HI4)).trans (WS.dE hS5)
 go_wp2_with fail
 go_ret
 exact ⟨rfl, v5, g5, dR, hfin⟩
theorem Iu (h : SW w b c t d p v g a m R P) (hk : PK P) (hx : R.dS = P.now) (hj : -9223372036854775808 ≤ R.aD.wid ∧ R.aD.wid ≤ 9223372036854775807) {s : Nat} {T0 : List Int} (hT0 : pM P.T R.aD.wid s 0 T0) :
  Calls Tryz.prog 133 #[.pointer (some ⟨b, 0, none⟩), .pointer (some ⟨c, 0, none⟩)] w (au w b c t d p v g a m .nilFunc R { P with T := T0, J := df P.J (gG P.now) R.aD.id (fun j : Jb => decide (j.state = 1)) (lF P.now s) }) := by
 have zJ := bL
 obtain ⟨k, hk1⟩ : ∃ k, k = 10 := ⟨_, rfl⟩
 rw [← hk1] at zJ
 have hk0 : ¬ k = 0 := by omega
 have lJ := ax R.aD
 rw [← hk1] at lJ
 replace hk1 := Lib.hid hk1
 have d1 : (R.dS == P.now) = true := by simp [hx]
 have TT := fun (W : World) (hW : SW W b c t d p v g a m R P) => hW.wk.mV lJ
 have hla := fun (W : World) (hW : SW W b c t d p v g a m R P) => launch_fn hW.cw hk R.aD hj hT0
 have hS := Lib.hid h
 replace hx := Lib.hid hx
 generalize ah R.aD = cJ at *
 clear h
 go_enter Tryz.func133, Tryz.ntmps133
 go_wp2_with fail
 refine Reg2.rd w 10 37 [[],[ae],[ae,ae],[ae,ae,ae],[ae,ae,ae,ae],[af,af,af,af,af],[af,af,af,af,af,ae],[af,af,af,af,af,ae,ae],[af,af,af,af,af,ae,ae,ae],[af,af,af,af,af,ae,ae,ae,ae]] [0, 0, 0, 0, 1, 0, 0, 0, 1, 1] [.pure, .pure, .pure, .pure, .mU (.int .i64 R.dS), .pure, .pure, .pure, .mU (.pointer (some ⟨p, 0, none⟩)), .mU (.int .i64 P.now)] (by kernel_rfl) (by kernel_rfl) rfl rfl ⟨trivial, trivial, trivial, trivial, Reg2.tt, trivial, trivial, trivial, Reg2.tt, Reg2.tt, trivial⟩ ⟨rfl, rfl, rfl, Nat.le_refl _, fun _ _ => rfl⟩ ?_
 dsimp only [Reg2.mk, List.zip, List.zipWith, List.take]
 repeat (refine' Reg2.ai _ (by rfl) (fun wz => ?_) ?_; rotate_left; (go_simp; first | rfl | rw [if_neg (by omega)]); simp only [Act.put, xA, xB, xC]; (try simp only [xD]); (try simp only [xE]); (try simp only [id]))
 refine Reg2.pm (fun wz hI hF => ?_) (fun r4 => ?_) (by rfl)
 ·have q0 := (hS.out.kept hI).wk.at 10 (.int .i64 R.dS) rfl
  go_wp2_with fail
  first | exact ⟨_, rfl, rfl, Reg2.Ext.refl _⟩ | exact ⟨_, rfl, ⟨(), rfl, trivial⟩, Reg2.Ext.refl _⟩
 simp only [Act.put, xA, xB, xC]; (try simp only [xD]); (try simp only [xE]); (try simp only [id])
 repeat (refine' Reg2.ai _ (by rfl) (fun wz => ?_) ?_; rotate_left; (go_simp; first | rfl | rw [if_neg (by omega)]); simp only [Act.put, xA, xB, xC]; (try simp only [xD]); (try simp only [xE]); (try simp only [id]))
 refine Reg2.pm (fun wz hI hF => ?_) (fun r8 => ?_) (by rfl)
 ·have c0 := (hS.out.cw.kept hI).c2
  go_wp2_with fail
  first | exact ⟨_, rfl, rfl, Reg2.Ext.refl _⟩ | exact ⟨_, rfl, ⟨(), rfl, trivial⟩, Reg2.Ext.refl _⟩
 simp only [Act.put, xA, xB, xC]; (try simp only [xD]); (try simp only [xE]); (try simp only [id])
 refine Reg2.pm (fun wz hI hF => ?_) (fun r9 => ?_) (by rfl)
 ·go_wp2_with (go_at_call 25; go_must (refine (gQ (hS.out.kept hI).cw).mono ?_); rintro e w' ⟨rfl, rfl⟩)
  first | exact ⟨_, rfl, rfl, Reg2.Ext.refl _⟩ | exact ⟨_, rfl, ⟨(), rfl, trivial⟩, Reg2.Ext.refl _⟩
 simp only [Act.put, xA, xB, xC]; (try simp only [xD]); (try simp only [xE]); (try simp only [id])
 refine Reg2.aC ?_
 intro w4 HI4 _ fG
 clear fG
 dsimp only [List.drop]
 have bN := hS.out.kept HI4
 have WO := TT w4 bN
 have hl4 := hla w4 bN
 go_wp2_with fail
 go_at_call 153
 refine hl4.mono ?_
 clear hl4
 rintro e w5 ⟨rfl, v5, g5, gL, hS5⟩
 have dR := bN.core gL hS5
 have hfin := (WS.of_below HI4 : WS w w4 b c t d p v g v g).trans (WS.dE hS5)
 go_wp2_with fail
 go_ret
 exact ⟨rfl, v5, g5, dR, hfin⟩
theorem Cq (h : SW w b c t d p v g a m R P) (hx : R.dS ≠ P.now) :
  Calls Tryz.prog 133 #[.pointer (some ⟨b, 0, none⟩), .pointer (some ⟨c, 0, none⟩)] w (au w b c t d p v g a m .nilFunc R { P with J := df P.J (gY R.dS) R.kW (fun j : Jb => decide (j.state = 1)) (kL R.dS) }) := by
 have d1 : (R.dS == P.now) = false := by simp [hx]
 have hpl := fun (W : World) (hW : SW W b c t d p v g a m R P) => Dr hW.cw R.kW R.dS
 have hS := Lib.hid h
 replace hx := Lib.hid hx
 clear h
 go_enter Tryz.func133, Tryz.ntmps133
 go_wp2_with fail
 refine Reg2.rd w 10 37 [[],[ae],[ae,ae],[ae,ae,ae],[ae,ae,ae,ae],[af,af,af,af,af],[af,af,af,af,af,ae],[af,af,af,af,af,ae,ae],[af,af,af,af,af,ae,ae,ae],[af,af,af,af,af,ae,ae,ae,ae]] [0, 0, 0, 0, 1, 0, 0, 0, 1, 1] [.pure, .pure, .pure, .pure, .mU (.int .i64 R.dS), .pure, .pure, .pure, .mU (.pointer (some ⟨p, 0, none⟩)), .mU (.int .i64 P.now)] (by kernel_rfl) (by kernel_rfl) rfl rfl ⟨trivial, trivial, trivial, trivial, Reg2.tt, trivial, trivial, trivial, Reg2.tt, Reg2.tt, trivial⟩ ⟨rfl, rfl, rfl, Nat.le_refl _, fun _ _ => rfl⟩ ?_
 dsimp only [Reg2.mk, List.zip, List.zipWith, List.take]
 repeat (refine' Reg2.ai _ (by rfl) (fun wz => ?_) ?_; rotate_left; (go_simp; first | rfl | rw [if_neg (by omega)]); simp only [Act.put, xA, xB, xC]; (try simp only [xD]); (try simp only [xE]); (try simp only [id]))
 refine Reg2.pm (fun wz hI hF => ?_) (fun r4 => ?_) (by rfl)
 ·have q0 := (hS.out.kept hI).wk.at 10 (.int .i64 R.dS) rfl
  go_wp2_with fail
  first | exact ⟨_, rfl, rfl, Reg2.Ext.refl _⟩ | exact ⟨_, rfl, ⟨(), rfl, trivial⟩, Reg2.Ext.refl _⟩
 simp only [Act.put, xA, xB, xC]; (try simp only [xD]); (try simp only [xE]); (try simp only [id])
 repeat (refine' Reg2.ai _ (by rfl) (fun wz => ?_) ?_; rotate_left; (go_simp; first | rfl | rw [if_neg (by omega)]); simp only [Act.put, xA, xB, xC]; (try simp only [xD]); (try simp only [xE]); (try simp only [id]))
 refine Reg2.pm (fun wz hI hF => ?_) (fun r8 => ?_) (by rfl)
 ·have c0 := (hS.out.cw.kept hI).c2
  go_wp2_with fail
  first | exact ⟨_, rfl, rfl, Reg2.Ext.refl _⟩ | exact ⟨_, rfl, ⟨(), rfl, trivial⟩, Reg2.Ext.refl _⟩
 simp only [Act.put, xA, xB, xC]; (try simp only [xD]); (try simp only [xE]); (try simp only [id])
 refine Reg2.pm (fun wz hI hF => ?_) (fun r9 => ?_) (by rfl)
 ·go_wp2_with (go_at_call 25; go_must (refine (gQ (hS.out.kept hI).cw).mono ?_); rintro e w' ⟨rfl, rfl⟩)
  first | exact ⟨_, rfl, rfl, Reg2.Ext.refl _⟩ | exact ⟨_, rfl, ⟨(), rfl, trivial⟩, Reg2.Ext.refl _⟩
 simp only [Act.put, xA, xB, xC]; (try simp only [xD]); (try simp only [xE]); (try simp only [id])
 refine Reg2.aC ?_
 intro w4 HI4 _ fG
 clear fG
 dsimp only [List.drop]
 have bN := Lib.hid (hS.out.kept HI4)
 go_wp2_with fail
 refine Reg2.rd w4 14 37 [[],[ae],[ae,ae],[ae,ae,ae],[af,af,af,af],[af,af,af,af,ae],[af,af,af,af,ae,ae],[af,af,af,af,ae,ae,ae],[af,af,af,af,ae,ae,ae,ae],[af,af,af,af,af,af,af,af,af],[af,af,af,af,af,af,af,af,af,ae],[af,af,af,af,af,af,af,af,af,ae,ae],[af,af,af,af,af,af,af,af,af,ae,ae,ae],[af,af,af,af,af,af,af,af,af,ae,ae,ae,ae]] [0, 0, 0, 1, 0, 0, 0, 0, 1, 0, 0, 0, 0, 1] [.pure, .pure, .pure, .mU (.pointer (some ⟨t, 0, none⟩)), .pure, .pure, .pure, .pure, .mU (.int .i64 R.kW), .pure, .pure, .pure, .pure, .mU (.int .i64 R.dS)] (by kernel_rfl) (by kernel_rfl) rfl rfl ⟨trivial, trivial, trivial, Reg2.tt, trivial, trivial, trivial, trivial, Reg2.tt, trivial, trivial, trivial, trivial, Reg2.tt, trivial⟩ ⟨rfl, rfl, rfl, Nat.le_refl _, fun _ _ => rfl⟩ ?_
 dsimp only [Reg2.mk, List.zip, List.zipWith, List.take]
 repeat (refine' Reg2.ai _ (by rfl) (fun wz => ?_) ?_; rotate_left; (go_simp; first | rfl | rw [if_neg (by omega)]); simp only [Act.put, xA, xB, xC]; (try simp only [xD]); (try simp only [xE]); (try simp only [id]))
 refine Reg2.pm (fun wz hI hF => ?_) (fun r3 => ?_) (by rfl)
 ·have c0 := (bN.out.cw.kept hI).c0
  go_wp2_with fail
  first | exact ⟨_, rfl, rfl, Reg2.Ext.refl _⟩ | exact ⟨_, rfl, ⟨(), rfl, trivial⟩, Reg2.Ext.refl _⟩
 simp only [Act.put, xA, xB, xC]; (try simp only [xD]); (try simp only [xE]); (try simp only [id])
 repeat (refine' Reg2.ai _ (by rfl) (fun wz => ?_) ?_; rotate_left; (go_simp; first | rfl | rw [if_neg (by omega)]); simp only [Act.put, xA, xB, xC]; (try simp only [xD]); (try simp only [xE]); (try simp only [id]))
 refine Reg2.pm (fun wz hI hF => ?_) (fun r8 => ?_) (by rfl)
 ·have q0 := (bN.out.kept hI).wk.at 9 (.int .i64 R.kW) rfl
  go_wp2_with fail
  first | exact ⟨_, rfl, rfl, Reg2.Ext.refl _⟩ | exact ⟨_, rfl, ⟨(), rfl, trivial⟩, Reg2.Ext.refl _⟩
 simp only [Act.put, xA, xB, xC]; (try simp only [xD]); (try simp only [xE]); (try simp only [id])
 repeat (refine' Reg2.ai _ (by rfl) (fun wz => ?_) ?_; rotate_left; (go_simp; first | rfl | rw [if_neg (by omega)]); simp only [Act.put, xA, xB, xC]; (try simp only [xD]); (try simp only [xE]); (try simp only [id]))
 refine Reg2.pm (fun wz hI hF => ?_) (fun Fh => ?_) (by rfl)
 ·have q0 := (bN.out.kept hI).wk.at 10 (.int .i64 R.dS) rfl
  go_wp2_with fail
  first | exact ⟨_, rfl, rfl, Reg2.Ext.refl _⟩ | exact ⟨_, rfl, ⟨(), rfl, trivial⟩, Reg2.Ext.refl _⟩
 simp only [Act.put, xA, xB, xC]; (try simp only [xD]); (try simp only [xE]); (try simp only [id])
 refine Reg2.aC ?_
 intro w5 Jy _ fG
 clear fG
 dsimp only [List.drop]
 have hS5 := bN.out.kept Jy
 have VO := hpl w5 hS5
 go_wp2_with fail
 go_at_call 154
 refine VO.mono ?_
 clear VO
 rintro e w6 ⟨rfl, v6, g6, HV, dR⟩
 have gM := hS5.core HV dR
 have hfin := (WS.of_below (HI4.trans (Jy.mono HI4.size)) : WS w w5 b c t d p v g v g).trans (WS.dE dR)
 go_wp2_with fail
 go_ret
 exact ⟨rfl, v6, g6, gM, hfin⟩
theorem Cr (h : SW w b c t d p v g a m R P) (hc : P.cl = true) :
  Calls Tryz.prog 72 #[.pointer (some ⟨b, 0, none⟩), .pointer (some ⟨c, 0, none⟩)] w (au w b c t d p v g a m .nilFunc { R with rep := ku 12, ok := false } P) := by
 have hcl := jv h.cw
 rw [hc] at hcl
 have hf := iI h.wk 12
 go_enter Tryz.func72, Tryz.ntmps72
 go_wp2_with (first | (go_at_call 21; go_must (refine hcl.mono ?_); rintro e w' ⟨rfl, rfl⟩) | (go_at_call 95; go_must (refine hf.mono ?_); rintro e w8 ⟨rfl, dU, gy⟩))
 go_ret
 exact ⟨rfl, v, g, h.work dU gy, WS.bH gy⟩
theorem wQ (h : cO w b R) : Sem.run Tryz.prog (loadCellsFrom ⟨b, 9, none⟩ 0 2 #[]) w = .ok #[.int .i64 R.kW, .int .i64 R.dS] w :=
 wL (cs := [.int .i64 R.kW, .int .i64 R.dS]) h rfl fun j u hj => by
  rcases (show j = 0 ∨ j = 1 by have := (List.getElem?_eq_some_iff.1 hj).1; simp at this; omega) with rfl | rfl
  ·exact hj
  ·exact hj
theorem NG (h : SW w b c t d p v g a m R (aj M)) (hI : aF M) (h1 : 1 ≤ M.dr.length) (hll : M.L.length ≤ 900) (ha : a ≤ 800) (hxt : -9223372036854775808 ≤ R.dS ∧ R.dS ≤ 9223372036854775807) (hc : M.cl = false) (hfit : fM M R.kW R.dS = false) :
  Calls Tryz.prog 72 #[.pointer (some ⟨b, 0, none⟩), .pointer (some ⟨c, 0, none⟩)] w (au w b c t d p v g a m .nilFunc R (aj M)) := by
 have hcl := jv h.cw
 rw [show (aj M).cl = false from hc] at hcl
 have hft := DL h.cw hI h1 hll ha R.kW R.dS hxt
 rw [hfit] at hft
 have ld := wQ h.wk
 have x9 := h.wk.at 9 (.int .i64 R.kW) rfl
 have JO := h.wk.at 10 (.int .i64 R.dS) rfl
 go_enter Tryz.func72, Tryz.ntmps72
 go_wp2_with (first | (go_at_call 21; go_must (refine hcl.mono ?_); rintro e w' ⟨rfl, rfl⟩) | (go_at_call 96; go_must (refine hft.mono ?_); rintro e w8 ⟨rfl, uE⟩))
 go_ret
 exact ⟨rfl, v, g, h.kept uE, WS.of_below uE⟩
theorem Kz (h : SW w b c t d p v g a m R (aj M)) (hI : aF M) (h1 : 1 ≤ M.dr.length) (hll : M.L.length ≤ 900) (ha : a ≤ 800) (hxt : -9223372036854775808 ≤ R.dS ∧ R.dS ≤ 9223372036854775807) (hc : M.cl = false) (hfit : fM M R.kW R.dS = true) :
  Calls Tryz.prog 72 #[.pointer (some ⟨b, 0, none⟩), .pointer (some ⟨c, 0, none⟩)] w (au w b c t d p v g a m (fP 97) { R with aD := bM M.L R.kW, ok := true } (aj M)) := by
 have zJ := bL
 obtain ⟨k, hk1⟩ : ∃ k, k = 10 := ⟨_, rfl⟩
 rw [← hk1] at zJ
 have hk0 : ¬ k = 0 := by omega
 have hcl := jv h.cw
 rw [show (aj M).cl = false from hc] at hcl
 have hft := DL h.cw hI h1 hll ha R.kW R.dS hxt
 rw [hfit] at hft
 have ld := wQ h.wk
 have x9 := h.wk.at 9 (.int .i64 R.kW) rfl
 have JO := h.wk.at 10 (.int .i64 R.dS) rfl
 obtain ⟨x, hx⟩ : ∃ x, x = bM M.L R.kW := ⟨_, rfl⟩
 rw [← hx]
 have hget := Lib.hid (fun (W : World) (hW : SW W b c t d p v g a m R (aj M)) => show Calls Tryz.prog 33 #[.pointer (some ⟨t, 0, none⟩), .int .i64 R.kW] W fun e w' => e = .returned (.tuple #[.agg (ah x).toArray, .int .i64 (gP M.L R.kW)]) ∧ Gr W w' from by
  have := gK hW.cw.dX R.kW
  unfold iF at this
  rw [show (aj M).J = M.L from rfl, ← hx] at this
  exact this)
 replace hx := Lib.hid hx
 have lJ := ax x
 rw [← hk1] at lJ
 replace hk1 := Lib.hid hk1
 have hj := fun (W : World) (hW : SW W b c t d p v g a m R (aj M)) => hW.wk.sU x
 generalize ah x = cJ at *
 obtain ⟨W9, kv⟩ : ∃ W9, W9 = gH { R with aD := x } := ⟨_, rfl⟩
 rw [← kv] at hj
 replace kv := Lib.hid kv
 have hS := Lib.hid h
 clear h
 go_enter Tryz.func72, Tryz.ntmps72
 go_wp2_with (first | (go_at_call 21; go_must (refine hcl.mono ?_); rintro e w' ⟨rfl, rfl⟩) | (go_at_call 96; go_must (refine hft.mono ?_); rintro e w2 ⟨rfl, hb2⟩))
 have hS2 := Lib.hid (hS.out.kept hb2)
 have c0 := hS2.out.cw.c0
 have q9 := hS2.out.wk.at 9 (.int .i64 R.kW) rfl
 clear hcl hft ld x9 JO
 go_region_with (go_at_call 33; go_must (refine (hget.out _ hS2.out.drew).mono ?_); rintro e w' ⟨rfl, hgr⟩; have qW := hS2.out.drew.kept hgr.below; obtain ⟨zw, pE⟩ := hj w' qW)
 all_goals
  have gz := qW.work pE (dh w' W9.toArray)
  have hfr : WS w2 (w'.setRow b W9.toArray) b c t d p v g v g := ((WS.of_below hgr.below : WS w2.drew w' b c t d p v g v g).trans (WS.bH (dh w' W9.toArray))).xY
  have hfr2 := (WS.of_below hb2 : WS w w2 b c t d p v g v g).trans hfr
  clear zw pE qW hgr c0 q9 hfr
  generalize w'.setRow b W9.toArray = w9 at *
  have a33 := gz.wk.at 33 (.bool R.ok) rfl
  have f33 := gz.wk.free 33
  have Qt := gz.work (gz.wk.SA true) (dB w9 33 (.bool true))
  have VP := hfr2.trans (WS.bH (dB w9 33 (.bool true)))
  go_wp2_with fail
  go_ret
  have ex := hx.out
  clear hx
  subst ex
  exact ⟨rfl, v, g, Qt, VP⟩
end
end Go.Proofs.YtnihdgcfamoplaaGreat

namespace Go.Proofs.YtnihdgcfamoplaaGreat
open Go.RowKit Go.Lib Go.Sort
section
variable {w : World} {b c t d p g a : Nat} {v : Value} {m : Int} {P P1 : Pg} {M : Md} {R : Wk}
theorem mF.uniq {l l1 l2 : List Int} {n : Int} {d : Bool} {e1 e2 : Int} (h : mF l n d e1 l1) (h' : mF l n d e2 l2) : e1 = e2 ∧ l1 = l2 := by
 by_cases h1 : n < 0 ∨ (l.length : Int) ≤ n
 ·obtain ⟨rfl, rfl⟩ := h.out h1
  obtain ⟨rfl, rfl⟩ := h'.out h1
  exact ⟨rfl, rfl⟩
 ·by_cases h2 : d = decide (l.getD n.toNat 0 < 3)
  ·obtain ⟨rfl, rfl⟩ := h.good (by omega) (by omega) h2
   obtain ⟨rfl, rfl⟩ := h'.good (by omega) (by omega) h2
   exact ⟨rfl, rfl⟩
  ·obtain ⟨rfl, rfl⟩ := h.bad (by omega) (by omega) h2
   obtain ⟨rfl, rfl⟩ := h'.bad (by omega) (by omega) h2
   exact ⟨rfl, rfl⟩
def NH (b c t d p a : Nat) (m : Int) (R : Wk) (P : Pg) (x : Int) (T' : List Int) (a' : Nat) (m' : Int) (R' : Wk) (P' : Pg) : Prop :=
 ∀ (W : World) (v1 : Value) (g1 : Nat), SW W b c t d p v1 g1 a m R { P with T := T' } → Calls Tryz.prog 145 #[.pointer (some ⟨b, 0, none⟩), .pointer (some ⟨c, 0, none⟩), .int .i64 x, .int .i64 (-1)] W (au W b c t d p v1 g1 a' m' .nilFunc R' P')
def NI (b c t d p a : Nat) (m : Int) (R : Wk) (P : Pg) (x : Int) (T' : List Int) (a' : Nat) (m' : Int) (R' : Wk) (P' : Pg) : Prop :=
 ∀ (W : World) (v1 : Value) (g1 : Nat), SW W b c t d p v1 g1 a m R { P with T := T' } → Calls Tryz.prog 145 #[.pointer (some ⟨b, 0, none⟩), .pointer (some ⟨c, 0, none⟩), .int .i64 x, .int .i64 1] W (au W b c t d p v1 g1 a' m' .nilFunc R' P')
theorem resume_fn (h : SW w b c t d p v g a m R P) (hk : PK P) (hn : -9223372036854775808 ≤ R.ag.node ∧ R.ag.node ≤ 9223372036854775807) {x0 : Int} {T0 : List Int} (hT0 : mF P.T R.ag.node false x0 T0) {a' : Nat} {m' : Int} {R' : Wk} {P' : Pg}
  (Uj : NI b c t d p a m R P x0 T0 a' m' R' P') :
  Calls Tryz.prog 124 #[.pointer (some ⟨b, 0, none⟩), .pointer (some ⟨c, 0, none⟩)] w (au w b c t d p v g a' m' .nilFunc R' P') := by
 have hS := Lib.hid h
 replace hT0 := Lib.hid hT0
 have hmu := fun (W : World) (hW : SW W b c t d p v g a m R P) => Hg hW.cw hk R.ag.node hn
 clear h
 go_enter Tryz.func124, Tryz.ntmps124
 go_wp2_with fail
 refine Reg2.rP 12 18 [[],[af],[af,af],[af,af,ae],[af,af,ae,ae],[af,af,ae,ae,ae],[af,af,af,af,af,af],[af,af,af,af,af,af,ae],[af,af,af,af,af,af,ae,ae],[af,af,af,af,af,af,ae,ae,ae],[af,af,af,af,af,af,ae,ae,ae,ae],[af,af,ae,ae,ae,ae,ae,ae,ae,ae,ae]] [0, 0, 0, 0, 0, 2, 0, 0, 0, 0, 2, 3]
  [.pure, .pure, .pure, .pure, .pure, .pinned Unit () (fun _ => .pointer (some ⟨d, 0, none⟩)) (fun _ _ => True), .pure, .pure, .pure, .pure, .pinned Unit () (fun _ => .int .i64 R.ag.node) (fun _ _ => True), .major Unit () (fun _ => .int .i64 x0)]
  (fun _ => True) (fun vs W => match vs with | [] => Below w.heap.size w W | _ :: _ => (ic w b c t d p v g a m R { P with T := T0 }) W) (fun _ _ => True) (by kernel_rfl) (by kernel_rfl) rfl rfl (fun vs a b h hs => by cases vs with | nil => exact Below.trans hs (h.mono (Below.size hs)) | cons v vs => exact ic.ext a b h hs) ?_ ?_ ?_ ?_ ?_ ?_
 ·intro a b he hb; trivial
 ·intro a b he hb; trivial
 ·exact ⟨trivial, trivial, trivial, trivial, trivial, ⟨fun _ _ _ _ _ => trivial, fun _ _ _ _ _ => trivial⟩, trivial, trivial, trivial, trivial, ⟨fun _ _ _ _ _ => trivial, fun _ _ _ _ _ => trivial⟩, trivial, trivial⟩
 ·trivial
 ·exact ⟨rfl, rfl, rfl, Nat.le_refl _, fun _ _ => rfl⟩
 dsimp only [Reg2.mk, List.zip, List.zipWith, List.take]
 repeat (refine' Reg2.ai _ (by rfl) (fun wz => ?_) ?_; rotate_left; (go_simp; first | rfl | rw [if_neg (by omega)]); simp only [Act.put, xA, xB, xC]; (try simp only [xD]); (try simp only [xE]); (try simp only [id]))
 refine Reg2.pp (fun wz _ hI hF => ?_) (fun r5 => ?_) (by rfl)
 ·have c0 := (hS.out.cw.kept hI).c1
  go_wp2_with fail
  first | exact ⟨_, rfl, rfl, Reg2.Ext.refl _⟩ | exact ⟨_, rfl, ⟨(), rfl, trivial⟩, Reg2.Ext.refl _⟩
 simp only [Act.put, xA, xB, xC]; (try simp only [xD]); (try simp only [xE]); (try simp only [id])
 repeat (refine' Reg2.ai _ (by rfl) (fun wz => ?_) ?_; rotate_left; (go_simp; first | rfl | rw [if_neg (by omega)]); simp only [Act.put, xA, xB, xC]; (try simp only [xD]); (try simp only [xE]); (try simp only [id]))
 refine Reg2.pp (fun wz _ hI hF => ?_) (fun zn => ?_) (by rfl)
 ·have q0 := (hS.out.kept hI).wk.at 7 (.int .i64 R.ag.node) rfl
  go_wp2_with fail
  first | exact ⟨_, rfl, rfl, Reg2.Ext.refl _⟩ | exact ⟨_, rfl, ⟨(), rfl, trivial⟩, Reg2.Ext.refl _⟩
 simp only [Act.put, xA, xB, xC]; (try simp only [xD]); (try simp only [xE]); (try simp only [id])
 refine Reg2.pj (fun wz _ hI hF => ?_) (fun Nh => ?_) (by rfl)
 ·go_wp2_with (go_at_call 146; go_must (refine (hmu wz (hS.out.kept hI)).mono ?_); rintro e w' ⟨x, T', hT, hL, rfl, v4, g4, oM, bN⟩)
  obtain ⟨rfl, rfl⟩ := hT0.out.uniq hT
  have hpost : ic w b c t d p v g a m R { P with T := T0 } w' := ⟨v4, g4, (hS.out.kept hI).core oM bN, (WS.of_below hI).trans (WS.dE bN)⟩
  exact ⟨_, rfl, ⟨⟨(), rfl⟩, hpost⟩, trivial⟩
 simp only [Act.put, xA, xB, xC]; (try simp only [xD]); (try simp only [xE]); (try simp only [id])
 refine Reg2.aC ?_
 intro w7 _ rG kG
 clear kG
 dsimp only [List.drop]
 obtain ⟨v7, g7, gM, xX⟩ : ic w b c t d p v g a m R { P with T := T0 } w7 := rG
 have QD := Uj w7 v7 g7 gM
 go_wp2_with fail
 go_at_call 145
 refine QD.mono ?_
 clear QD
 rintro e w8 ⟨rfl, v8, g8, gT, dU⟩
 go_wp2_with fail
 go_ret
 exact ⟨rfl, v8, g8, gT, xX.trans dU⟩
theorem za (h : SW w b c t d p v g a m R P) (hk : PK P) (Uk : P = aj M) (hI : aF M) (h1 : 1 ≤ M.dr.length) (hll : M.L.length ≤ 900) (ha : a ≤ 800) (hm : m ≤ 1000000) (hhit : dV kY M.L = none) (hn : -9223372036854775808 ≤ R.ag.node ∧ R.ag.node ≤ 9223372036854775807) {x0 : Int} {T0 : List Int} (hT0 : mF P.T R.ag.node true x0 T0) {a' : Nat} {m' : Int} {R' : Wk} {P' : Pg}
  (Uj : NH b c t d p a m R P x0 T0 a' m' R' P') :
  Calls Tryz.prog 144 #[.pointer (some ⟨b, 0, none⟩), .pointer (some ⟨c, 0, none⟩)] w (au w b c t d p v g a' m' .nilFunc R' P') := by
 obtain ⟨wA, aK⟩ : ∃ wA, wA = w.alloc (.cells #[.int .i64 1] 3) := ⟨_, rfl⟩
 have bR : Below w.heap.size w wA := by rw [aK]; exact (Below.refl _ _).alloc (Nat.le_refl _) _
 have Kg : az enc1 1 wA (.slice (some ⟨w.heap.size, 0, none⟩) 1 1) [1] := by rw [aK]; exact fO w w.heap.size [1] rfl (by decide)
 have KA := h.kept bR
 have hin := sD KA.cw.dX (by rw [Uk]; show M.L.length ≤ 1000; omega) Kg
 have hJ : P.J = M.L := by rw [Uk]; rfl
 rw [hJ] at hin
 have hdr := fun (W : World) (u : Value) (hC : CW W c t d p v g a m P) (hu : az ah 10 W u (M.L.filter fun j : Jb => decide (j.state ∈ [(1 : Int)]))) => vD (Uk ▸ hC) hI h1 hll ha hm u _ (fun j : Jb => decide (j.state ∈ [(1 : Int)])) hu rfl
 have hno : M.L.findIdx? (fun j : Jb => decide (j.state ∈ [(1 : Int)]) && ak j) = none := by have := hhit; unfold dV at this; rw [← HY] at this; exact this
 rw [hno] at hdr
 have c0 := h.cw.c0
 have hS := Lib.hid h
 replace hT0 := Lib.hid hT0
 have hmu := fun (W : World) (hW : SW W b c t d p v g a m R P) => J4 hW.cw hk R.ag.node hn
 rw [aK] at hin
 clear h hno hhit
 go_enter Tryz.func144, Tryz.ntmps144
 go_wp2_with fail
 go_at_call 64
 refine hin.mono ?_
 clear hin c0
 rw [← aK]
 rintro e w1 ⟨u, rfl, ho, hb1⟩
 have hS1 := KA.kept hb1
 have hd1 := hdr w1 u hS1.cw (az.gB ho ax rfl rfl)
 replace aK := Lib.hid aK
 clear ho hdr
 go_wp2_with fail
 go_at_call 159
 refine hd1.mono ?_
 clear hd1
 rintro e w2 (⟨_, rfl, hb2⟩ | ⟨i, hbad, _⟩)
 rotate_left
 ·cases hbad
 have hbw := bR.trans ((hb1.trans (hb2.mono hb1.size)).mono bR.size)
 have hS2 := Lib.hid (hS1.kept hb2)
 replace hS1 := Lib.hid hS1
 replace KA := Lib.hid KA
 go_wp2_with fail
 refine Reg2.rP 12 26 [[],[af],[af,af],[af,af,ae],[af,af,ae,ae],[af,af,ae,ae,ae],[af,af,af,af,af,af],[af,af,af,af,af,af,ae],[af,af,af,af,af,af,ae,ae],[af,af,af,af,af,af,ae,ae,ae],[af,af,af,af,af,af,ae,ae,ae,ae],[af,af,ae,ae,ae,ae,ae,ae,ae,ae,ae]] [0, 0, 0, 0, 0, 2, 0, 0, 0, 0, 2, 3]
  [.pure, .pure, .pure, .pure, .pure, .pinned Unit () (fun _ => .pointer (some ⟨d, 0, none⟩)) (fun _ _ => True), .pure, .pure, .pure, .pure, .pinned Unit () (fun _ => .int .i64 R.ag.node) (fun _ _ => True), .major Unit () (fun _ => .int .i64 x0)]
  (fun _ => True) (fun vs W => match vs with | [] => Below w2.heap.size w2 W | _ :: _ => (ic w2 b c t d p v g a m R { P with T := T0 }) W) (fun _ _ => True) (by kernel_rfl) (by kernel_rfl) rfl rfl (fun vs a b h hs => by cases vs with | nil => exact Below.trans hs (h.mono (Below.size hs)) | cons v vs => exact ic.ext a b h hs) ?_ ?_ ?_ ?_ ?_ ?_
 ·intro a b he hb; trivial
 ·intro a b he hb; trivial
 ·exact ⟨trivial, trivial, trivial, trivial, trivial, ⟨fun _ _ _ _ _ => trivial, fun _ _ _ _ _ => trivial⟩, trivial, trivial, trivial, trivial, ⟨fun _ _ _ _ _ => trivial, fun _ _ _ _ _ => trivial⟩, trivial, trivial⟩
 ·trivial
 ·exact ⟨rfl, rfl, rfl, Nat.le_refl _, fun _ _ => rfl⟩
 dsimp only [Reg2.mk, List.zip, List.zipWith, List.take]
 repeat (refine' Reg2.ai _ (by rfl) (fun wz => ?_) ?_; rotate_left; (go_simp; first | rfl | rw [if_neg (by omega)]); simp only [Act.put, xA, xB, xC]; (try simp only [xD]); (try simp only [xE]); (try simp only [id]))
 refine Reg2.pp (fun wz _ hI hF => ?_) (fun r5 => ?_) (by rfl)
 ·have c0 := (hS2.out.cw.kept hI).c1
  go_wp2_with fail
  first | exact ⟨_, rfl, rfl, Reg2.Ext.refl _⟩ | exact ⟨_, rfl, ⟨(), rfl, trivial⟩, Reg2.Ext.refl _⟩
 simp only [Act.put, xA, xB, xC]; (try simp only [xD]); (try simp only [xE]); (try simp only [id])
 repeat (refine' Reg2.ai _ (by rfl) (fun wz => ?_) ?_; rotate_left; (go_simp; first | rfl | rw [if_neg (by omega)]); simp only [Act.put, xA, xB, xC]; (try simp only [xD]); (try simp only [xE]); (try simp only [id]))
 refine Reg2.pp (fun wz _ hI hF => ?_) (fun zn => ?_) (by rfl)
 ·have q0 := (hS2.out.kept hI).wk.at 7 (.int .i64 R.ag.node) rfl
  go_wp2_with fail
  first | exact ⟨_, rfl, rfl, Reg2.Ext.refl _⟩ | exact ⟨_, rfl, ⟨(), rfl, trivial⟩, Reg2.Ext.refl _⟩
 simp only [Act.put, xA, xB, xC]; (try simp only [xD]); (try simp only [xE]); (try simp only [id])
 refine Reg2.pj (fun wz _ hI hF => ?_) (fun Nh => ?_) (by rfl)
 ·go_wp2_with (go_at_call 165; go_must (refine (hmu wz (hS2.out.kept hI)).mono ?_); rintro e w' ⟨x, T', hT, hL, rfl, v4, g4, oM, bN⟩)
  obtain ⟨rfl, rfl⟩ := hT0.out.uniq hT
  have hpost : ic w2 b c t d p v g a m R { P with T := T0 } w' := ⟨v4, g4, (hS2.out.kept hI).core oM bN, (WS.of_below hI).trans (WS.dE bN)⟩
  exact ⟨_, rfl, ⟨⟨(), rfl⟩, hpost⟩, trivial⟩
 simp only [Act.put, xA, xB, xC]; (try simp only [xD]); (try simp only [xE]); (try simp only [id])
 refine Reg2.aC ?_
 intro w7 _ rG kG
 clear kG
 dsimp only [List.drop]
 obtain ⟨v7, g7, gM, xX⟩ : ic w2 b c t d p v g a m R { P with T := T0 } w7 := rG
 have QD := Uj w7 v7 g7 gM
 go_wp2_with fail
 go_at_call 145
 refine QD.mono ?_
 clear QD
 rintro e w8 ⟨rfl, v8, g8, gT, dU⟩
 go_wp2_with fail
 go_ret
 exact ⟨rfl, v8, g8, gT, ((WS.of_below hbw).trans xX).trans dU⟩
theorem zb (h : SW w b c t d p v g a m R (aj M)) (hI : aF M) (h1 : 1 ≤ M.dr.length) (hll : M.L.length ≤ 900) (ha : a ≤ 800) (hm : m ≤ 1000000) {i : Nat} (hhit : dV kY M.L = some i) :
  Calls Tryz.prog 144 #[.pointer (some ⟨b, 0, none⟩), .pointer (some ⟨c, 0, none⟩)] w (au w b c t d p v g (a + 2) (m + 1) (fP 144) R (aj { M with L := M.L.set i ((M.L.getD i default).aH (-1)) })) := by
 obtain ⟨wA, aK⟩ : ∃ wA, wA = w.alloc (.cells #[.int .i64 1] 3) := ⟨_, rfl⟩
 have bR : Below w.heap.size w wA := by rw [aK]; exact (Below.refl _ _).alloc (Nat.le_refl _) _
 have Kg : az enc1 1 wA (.slice (some ⟨w.heap.size, 0, none⟩) 1 1) [1] := by rw [aK]; exact fO w w.heap.size [1] rfl (by decide)
 have KA := h.kept bR
 have hin := sD KA.cw.dX (by show M.L.length ≤ 1000; omega) Kg
 rw [show (aj M).J = M.L from rfl] at hin
 have hdr := fun (W : World) (u : Value) (hC : CW W c t d p v g a m (aj M)) (hu : az ah 10 W u (M.L.filter fun j : Jb => decide (j.state ∈ [(1 : Int)]))) => vD hC hI h1 hll ha hm u _ (fun j : Jb => decide (j.state ∈ [(1 : Int)])) hu rfl
 have hno : M.L.findIdx? (fun j : Jb => decide (j.state ∈ [(1 : Int)]) && ak j) = some i := by have := hhit; unfold dV at this; rw [← HY] at this; exact this
 rw [hno] at hdr
 have c0 := h.cw.c0
 rw [aK] at hin
 clear h hno hhit
 go_enter Tryz.func144, Tryz.ntmps144
 go_wp2_with fail
 go_at_call 64
 refine hin.mono ?_
 clear hin c0
 rw [← aK]
 rintro e w1 ⟨u, rfl, ho, hb1⟩
 have hS1 := KA.kept hb1
 have hd1 := hdr w1 u hS1.cw (az.gB ho ax rfl rfl)
 replace aK := Lib.hid aK
 clear ho hdr
 go_wp2_with fail
 go_at_call 159
 refine hd1.mono ?_
 clear hd1
 rintro e w2 (⟨hbad, _⟩ | ⟨i2, he, rfl, v2, g2, hC2, hS2⟩)
 ·cases hbad
 obtain rfl := Option.some.inj he
 have VQ := hS1.core hC2 hS2
 have hf := (WS.of_below (bR.trans (hb1.mono bR.size)) : WS w w1 b c t d p v g v g).trans (WS.dE hS2)
 go_wp2_with fail
 go_ret
 exact ⟨rfl, v2, g2, VQ, hf⟩
theorem DN (h : SW w b c t d p v g a m R P) (hk : PK P) (hn : -9223372036854775808 ≤ R.ag.node ∧ R.ag.node ≤ 9223372036854775807) (hst : pO P.T R.ag.node = 1 ∨ pO P.T R.ag.node = 2) {L : Value} {a' : Nat} {m' : Int} {R' : Wk} {P' : Pg}
  (hcl : ∀ W, SW W b c t d p v g a m R P → Calls Tryz.prog 144 #[.pointer (some ⟨b, 0, none⟩), .pointer (some ⟨c, 0, none⟩)] W (au W b c t d p v g a' m' L R' P')) :
  Calls Tryz.prog 123 #[.pointer (some ⟨b, 0, none⟩), .pointer (some ⟨c, 0, none⟩)] w (au w b c t d p v g a' m' L R' P') := by
 have hS := Lib.hid h
 have wP := fun (W : World) (hW : SW W b c t d p v g a m R P) => vw R.ag.node hn hW.cw.nodes hk.qo
 generalize hsx : pO P.T R.ag.node = sx at *
 replace hsx := Lib.hid hsx
 clear h
 go_enter Tryz.func123, Tryz.ntmps123
 go_wp2_with fail
 refine Reg2.rd w 9 28 [[],[ae],[ae,ae],[ae,ae,ae],[af,af,af,af],[af,af,af,af,ae],[af,af,af,af,ae,ae],[af,af,af,af,ae,ae,ae],[af,af,af,af,ae,ae,ae,ae]] [0, 0, 0, 1, 0, 0, 0, 0, 1] [.pure, .pure, .pure, .mU (.pointer (some ⟨d, 0, none⟩)), .pure, .pure, .pure, .pure, .mU (.int .i64 R.ag.node)] (by kernel_rfl) (by kernel_rfl) rfl rfl ⟨trivial, trivial, trivial, Reg2.tt, trivial, trivial, trivial, trivial, Reg2.tt, trivial⟩ ⟨rfl, rfl, rfl, Nat.le_refl _, fun _ _ => rfl⟩ ?_
 dsimp only [Reg2.mk, List.zip, List.zipWith, List.take]
 repeat (refine' Reg2.ai _ (by rfl) (fun wz => ?_) ?_; rotate_left; (go_simp; first | rfl | rw [if_neg (by omega)]); simp only [Act.put, xA, xB, xC]; (try simp only [xD]); (try simp only [xE]); (try simp only [id]))
 refine Reg2.pm (fun wz hI hF => ?_) (fun r3 => ?_) (by rfl)
 ·have c0 := (hS.out.cw.kept hI).c1
  go_wp2_with fail
  first | exact ⟨_, rfl, rfl, Reg2.Ext.refl _⟩ | exact ⟨_, rfl, ⟨(), rfl, trivial⟩, Reg2.Ext.refl _⟩
 simp only [Act.put, xA, xB, xC]; (try simp only [xD]); (try simp only [xE]); (try simp only [id])
 repeat (refine' Reg2.ai _ (by rfl) (fun wz => ?_) ?_; rotate_left; (go_simp; first | rfl | rw [if_neg (by omega)]); simp only [Act.put, xA, xB, xC]; (try simp only [xD]); (try simp only [xE]); (try simp only [id]))
 refine Reg2.pm (fun wz hI hF => ?_) (fun r8 => ?_) (by rfl)
 ·have q0 := (hS.out.kept hI).wk.at 7 (.int .i64 R.ag.node) rfl
  go_wp2_with fail
  first | exact ⟨_, rfl, rfl, Reg2.Ext.refl _⟩ | exact ⟨_, rfl, ⟨(), rfl, trivial⟩, Reg2.Ext.refl _⟩
 simp only [Act.put, xA, xB, xC]; (try simp only [xD]); (try simp only [xE]); (try simp only [id])
 refine Reg2.aC ?_
 intro w4 HI4 _ fG
 clear fG
 dsimp only [List.drop]
 have bN := hS.out.kept HI4
 have Iw := wP w4 bN
 go_wp2_with fail
 go_at_call 54
 refine Iw.mono ?_
 clear Iw
 rintro e w5 ⟨rfl, mm, vB⟩
 have hb5 : Below w4.heap.size w4 w5 := by rw [vB]; exact below_drewN (Below.refl _ _) _
 have hS5 := bN.kept hb5
 have QE := hcl w5 hS5
 have Co := HI4.trans (hb5.mono HI4.size)
 replace vB := Lib.hid vB
 rcases hst with rfl | rfl
 all_goals
  go_wp2_with fail
  go_at_call 144
  refine QE.mono ?_
  clear QE
  rintro e w8 ⟨rfl, v8, g8, gT, dU⟩
  go_wp2_with fail
  go_ret
  exact ⟨rfl, v8, g8, gT, (WS.of_below Co).trans dU⟩
theorem DR (h : SW w b c t d p v g a m R P) (hk : PK P) (hn : -9223372036854775808 ≤ R.ag.node ∧ R.ag.node ≤ 9223372036854775807) (e0 : Int) (hst : (pO P.T R.ag.node = 0 ∧ e0 = 11) ∨ ((pO P.T R.ag.node = 3 ∨ pO P.T R.ag.node = 4) ∧ e0 = 8)) :
  Calls Tryz.prog 123 #[.pointer (some ⟨b, 0, none⟩), .pointer (some ⟨c, 0, none⟩)] w (au w b c t d p v g a m .nilFunc { R with rep := ku e0, ok := false } P) := by
 have hS := Lib.hid h
 have wP := fun (W : World) (hW : SW W b c t d p v g a m R P) => vw R.ag.node hn hW.cw.nodes hk.qo
 generalize hsx : pO P.T R.ag.node = sx at *
 replace hsx := Lib.hid hsx
 clear h
 go_enter Tryz.func123, Tryz.ntmps123
 go_wp2_with fail
 refine Reg2.rd w 9 28 [[],[ae],[ae,ae],[ae,ae,ae],[af,af,af,af],[af,af,af,af,ae],[af,af,af,af,ae,ae],[af,af,af,af,ae,ae,ae],[af,af,af,af,ae,ae,ae,ae]] [0, 0, 0, 1, 0, 0, 0, 0, 1] [.pure, .pure, .pure, .mU (.pointer (some ⟨d, 0, none⟩)), .pure, .pure, .pure, .pure, .mU (.int .i64 R.ag.node)] (by kernel_rfl) (by kernel_rfl) rfl rfl ⟨trivial, trivial, trivial, Reg2.tt, trivial, trivial, trivial, trivial, Reg2.tt, trivial⟩ ⟨rfl, rfl, rfl, Nat.le_refl _, fun _ _ => rfl⟩ ?_
 dsimp only [Reg2.mk, List.zip, List.zipWith, List.take]
 repeat (refine' Reg2.ai _ (by rfl) (fun wz => ?_) ?_; rotate_left; (go_simp; first | rfl | rw [if_neg (by omega)]); simp only [Act.put, xA, xB, xC]; (try simp only [xD]); (try simp only [xE]); (try simp only [id]))
 refine Reg2.pm (fun wz hI hF => ?_) (fun r3 => ?_) (by rfl)
 ·have c0 := (hS.out.cw.kept hI).c1
  go_wp2_with fail
  first | exact ⟨_, rfl, rfl, Reg2.Ext.refl _⟩ | exact ⟨_, rfl, ⟨(), rfl, trivial⟩, Reg2.Ext.refl _⟩
 simp only [Act.put, xA, xB, xC]; (try simp only [xD]); (try simp only [xE]); (try simp only [id])
 repeat (refine' Reg2.ai _ (by rfl) (fun wz => ?_) ?_; rotate_left; (go_simp; first | rfl | rw [if_neg (by omega)]); simp only [Act.put, xA, xB, xC]; (try simp only [xD]); (try simp only [xE]); (try simp only [id]))
 refine Reg2.pm (fun wz hI hF => ?_) (fun r8 => ?_) (by rfl)
 ·have q0 := (hS.out.kept hI).wk.at 7 (.int .i64 R.ag.node) rfl
  go_wp2_with fail
  first | exact ⟨_, rfl, rfl, Reg2.Ext.refl _⟩ | exact ⟨_, rfl, ⟨(), rfl, trivial⟩, Reg2.Ext.refl _⟩
 simp only [Act.put, xA, xB, xC]; (try simp only [xD]); (try simp only [xE]); (try simp only [id])
 refine Reg2.aC ?_
 intro w4 HI4 _ fG
 clear fG
 dsimp only [List.drop]
 have bN := hS.out.kept HI4
 have Iw := wP w4 bN
 go_wp2_with fail
 go_at_call 54
 refine Iw.mono ?_
 clear Iw
 rintro e w5 ⟨rfl, mm, vB⟩
 have hb5 : Below w4.heap.size w4 w5 := by rw [vB]; exact below_drewN (Below.refl _ _) _
 have hS5 := bN.kept hb5
 have Co := HI4.trans (hb5.mono HI4.size)
 replace vB := Lib.hid vB
 rcases hst with ⟨rfl, rfl⟩ | ⟨rfl | rfl, rfl⟩
 ·have hf := iI hS5.wk 11
  go_wp2_with (go_at_call 95; go_must (refine hf.mono ?_); rintro e w8 ⟨rfl, dU, gy⟩)
  go_ret
  exact ⟨rfl, v, g, hS5.work dU gy, (WS.of_below Co).trans (WS.bH gy)⟩
 all_goals
  have hf := iI hS5.wk 8
  go_wp2_with (go_at_call 95; go_must (refine hf.mono ?_); rintro e w8 ⟨rfl, dU, gy⟩)
  go_ret
  exact ⟨rfl, v, g, hS5.work dU gy, (WS.of_below Co).trans (WS.bH gy)⟩
end
end Go.Proofs.YtnihdgcfamoplaaGreat

namespace Go.Proofs.YtnihdgcfamoplaaGreat
open Go.RowKit Go.Lib Go.Sort
section
variable {w : World} {b c t d p g a : Nat} {v : Value} {m : Int} {P : Pg} {R : Wk}
theorem NJ (h : SW w b c t d p v g a m R P) (hk : PK P) (hlow : R.ag.till < 1) :
  Calls Tryz.prog 125 #[.pointer (some ⟨b, 0, none⟩), .pointer (some ⟨c, 0, none⟩)] w (au w b c t d p v g a m .nilFunc { R with rep := ku 10, ok := false } P) := by
 have hS := Lib.hid h
 have hsub := fun (W : World) => Bi 1099511627776 P.now W
 have hnw := hk.now
 obtain ⟨sb, hsb⟩ : ∃ sb, sb = 1099511627776 - P.now := ⟨_, rfl⟩
 rw [show hd (hd 1099511627776 - hd P.now) = sb by rw [hsb]; unfold hd; omega] at hsub
 obtain ⟨ty, hty⟩ : ∃ ty, R.ag.till = ty := ⟨_, rfl⟩
 rw [hty] at hlow
 have d1 : decide (ty < 1) = true := decide_eq_true hlow
 replace hty := Lib.hid hty
 replace hsb := Lib.hid hsb
 clear h
 go_enter Tryz.func125, Tryz.ntmps125
 go_wp2_with fail
 refine Reg2.rd w 18 44 [[],[ae],[ae,ae],[ae,ae,ae],[ae,ae,ae,ae],[ae,ae,ae,ae,ae],[ae,ae,ae,ae,ae,ae],[ae,ae,ae,ae,ae,ae,ae],[ae,ae,ae,ae,ae,ae,ae,ae],[ae,ae,ae,ae,ae,ae,ae,ae,ae],[ae,ae,ae,ae,ae,ae,ae,ae,ae,ae],[ae,ae,ae,ae,ae,ae,ae,ae,ae,ae,ae],[ae,ae,ae,ae,ae,ae,ae,af,af,af,af,af],[ae,ae,ae,ae,ae,ae,ae,af,af,af,af,af,ae],[ae,ae,ae,ae,ae,ae,ae,af,af,af,af,af,ae,ae],[ae,ae,ae,ae,ae,ae,ae,af,af,af,af,af,ae,ae,ae],[ae,ae,ae,ae,ae,ae,ae,af,af,af,af,af,ae,ae,ae,ae],[ae,ae,ae,ae,ae,ae,ae,af,af,af,af,af,ae,ae,ae,ae,ae]] [0, 0, 0, 0, 1, 0, 0, 0, 0, 0, 0, 1, 0, 0, 0, 1, 1, 1] [.pure, .pure, .pure, .pure, .mU (.int .i64 ty), .pure, .pure, .pure, .pure, .pure, .pure, .mU (.int .i64 ty), .pure, .pure, .pure, .mU (.pointer (some ⟨p, 0, none⟩)), .mU (.int .i64 P.now), .mU (.int .i64 sb)] (by kernel_rfl) (by kernel_rfl) rfl rfl ⟨trivial, trivial, trivial, trivial, Reg2.tt, trivial, trivial, trivial, trivial, trivial, trivial, Reg2.tt, trivial, trivial, trivial, Reg2.tt, Reg2.tt, Reg2.tt, trivial⟩ ⟨rfl, rfl, rfl, Nat.le_refl _, fun _ _ => rfl⟩ ?_
 dsimp only [Reg2.mk, List.zip, List.zipWith, List.take]
 repeat (refine' Reg2.ai _ (by rfl) (fun wz => ?_) ?_; rotate_left; (go_simp; first | rfl | rw [if_neg (by omega)]); simp only [Act.put, xA, xB, xC]; (try simp only [xD]); (try simp only [xE]); (try simp only [id]))
 refine Reg2.pm (fun wz hI hF => ?_) (fun r4 => ?_) (by rfl)
 ·have q0 := (hS.out.kept hI).wk.at 8 (.int .i64 R.ag.till) rfl
  rw [hty.out] at q0
  go_wp2_with fail
  first | exact ⟨_, rfl, rfl, Reg2.Ext.refl _⟩ | exact ⟨_, rfl, ⟨(), rfl, trivial⟩, Reg2.Ext.refl _⟩
 simp only [Act.put, xA, xB, xC]; (try simp only [xD]); (try simp only [xE]); (try simp only [id])
 repeat (refine' Reg2.ai _ (by rfl) (fun wz => ?_) ?_; rotate_left; (go_simp; first | rfl | rw [if_neg (by omega)]); simp only [Act.put, xA, xB, xC]; (try simp only [xD]); (try simp only [xE]); (try simp only [id]))
 refine Reg2.dJ (by rfl) ?_
 simp only [Act.put, xA, xB, xC]; (try simp only [xD]); (try simp only [xE]); (try simp only [id])
 refine Reg2.dJ (by rfl) ?_
 simp only [Act.put, xA, xB, xC]; (try simp only [xD]); (try simp only [xE]); (try simp only [id])
 refine Reg2.dJ (by rfl) ?_
 simp only [Act.put, xA, xB, xC]; (try simp only [xD]); (try simp only [xE]); (try simp only [id])
 refine Reg2.dJ (by rfl) ?_
 simp only [Act.put, xA, xB, xC]; (try simp only [xD]); (try simp only [xE]); (try simp only [id])
 refine Reg2.cu (by rfl) ?_
 simp only [Act.put, xA, xB, xC]; (try simp only [xD]); (try simp only [xE]); (try simp only [id])
 refine Reg2.dJ (by rfl) ?_
 simp only [Act.put, xA, xB, xC]; (try simp only [xD]); (try simp only [xE]); (try simp only [id])
 refine Reg2.dJ (by rfl) ?_
 simp only [Act.put, xA, xB, xC]; (try simp only [xD]); (try simp only [xE]); (try simp only [id])
 refine Reg2.dJ (by rfl) ?_
 simp only [Act.put, xA, xB, xC]; (try simp only [xD]); (try simp only [xE]); (try simp only [id])
 refine Reg2.cu (by rfl) ?_
 simp only [Act.put, xA, xB, xC]; (try simp only [xD]); (try simp only [xE]); (try simp only [id])
 refine Reg2.cu (by rfl) ?_
 simp only [Act.put, xA, xB, xC]; (try simp only [xD]); (try simp only [xE]); (try simp only [id])
 refine Reg2.cu (by rfl) ?_
 simp only [Act.put, xA, xB, xC]; (try simp only [xD]); (try simp only [xE]); (try simp only [id])
 refine Reg2.aC ?_
 intro w4 HI4 _ fG
 clear fG
 dsimp only [List.drop]
 have bN := hS.out.kept HI4
 have hf := iI bN.wk 10
 go_wp2_with (go_at_call 95; go_must (refine hf.mono ?_); rintro e w8 ⟨rfl, dU, gy⟩)
 go_ret
 exact ⟨rfl, v, g, bN.work dU gy, (WS.of_below HI4).trans (WS.bH gy)⟩
theorem KC (h : SW w b c t d p v g a m R P) (hk : PK P) (hlow : ¬ R.ag.till < 1) (hhi : 1099511627776 - P.now < R.ag.till) :
  Calls Tryz.prog 125 #[.pointer (some ⟨b, 0, none⟩), .pointer (some ⟨c, 0, none⟩)] w (au w b c t d p v g a m .nilFunc { R with rep := ku 10, ok := false } P) := by
 have hS := Lib.hid h
 have hsub := fun (W : World) => Bi 1099511627776 P.now W
 have hnw := hk.now
 obtain ⟨sb, hsb⟩ : ∃ sb, sb = 1099511627776 - P.now := ⟨_, rfl⟩
 rw [show hd (hd 1099511627776 - hd P.now) = sb by rw [hsb]; unfold hd; omega] at hsub
 obtain ⟨ty, hty⟩ : ∃ ty, R.ag.till = ty := ⟨_, rfl⟩
 rw [hty] at hlow hhi
 have d1 : decide (ty < 1) = false := decide_eq_false hlow
 have d2 : decide (ty > sb) = true := decide_eq_true (by omega)
 replace hhi := Lib.hid hhi
 replace hty := Lib.hid hty
 replace hsb := Lib.hid hsb
 clear h
 go_enter Tryz.func125, Tryz.ntmps125
 go_wp2_with fail
 refine Reg2.rd w 18 44 [[],[ae],[ae,ae],[ae,ae,ae],[ae,ae,ae,ae],[ae,ae,ae,ae,ae],[ae,ae,ae,ae,ae,ae],[ae,ae,ae,ae,ae,ae,ae],[ae,ae,ae,ae,ae,ae,ae,ae],[ae,ae,ae,ae,ae,ae,ae,ae,ae],[ae,ae,ae,ae,ae,ae,ae,ae,ae,ae],[ae,ae,ae,ae,ae,ae,ae,ae,ae,ae,ae],[ae,ae,ae,ae,ae,ae,ae,af,af,af,af,af],[ae,ae,ae,ae,ae,ae,ae,af,af,af,af,af,ae],[ae,ae,ae,ae,ae,ae,ae,af,af,af,af,af,ae,ae],[ae,ae,ae,ae,ae,ae,ae,af,af,af,af,af,ae,ae,ae],[ae,ae,ae,ae,ae,ae,ae,af,af,af,af,af,ae,ae,ae,ae],[ae,ae,ae,ae,ae,ae,ae,af,af,af,af,af,ae,ae,ae,ae,ae]] [0, 0, 0, 0, 1, 0, 0, 0, 0, 0, 0, 1, 0, 0, 0, 1, 1, 1] [.pure, .pure, .pure, .pure, .mU (.int .i64 ty), .pure, .pure, .pure, .pure, .pure, .pure, .mU (.int .i64 ty), .pure, .pure, .pure, .mU (.pointer (some ⟨p, 0, none⟩)), .mU (.int .i64 P.now), .mU (.int .i64 sb)] (by kernel_rfl) (by kernel_rfl) rfl rfl ⟨trivial, trivial, trivial, trivial, Reg2.tt, trivial, trivial, trivial, trivial, trivial, trivial, Reg2.tt, trivial, trivial, trivial, Reg2.tt, Reg2.tt, Reg2.tt, trivial⟩ ⟨rfl, rfl, rfl, Nat.le_refl _, fun _ _ => rfl⟩ ?_
 dsimp only [Reg2.mk, List.zip, List.zipWith, List.take]
 repeat (refine' Reg2.ai _ (by rfl) (fun wz => ?_) ?_; rotate_left; (go_simp; first | rfl | rw [if_neg (by omega)]); simp only [Act.put, xA, xB, xC]; (try simp only [xD]); (try simp only [xE]); (try simp only [id]))
 refine Reg2.pm (fun wz hI hF => ?_) (fun r4 => ?_) (by rfl)
 ·have q0 := (hS.out.kept hI).wk.at 8 (.int .i64 R.ag.till) rfl
  rw [hty.out] at q0
  go_wp2_with fail
  first | exact ⟨_, rfl, rfl, Reg2.Ext.refl _⟩ | exact ⟨_, rfl, ⟨(), rfl, trivial⟩, Reg2.Ext.refl _⟩
 simp only [Act.put, xA, xB, xC]; (try simp only [xD]); (try simp only [xE]); (try simp only [id])
 repeat (refine' Reg2.ai _ (by rfl) (fun wz => ?_) ?_; rotate_left; (go_simp; first | rfl | rw [if_neg (by omega)]); simp only [Act.put, xA, xB, xC]; (try simp only [xD]); (try simp only [xE]); (try simp only [id]))
 refine Reg2.pm (fun wz hI hF => ?_) (fun Nh => ?_) (by rfl)
 ·have q0 := (hS.out.kept hI).wk.at 8 (.int .i64 R.ag.till) rfl
  rw [hty.out] at q0
  go_wp2_with fail
  first | exact ⟨_, rfl, rfl, Reg2.Ext.refl _⟩ | exact ⟨_, rfl, ⟨(), rfl, trivial⟩, Reg2.Ext.refl _⟩
 simp only [Act.put, xA, xB, xC]; (try simp only [xD]); (try simp only [xE]); (try simp only [id])
 repeat (refine' Reg2.ai _ (by rfl) (fun wz => ?_) ?_; rotate_left; (go_simp; first | rfl | rw [if_neg (by omega)]); simp only [Act.put, xA, xB, xC]; (try simp only [xD]); (try simp only [xE]); (try simp only [id]))
 refine Reg2.pm (fun wz hI hF => ?_) (fun Uf => ?_) (by rfl)
 ·have c0 := (hS.out.cw.kept hI).c2
  go_wp2_with fail
  first | exact ⟨_, rfl, rfl, Reg2.Ext.refl _⟩ | exact ⟨_, rfl, ⟨(), rfl, trivial⟩, Reg2.Ext.refl _⟩
 simp only [Act.put, xA, xB, xC]; (try simp only [xD]); (try simp only [xE]); (try simp only [id])
 refine Reg2.pm (fun wz hI hF => ?_) (fun r16 => ?_) (by rfl)
 ·go_wp2_with (go_at_call 25; go_must (refine (gQ (hS.out.kept hI).cw).mono ?_); rintro e w' ⟨rfl, rfl⟩)
  first | exact ⟨_, rfl, rfl, Reg2.Ext.refl _⟩ | exact ⟨_, rfl, ⟨(), rfl, trivial⟩, Reg2.Ext.refl _⟩
 simp only [Act.put, xA, xB, xC]; (try simp only [xD]); (try simp only [xE]); (try simp only [id])
 refine Reg2.pm (fun wz hI hF => ?_) (fun Vv => ?_) (by rfl)
 ·go_wp2_with (go_at_call 147; go_must (refine (hsub wz).mono ?_); rintro e w' ⟨rfl, rfl⟩)
  first | exact ⟨_, rfl, rfl, Reg2.Ext.refl _⟩ | exact ⟨_, rfl, ⟨(), rfl, trivial⟩, Reg2.Ext.refl _⟩
 simp only [Act.put, xA, xB, xC]; (try simp only [xD]); (try simp only [xE]); (try simp only [id])
 refine Reg2.aC ?_
 intro w4 HI4 _ fG
 clear fG
 dsimp only [List.drop]
 have bN := hS.out.kept HI4
 have hf := iI bN.wk 10
 go_wp2_with (go_at_call 95; go_must (refine hf.mono ?_); rintro e w8 ⟨rfl, dU, gy⟩)
 go_ret
 exact ⟨rfl, v, g, bN.work dU gy, (WS.of_below HI4).trans (WS.bH gy)⟩
theorem Iy (h : SW w b c t d p v g a m R P) (hk : PK P) (hlow : ¬ R.ag.till < 1) (hhi : ¬ 1099511627776 - P.now < R.ag.till) {L : Value} {a' : Nat} {m' : Int} {R' : Wk} {P' : Pg}
  (hfw : ∀ W, SW W b c t d p v g a m { R with target := P.now + R.ag.till } P → Calls Tryz.prog 148 #[.pointer (some ⟨b, 0, none⟩), .pointer (some ⟨c, 0, none⟩)] W (au W b c t d p v g a' m' L R' P')) :
  Calls Tryz.prog 125 #[.pointer (some ⟨b, 0, none⟩), .pointer (some ⟨c, 0, none⟩)] w (au w b c t d p v g a' m' L R' P') := by
 have hS := Lib.hid h
 have hsub := fun (W : World) => Bi 1099511627776 P.now W
 have hnw := hk.now
 obtain ⟨sb, hsb⟩ : ∃ sb, sb = 1099511627776 - P.now := ⟨_, rfl⟩
 rw [show hd (hd 1099511627776 - hd P.now) = sb by rw [hsb]; unfold hd; omega] at hsub
 obtain ⟨ty, hty⟩ : ∃ ty, R.ag.till = ty := ⟨_, rfl⟩
 rw [hty] at hlow hhi hfw
 have d1 : decide (ty < 1) = false := decide_eq_false hlow
 have d2 : decide (ty > sb) = false := decide_eq_false (by omega)
 have wt : IntKind.i64.wrap (P.now + ty) = P.now + ty := by rw [IntKind.wrap_i64]; omega
 replace hhi := Lib.hid hhi
 replace hty := Lib.hid hty
 replace hsb := Lib.hid hsb
 clear h
 go_enter Tryz.func125, Tryz.ntmps125
 go_wp2_with fail
 refine Reg2.rd w 18 44 [[],[ae],[ae,ae],[ae,ae,ae],[ae,ae,ae,ae],[ae,ae,ae,ae,ae],[ae,ae,ae,ae,ae,ae],[ae,ae,ae,ae,ae,ae,ae],[ae,ae,ae,ae,ae,ae,ae,ae],[ae,ae,ae,ae,ae,ae,ae,ae,ae],[ae,ae,ae,ae,ae,ae,ae,ae,ae,ae],[ae,ae,ae,ae,ae,ae,ae,ae,ae,ae,ae],[ae,ae,ae,ae,ae,ae,ae,af,af,af,af,af],[ae,ae,ae,ae,ae,ae,ae,af,af,af,af,af,ae],[ae,ae,ae,ae,ae,ae,ae,af,af,af,af,af,ae,ae],[ae,ae,ae,ae,ae,ae,ae,af,af,af,af,af,ae,ae,ae],[ae,ae,ae,ae,ae,ae,ae,af,af,af,af,af,ae,ae,ae,ae],[ae,ae,ae,ae,ae,ae,ae,af,af,af,af,af,ae,ae,ae,ae,ae]] [0, 0, 0, 0, 1, 0, 0, 0, 0, 0, 0, 1, 0, 0, 0, 1, 1, 1] [.pure, .pure, .pure, .pure, .mU (.int .i64 ty), .pure, .pure, .pure, .pure, .pure, .pure, .mU (.int .i64 ty), .pure, .pure, .pure, .mU (.pointer (some ⟨p, 0, none⟩)), .mU (.int .i64 P.now), .mU (.int .i64 sb)] (by kernel_rfl) (by kernel_rfl) rfl rfl ⟨trivial, trivial, trivial, trivial, Reg2.tt, trivial, trivial, trivial, trivial, trivial, trivial, Reg2.tt, trivial, trivial, trivial, Reg2.tt, Reg2.tt, Reg2.tt, trivial⟩ ⟨rfl, rfl, rfl, Nat.le_refl _, fun _ _ => rfl⟩ ?_
 dsimp only [Reg2.mk, List.zip, List.zipWith, List.take]
 repeat (refine' Reg2.ai _ (by rfl) (fun wz => ?_) ?_; rotate_left; (go_simp; first | rfl | rw [if_neg (by omega)]); simp only [Act.put, xA, xB, xC]; (try simp only [xD]); (try simp only [xE]); (try simp only [id]))
 refine Reg2.pm (fun wz hI hF => ?_) (fun r4 => ?_) (by rfl)
 ·have q0 := (hS.out.kept hI).wk.at 8 (.int .i64 R.ag.till) rfl
  rw [hty.out] at q0
  go_wp2_with fail
  first | exact ⟨_, rfl, rfl, Reg2.Ext.refl _⟩ | exact ⟨_, rfl, ⟨(), rfl, trivial⟩, Reg2.Ext.refl _⟩
 simp only [Act.put, xA, xB, xC]; (try simp only [xD]); (try simp only [xE]); (try simp only [id])
 repeat (refine' Reg2.ai _ (by rfl) (fun wz => ?_) ?_; rotate_left; (go_simp; first | rfl | rw [if_neg (by omega)]); simp only [Act.put, xA, xB, xC]; (try simp only [xD]); (try simp only [xE]); (try simp only [id]))
 refine Reg2.pm (fun wz hI hF => ?_) (fun Nh => ?_) (by rfl)
 ·have q0 := (hS.out.kept hI).wk.at 8 (.int .i64 R.ag.till) rfl
  rw [hty.out] at q0
  go_wp2_with fail
  first | exact ⟨_, rfl, rfl, Reg2.Ext.refl _⟩ | exact ⟨_, rfl, ⟨(), rfl, trivial⟩, Reg2.Ext.refl _⟩
 simp only [Act.put, xA, xB, xC]; (try simp only [xD]); (try simp only [xE]); (try simp only [id])
 repeat (refine' Reg2.ai _ (by rfl) (fun wz => ?_) ?_; rotate_left; (go_simp; first | rfl | rw [if_neg (by omega)]); simp only [Act.put, xA, xB, xC]; (try simp only [xD]); (try simp only [xE]); (try simp only [id]))
 refine Reg2.pm (fun wz hI hF => ?_) (fun Uf => ?_) (by rfl)
 ·have c0 := (hS.out.cw.kept hI).c2
  go_wp2_with fail
  first | exact ⟨_, rfl, rfl, Reg2.Ext.refl _⟩ | exact ⟨_, rfl, ⟨(), rfl, trivial⟩, Reg2.Ext.refl _⟩
 simp only [Act.put, xA, xB, xC]; (try simp only [xD]); (try simp only [xE]); (try simp only [id])
 refine Reg2.pm (fun wz hI hF => ?_) (fun r16 => ?_) (by rfl)
 ·go_wp2_with (go_at_call 25; go_must (refine (gQ (hS.out.kept hI).cw).mono ?_); rintro e w' ⟨rfl, rfl⟩)
  first | exact ⟨_, rfl, rfl, Reg2.Ext.refl _⟩ | exact ⟨_, rfl, ⟨(), rfl, trivial⟩, Reg2.Ext.refl _⟩
 simp only [Act.put, xA, xB, xC]; (try simp only [xD]); (try simp only [xE]); (try simp only [id])
 refine Reg2.pm (fun wz hI hF => ?_) (fun Vv => ?_) (by rfl)
 ·go_wp2_with (go_at_call 147; go_must (refine (hsub wz).mono ?_); rintro e w' ⟨rfl, rfl⟩)
  first | exact ⟨_, rfl, rfl, Reg2.Ext.refl _⟩ | exact ⟨_, rfl, ⟨(), rfl, trivial⟩, Reg2.Ext.refl _⟩
 simp only [Act.put, xA, xB, xC]; (try simp only [xD]); (try simp only [xE]); (try simp only [id])
 refine Reg2.aC ?_
 intro w4 HI4 _ fG
 clear fG
 dsimp only [List.drop]
 have bN := Lib.hid (hS.out.kept HI4)
 go_wp2_with fail
 refine Reg2.rd w4 12 44 [[],[af],[af,ae],[af,ae,ae],[af,ae,ae,ae],[af,ae,ae,ae,ae],[af,af,af,af,af,af],[af,af,af,af,af,af,ae],[af,af,af,af,af,af,ae,ae],[af,af,af,af,af,af,ae,ae,ae],[af,af,af,af,af,af,ae,ae,ae,ae],[af,ae,ae,ae,ae,ae,ae,ae,ae,ae,ae]] [0, 0, 0, 0, 1, 1, 0, 0, 0, 0, 1, 0] [.pure, .pure, .pure, .pure, .mU (.pointer (some ⟨p, 0, none⟩)), .mU (.int .i64 P.now), .pure, .pure, .pure, .pure, .mU (.int .i64 ty), .pure] (by kernel_rfl) (by kernel_rfl) rfl rfl ⟨trivial, trivial, trivial, trivial, Reg2.tt, Reg2.tt, trivial, trivial, trivial, trivial, Reg2.tt, trivial, trivial⟩ ⟨rfl, rfl, rfl, Nat.le_refl _, fun _ _ => rfl⟩ ?_
 dsimp only [Reg2.mk, List.zip, List.zipWith, List.take]
 repeat (refine' Reg2.ai _ (by rfl) (fun wz => ?_) ?_; rotate_left; (go_simp; first | rfl | rw [if_neg (by omega)]); simp only [Act.put, xA, xB, xC]; (try simp only [xD]); (try simp only [xE]); (try simp only [id]))
 refine Reg2.pm (fun wz hI hF => ?_) (fun r4 => ?_) (by rfl)
 ·have c0 := (bN.out.cw.kept hI).c2
  go_wp2_with fail
  first | exact ⟨_, rfl, rfl, Reg2.Ext.refl _⟩ | exact ⟨_, rfl, ⟨(), rfl, trivial⟩, Reg2.Ext.refl _⟩
 simp only [Act.put, xA, xB, xC]; (try simp only [xD]); (try simp only [xE]); (try simp only [id])
 refine Reg2.pm (fun wz hI hF => ?_) (fun r5 => ?_) (by rfl)
 ·go_wp2_with (go_at_call 25; go_must (refine (gQ (bN.out.kept hI).cw).mono ?_); rintro e w' ⟨rfl, rfl⟩)
  first | exact ⟨_, rfl, rfl, Reg2.Ext.refl _⟩ | exact ⟨_, rfl, ⟨(), rfl, trivial⟩, Reg2.Ext.refl _⟩
 simp only [Act.put, xA, xB, xC]; (try simp only [xD]); (try simp only [xE]); (try simp only [id])
 repeat (refine' Reg2.ai _ (by rfl) (fun wz => ?_) ?_; rotate_left; (go_simp; first | rfl | rw [if_neg (by omega)]); simp only [Act.put, xA, xB, xC]; (try simp only [xD]); (try simp only [xE]); (try simp only [id]))
 refine Reg2.pm (fun wz hI hF => ?_) (fun zn => ?_) (by rfl)
 ·have q0 := (bN.out.kept hI).wk.at 8 (.int .i64 R.ag.till) rfl
  rw [hty.out] at q0
  go_wp2_with fail
  first | exact ⟨_, rfl, rfl, Reg2.Ext.refl _⟩ | exact ⟨_, rfl, ⟨(), rfl, trivial⟩, Reg2.Ext.refl _⟩
 simp only [Act.put, xA, xB, xC]; (try simp only [xD]); (try simp only [xE]); (try simp only [id])
 repeat (refine' Reg2.ai _ (by rfl) (fun wz => ?_) ?_; rotate_left; (go_simp; first | rfl | rw [if_neg (by omega)]); simp only [Act.put, xA, xB, xC]; (try simp only [xD]); (try simp only [xE]); (try simp only [id]))
 refine Reg2.aC ?_
 intro w6 Hz _ fG
 clear fG
 dsimp only [List.drop]
 have dR := bN.out.kept Hz
 have a23 := dR.wk.at 23 (.int .i64 R.target) rfl
 have f23 := dR.wk.free 23
 have gM := dR.work (dR.wk.target (P.now + ty)) (dB w6 23 (.int .i64 (P.now + ty)))
 have Kl := (WS.of_below (HI4.trans (Hz.mono HI4.size)) : WS w w6 b c t d p v g v g).trans (WS.bH (dB w6 23 (.int .i64 (P.now + ty))))
 have SL := hfw _ gM
 go_wp2_with fail
 go_at_call 148
 refine SL.mono ?_
 clear SL
 rintro e w8 ⟨rfl, v8, g8, gT, dU⟩
 have Ki := Kl.trans dU
 go_wp2_with fail
 go_ret
 exact ⟨rfl, v8, g8, gT, Ki⟩
end
end Go.Proofs.YtnihdgcfamoplaaGreat

namespace Go.Proofs.YtnihdgcfamoplaaGreat
open Go.RowKit Go.Lib Go.Sort
section
variable {w : World} {b c t d p g a : Nat} {v : Value} {m : Int} {P : Pg} {M : Md} {R : Wk}
theorem zx (h : SW w b c t d p v g a m R P) (hq : R.ag.kind = 6) (e1 : Int) (he1 : e1 ≠ 0) (he : gP P.J R.ag.id = e1) :
  Calls Tryz.prog 101 #[.pointer (some ⟨b, 0, none⟩), .pointer (some ⟨c, 0, none⟩)] w (au w b c t d p v g a m .nilFunc { R with rep := ku e1, ok := false } P) := by
 have zJ := bL
 obtain ⟨k, hk1⟩ : ∃ k, k = 10 := ⟨_, rfl⟩
 rw [← hk1] at zJ
 have hk0 : ¬ k = 0 := by omega
 have lY := ax (bM P.J R.ag.id)
 rw [← hk1] at lY
 replace hk1 := Lib.hid hk1
 have q0 := h.wk.at 0 (.int .i64 R.ag.kind) rfl
 rw [hq] at q0
 obtain ⟨y, hy⟩ : ∃ y, y = bM P.J R.ag.id := ⟨_, rfl⟩
 obtain ⟨e0, he0⟩ : ∃ e0, e0 = gP P.J R.ag.id := ⟨_, rfl⟩
 have hgo : Hid (∀ W, SW W b c t d p v g a m R P → Calls Tryz.prog 33 #[.pointer (some ⟨t, 0, none⟩), .int .i64 R.ag.id] W fun e w' => e = .returned (.tuple #[.agg (ah y).toArray, .int .i64 e0]) ∧ Gr W w') := fun W hW => by
  have := gK hW.cw.dX R.ag.id
  unfold iF at this
  rw [← hy, ← he0] at this
  exact this
 rw [← he0] at he
 rw [← hy] at lY
 replace he := Lib.hid he
 have hS := Lib.hid h
 replace he0 := Lib.hid he0
 replace hy := Lib.hid hy
 replace hq := Lib.hid hq
 clear h
 go_enter Tryz.func101, Tryz.ntmps101
 go_wp2_with fail
 refine Reg2.qD 15 73 [[],[ae],[ae,ae],[ae,ae,ae],[af,af,af,af],[af,af,af,af,ae],[af,af,af,af,ae,ae],[af,af,af,af,ae,ae,ae],[af,af,af,af,ae,ae,ae,ae],[ae,ae,ae,ae,ae,ae,ae,ae,ae],[ae,ae,ae,ae,ae,ae,ae,ae,ae,ae],[ae,ae,ae,ae,ae,ae,ae,ae,ae,ae,ae],[ae,ae,ae,ae,ae,ae,ae,ae,ae,ae,ae,af],[af,af,af,af,af,af,af,af,af,af,af,af,af],[ae,ae,ae,ae,ae,ae,ae,ae,ae,ae,ae,ae,af,ae]] [0, 0, 0, 1, 0, 0, 0, 0, 1, 1, 0, 0, 0, 3, 3]
  [.pure, .pure, .pure, .mU (.pointer (some ⟨t, 0, none⟩)), .pure, .pure, .pure, .pure, .mU (.int .i64 R.ag.id), .mU (.tuple #[.agg (ah y).toArray, .int .i64 e0]), .pure, .pure, .pure, .major Nat 0 (fun k => .pointer (some ⟨k, 0, none⟩)), .major Unit () (fun _ => undef)]
  (fun W => Below w.heap.size w W) (iJ w y) (fun a b => Below w.heap.size a b) (by kernel_rfl) (by kernel_rfl) rfl rfl (fun vs a b h hs => iJ.ext h hs) ?_ ?_ ?_ ?_ ?_ ?_ ?_
 ·intro a b he hb; exact hb.trans (Below.mono he hb.size)
 ·intro a b he hb; exact hb.trans he
 ·exact ⟨trivial, trivial, trivial, ⟨fun _ _ _ _ _ => trivial, fun _ _ _ _ _ => trivial⟩, trivial, trivial, trivial, trivial, ⟨fun _ _ _ _ _ => trivial, fun _ _ _ _ _ => trivial⟩, ⟨fun _ _ _ _ _ => trivial, fun _ _ _ _ _ => trivial⟩, trivial, trivial, trivial, trivial, trivial, trivial⟩
 ·exact ⟨(fun h => nomatch h), (fun h => nomatch h), (fun h => nomatch h), (fun h => nomatch h), (fun h => nomatch h), (fun h => nomatch h), (fun h => nomatch h), (fun h => nomatch h), (fun h => nomatch h), (fun h => nomatch h), (fun h => nomatch h), (fun h => nomatch h), (fun h => nomatch h), (fun h => nomatch h), (fun _ _ => rfl), trivial⟩
 ·exact ⟨rfl, rfl, rfl, Nat.le_refl _, fun _ _ => rfl⟩
 ·exact ⟨⟨rfl, rfl, rfl, Nat.le_refl _, fun _ _ => rfl⟩, trivial⟩
 dsimp only [Reg2.mk, List.zip, List.zipWith, List.take]
 repeat (refine' Reg2.ai _ (by rfl) (fun wz => ?_) ?_; rotate_left; (go_simp; first | rfl | rw [if_neg (by omega)]); simp only [Act.put, xA, xB, xC]; (try simp only [xD]); (try simp only [xE]); (try simp only [id]))
 refine Reg2.pm (fun wz hI hF => ?_) (fun r3 => ?_) (by rfl)
 ·have c0 := (hS.out.kept hI).cw.c0
  go_wp2_with fail
  first | exact ⟨_, rfl, rfl, Reg2.Ext.refl _⟩ | exact ⟨_, rfl, ⟨(), rfl, trivial⟩, Reg2.Ext.refl _⟩
 simp only [Act.put, xA, xB, xC]; (try simp only [xD]); (try simp only [xE]); (try simp only [id])
 repeat (refine' Reg2.ai _ (by rfl) (fun wz => ?_) ?_; rotate_left; (go_simp; first | rfl | rw [if_neg (by omega)]); simp only [Act.put, xA, xB, xC]; (try simp only [xD]); (try simp only [xE]); (try simp only [id]))
 refine Reg2.pm (fun wz hI hF => ?_) (fun r8 => ?_) (by rfl)
 ·have q0 := (hS.out.kept hI).wk.at 1 (.int .i64 R.ag.id) rfl
  go_wp2_with fail
  first | exact ⟨_, rfl, rfl, Reg2.Ext.refl _⟩ | exact ⟨_, rfl, ⟨(), rfl, trivial⟩, Reg2.Ext.refl _⟩
 simp only [Act.put, xA, xB, xC]; (try simp only [xD]); (try simp only [xE]); (try simp only [id])
 refine Reg2.pm (fun wz hI hF => ?_) (fun r9 => ?_) (by rfl)
 ·go_wp2_with (go_at_call 33; go_must (refine (hgo.out wz (hS.out.kept hI)).mono ?_); rintro e w' ⟨rfl, hg5⟩; have hb5 := hg5.below)
  first | exact ⟨_, rfl, ⟨(), rfl, trivial⟩, hb5⟩ | exact ⟨_, rfl, rfl, hb5⟩
 simp only [Act.put, xA, xB, xC]; (try simp only [xD]); (try simp only [xE]); (try simp only [id])
 repeat (refine' Reg2.ai _ (by rfl) (fun wz => ?_) ?_; rotate_left; (go_simp; first | rfl | rw [if_neg (by omega)]); simp only [Act.put, xA, xB, xC]; (try simp only [xD]); (try simp only [xE]); (try simp only [id]))
 refine Reg2.pj (fun wz hI hS hF => ?_) (fun Fh => ?_) (by rfl)
 ·go_wp2_with fail
  exact ⟨_, rfl, ⟨⟨_, rfl⟩, iJ.alloc hS⟩, (Below.refl _ _).alloc hI.size _⟩
 simp only [Act.put, xA, xB, xC]; (try simp only [xD]); (try simp only [xE]); (try simp only [id])
 refine Reg2.pj (fun wz hI hS hF => ?_) (fun Ck => ?_) (by rfl)
 ·obtain ⟨hz, hge⟩ := iJ.zero hS
  have zw := nS (x := y) hz
  have hfin := iJ.store hS
  have hbw : Below w.heap.size wz (wz.setRow Fh (ah y).toArray) := qp (Below.refl _ _) hge _
  generalize ah y = cY at *
  go_wp2_with fail
  exact ⟨_, rfl, ⟨⟨(), rfl⟩, hfin⟩, hbw⟩
 simp only [Act.put, xA, xB, xC]; (try simp only [xD]); (try simp only [xE]); (try simp only [id])
 refine Reg2.aC ?_
 intro w7 jZ rG kG
 clear kG rG
 dsimp only [List.drop]
 have gM := hS.out.kept jZ
 have d3 : (e0 != 0) = true := by rw [he.out]; simp [he1]
 have hf := iI gM.wk e0
 go_wp2_with (go_at_call 95; go_must (refine hf.mono ?_); rintro e w8 ⟨rfl, dU, gy⟩)
 go_ret
 have e9 := he.out
 clear he
 subst e9
 exact ⟨rfl, v, g, gM.work dU gy, (WS.of_below jZ).trans (WS.bH gy)⟩
theorem Br (h : SW w b c t d p v g a m R P) (hq : R.ag.kind = 6) (he : gP P.J R.ag.id = 0) :
  Calls Tryz.prog 101 #[.pointer (some ⟨b, 0, none⟩), .pointer (some ⟨c, 0, none⟩)] w (au w b c t d p v g a m .nilFunc { R with rep := iX (bM P.J R.ag.id) } P) := by
 have zJ := bL
 obtain ⟨k, hk1⟩ : ∃ k, k = 10 := ⟨_, rfl⟩
 rw [← hk1] at zJ
 have hk0 : ¬ k = 0 := by omega
 have lY := ax (bM P.J R.ag.id)
 rw [← hk1] at lY
 replace hk1 := Lib.hid hk1
 have q0 := h.wk.at 0 (.int .i64 R.ag.kind) rfl
 rw [hq] at q0
 obtain ⟨y, hy⟩ : ∃ y, y = bM P.J R.ag.id := ⟨_, rfl⟩
 obtain ⟨e0, he0⟩ : ∃ e0, e0 = gP P.J R.ag.id := ⟨_, rfl⟩
 have hgo : Hid (∀ W, SW W b c t d p v g a m R P → Calls Tryz.prog 33 #[.pointer (some ⟨t, 0, none⟩), .int .i64 R.ag.id] W fun e w' => e = .returned (.tuple #[.agg (ah y).toArray, .int .i64 e0]) ∧ Gr W w') := fun W hW => by
  have := gK hW.cw.dX R.ag.id
  unfold iF at this
  rw [← hy, ← he0] at this
  exact this
 rw [← he0] at he
 rw [← hy] at lY
 replace he := Lib.hid he
 have hS := Lib.hid h
 replace he0 := Lib.hid he0
 replace hy := Lib.hid hy
 replace hq := Lib.hid hq
 clear h
 go_enter Tryz.func101, Tryz.ntmps101
 go_wp2_with fail
 refine Reg2.qD 15 73 [[],[ae],[ae,ae],[ae,ae,ae],[af,af,af,af],[af,af,af,af,ae],[af,af,af,af,ae,ae],[af,af,af,af,ae,ae,ae],[af,af,af,af,ae,ae,ae,ae],[ae,ae,ae,ae,ae,ae,ae,ae,ae],[ae,ae,ae,ae,ae,ae,ae,ae,ae,ae],[ae,ae,ae,ae,ae,ae,ae,ae,ae,ae,ae],[ae,ae,ae,ae,ae,ae,ae,ae,ae,ae,ae,af],[af,af,af,af,af,af,af,af,af,af,af,af,af],[ae,ae,ae,ae,ae,ae,ae,ae,ae,ae,ae,ae,af,ae]] [0, 0, 0, 1, 0, 0, 0, 0, 1, 1, 0, 0, 0, 3, 3]
  [.pure, .pure, .pure, .mU (.pointer (some ⟨t, 0, none⟩)), .pure, .pure, .pure, .pure, .mU (.int .i64 R.ag.id), .mU (.tuple #[.agg (ah y).toArray, .int .i64 e0]), .pure, .pure, .pure, .major Nat 0 (fun k => .pointer (some ⟨k, 0, none⟩)), .major Unit () (fun _ => undef)]
  (fun W => Below w.heap.size w W) (iJ w y) (fun a b => Below w.heap.size a b) (by kernel_rfl) (by kernel_rfl) rfl rfl (fun vs a b h hs => iJ.ext h hs) ?_ ?_ ?_ ?_ ?_ ?_ ?_
 ·intro a b he hb; exact hb.trans (Below.mono he hb.size)
 ·intro a b he hb; exact hb.trans he
 ·exact ⟨trivial, trivial, trivial, ⟨fun _ _ _ _ _ => trivial, fun _ _ _ _ _ => trivial⟩, trivial, trivial, trivial, trivial, ⟨fun _ _ _ _ _ => trivial, fun _ _ _ _ _ => trivial⟩, ⟨fun _ _ _ _ _ => trivial, fun _ _ _ _ _ => trivial⟩, trivial, trivial, trivial, trivial, trivial, trivial⟩
 ·exact ⟨(fun h => nomatch h), (fun h => nomatch h), (fun h => nomatch h), (fun h => nomatch h), (fun h => nomatch h), (fun h => nomatch h), (fun h => nomatch h), (fun h => nomatch h), (fun h => nomatch h), (fun h => nomatch h), (fun h => nomatch h), (fun h => nomatch h), (fun h => nomatch h), (fun h => nomatch h), (fun _ _ => rfl), trivial⟩
 ·exact ⟨rfl, rfl, rfl, Nat.le_refl _, fun _ _ => rfl⟩
 ·exact ⟨⟨rfl, rfl, rfl, Nat.le_refl _, fun _ _ => rfl⟩, trivial⟩
 dsimp only [Reg2.mk, List.zip, List.zipWith, List.take]
 repeat (refine' Reg2.ai _ (by rfl) (fun wz => ?_) ?_; rotate_left; (go_simp; first | rfl | rw [if_neg (by omega)]); simp only [Act.put, xA, xB, xC]; (try simp only [xD]); (try simp only [xE]); (try simp only [id]))
 refine Reg2.pm (fun wz hI hF => ?_) (fun r3 => ?_) (by rfl)
 ·have c0 := (hS.out.kept hI).cw.c0
  go_wp2_with fail
  first | exact ⟨_, rfl, rfl, Reg2.Ext.refl _⟩ | exact ⟨_, rfl, ⟨(), rfl, trivial⟩, Reg2.Ext.refl _⟩
 simp only [Act.put, xA, xB, xC]; (try simp only [xD]); (try simp only [xE]); (try simp only [id])
 repeat (refine' Reg2.ai _ (by rfl) (fun wz => ?_) ?_; rotate_left; (go_simp; first | rfl | rw [if_neg (by omega)]); simp only [Act.put, xA, xB, xC]; (try simp only [xD]); (try simp only [xE]); (try simp only [id]))
 refine Reg2.pm (fun wz hI hF => ?_) (fun r8 => ?_) (by rfl)
 ·have q0 := (hS.out.kept hI).wk.at 1 (.int .i64 R.ag.id) rfl
  go_wp2_with fail
  first | exact ⟨_, rfl, rfl, Reg2.Ext.refl _⟩ | exact ⟨_, rfl, ⟨(), rfl, trivial⟩, Reg2.Ext.refl _⟩
 simp only [Act.put, xA, xB, xC]; (try simp only [xD]); (try simp only [xE]); (try simp only [id])
 refine Reg2.pm (fun wz hI hF => ?_) (fun r9 => ?_) (by rfl)
 ·go_wp2_with (go_at_call 33; go_must (refine (hgo.out wz (hS.out.kept hI)).mono ?_); rintro e w' ⟨rfl, hg5⟩; have hb5 := hg5.below)
  first | exact ⟨_, rfl, ⟨(), rfl, trivial⟩, hb5⟩ | exact ⟨_, rfl, rfl, hb5⟩
 simp only [Act.put, xA, xB, xC]; (try simp only [xD]); (try simp only [xE]); (try simp only [id])
 repeat (refine' Reg2.ai _ (by rfl) (fun wz => ?_) ?_; rotate_left; (go_simp; first | rfl | rw [if_neg (by omega)]); simp only [Act.put, xA, xB, xC]; (try simp only [xD]); (try simp only [xE]); (try simp only [id]))
 refine Reg2.pj (fun wz hI hS hF => ?_) (fun Fh => ?_) (by rfl)
 ·go_wp2_with fail
  exact ⟨_, rfl, ⟨⟨_, rfl⟩, iJ.alloc hS⟩, (Below.refl _ _).alloc hI.size _⟩
 simp only [Act.put, xA, xB, xC]; (try simp only [xD]); (try simp only [xE]); (try simp only [id])
 refine Reg2.pj (fun wz hI hS hF => ?_) (fun Ck => ?_) (by rfl)
 ·obtain ⟨hz, hge⟩ := iJ.zero hS
  have zw := nS (x := y) hz
  have hfin := iJ.store hS
  have hbw : Below w.heap.size wz (wz.setRow Fh (ah y).toArray) := qp (Below.refl _ _) hge _
  generalize ah y = cY at *
  go_wp2_with fail
  exact ⟨_, rfl, ⟨⟨(), rfl⟩, hfin⟩, hbw⟩
 simp only [Act.put, xA, xB, xC]; (try simp only [xD]); (try simp only [xE]); (try simp only [id])
 refine Reg2.aC ?_
 intro w7 jZ rG kG
 clear kG rG
 dsimp only [List.drop]
 have gM := hS.out.kept jZ
 have d3 : (e0 != 0) = false := by rw [he.out]; rfl
 have q1 := gM.wk.at 1 (.int .i64 R.ag.id) rfl
 have ht := nN gM R.ag.id
 go_wp2_with (go_at_call 114; go_must (refine ht.mono ?_); rintro e w8 ⟨rfl, dU, gy⟩)
 go_ret
 exact ⟨rfl, v, g, gM.work dU gy, (WS.of_below jZ).trans (WS.bH gy)⟩
theorem KD (h : SW w b c t d p v g a m R P) (hk : PK P) (hq : R.ag.kind = 10) :
  Calls Tryz.prog 101 #[.pointer (some ⟨b, 0, none⟩), .pointer (some ⟨c, 0, none⟩)] w (au w b c t d p v g a m .nilFunc { R with rep := ⟨0, 0, 0, 0, 0, 0, (aS (il P.T) 64 : Int), (aS (bT P.T) 64 : Int), (aS (fun i => bV P.T i && !bT P.T i) 64 : Int)⟩ } P) := by
 have q0 := h.wk.at 0 (.int .i64 R.ag.kind) rfl
 rw [hq] at q0
 replace hq := Lib.hid hq
 have zY := sQ
 obtain ⟨k9, bS⟩ : ∃ k, k = 9 := ⟨_, rfl⟩
 rw [← bS] at zY
 have hk0 : ¬ k9 = 0 := by omega
 have cc := h.cw.c1
 have hco := GN h.cw.nodes hk.qo
 have hth := fun (x y z : Int) (W : World) => xV x y z W
 obtain ⟨v0, hv0⟩ : ∃ x : Int, x = (aS (il P.T) 64 : Int) := ⟨_, rfl⟩
 obtain ⟨v1, hv1⟩ : ∃ x : Int, x = (aS (bT P.T) 64 : Int) := ⟨_, rfl⟩
 obtain ⟨v2, hv2⟩ : ∃ x : Int, x = (aS (fun i => bV P.T i && !bT P.T i) 64 : Int) := ⟨_, rfl⟩
 rw [← hv0, ← hv1, ← hv2] at hco ⊢
 replace hv0 := Lib.hid hv0
 replace hv1 := Lib.hid hv1
 replace hv2 := Lib.hid hv2
 have hS := Lib.hid h
 clear h
 go_enter Tryz.func101, Tryz.ntmps101
 go_wp2_with fail
 go_at_call 116
 refine hco.mono ?_
 clear hco
 rintro e w1 ⟨rfl, mm, hw1⟩
 have hb1 : Below w.heap.size w w1 := by rw [hw1]; exact below_drewN (Below.refl _ _) _
 replace hw1 := Lib.hid hw1
 have hS1 := hS.out.kept hb1
 go_wp2_with fail
 go_at_call 115
 refine (hth _ _ _ w1).mono ?_
 clear hth
 rintro e w2 ⟨rfl, hb2⟩
 have hS2 := hS1.kept hb2
 obtain ⟨y, hy⟩ : ∃ y : Ry, y = ⟨0, 0, 0, 0, 0, 0, v0, v1, v2⟩ := ⟨_, rfl⟩
 rw [← hy]
 replace hy := Lib.hid hy
 obtain ⟨st, hW3⟩ := hS2.wk.Fb y
 have lY := iC y
 rw [← bS] at lY
 replace bS := Lib.hid bS
 have Iz := hS2.work hW3 (dh w2 _)
 have hfin := ((WS.of_below (hb1.trans (hb2.mono hb1.size)) : WS w w2 b c t d p v g v g)).trans (WS.bH (dh w2 (gH { R with rep := y }).toArray))
 generalize gH { R with rep := y } = W2 at *
 generalize bu y = cY at *
 go_wp2_with fail
 go_ret
 have ey := hy.out
 clear hy
 subst ey
 exact ⟨rfl, v, g, Iz, hfin⟩
theorem KE (h : SW w b c t d p v g a m R P) (hk : PK P) (hq : R.ag.kind = 11) :
  Calls Tryz.prog 101 #[.pointer (some ⟨b, 0, none⟩), .pointer (some ⟨c, 0, none⟩)] w (au w b c t d p v g a m .nilFunc { R with rep := ⟨0, 0, 0, 0, 0, 0, (cnt 1 P.J : Int), (cnt 2 P.J : Int), (cnt 3 P.J : Int)⟩ } P) := by
 have q0 := h.wk.at 0 (.int .i64 R.ag.kind) rfl
 rw [hq] at q0
 replace hq := Lib.hid hq
 have zY := sQ
 obtain ⟨k9, bS⟩ : ∃ k, k = 9 := ⟨_, rfl⟩
 rw [← bS] at zY
 have hk0 : ¬ k9 = 0 := by omega
 have cc := h.cw.c0
 have hco := Aq h.cw.dX (by have := hk.few; omega)
 have hth := fun (x y z : Int) (W : World) => xV x y z W
 obtain ⟨v0, hv0⟩ : ∃ x : Int, x = (cnt 1 P.J : Int) := ⟨_, rfl⟩
 obtain ⟨v1, hv1⟩ : ∃ x : Int, x = (cnt 2 P.J : Int) := ⟨_, rfl⟩
 obtain ⟨v2, hv2⟩ : ∃ x : Int, x = (cnt 3 P.J : Int) := ⟨_, rfl⟩
 rw [← hv0, ← hv1, ← hv2] at hco ⊢
 replace hv0 := Lib.hid hv0
 replace hv1 := Lib.hid hv1
 replace hv2 := Lib.hid hv2
 have hS := Lib.hid h
 clear h
 go_enter Tryz.func101, Tryz.ntmps101
 go_wp2_with fail
 go_at_call 117
 refine hco.mono ?_
 clear hco
 rintro e w1 ⟨rfl, hb1⟩
 have hS1 := hS.out.kept hb1
 go_wp2_with fail
 go_at_call 115
 refine (hth _ _ _ w1).mono ?_
 clear hth
 rintro e w2 ⟨rfl, hb2⟩
 have hS2 := hS1.kept hb2
 obtain ⟨y, hy⟩ : ∃ y : Ry, y = ⟨0, 0, 0, 0, 0, 0, v0, v1, v2⟩ := ⟨_, rfl⟩
 rw [← hy]
 replace hy := Lib.hid hy
 obtain ⟨st, hW3⟩ := hS2.wk.Fb y
 have lY := iC y
 rw [← bS] at lY
 replace bS := Lib.hid bS
 have Iz := hS2.work hW3 (dh w2 _)
 have hfin := ((WS.of_below (hb1.trans (hb2.mono hb1.size)) : WS w w2 b c t d p v g v g)).trans (WS.bH (dh w2 (gH { R with rep := y }).toArray))
 generalize gH { R with rep := y } = W2 at *
 generalize bu y = cY at *
 go_wp2_with fail
 go_ret
 have ey := hy.out
 clear hy
 subst ey
 exact ⟨rfl, v, g, Iz, hfin⟩
theorem IA (h : SW w b c t d p v g a m R P) (ha : a ≤ 1000) (hq : R.ag.kind = 12) :
  Calls Tryz.prog 101 #[.pointer (some ⟨b, 0, none⟩), .pointer (some ⟨c, 0, none⟩)] w (au w b c t d p v g a m .nilFunc { R with rep := ⟨0, 0, 0, P.now, 0, 0, P.f P.now, 0, 0⟩ } P) := by
 have q0 := h.wk.at 0 (.int .i64 R.ag.kind) rfl
 rw [hq] at q0
 replace hq := Lib.hid hq
 have hc := DJ h ha
 go_enter Tryz.func101, Tryz.ntmps101
 go_wp2_with (go_at_call 118; go_must (refine hc.mono ?_); rintro e w8 ⟨rfl, v8, g8, gT, dU⟩)
 go_ret
 exact ⟨rfl, v8, g8, gT, dU⟩
theorem Cs (h : SW w b c t d p v g a m R P) (hc : P.cl = true) :
  Calls Tryz.prog 83 #[.pointer (some ⟨b, 0, none⟩), .pointer (some ⟨c, 0, none⟩)] w (au w b c t d p v g a m .nilFunc { R with rep := ku 12, ok := false } P) := by
 have hcl := jv h.cw
 rw [hc] at hcl
 have hf := iI h.wk 12
 go_enter Tryz.func83, Tryz.ntmps83
 go_wp2_with (first | (go_at_call 21; go_must (refine hcl.mono ?_); rintro e w' ⟨rfl, rfl⟩) | (go_at_call 95; go_must (refine hf.mono ?_); rintro e w8 ⟨rfl, dU, gy⟩))
 go_ret
 exact ⟨rfl, v, g, h.work dU gy, WS.bH gy⟩
theorem IB (h : SW w b c t d p v g a m R P) (hc : P.cl = false) (hq : ¬ (1 ≤ R.ag.kind ∧ R.ag.kind ≤ 13)) :
  Calls Tryz.prog 83 #[.pointer (some ⟨b, 0, none⟩), .pointer (some ⟨c, 0, none⟩)] w (au w b c t d p v g a m .nilFunc { R with rep := ku 4, ok := false } P) := by
 have hcl := jv h.cw
 rw [hc] at hcl
 have hf := iI h.wk 4
 have q0 := h.wk.at 0 (.int .i64 R.ag.kind) rfl
 have his := Bl R.ag.kind w
 rw [show (decide (1 ≤ R.ag.kind) && decide (R.ag.kind ≤ 13)) = false by rw [Bool.and_eq_false_iff, decide_eq_false_iff_not, decide_eq_false_iff_not]; omega] at his
 generalize R.ag.kind = kk at *
 replace hq := Lib.hid hq
 go_enter Tryz.func83, Tryz.ntmps83
 go_wp2_with (first | (go_at_call 21; go_must (refine hcl.mono ?_); rintro e w' ⟨rfl, rfl⟩) | (go_at_call 48; go_must (refine his.mono ?_); rintro e w' ⟨rfl, rfl⟩) | (go_at_call 95; go_must (refine hf.mono ?_); rintro e w8 ⟨rfl, dU, gy⟩))
 go_ret
 exact ⟨rfl, v, g, h.work dU gy, WS.bH gy⟩
theorem IC (h : SW w b c t d p v g a m R P) (hc : P.cl = false) (hq : 1 ≤ R.ag.kind ∧ R.ag.kind ≤ 13) (hr : jG R.ag.kind = true) {L : Value} {a' : Nat} {m' : Int} {R' : Wk} {P' : Pg}
  (hn : Calls Tryz.prog 101 #[.pointer (some ⟨b, 0, none⟩), .pointer (some ⟨c, 0, none⟩)] w (au w b c t d p v g a' m' L R' P')) :
  Calls Tryz.prog 83 #[.pointer (some ⟨b, 0, none⟩), .pointer (some ⟨c, 0, none⟩)] w (au w b c t d p v g a' m' L R' P') := by
 have hcl := jv h.cw
 rw [hc] at hcl
 have q0 := h.wk.at 0 (.int .i64 R.ag.kind) rfl
 have his := Bl R.ag.kind w
 rw [show (decide (1 ≤ R.ag.kind) && decide (R.ag.kind ≤ 13)) = true by rw [decide_eq_true hq.1, decide_eq_true hq.2]; rfl] at his
 have hre := Dy R.ag.kind w
 rw [hr] at hre
 generalize R.ag.kind = kk at *
 replace hq := Lib.hid hq
 replace hr := Lib.hid hr
 go_enter Tryz.func83, Tryz.ntmps83
 go_wp2_with (first | (go_at_call 21; go_must (refine hcl.mono ?_); rintro e w' ⟨rfl, rfl⟩) | (go_at_call 48; go_must (refine his.mono ?_); rintro e w' ⟨rfl, rfl⟩) | (go_at_call 100; go_must (refine hre.mono ?_); rintro e w' ⟨rfl, rfl⟩) | (go_at_call 101; go_must (refine hn.mono ?_); rintro e w8 ⟨rfl, v8, g8, gT, dU⟩))
 go_ret
 exact ⟨rfl, v8, g8, gT, dU⟩
theorem fZ (h : SW w b c t d p v g a m R P) (hc : P.cl = false) (hq : 1 ≤ R.ag.kind ∧ R.ag.kind ≤ 13) (hr : jG R.ag.kind = false) {L : Value} {a' : Nat} {m' : Int} {R' : Wk} {P' : Pg}
  (hn : Calls Tryz.prog 102 #[.pointer (some ⟨b, 0, none⟩), .pointer (some ⟨c, 0, none⟩)] w (au w b c t d p v g a' m' L R' P')) :
  Calls Tryz.prog 83 #[.pointer (some ⟨b, 0, none⟩), .pointer (some ⟨c, 0, none⟩)] w (au w b c t d p v g a' m' L R' P') := by
 have hcl := jv h.cw
 rw [hc] at hcl
 have q0 := h.wk.at 0 (.int .i64 R.ag.kind) rfl
 have his := Bl R.ag.kind w
 rw [show (decide (1 ≤ R.ag.kind) && decide (R.ag.kind ≤ 13)) = true by rw [decide_eq_true hq.1, decide_eq_true hq.2]; rfl] at his
 have hre := Dy R.ag.kind w
 rw [hr] at hre
 generalize R.ag.kind = kk at *
 replace hq := Lib.hid hq
 replace hr := Lib.hid hr
 go_enter Tryz.func83, Tryz.ntmps83
 go_wp2_with (first | (go_at_call 21; go_must (refine hcl.mono ?_); rintro e w' ⟨rfl, rfl⟩) | (go_at_call 48; go_must (refine his.mono ?_); rintro e w' ⟨rfl, rfl⟩) | (go_at_call 100; go_must (refine hre.mono ?_); rintro e w' ⟨rfl, rfl⟩) | (go_at_call 102; go_must (refine hn.mono ?_); rintro e w8 ⟨rfl, v8, g8, gT, dU⟩))
 go_ret
 exact ⟨rfl, v8, g8, gT, dU⟩
theorem NK (h : SW w b c t d p v g a m R P) (hq : R.ag.kind = 1) {L : Value} {a' : Nat} {m' : Int} {R' : Wk} {P' : Pg}
  (hn : Calls Tryz.prog 119 #[.pointer (some ⟨b, 0, none⟩), .pointer (some ⟨c, 0, none⟩)] w (au w b c t d p v g a' m' L R' P')) :
  Calls Tryz.prog 102 #[.pointer (some ⟨b, 0, none⟩), .pointer (some ⟨c, 0, none⟩)] w (au w b c t d p v g a' m' L R' P') := by
 have q0 := h.wk.at 0 (.int .i64 R.ag.kind) rfl
 rw [hq] at q0
 replace hq := Lib.hid hq
 go_enter Tryz.func102, Tryz.ntmps102
 go_wp2_with (go_at_call 119; go_must (refine hn.mono ?_); rintro e w8 ⟨rfl, v8, g8, gT, dU⟩)
 go_ret
 exact ⟨rfl, v8, g8, gT, dU⟩
theorem NL (h : SW w b c t d p v g a m R P) (hq : R.ag.kind = 2) {L : Value} {a' : Nat} {m' : Int} {R' : Wk} {P' : Pg}
  (hn : Calls Tryz.prog 120 #[.pointer (some ⟨b, 0, none⟩), .pointer (some ⟨c, 0, none⟩), .int .i64 5] w (au w b c t d p v g a' m' L R' P')) :
  Calls Tryz.prog 102 #[.pointer (some ⟨b, 0, none⟩), .pointer (some ⟨c, 0, none⟩)] w (au w b c t d p v g a' m' L R' P') := by
 have q0 := h.wk.at 0 (.int .i64 R.ag.kind) rfl
 rw [hq] at q0
 replace hq := Lib.hid hq
 go_enter Tryz.func102, Tryz.ntmps102
 go_wp2_with (go_at_call 120; go_must (refine hn.mono ?_); rintro e w8 ⟨rfl, v8, g8, gT, dU⟩)
 go_ret
 exact ⟨rfl, v8, g8, gT, dU⟩
theorem NM (h : SW w b c t d p v g a m R P) (hq : R.ag.kind = 5) {L : Value} {a' : Nat} {m' : Int} {R' : Wk} {P' : Pg}
  (hn : Calls Tryz.prog 120 #[.pointer (some ⟨b, 0, none⟩), .pointer (some ⟨c, 0, none⟩), .int .i64 4] w (au w b c t d p v g a' m' L R' P')) :
  Calls Tryz.prog 102 #[.pointer (some ⟨b, 0, none⟩), .pointer (some ⟨c, 0, none⟩)] w (au w b c t d p v g a' m' L R' P') := by
 have q0 := h.wk.at 0 (.int .i64 R.ag.kind) rfl
 rw [hq] at q0
 replace hq := Lib.hid hq
 go_enter Tryz.func102, Tryz.ntmps102
 go_wp2_with (go_at_call 120; go_must (refine hn.mono ?_); rintro e w8 ⟨rfl, v8, g8, gT, dU⟩)
 go_ret
 exact ⟨rfl, v8, g8, gT, dU⟩
theorem NN (h : SW w b c t d p v g a m R P) (hq : R.ag.kind = 3) {L : Value} {a' : Nat} {m' : Int} {R' : Wk} {P' : Pg}
  (hn : Calls Tryz.prog 121 #[.pointer (some ⟨b, 0, none⟩), .pointer (some ⟨c, 0, none⟩)] w (au w b c t d p v g a' m' L R' P')) :
  Calls Tryz.prog 102 #[.pointer (some ⟨b, 0, none⟩), .pointer (some ⟨c, 0, none⟩)] w (au w b c t d p v g a' m' L R' P') := by
 have q0 := h.wk.at 0 (.int .i64 R.ag.kind) rfl
 rw [hq] at q0
 replace hq := Lib.hid hq
 go_enter Tryz.func102, Tryz.ntmps102
 go_wp2_with (go_at_call 121; go_must (refine hn.mono ?_); rintro e w8 ⟨rfl, v8, g8, gT, dU⟩)
 go_ret
 exact ⟨rfl, v8, g8, gT, dU⟩
theorem NP (h : SW w b c t d p v g a m R P) (hq : R.ag.kind = 4) {L : Value} {a' : Nat} {m' : Int} {R' : Wk} {P' : Pg}
  (hn : Calls Tryz.prog 122 #[.pointer (some ⟨b, 0, none⟩), .pointer (some ⟨c, 0, none⟩)] w (au w b c t d p v g a' m' L R' P')) :
  Calls Tryz.prog 102 #[.pointer (some ⟨b, 0, none⟩), .pointer (some ⟨c, 0, none⟩)] w (au w b c t d p v g a' m' L R' P') := by
 have q0 := h.wk.at 0 (.int .i64 R.ag.kind) rfl
 rw [hq] at q0
 replace hq := Lib.hid hq
 go_enter Tryz.func102, Tryz.ntmps102
 go_wp2_with (go_at_call 122; go_must (refine hn.mono ?_); rintro e w8 ⟨rfl, v8, g8, gT, dU⟩)
 go_ret
 exact ⟨rfl, v8, g8, gT, dU⟩
theorem NQ (h : SW w b c t d p v g a m R P) (hq : R.ag.kind = 7) {L : Value} {a' : Nat} {m' : Int} {R' : Wk} {P' : Pg}
  (hn : Calls Tryz.prog 123 #[.pointer (some ⟨b, 0, none⟩), .pointer (some ⟨c, 0, none⟩)] w (au w b c t d p v g a' m' L R' P')) :
  Calls Tryz.prog 102 #[.pointer (some ⟨b, 0, none⟩), .pointer (some ⟨c, 0, none⟩)] w (au w b c t d p v g a' m' L R' P') := by
 have q0 := h.wk.at 0 (.int .i64 R.ag.kind) rfl
 rw [hq] at q0
 replace hq := Lib.hid hq
 go_enter Tryz.func102, Tryz.ntmps102
 go_wp2_with (go_at_call 123; go_must (refine hn.mono ?_); rintro e w8 ⟨rfl, v8, g8, gT, dU⟩)
 go_ret
 exact ⟨rfl, v8, g8, gT, dU⟩
theorem NR (h : SW w b c t d p v g a m R P) (hq : R.ag.kind = 8) {L : Value} {a' : Nat} {m' : Int} {R' : Wk} {P' : Pg}
  (hn : Calls Tryz.prog 124 #[.pointer (some ⟨b, 0, none⟩), .pointer (some ⟨c, 0, none⟩)] w (au w b c t d p v g a' m' L R' P')) :
  Calls Tryz.prog 102 #[.pointer (some ⟨b, 0, none⟩), .pointer (some ⟨c, 0, none⟩)] w (au w b c t d p v g a' m' L R' P') := by
 have q0 := h.wk.at 0 (.int .i64 R.ag.kind) rfl
 rw [hq] at q0
 replace hq := Lib.hid hq
 go_enter Tryz.func102, Tryz.ntmps102
 go_wp2_with (go_at_call 124; go_must (refine hn.mono ?_); rintro e w8 ⟨rfl, v8, g8, gT, dU⟩)
 go_ret
 exact ⟨rfl, v8, g8, gT, dU⟩
theorem NS (h : SW w b c t d p v g a m R P) (hq : R.ag.kind = 9) {L : Value} {a' : Nat} {m' : Int} {R' : Wk} {P' : Pg}
  (hn : Calls Tryz.prog 125 #[.pointer (some ⟨b, 0, none⟩), .pointer (some ⟨c, 0, none⟩)] w (au w b c t d p v g a' m' L R' P')) :
  Calls Tryz.prog 102 #[.pointer (some ⟨b, 0, none⟩), .pointer (some ⟨c, 0, none⟩)] w (au w b c t d p v g a' m' L R' P') := by
 have q0 := h.wk.at 0 (.int .i64 R.ag.kind) rfl
 rw [hq] at q0
 replace hq := Lib.hid hq
 go_enter Tryz.func102, Tryz.ntmps102
 go_wp2_with (go_at_call 125; go_must (refine hn.mono ?_); rintro e w8 ⟨rfl, v8, g8, gT, dU⟩)
 go_ret
 exact ⟨rfl, v8, g8, gT, dU⟩
theorem KF (h : SW w b c t d p v g a m R P) (hq : R.ag.kind = 13) :
  Calls Tryz.prog 102 #[.pointer (some ⟨b, 0, none⟩), .pointer (some ⟨c, 0, none⟩)] w (au w b c t d p v g a m .nilFunc R { P with cl := true }) := by
 have q0 := h.wk.at 0 (.int .i64 R.ag.kind) rfl
 rw [hq] at q0
 replace hq := Lib.hid hq
 have c4 := h.cw.c4
 have f4 := h.cw.fz 4
 obtain ⟨hC, hS⟩ := h.cw.close
 have hS2 := h.core hC hS
 have hW2 := (WS.dE hS : WS w (w.setCell ⟨c, 4, none⟩ (.bool true)) b c t d p v g v g)
 go_enter Tryz.func102, Tryz.ntmps102
 go_wp2_with fail
 go_ret
 exact ⟨rfl, v, g, hS2, hW2⟩
end
end Go.Proofs.YtnihdgcfamoplaaGreat

namespace Go.Proofs.YtnihdgcfamoplaaGreat
open Go.RowKit Go.Lib Go.Sort
theorem NT (n : Nat) : dC (eZ n) = List.replicate n 1 := by
 refine oG (by rw [bG]; simp [eZ]) fun i hi => ?_
 have hin : i < n := by rw [bG] at hi; simpa [eZ] using hi
 rw [dA, fo (by simpa [eZ] using hin)]
 have h1 : ¬ 0 ≤ holderL (eZ n).L i := by unfold eZ holderL; simp
 rw [if_neg h1]
 simp [eZ, List.getD_eq_getElem?_getD, hin]
theorem KG (n : Nat) (t : Int) : ay (eZ n) t 0 = n := by
 unfold ay aM bZ
 have h1 : (List.range (eZ n).dr.length).countP (bW (eZ n) t) = n := by
  have e : (eZ n).dr.length = n := by simp [eZ]
  rw [e]
  have : (List.range n).countP (bW (eZ n) t) = (List.range n).length := by
   rw [List.countP_eq_length]
   intro k hk
   have hk := List.mem_range.1 hk
   unfold bW eZ holderL
   simp [List.getD_eq_getElem?_getD, hk]
  rw [this, List.length_range]
 rw [h1]
 simp [eZ]
structure QF (w0 w : World) (c t d p : Nat) (v : Value) (g a : Nat) (m : Int) (P : Pg) : Prop where
 cw : CW w c t d p v g a m P
 lo : ∀ k, dH c t d p v g k → w0.heap.size ≤ k
section
variable {w : World}
theorem NU (n : Int) (w : World) (h : n < 1 ∨ 64 < n) : Calls Tryz.prog 31 #[.int .i64 n] w fun e w' => e = .returned (.tuple #[.pointer none, .int .i64 1]) ∧ w = w' := by
 have hn := GU n w h
 go_enter Tryz.func31, Tryz.ntmps31
 go_wp2_with (go_at_call 68; go_must (refine hn.mono ?_); rintro e w' ⟨rfl, rfl⟩)
 go_ret2
 exact ⟨rfl, rfl⟩
theorem QG (n : Nat) (w : World) (h1 : 1 ≤ n) (h2 : n ≤ 64) : Calls Tryz.prog 31 #[.int .i64 n] w fun e w' => ∃ c t d p v g, e = .returned (.tuple #[.pointer (some ⟨c, 0, none⟩), .int .i64 0]) ∧ QF w w' c t d p v g 1 0 (aj (eZ n)) ∧ Below w.heap.size w w' := by
 have hn := GX n w h1 h2
 go_enter Tryz.func31, Tryz.ntmps31
 go_wp2_with fail
 go_at_call 68
 refine hn.mono ?_
 clear hn
 rintro e w1 ⟨rfl, hT1, hb1⟩
 have hs1 : w.heap.size < w1.heap.size := aG hT1
 have hp := Hd (n : Int) w1 (by omega)
 go_wp2_with fail
 go_at_call 69
 refine hp.mono ?_
 clear hp
 rintro e w2 ⟨p, g, rfl, hP2, lp, lg, hb2⟩
 have VR : TW w2 w.heap.size (List.replicate n 1) := hT1.kept hb2
 have hj := JB w2
 go_wp2_with fail
 go_at_call 70
 refine hj.mono ?_
 clear hj
 rintro e w3 ⟨rfl, hw3⟩
 have hb3 : Below w2.heap.size w2 w3 := by rw [← hw3]; exact (Below.refl _ _).alloc (Nat.le_refl _) _
 have hJ3 : TV w3 w2.heap.size (.slice none 0 0) [] := by rw [← hw3]; exact BV.U4 w2
 have uD := VR.kept hb3
 have hP3 := hP2.kept hb3
 have hs2 := hb2.size
 replace hw3 := Lib.hid hw3
 obtain ⟨w4, hw4⟩ : ∃ w4, w4 = w3.alloc (.cells #[.pointer (some ⟨w2.heap.size, 0, none⟩), .pointer (some ⟨w.heap.size, 0, none⟩), .pointer (some ⟨p, 0, none⟩), .bool true, .bool false] 52) := ⟨_, rfl⟩
 have hb4 : Below w3.heap.size w3 w4 := by rw [hw4]; exact (Below.refl _ _).alloc (Nat.le_refl _) _
 have hc4 : w4.heap[w3.heap.size]? = some (.cells #[.pointer (some ⟨w2.heap.size, 0, none⟩), .pointer (some ⟨w.heap.size, 0, none⟩), .pointer (some ⟨p, 0, none⟩), .bool true, .bool false] 52 (0, 0)) := by rw [hw4]; exact heap_alloc_new w3 _
 have hs3 := hb3.size
 have hCW : Hid (CW w4 w3.heap.size w2.heap.size w.heap.size p (.slice none 0 0) g 1 0 (aj (eZ n))) := by
  refine ⟨hc4, hJ3.kept hb4, by show TW w4 w.heap.size (dC (eZ n)); rw [NT]; exact uD.kept hb4, [(0, (n : Int))], 0, hP3.kept hb4, ?_, Nat.le_refl _, Int.le_refl _, Int.le_refl _⟩
  exact (PI n).congr fun t _ => (KG n t).symm
 have hlo : Hid (∀ k, dH w3.heap.size w2.heap.size w.heap.size p (.slice none 0 0) g k → w.heap.size ≤ k) := by
  rintro k (rfl | rfl | rfl | rfl | hv | rfl)
  ·omega
  ·omega
  ·exact Nat.le_refl _
  ·omega
  ·cases hv
  ·omega
 have hbw := hb1.trans ((hb2.trans ((hb3.trans (hb4.mono hb3.size)).mono hb2.size)).mono hb1.size)
 clear hc4 hJ3 uD hP3 hT1 VR hP2
 go_wp2_with fail
 rw [← hw4]
 go_ret2
 exact ⟨w3.heap.size, w2.heap.size, w.heap.size, p, .slice none 0 0, g, rfl, ⟨hCW.out, hlo.out⟩, hbw⟩
def wR (r : Rq) : Wk := ⟨lN r, 0, 0, fP 83, iA, 0, 0, jY, false⟩
def Bt (i t : Int) : Wk := ⟨TQ, i, t, fP 72, iA, 0, 0, jY, false⟩
theorem Ct (i t : Int) (w : World) : Calls Tryz.prog 36 #[.agg #[.int .i64 i, .int .i64 t]] w fun e w' => ∃ b, e = .returned (.pointer (some ⟨b, 0, none⟩)) ∧ cO w' b (Bt i t) ∧ w.heap.size ≤ b ∧ Below w.heap.size w w' := by
 obtain ⟨w2, hw2⟩ : ∃ w2, w2 = (w.alloc (.cells #[.int .i64 i, .int .i64 t] 34)).alloc (.cells (gH (Bt i t)).toArray 124) := ⟨_, rfl⟩
 have hb2 : Below w.heap.size w w2 := by rw [hw2]; exact ((Below.refl _ _).alloc (Nat.le_refl _) _).alloc (by simp) _
 have hW2 : cO w2 (w.heap.size + 1) (Bt i t) := by show _ = _; rw [hw2]; exact heap_alloc2_new w _ _
 have hl : (gH (Bt i t)).toArray = #[.int .i64 0, .int .i64 0, .int .i64 0, .int .i64 0, .int .i64 0, .int .i64 0, .bool false, .int .i64 0, .int .i64 0, .int .i64 i, .int .i64 t, .func (.func 72) #[] #[], .int .i64 0, .int .i64 0, .int .i64 0, .int .i64 0, .int .i64 0, .int .i64 0, .int .i64 0, .int .i64 0, .int .i64 0, .int .u64 0, .int .i64 0, .int .i64 0, .int .i64 0, .int .i64 0, .int .i64 0, .int .i64 0, .int .i64 0, .int .i64 0, .int .i64 0, .int .i64 0, .int .i64 0, .bool false] := rfl
 rw [hl] at hw2
 replace hl := Lib.hid hl
 go_enter Tryz.func36, Tryz.ntmps36
 go_wp2_with fail
 rw [← hw2]
 go_ret
 exact ⟨w.heap.size + 1, rfl, hW2, Nat.le_succ _, hb2⟩
theorem IE (r : Rq) (w : World) : Calls Tryz.prog 49 #[.agg (encR r).toArray] w fun e w' => ∃ b, e = .returned (.pointer (some ⟨b, 0, none⟩)) ∧ cO w' b (wR r) ∧ w.heap.size ≤ b ∧ Below w.heap.size w w' := by
 have zR := lu
 obtain ⟨k9, bS⟩ : ∃ k, k = 9 := ⟨_, rfl⟩
 rw [← bS] at zR
 have hk0 : ¬ k9 = 0 := by omega
 have lR := iU r
 rw [← bS] at lR
 replace bS := Lib.hid bS
 obtain ⟨wA, aK⟩ : ∃ wA, wA = w.alloc (.cells (encR r).toArray 32) := ⟨_, rfl⟩
 have bR : Below w.heap.size w wA := by rw [aK]; exact (Below.refl _ _).alloc (Nat.le_refl _) _
 have vF : wA.heap[w.heap.size]? = some (.cells (encR r).toArray 32 (0, 0)) := by rw [aK]; exact heap_alloc_new w _
 have VS := fQ vF lR
 have hcl := Nj r wA
 rw [aK] at VS hcl
 generalize hcr : encR r = cR at *
 replace hcr := Lib.hid hcr
 go_enter Tryz.func49, Tryz.ntmps49
 go_wp2_with fail
 go_at_call 82
 refine hcl.mono ?_
 clear hcl VS
 rw [← aK]
 rintro e w1 ⟨rfl, hb1⟩
 replace aK := Lib.hid aK
 obtain ⟨y1, y2, y3, y4, y5, y6, y7, y8, y9, hy⟩ : ∃ y1 y2 y3 y4 y5 y6 y7 y8 y9, lN r = ⟨y1, y2, y3, y4, y5, y6, y7, y8, y9⟩ := ⟨_, _, _, _, _, _, _, _, _, rfl⟩
 obtain ⟨w2, hw2⟩ : ∃ w2, w2 = w1.alloc (.cells (gH (wR r)).toArray 124) := ⟨_, rfl⟩
 have hb2 : Below w1.heap.size w1 w2 := by rw [hw2]; exact (Below.refl _ _).alloc (Nat.le_refl _) _
 have hW2 : cO w2 w1.heap.size (wR r) := by show _ = _; rw [hw2]; exact heap_alloc_new w1 _
 have hl : (gH (wR r)).toArray = #[.int .i64 y1, .int .i64 y2, .int .i64 y3, .int .i64 y4, .int .i64 y5, .int .i64 y6, .bool y7, .int .i64 y8, .int .i64 y9, .int .i64 0, .int .i64 0, .func (.func 83) #[] #[], .int .i64 0, .int .i64 0, .int .i64 0, .int .i64 0, .int .i64 0, .int .i64 0, .int .i64 0, .int .i64 0, .int .i64 0, .int .u64 0, .int .i64 0, .int .i64 0, .int .i64 0, .int .i64 0, .int .i64 0, .int .i64 0, .int .i64 0, .int .i64 0, .int .i64 0, .int .i64 0, .int .i64 0, .bool false] := by unfold wR; rw [hy]; rfl
 have hbw := bR.trans ((hb1.trans (hb2.mono hb1.size)).mono bR.size)
 have hlo : w.heap.size ≤ w1.heap.size := Nat.le_trans bR.size hb1.size
 rw [hl] at hw2
 rw [hy, show (encR ⟨y1, y2, y3, y4, y5, y6, y7, y8, y9⟩).toArray = #[.int .i64 y1, .int .i64 y2, .int .i64 y3, .int .i64 y4, .int .i64 y5, .int .i64 y6, .bool y7, .int .i64 y8, .int .i64 y9] from rfl]
 replace hl := Lib.hid hl
 replace hy := Lib.hid hy
 obtain rfl := bS.out
 go_wp2_with fail
 rw [← hw2]
 go_ret
 exact ⟨w1.heap.size, rfl, hW2, hlo, hbw⟩
end
end Go.Proofs.YtnihdgcfamoplaaGreat

namespace Go.Proofs.YtnihdgcfamoplaaGreat
open Go.RowKit Go.Lib Go.Sort
def R3 (w w' : World) : Prop := ∀ (k : Nat) (cs : Array Value) (T : TypeId) (fz : Nat × Nat), T ≠ 124 → (T ≠ 52 ∧ T ≠ 99 ∧ T ≠ 106 ∧ T ≠ 104 ∧ T ≠ 63 ∧ T ≠ 102) → w.heap[k]? = some (.cells cs T fz) → w'.heap[k]? = some (.cells cs T fz)
theorem SW.far {w w' : World} {b c t d p g a : Nat} {v v' : Value} {g' : Nat} {m : Int} {R : Wk} {P : Pg} (h : SW w b c t d p v g a m R P) (hs : WS w w' b c t d p v g v' g') : R3 w w' := by
 intro k cs T fz h1 h2 hk
 refine (hs.heap (aG hk) ?_).trans hk
 rintro (rfl | hf)
 ·have e := h.wk
  unfold cO at e
  rw [hk] at e
  exact h1 (Obj.cells.inj (Option.some.inj e)).2.1
 ·exact h.cw.other hk h2 hf
def Goes (b c : Nat) : Nat → World → (World → Prop) → Prop
 | 0, _, _ => False
 | N + 1, w, Q => Calls Tryz.prog 71 #[.pointer (some ⟨b, 0, none⟩), .pointer (some ⟨c, 0, none⟩)] w fun e w' => R3 w w' ∧ ((e = .returned (.bool true) ∧ Q w') ∨ (e = .returned (.bool false) ∧ Goes b c N w' Q))
theorem Goes.mono {b c : Nat} {Q Q' : World → Prop} (hQ : ∀ w, Q w → Q' w) : ∀ {N : Nat} {w : World}, Goes b c N w Q → Goes b c N w Q'
 | 0, _, h => h
 | N + 1, _, h => Calls.mono h fun e w' hp => by
  rcases hp with ⟨hf, ⟨h1, h2⟩ | ⟨h1, h2⟩⟩
  ·exact ⟨hf, .inl ⟨h1, hQ _ h2⟩⟩
  ·exact ⟨hf, .inr ⟨h1, Goes.mono hQ h2⟩⟩
theorem Goes.succ {b c : Nat} {Q : World → Prop} : ∀ {N : Nat} {w : World}, Goes b c N w Q → Goes b c (N + 1) w Q
 | 0, _, h => h.elim
 | N + 1, _, h => Calls.mono h fun e w' hp => by
  rcases hp with ⟨hf, ⟨h1, h2⟩ | ⟨h1, h2⟩⟩
  ·exact ⟨hf, .inl ⟨h1, h2⟩⟩
  ·exact ⟨hf, .inr ⟨h1, Goes.succ h2⟩⟩
theorem Goes.more {b c N N' : Nat} {w : World} {Q : World → Prop} (hN : N ≤ N') (h : Goes b c N w Q) : Goes b c N' w Q := by
 induction N' with
 | zero =>
  obtain rfl : N = 0 := by omega
  exact h
 | succ N' ih =>
  rcases Nat.lt_or_ge N' N with h1 | h1
  ·obtain rfl : N = N' + 1 := by omega
   exact h
  ·exact (ih h1).succ
structure Fin (w0 : World) (b c t d p : Nat) (v0 : Value) (g0 : Nat) (mx : Int) (M : Md) (y : Ry) (ok : Bool) (w : World) : Prop where
 ex : ∃ v g a m R, SW w b c t d p v g a m R (aj M) ∧ a ≤ 800 ∧ m ≤ mx ∧ R.left = .nilFunc ∧ R.rep = y ∧ R.ok = ok ∧ WS w0 w b c t d p v0 g0 v g
section
variable {w0 w : World} {b c t d p g g0 a N : Nat} {v v0 : Value} {m mx : Int} {P : Pg} {M M' : Md} {R : Wk} {Q : World → Prop}
theorem vH {k k' a' : Nat} {m' : Int} {R' : Wk} {P' : Pg} (h : SW w b c t d p v g a m R P) (hl : R.left = fP k) (hl' : R'.left = fP k)
  (hk : ∀ args w, Sem.run Tryz.prog (callFunc k args) w = .ok (.enter k args) w)
  (hp : Calls Tryz.prog k #[.pointer (some ⟨b, 0, none⟩), .pointer (some ⟨c, 0, none⟩)] w (au w b c t d p v g a' m' (fP k') R' P'))
  (hn : ∀ w' v' g', SW w' b c t d p v' g' a' m' { R' with left := fP k' } P' → WS w w' b c t d p v g v' g' → Goes b c N w' Q) : Goes b c (N + 1) w Q := by
 refine (Ht h hl hl' (.inr ⟨⟨k', rfl⟩, rfl⟩) hk hp).mono ?_
 rintro e w' ⟨rfl, v', g', h1, h2⟩
 exact ⟨h.far h2, .inr ⟨rfl, hn w' v' g' h1 h2⟩⟩
theorem vI {k a' : Nat} {m' : Int} {R' : Wk} (h : SW w b c t d p v g a m R P) (hl : R.left = fP k) (hl' : R'.left = fP k)
  (hk : ∀ args w, Sem.run Tryz.prog (callFunc k args) w = .ok (.enter k args) w)
  (hp : Calls Tryz.prog k #[.pointer (some ⟨b, 0, none⟩), .pointer (some ⟨c, 0, none⟩)] w (au w b c t d p v g a' m' .nilFunc R' (aj M')))
  (ha : a' ≤ 800) (hm : m' ≤ mx) (hw : WS w0 w b c t d p v0 g0 v g) : Goes b c (N + 1) w (Fin w0 b c t d p v0 g0 mx M' R'.rep R'.ok) := by
 refine (Ht h hl hl' (.inl ⟨rfl, rfl⟩) hk hp).mono ?_
 rintro e w' ⟨rfl, v', g', h1, h2⟩
 exact ⟨h.far h2, .inl ⟨rfl, ⟨v', g', a', m', _, h1, ha, hm, rfl, rfl, rfl, hw.trans h2⟩⟩⟩
theorem qX : ∀ args w, Sem.run Tryz.prog (callFunc 138 args) w = .ok (.enter 138 args) w := fun _ _ => rfl
theorem bD : ∀ args w, Sem.run Tryz.prog (callFunc 83 args) w = .ok (.enter 83 args) w := fun _ _ => rfl
theorem yf : ∀ args w, Sem.run Tryz.prog (callFunc 72 args) w = .ok (.enter 72 args) w := fun _ _ => rfl
theorem DT : ∀ args w, Sem.run Tryz.prog (callFunc 97 args) w = .ok (.enter 97 args) w := fun _ _ => rfl
theorem NV : ∀ args w, Sem.run Tryz.prog (callFunc 113 args) w = .ok (.enter 113 args) w := fun _ _ => rfl
theorem Bu : ∀ args w, Sem.run Tryz.prog (callFunc 133 args) w = .ok (.enter 133 args) w := fun _ _ => rfl
theorem IG : ∀ args w, Sem.run Tryz.prog (callFunc 140 args) w = .ok (.enter 140 args) w := fun _ _ => rfl
theorem vJ : ∀ args w, Sem.run Tryz.prog (callFunc 142 args) w = .ok (.enter 142 args) w := fun _ _ => rfl
theorem DU : ∀ args w, Sem.run Tryz.prog (callFunc 144 args) w = .ok (.enter 144 args) w := fun _ _ => rfl
theorem ze : ∀ args w, Sem.run Tryz.prog (callFunc 148 args) w = .ok (.enter 148 args) w := fun _ _ => rfl
theorem sZ (hl : R.left = fP 138) (hid : R.aD.id ≠ 0) (h1 : 1 ≤ M.dr.length) (hll : M.L.length ≤ 900) (hmx : mx ≤ 1000000) (q : Nat) :
  ∀ {L : List Jb} {w : World} {v : Value} {g a : Nat} {m : Int}, L.length = M.L.length → hits R.aD L ≤ q → aF { M with L := L } → fC { M with L := L } R.aD = M' → SW w b c t d p v g a m R (aj { M with L := L }) → a + 2 * hits R.aD L ≤ 800 → m + hits R.aD L ≤ mx → WS w0 w b c t d p v0 g0 v g →
   Goes b c (q + 1) w (Fin w0 b c t d p v0 g0 mx M' R.rep R.ok) := by
 induction q with
 | zero =>
  intro L w v g a m hL hq hI hM hS ha hm hw
  have hd := wM hS hI h1 (by show L.length ≤ 900; omega) (by omega) (by omega) hid
  refine vI (k := 138) (M' := M') (a' := a) (m' := m) hS hl hl qX (hd.mono fun e w' hp => ?_) (by omega) (by omega) hw
  rcases hp with ⟨ho, hp⟩ | ⟨i, ho, _⟩
  ·have := qK (M := { M with L := L }) ho
   rw [this] at hM
   rw [← hM]; exact hp
  ·have := (jB (L := L) ho).2.2.2.2
   omega
 | succ q ih =>
  intro L w v g a m hL hq hI hM hS ha hm hw
  have hd := wM hS hI h1 (by show L.length ≤ 900; omega) (by omega) (by omega) hid
  cases ho : dV R.aD L with
  | none =>
   refine vI (k := 138) (M' := M') (a' := a) (m' := m) hS hl hl qX (hd.mono fun e w' hp => ?_) (by omega) (by omega) hw
   rcases hp with ⟨_, hp⟩ | ⟨i, h2, _⟩
   ·have := qK (M := { M with L := L }) ho
    rw [this] at hM
    rw [← hM]; exact hp
   ·have h3 : dV R.aD L = some i := h2
    rw [ho] at h3; cases h3
  | some i =>
   obtain ⟨hi, _, _, _, hh⟩ := jB ho
   refine vH (k := 138) (k' := 138) (a' := a + 2) (m' := m + 1) (R' := R) (P' := aj { M with L := L.set i ((L.getD i default).aH (-1)) }) hS hl hl qX (hd.mono fun e w' hp => ?_) fun w' v' g' hS' hw' => ?_
   ·rcases hp with ⟨h2, _⟩ | ⟨i2, h2, hp⟩
    ·have h3 : dV R.aD L = none := h2
     rw [ho] at h3; cases h3
    ·have h3 : dV R.aD L = some i2 := h2
     rw [ho] at h3
     obtain rfl := Option.some.inj h3
     exact hp
   ·rw [← hl] at hS'
    exact ih (L := L.set i ((L.getD i default).aH (-1))) (by rw [List.length_set]; exact hL) (by omega) (hI.wo hi) ((uV (M := { M with L := L }) ho).trans hM) hS' (by omega) (by omega) (hw.trans hw')
end
end Go.Proofs.YtnihdgcfamoplaaGreat

namespace Go.Proofs.YtnihdgcfamoplaaGreat
open Go.RowKit Go.Lib Go.Sort
def jk (x : Rl) : Ry := ⟨x.1, x.2.1, x.2.2.1, x.2.2.2.1, x.2.2.2.2.1, x.2.2.2.2.2.1, x.2.2.2.2.2.2.1, x.2.2.2.2.2.2.2.1, x.2.2.2.2.2.2.2.2⟩
section
variable {M : Md}
theorem tq (M : Md) : (nz M).length ≤ 1 + 2 * M.L.length := by
 have key : ∀ (ts : List Int) (acc : List (Int × Int)), (ts.foldl (stepOn M) acc).length ≤ acc.length + ts.length := by
  intro ts
  induction ts with
  | nil => intro acc; simp
  | cons t ts ih =>
   intro acc
   have h1 := ih (stepOn M acc t)
   have h2 : (stepOn M acc t).length ≤ acc.length + 1 := by
    unfold stepOn
    split
    ·split
     ·omega
     ·simp
    ·simp
   show (ts.foldl (stepOn M) (stepOn M acc t)).length ≤ acc.length + (ts.length + 1)
   omega
 have h3 : ∀ (n : Nat) (last : Int), (timesGo M.L n last).length ≤ n := by
  intro n
  induction n with
  | zero => intro last; simp [timesGo]
  | succ n ih =>
   intro last
   unfold timesGo
   split
   ·simp
   ·simp only [List.length_cons]; have := ih (ko M.L last); omega
 have h1 := key (mG M) []
 have h4 := h3 (2 * M.L.length) M.now
 unfold nz
 unfold mG at h1 ⊢
 simp only [List.length_cons, List.length_nil] at h1
 omega
theorem CW.QH {w : World} {c t d p g a : Nat} {v : Value} {m : Int} (h : CW w c t d p v g a m (aj M)) (hI : aF M) : CW w c t d p v g (1 + 2 * M.L.length) m (aj M) := by
 obtain ⟨S, aJ, hp, hC, hl, h0⟩ := h.kT
 have e : S = nz M := hC.uniq (Ab hI) fun _ _ => rfl
 exact ⟨h.cell, h.dX, h.nodes, S, aJ, hp, hC, by rw [e]; exact tq M, h0⟩
theorem KH (M : Md) (hn : M.dr.length ≤ 64) (r : Rq) (hk : r.kind = 1) : (mK M.dr.length r = 9 ∧ gN M (toW r) = 9) ∨ (mK M.dr.length r = 0 ∧ jg M.L r = gN M (toW r)) := by
 have hlive : D6 M = jE M.L := rfl
 have s1 : (r.user < 0 ∨ 255 < r.user ∨ r.prio < 0 ∨ 1000 < r.prio) → gN M (toW r) = 1 := fun h => if_pos h
 have s2 : ¬ (r.user < 0 ∨ 255 < r.user ∨ r.prio < 0 ∨ 1000 < r.prio) → (r.width < 1 ∨ (M.dr.length : Int) < r.width) → gN M (toW r) = 9 := fun h h' => (if_neg h).trans (if_pos h')
 have s3 : ¬ (r.user < 0 ∨ 255 < r.user ∨ r.prio < 0 ∨ 1000 < r.prio) → ¬ (r.width < 1 ∨ (M.dr.length : Int) < r.width) → (r.limit < 1 ∨ 1048576 < r.limit) → gN M (toW r) = 10 := fun h h' h2 => (if_neg h).trans ((if_neg h').trans (if_pos h2))
 have s4 : ¬ (r.user < 0 ∨ 255 < r.user ∨ r.prio < 0 ∨ 1000 < r.prio) → ¬ (r.width < 1 ∨ (M.dr.length : Int) < r.width) → ¬ (r.limit < 1 ∨ 1048576 < r.limit) → (63 < D6 M ∨ 1023 < M.L.length) → gN M (toW r) = 6 := fun h h' h2 h3 => (if_neg h).trans ((if_neg h').trans ((if_neg h2).trans (if_pos h3)))
 have s5 : ¬ (r.user < 0 ∨ 255 < r.user ∨ r.prio < 0 ∨ 1000 < r.prio) → ¬ (r.width < 1 ∨ (M.dr.length : Int) < r.width) → ¬ (r.limit < 1 ∨ 1048576 < r.limit) → ¬ (63 < D6 M ∨ 1023 < M.L.length) → gN M (toW r) = 0 := fun h h' h2 h3 => (if_neg h).trans ((if_neg h').trans ((if_neg h2).trans (if_neg h3)))
 have b1 : aT r ≠ 0 → jg M.L r = aT r := fun h => if_pos h
 have b2 : aT r = 0 → (64 ≤ jE M.L ∨ 1024 ≤ M.L.length) → jg M.L r = 6 := fun h h' => (if_neg (by omega)).trans (if_pos h')
 have b3 : aT r = 0 → ¬ (64 ≤ jE M.L ∨ 1024 ≤ M.L.length) → jg M.L r = 0 := fun h h' => (if_neg (by omega)).trans (if_neg h')
 have x1 : (r.kind = 1 ∧ (M.dr.length : Int) < r.width ∧ r.width ≤ 64 ∧ aT r ≠ 1) → mK M.dr.length r = 9 := fun h => if_pos h
 have x2 : ¬ (r.kind = 1 ∧ (M.dr.length : Int) < r.width ∧ r.width ≤ 64 ∧ aT r ≠ 1) → mK M.dr.length r = 0 := fun h => if_neg h
 by_cases h1 : r.user < 0 ∨ 255 < r.user ∨ r.prio < 0 ∨ 1000 < r.prio
 ·have hR : aT r = 1 := by unfold aT; (repeat' split) <;> omega
  exact .inr ⟨x2 (by omega), by rw [s1 h1, b1 (by omega), hR]⟩
 ·by_cases h2 : r.width < 1
  ·have hR : aT r = 9 := by unfold aT; (repeat' split) <;> omega
   exact .inr ⟨x2 (by omega), by rw [s2 h1 (.inl h2), b1 (by omega), hR]⟩
  ·by_cases h3 : (M.dr.length : Int) < r.width
   ·by_cases h4 : r.width ≤ 64
    ·have hR : aT r ≠ 1 := by unfold aT; (repeat' split) <;> omega
     exact .inl ⟨x1 ⟨hk, h3, h4, hR⟩, s2 h1 (.inr h3)⟩
    ·have hR : aT r = 9 := by unfold aT; (repeat' split) <;> omega
     exact .inr ⟨x2 (by omega), by rw [s2 h1 (.inr h3), b1 (by omega), hR]⟩
   ·by_cases h5 : r.limit < 1 ∨ 1048576 < r.limit
    ·have hR : aT r = 10 := by unfold aT; (repeat' split) <;> omega
     exact .inr ⟨x2 (by omega), by rw [s3 h1 (by omega) h5, b1 (by omega), hR]⟩
    ·have hR : aT r = 0 := by unfold aT; (repeat' split) <;> omega
     refine .inr ⟨x2 (by omega), ?_⟩
     by_cases h6 : 63 < jE M.L ∨ 1023 < M.L.length
     ·rw [s4 h1 (by omega) h5 h6, b2 hR (by omega)]
     ·rw [s5 h1 (by omega) h5 h6, b3 hR (by omega)]
end
section
variable {w0 w : World} {b c t d p g g0 a N : Nat} {v v0 : Value} {m mx : Int} {P : Pg} {M M' : Md} {R : Wk} {Q : World → Prop}
theorem Bv (j : Jb) (L : List Jb) : hits j L ≤ L.length := List.countP_le_length
theorem bz {k a' : Nat} {m' : Int} {R' : Wk} {M1 : Md} {y : Ry} {o : Bool} (hk : ∀ args w, Sem.run Tryz.prog (callFunc k args) w = .ok (.enter k args) w)
  (hp : Calls Tryz.prog k #[.pointer (some ⟨b, 0, none⟩), .pointer (some ⟨c, 0, none⟩)] w (au w b c t d p v g a' m' .nilFunc R' (aj M1)))
  (h : SW w b c t d p v g a m R P) (hl : R.left = fP k) (hl' : R'.left = R.left) (ha : a' ≤ 800) (hm : m' ≤ mx) (hw : WS w0 w b c t d p v0 g0 v g) (hM : M1 = M') (hy : R'.rep = y) (ho : R'.ok = o) : Goes b c (N + 1) w (Fin w0 b c t d p v0 g0 mx M' y o) := by
 subst hM hy ho
 exact vI h hl (hl'.trans hl) hk hp ha hm hw
theorem Fy (h : SW w b c t d p v g a m R (aj M)) (hl : R.left = fP 83) (hI : aF M) (hcl : M.cl = false) (h1 : 1 ≤ M.dr.length) (hll : M.L.length ≤ 190) (ha : a ≤ 1 + 2 * M.L.length) (hm : m + 1000 ≤ mx) (hmx : mx ≤ 1000000) (hw : WS w0 w b c t d p v0 g0 v g)
  (hk : R.ag.kind = 1) (ho : R.ok = false) : Goes b c 1000 w (Fin w0 b c t d p v0 g0 mx (iP M (toW R.ag)).2 (jk (iP M (toW R.ag)).1) false) := by
 have rF := fA hI h1 (by omega)
 have hrd : jG R.ag.kind = false := by rw [hk]; rfl
 have jl : ∀ {L : Value} {a' : Nat} {m' : Int} {R' : Wk} {P' : Pg}, Calls Tryz.prog 119 #[.pointer (some ⟨b, 0, none⟩), .pointer (some ⟨c, 0, none⟩)] w (au w b c t d p v g a' m' L R' P') → Calls Tryz.prog 83 #[.pointer (some ⟨b, 0, none⟩), .pointer (some ⟨c, 0, none⟩)] w (au w b c t d p v g a' m' L R' P') := fun hn => fZ h hcl (by rw [hk]; decide) hrd (NK h hk hn)
 unfold iP
 rcases KH M hI.mb.nn R.ag hk with ⟨e1, e2⟩ | ⟨e1, e2⟩
 ·rw [if_pos (by rw [e2]; decide), e2]
  exact bz (N := 999) bD (jl (Cm h rF e1)) h hl rfl (by omega) (by omega) hw rfl rfl rfl
 ·by_cases e3 : gN M (toW R.ag) = 0
  ·rw [if_neg (by omega)]
   rw [e3] at e2
   cases hh : R.ag.held with
   | true =>
    rw [if_pos (show (toW R.ag).held = true from hh)]
    exact bz (N := 999) bD (jl (Bn h rF e1 e2 hh)) h hl rfl (by omega) (by omega) hw rfl rfl ho
   | false =>
    rw [if_neg (show ¬ (toW R.ag).held = true by rw [show (toW R.ag).held = R.ag.held from rfl, hh]; decide)]
    have hc := e3
    unfold gN at hc
    have hst : (cZ M (toW R.ag)).st = 1 := by show (if R.ag.held then (2 : Int) else 1) = 1; rw [hh]; rfl
    have hI1 : aF { M with L := M.L ++ [cZ M (toW R.ag)] } := by
     split at hc
     ·omega
     split at hc
     ·omega
     split at hc
     ·omega
     split at hc
     ·omega
     rename_i h2 h3 h4 h5
     have hn := hI.mb.nn
     exact hI.app (cZ M (toW R.ag)) (hI.mb.app _ (by omega) (by show 0 ≤ (toW R.ag).wid ∧ (toW R.ag).wid ≤ 64; omega) (by show 0 ≤ (toW R.ag).lim ∧ (toW R.ag).lim ≤ 1048576; omega) (by show (-1 : Int) ≤ -1 ∧ (-1 : Int) ≤ _; omega) (by show (-1 : Int) ≤ -1 ∧ (-1 : Int) ≤ _; omega) (by show (0 : Int) ≤ 0 ∧ (0 : Int) ≤ _; omega)) rfl ⟨show 1 ≤ (toW R.ag).wid by omega, show (toW R.ag).wid ≤ _ by omega, show 1 ≤ (toW R.ag).lim by omega, by omega, by omega⟩ rfl (by omega)
    refine (vH (N := 901) (k := 83) (k' := 138) (R' := { R with rep := iX (cZ M (toW R.ag)), aD := cZ M (toW R.ag) }) h hl hl bD (jl (H9 h rF e1 e2 hh)) fun w' v' g' hS' hw' => ?_).more (show 902 ≤ 1000 by decide)
    have hL : (M.L ++ [cZ M (toW R.ag)]).length = M.L.length + 1 := by simp
    have VT := Bv (cZ M (toW R.ag)) (M.L ++ [cZ M (toW R.ag)])
    have := sZ (M := { M with L := M.L ++ [cZ M (toW R.ag)] }) (M' := fC { M with L := M.L ++ [cZ M (toW R.ag)] } (cZ M (toW R.ag))) (R := { ({ R with rep := iX (cZ M (toW R.ag)), aD := cZ M (toW R.ag) } : Wk) with left := fP 138 }) (w0 := w0) (b := b) (c := c) (t := t) (d := d) (p := p) (v0 := v0) (g0 := g0) (mx := mx) rfl (by show (M.L.length : Int) + 1 ≠ 0; omega) h1 (by show (M.L ++ [cZ M (toW R.ag)]).length ≤ 900; omega) hmx 900 (L := M.L ++ [cZ M (toW R.ag)]) rfl (by show hits (cZ M (toW R.ag)) _ ≤ 900; omega) hI1 rfl hS' (by show a + 2 * hits (cZ M (toW R.ag)) _ ≤ 800; omega) (by show m + (hits (cZ M (toW R.ag)) _ : Nat) ≤ mx; omega) (hw.trans hw')
    rw [show ({ ({ R with rep := iX (cZ M (toW R.ag)), aD := cZ M (toW R.ag) } : Wk) with left := fP 138 } : Wk).ok = false from ho] at this
    exact this
  ·rw [if_pos e3]
   exact bz (N := 999) bD (jl (submit_bad h rF e1 (gN M (toW R.ag)) e3 e2)) h hl rfl (by omega) (by omega) hw rfl rfl rfl
end
end Go.Proofs.YtnihdgcfamoplaaGreat
