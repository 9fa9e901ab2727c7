/-
 Own words and walks, merged: part 7 of 9.
-/
import Derived.Test.YtelnhablglomjaaGreatZl6
set_option maxRecDepth 1000000
set_option maxHeartbeats 8000000
set_option linter.all false
namespace Go.Proofs.YtelnhablglomjaaGreat
open Go.RowKit Go.Lib Go.Sort
def Ef (n : Int) (j : Jb) : Bool := rX j.bP.toNat n
def kL (L : List Jb) (n : Int) : Jb := match L.findIdx? (fun j => decide (j.state ∈ [(3 : Int)]) && Ef n j) with | some i => L.getD i default | none => il
section
variable {w : World} {c t d p g a : Nat} {v : Value} {m : Int} {P : Pg}
theorem IX (h : CW w c t d p v g a m P) (hll : P.J.length ≤ 900) (hnd : ∀ j ∈ P.J, 0 ≤ j.bP ∧ j.bP ≤ 18446744073709551615) (x : Int) (hx : -9223372036854775808 ≤ x ∧ x ≤ 9223372036854775807) :
 Calls Tryz.prog 155 #[.pointer (some ⟨c, 0, none⟩), .int .i64 x] w fun e w' => e = .returned (.agg (ai (kL P.J x)).toArray) ∧ Below w.heap.size w w' := by
 have zE := bI
 obtain ⟨k, hk⟩ : ∃ k, k = 10 := ⟨_, rfl⟩
 rw [← hk] at zE
 have hk0 : ¬ k = 0 := by omega
 replace hk := Lib.hid hk
 obtain ⟨wA, aJ⟩ : ∃ wA, wA = w.alloc (.cells #[.int .i64 0, .int .i64 0, .int .i64 0, .int .i64 0, .int .i64 0, .int .i64 0, .int .i64 0, .int .i64 0, .int .i64 0, .int .u64 0] 92) := ⟨_, rfl⟩
 have bR : Hid (Below w.heap.size w wA) := by show Below _ _ _; rw [aJ]; exact (Below.refl _ _).alloc (Nat.le_refl _) _
 have hsA : wA.heap.size = w.heap.size + 1 := by rw [aJ]; simp
 have Vh : Hid (wA.heap[w.heap.size]? = some (.cells (ai il).toArray 92 (0, 0))) := by show _ = _; rw [aJ]; exact heap_alloc_new w _
 have hA := h.kept bR.out
 have hno := lX hA
 obtain ⟨wB, zQ⟩ : ∃ wB, wB = wA.alloc (.cells #[.int .i64 3] 3) := ⟨_, rfl⟩
 have N7 : Below wA.heap.size wA wB := by rw [zQ]; exact (Below.refl _ _).alloc (Nat.le_refl _) _
 have Yf : aD enc1 1 wB (.slice (some ⟨w.heap.size + 1, 0, none⟩) 1 1) [3] := by rw [← hsA, zQ]; exact gp wA wA.heap.size [3] rfl (by decide)
 have hin := vM (hA.kept N7).eQ (by omega) Yf
 have c0 := hA.c0
 generalize hL1 : (P.J.filter fun j : Jb => decide (j.state ∈ [(3 : Int)])) = l at *
 have hn1 : l.length ≤ 900 := by rw [← hL1]; exact Nat.le_trans (List.length_filter_le _ _) hll
 have hmem : Hid (∀ i, i < l.length → l[i]! ∈ P.J) := fun i hi => by
  have h1 : l[i]! ∈ l := by rw [getElem!_pos l i hi]; exact List.getElem_mem _
  have h2 : l[i]! ∈ P.J.filter fun j : Jb => decide (j.state ∈ [(3 : Int)]) := hL1 ▸ h1
  exact (List.mem_filter.1 h2).1
 replace hL1 := Lib.hid hL1
 rw [aJ] at hno c0
 rw [zQ, aJ] at hin
 clear h
 go_enter Tryz.func155, Tryz.ntmps155
 go_wp2_with (first | (go_at_call 41; go_must (refine hno.mono ?_); rintro e w' ⟨rfl, rfl⟩))
 go_at_call 125
 refine hin.mono ?_
 clear hin hno c0
 rw [← aJ, ← zQ]
 rintro e w0 ⟨u, rfl, ho, hb0⟩
 have hbw0 : Hid (Below w.heap.size w w0) := bR.out.trans ((N7.trans (hb0.mono N7.size)).mono bR.out.size)
 have hx0 : w0.heap[w.heap.size]? = some (.cells (ai il).toArray 92 (0, 0)) := (hb0.block _ (by have := N7.size; omega)).trans ((N7.block _ (by omega)).trans Vh.out)
 have hsz0 : w.heap.size < w0.heap.size := aC hx0
 replace aJ := Lib.hid aJ
 replace zQ := Lib.hid zQ
 have hr := aD.iW ho au rfl rfl
 obtain ⟨ao, cap, rfl, q1, q2, q3⟩ := hr
 obtain ⟨n, hn⟩ : ∃ n, l.length = n := ⟨_, rfl⟩
 rw [hn] at q1 q3 hn1 ⊢
 have HQ : Hid (0 < n → ∃ b off, ao = some ⟨b, off, none⟩ ∧ nz w0 b off l) := fun hp => by
  obtain ⟨b, off, e1, e2, e3⟩ := q3 hp
  exact ⟨b, off, e1, e2, e3⟩
 have EA : cap ≤ 9223372036854775807 := by unfold maxLen at q2; omega
 replace hn := Lib.hid hn
 clear q2 q3 ho hb0 N7
 go_wp2_with fail
 go_loopw [17] (fun ii wr => ∃ (i : Nat), i ≤ n ∧ ii = .int .i64 i ∧ Below w0.heap.size w0 wr ∧ Hid (∀ j, j < i → Ef x l[j]! = false)) (fun ii _ => n - (intOf ii).toNat)
 case atStart => exact ⟨0, Nat.zero_le _, rfl, Below.refl _ _, Lib.hid fun j hj => absurd hj (Nat.not_lt_zero _)⟩
 case round =>
  obtain ⟨i, hin, rfl, hbr, hno⟩ := hrel
  have qI : wr.heap[w.heap.size]? = some (.cells (ai il).toArray 92 (0, 0)) := (hbr.block _ hsz0).trans hx0
  have Ri := hbw0.out.trans (hbr.mono (Nat.le_of_lt hsz0))
  by_cases hlt2 : i < n
  ·have b2 : (i : Int) < (n : Int) := by omega
   have wi : IntKind.i64.wrap ((i : Int) + 1) = (i : Int) + 1 := by rw [IntKind.wrap_i64]; omega
   obtain ⟨gb, off, rfl, hJ⟩ := HQ.out (by omega)
   have sD := hJ.below hbr
   have iF : i < l.length := by have := hn.out; omega
   have LI := sD.load hk.out iF
   have hxm := hmem.out i iF
   obtain ⟨y, hy⟩ : ∃ y, y = l[i]! := ⟨_, rfl⟩
   rw [← hy] at LI hxm
   replace hy := Lib.hid hy
   have lI := au y
   have hny := hnd y hxm
   rw [← hk.out] at lI
   have st : Sem.run Tryz.prog (storeCells ⟨wr.heap.size, 0, none⟩ (ai y) 0) (wr.alloc (.cells #[.int .i64 0, .int .i64 0, .int .i64 0, .int .i64 0, .int .i64 0, .int .i64 0, .int .i64 0, .int .i64 0, .int .i64 0, .int .u64 0] 92)) = .ok () (wr.alloc (.cells (ai y).toArray 92)) := dB wr wr.heap.size (ai y) (ai il) 92 rfl rfl (dH y)
   obtain ⟨w1, hw1⟩ : ∃ w1, w1 = wr.alloc (.cells (ai y).toArray 92) := ⟨_, rfl⟩
   have hb1 : Below wr.heap.size wr w1 := by rw [hw1]; exact (Below.refl _ _).alloc (Nat.le_refl _) _
   have hz1 : w1.heap[wr.heap.size]? = some (.cells (ai y).toArray 92 (0, 0)) := by rw [hw1]; exact heap_alloc_new wr _
   have Ae := hbr.size
   have hx1 : w1.heap[w.heap.size]? = some (.cells (ai il).toArray 92 (0, 0)) := (hb1.block _ (by omega)).trans qI
   have ld1 := eZ hz1 lI
   have c9 : w1.cell? ⟨wr.heap.size, 9, none⟩ = some (.int .u64 y.bP) := by simp [World.cell?, hz1]; rfl
   have hhas := uF y.bP.toNat (by omega) x w1 hx
   rw [show ((y.bP.toNat : Nat) : Int) = y.bP by omega] at hhas
   have JS : Sem.run Tryz.prog (storeCells ⟨w.heap.size, 0, none⟩ (ai y) 0) w1 = .ok () (w1.setRow w.heap.size (ai y).toArray) := oz hx1
   have hx2 := xm hx1 (ai y).toArray
   have Vi := Lib.hid (show (ai y).toArray.size = 10 from rfl)
   have hb2 : Below w.heap.size w (w1.setRow w.heap.size (ai y).toArray) := qN (Ri.trans (hb1.mono Ri.size)) (Nat.le_refl _) _
   generalize hcI : ai y = cI at *
   replace hcI := Lib.hid hcI
   rw [← hw1] at st
   replace hw1 := Lib.hid hw1
   replace hz1 := Lib.hid hz1
   cases hP : rX y.bP.toNat x with
   | false =>
     rw [hP] at hhas
     go_wp2_with (go_at_call 131; go_must (refine hhas.mono ?_); rintro e w' ⟨rfl, rfl⟩)
     go_roundw
     case rel => exact ⟨i + 1, by omega, by go_num, hbr.trans (hb1.mono hbr.size), Lib.hid fun j hj => by
      rcases Nat.lt_succ_iff_lt_or_eq.1 hj with h5 | h5
      ·exact hno.out j h5
      ·subst h5; rw [← hy.out]; exact hP⟩
     case measure => simp [intOf]; omega
   | true =>
     rw [hP] at hhas
     obtain ⟨f, hf1, hf2, hf3⟩ := Ea (q := fun j : Jb => decide (j.state ∈ [(3 : Int)])) (p := Ef x) (L := P.J) (i := i) (by rw [hL1.out]; exact iF) (fun j hj => by rw [hL1.out]; exact hno.out j hj) (by rw [hL1.out, ← hy.out]; exact hP)
     rw [hL1.out, ← hy.out] at hf3
     have hres : Hid (kL P.J x = y) := by show _ = _; unfold kL; rw [hf1]; exact hf3
     go_wp2_with (go_at_call 131; go_must (refine hhas.mono ?_); rintro e w' ⟨rfl, rfl⟩)
     refine bH rfl rfl rfl hx2 Tryz.underlying92 rfl (by rw [Vi.out]; kernel_rfl) ⟨?_, hb2⟩
     rw [hres.out, hcI.out]
  ·have e : i = n := by omega
   subst e
   have hfi := Iw (q := fun j : Jb => decide (j.state ∈ [(3 : Int)])) (p := Ef x) (L := P.J) (fun j hj => by rw [hL1.out]; exact hno.out j (by rw [← hn.out]; rw [hL1.out] at hj; exact hj))
   have hres : Hid (kL P.J x = il) := by show _ = _; unfold kL; rw [hfi]
   obtain ⟨k0, f0, s0⟩ := bG qI 0 (.int .i64 0) rfl
   obtain ⟨k1, f1, s1⟩ := bG qI 1 (.int .i64 0) rfl
   obtain ⟨k2, f2, s2⟩ := bG qI 2 (.int .i64 0) rfl
   obtain ⟨k3, f3, s3⟩ := bG qI 3 (.int .i64 0) rfl
   obtain ⟨k4, f4, s4⟩ := bG qI 4 (.int .i64 0) rfl
   obtain ⟨k5, f5, s5⟩ := bG qI 5 (.int .i64 0) rfl
   obtain ⟨k6, f6, s6⟩ := bG qI 6 (.int .i64 0) rfl
   obtain ⟨k7, f7, s7⟩ := bG qI 7 (.int .i64 0) rfl
   obtain ⟨k8, f8, s8⟩ := bG qI 8 (.int .i64 0) rfl
   obtain ⟨k9, f9, s9⟩ := bG qI 9 (.int .u64 0) rfl
   obtain rfl := hk.out
   replace qI := Lib.hid qI
   go_wp2_with fail
   refine bH rfl rfl rfl qI.out Tryz.underlying92 rfl (by kernel_rfl) ⟨?_, Ri⟩
   rw [hres.out]
end
end Go.Proofs.YtelnhablglomjaaGreat

namespace Go.Proofs.YtelnhablglomjaaGreat
open Go.RowKit Go.Lib Go.Sort
theorem vV {L : List Jb} {e0 id : Int} {ok : Jb → Bool} {ch : Jb → Jb} (h : bM L e0 id ok ≠ 0) : cu L e0 id ok ch = L := by unfold cu; rw [if_neg h]
section
variable {w : World} {b c t d p g a : Nat} {v : Value} {m : Int} {P : Pg} {R : Wk}
theorem Eg (h : SW w b c t d p v g a m R P) (e1 : Int) (he1 : e1 ≠ 0) (hE : bM P.J 0 R.ag.id (fun j : Jb => decide (j.state = 1)) = e1) :
 Calls Tryz.prog 85 #[.pointer (some ⟨b, 0, none⟩), .pointer (some ⟨c, 0, none⟩)] w (ay w b c t d p v g a m .nilFunc { ({ R with aB := bN P.J R.ag.id } : Wk) with rep := kz e1, ok := false } P) := by
 have zJ := bI
 obtain ⟨k, hk1⟩ : ∃ k, k = 10 := ⟨_, rfl⟩
 rw [← hk1] at zJ
 have hk0 : ¬ k = 0 := by omega
 have hS := Lib.hid h
 have hcon := fun (W : World) (v1 : Value) (g1 : Nat) (R1 : Wk) (hW : SW W b c t d p v1 g1 a m R1 P) => DZ hW.cw R.ag.id
 obtain ⟨L1, hL1⟩ : ∃ L1, L1 = cu P.J 0 R.ag.id (fun j : Jb => decide (j.state = 1)) pY := ⟨_, rfl⟩
 have hL2 : L1 = P.J := hL1.trans (vV (by rw [hE]; exact he1))
 rw [← hL1, hE, hL2, show ({ P with J := P.J } : Pg) = P from rfl] at hcon
 have d0 : (e1 != 0) = true := by simp [he1]
 replace hL2 := Lib.hid hL2
 replace he1 := Lib.hid he1
 replace hE := Lib.hid hE
 replace hL1 := Lib.hid hL1
 have hget := gQ h.drew.cw.eQ R.ag.id
 unfold iM at hget
 obtain ⟨x, hx⟩ : ∃ x, x = bN P.J R.ag.id := ⟨_, rfl⟩
 rw [← hx] at hget
 rw [← hx]
 replace hx := Lib.hid hx
 have lJ := au x
 rw [← hk1] at lJ
 have hj := fun (W : World) (hW : SW W b c t d p v g a m R P) => hW.wk.uf x
 generalize ai x = cJ at *
 have c0 := h.cw.c0
 have q1 := h.wk.at 1 (.int .i64 R.ag.id) rfl
 obtain ⟨W9, kC⟩ : ∃ W9, W9 = gB { R with aB := x } := ⟨_, rfl⟩
 rw [← kC] at hj
 replace kC := Lib.hid kC
 replace hk1 := Lib.hid hk1
 clear h
 go_enter Tryz.func85, Tryz.ntmps85
 go_wp2_with fail
 go_region_with (go_at_call 77; go_must (refine hget.mono ?_); rintro e w' ⟨rfl, hgr⟩; have rR := hS.out.drew.kept hgr.below; obtain ⟨zW, pV⟩ := hj w' rR)
 all_goals
  have fZ := rR.work pV (cz w' W9.toArray)
  have hfr : WS w (w'.setRow b W9.toArray) b c t d p v g v g := ((WS.of_below hgr.below : WS w.drew w' b c t d p v g v g).trans (WS.bD (cz w' W9.toArray))).yC
  clear zW pV rR hgr hget c0 q1
  generalize w'.setRow b W9.toArray = w9 at *
  replace fZ := Lib.hid fZ
  go_wp2_with fail
  refine Reg2.ro w9 9 45 [.p 0, .p 1, .p 3, .m 7, .p 0, .p 16, .p 48, .p 112, .m 240] [.pointer (some ⟨t, 0, none⟩), .int .i64 R.ag.id] (by kernel_rfl) (by kernel_rfl) rfl rfl ⟨rfl, rfl, rfl, Nat.le_refl _, fun _ _ => rfl⟩ ?_
  dsimp only [Reg2.gM]
  repeat ((first
   | (refine' Reg2.ak _ (by rfl) (fun wz => ?_) ?_; rotate_left; (go_simp; first | rfl | rw [if_neg (by omega)]))
   | (refine Reg2.az (by rfl) (fun wz hI hF => ?_) (fun _ => ?_)
      ·unfold Reg2.One
       have c0 := (fZ.out.cw.kept hI).c0
       have q0 := (fZ.out.kept hI).wk.at 1 (.int .i64 R.ag.id) rfl
       go_wp2_with fail
       first | exact ⟨_, rfl, rfl, Reg2.Ext.refl _⟩ | exact ⟨_, rfl, ⟨(), rfl, trivial⟩, Reg2.Ext.refl _⟩)); simp only [Act.put, xA, xB, xC, xD, xE, id])
  refine Reg2.aA ?_
  intro w4 HI4 _ dW
  clear dW
  dsimp only [List.drop]
  have bL := fZ.out.kept HI4
  have hc4 := hcon w4 _ _ _ bL
  go_wp2_with fail
  go_at_call 102
  refine hc4.mono ?_
  clear hc4
  rintro e w5 ⟨rfl, v5, g5, gy, hS5⟩
  have eO := bL.core gy hS5
  have uh := (hfr.trans (WS.of_below HI4)).trans (WS.dA hS5)
  have hf := iD eO.wk e1
  go_wp2_with (go_at_call 42; go_must (refine hf.mono ?_); rintro e w8 ⟨rfl, dR, fV⟩)
  go_ret
  exact ⟨rfl, v5, g5, eO.work dR fV, uh.trans (WS.bD fV)⟩
theorem Rj (h : SW w b c t d p v g a m R P) (hE : bM P.J 0 R.ag.id (fun j : Jb => decide (j.state = 1)) = 0) :
 Calls Tryz.prog 85 #[.pointer (some ⟨b, 0, none⟩), .pointer (some ⟨c, 0, none⟩)] w (ay w b c t d p v g a m (fE 103) { R with aB := bN P.J R.ag.id, rep := iV (bN (cu P.J 0 R.ag.id (fun j : Jb => decide (j.state = 1)) pY) R.ag.id) } { P with J := cu P.J 0 R.ag.id (fun j : Jb => decide (j.state = 1)) pY }) := by
 have zJ := bI
 obtain ⟨k, hk1⟩ : ∃ k, k = 10 := ⟨_, rfl⟩
 rw [← hk1] at zJ
 have hk0 : ¬ k = 0 := by omega
 have hS := Lib.hid h
 have hcon := fun (W : World) (v1 : Value) (g1 : Nat) (R1 : Wk) (hW : SW W b c t d p v1 g1 a m R1 P) => DZ hW.cw R.ag.id
 obtain ⟨L1, hL1⟩ : ∃ L1, L1 = cu P.J 0 R.ag.id (fun j : Jb => decide (j.state = 1)) pY := ⟨_, rfl⟩
 rw [← hL1]
 rw [← hL1, hE] at hcon
 replace hE := Lib.hid hE
 replace hL1 := Lib.hid hL1
 have hget := gQ h.drew.cw.eQ R.ag.id
 unfold iM at hget
 obtain ⟨x, hx⟩ : ∃ x, x = bN P.J R.ag.id := ⟨_, rfl⟩
 rw [← hx] at hget
 rw [← hx]
 replace hx := Lib.hid hx
 have lJ := au x
 rw [← hk1] at lJ
 have hj := fun (W : World) (hW : SW W b c t d p v g a m R P) => hW.wk.uf x
 generalize ai x = cJ at *
 have c0 := h.cw.c0
 have q1 := h.wk.at 1 (.int .i64 R.ag.id) rfl
 obtain ⟨W9, kC⟩ : ∃ W9, W9 = gB { R with aB := x } := ⟨_, rfl⟩
 rw [← kC] at hj
 replace kC := Lib.hid kC
 replace hk1 := Lib.hid hk1
 clear h
 go_enter Tryz.func85, Tryz.ntmps85
 go_wp2_with fail
 go_region_with (go_at_call 77; go_must (refine hget.mono ?_); rintro e w' ⟨rfl, hgr⟩; have rR := hS.out.drew.kept hgr.below; obtain ⟨zW, pV⟩ := hj w' rR)
 all_goals
  have fZ := rR.work pV (cz w' W9.toArray)
  have hfr : WS w (w'.setRow b W9.toArray) b c t d p v g v g := ((WS.of_below hgr.below : WS w.drew w' b c t d p v g v g).trans (WS.bD (cz w' W9.toArray))).yC
  clear zW pV rR hgr hget c0 q1
  generalize w'.setRow b W9.toArray = w9 at *
  replace fZ := Lib.hid fZ
  go_wp2_with fail
  refine Reg2.ro w9 9 45 [.p 0, .p 1, .p 3, .m 7, .p 0, .p 16, .p 48, .p 112, .m 240] [.pointer (some ⟨t, 0, none⟩), .int .i64 R.ag.id] (by kernel_rfl) (by kernel_rfl) rfl rfl ⟨rfl, rfl, rfl, Nat.le_refl _, fun _ _ => rfl⟩ ?_
  dsimp only [Reg2.gM]
  repeat ((first
   | (refine' Reg2.ak _ (by rfl) (fun wz => ?_) ?_; rotate_left; (go_simp; first | rfl | rw [if_neg (by omega)]))
   | (refine Reg2.az (by rfl) (fun wz hI hF => ?_) (fun _ => ?_)
      ·unfold Reg2.One
       have c0 := (fZ.out.cw.kept hI).c0
       have q0 := (fZ.out.kept hI).wk.at 1 (.int .i64 R.ag.id) rfl
       go_wp2_with fail
       first | exact ⟨_, rfl, rfl, Reg2.Ext.refl _⟩ | exact ⟨_, rfl, ⟨(), rfl, trivial⟩, Reg2.Ext.refl _⟩)); simp only [Act.put, xA, xB, xC, xD, xE, id])
  refine Reg2.aA ?_
  intro w4 HI4 _ dW
  clear dW
  dsimp only [List.drop]
  have bL := fZ.out.kept HI4
  have hc4 := hcon w4 _ _ _ bL
  go_wp2_with fail
  go_at_call 102
  refine hc4.mono ?_
  clear hc4
  rintro e w5 ⟨rfl, v5, g5, gy, hS5⟩
  have eO := bL.core gy hS5
  have uh := (hfr.trans (WS.of_below HI4)).trans (WS.dA hS5)
  have kD := om eO R.ag.id
  have q1 := eO.wk.at 1 (.int .i64 R.ag.id) rfl
  go_wp2_with fail
  go_at_call 78
  refine kD.mono ?_
  clear kD
  rintro e w8 ⟨rfl, dR, fV⟩
  have gF := eO.work dR fV
  have KR := uh.trans (WS.bD fV)
  go_wp2_with fail
  go_ret
  exact ⟨rfl, v5, g5, gF, KR⟩
theorem xu (h : SW w b c t d p v g a m R P) (e1 : Int) (he1 : e1 ≠ 0) (hE : bM P.J 0 R.ag.id (fun j : Jb => decide (j.state = 2)) = e1) :
 Calls Tryz.prog 86 #[.pointer (some ⟨b, 0, none⟩), .pointer (some ⟨c, 0, none⟩)] w (ay w b c t d p v g a m .nilFunc { R with rep := kz e1, ok := false } P) := by
 have zJ := bI
 obtain ⟨k, hk1⟩ : ∃ k, k = 10 := ⟨_, rfl⟩
 rw [← hk1] at zJ
 have hk0 : ¬ k = 0 := by omega
 have hS := Lib.hid h
 have hcon := fun (W : World) (v1 : Value) (g1 : Nat) (R1 : Wk) (hW : SW W b c t d p v1 g1 a m R1 P) => D5 hW.cw R.ag.id
 obtain ⟨L1, hL1⟩ : ∃ L1, L1 = cu P.J 0 R.ag.id (fun j : Jb => decide (j.state = 2)) oN := ⟨_, rfl⟩
 have hL2 : L1 = P.J := hL1.trans (vV (by rw [hE]; exact he1))
 rw [← hL1, hE, hL2, show ({ P with J := P.J } : Pg) = P from rfl] at hcon
 have d0 : (e1 != 0) = true := by simp [he1]
 replace hL2 := Lib.hid hL2
 replace he1 := Lib.hid he1
 replace hE := Lib.hid hE
 replace hL1 := Lib.hid hL1
 replace hk1 := Lib.hid hk1
 clear h
 go_enter Tryz.func86, Tryz.ntmps86
 go_wp2_with fail
 have fZ := Lib.hid hS.out
 have hfr : WS w w b c t d p v g v g := WS.refl _
 refine Reg2.ro w 9 32 [.p 0, .p 1, .p 3, .m 7, .p 0, .p 16, .p 48, .p 112, .m 240] [.pointer (some ⟨t, 0, none⟩), .int .i64 R.ag.id] (by kernel_rfl) (by kernel_rfl) rfl rfl ⟨rfl, rfl, rfl, Nat.le_refl _, fun _ _ => rfl⟩ ?_
 dsimp only [Reg2.gM]
 repeat ((first
  | (refine' Reg2.ak _ (by rfl) (fun wz => ?_) ?_; rotate_left; (go_simp; first | rfl | rw [if_neg (by omega)]))
  | (refine Reg2.az (by rfl) (fun wz hI hF => ?_) (fun _ => ?_)
     ·unfold Reg2.One
      have c0 := (fZ.out.cw.kept hI).c0
      have q0 := (fZ.out.kept hI).wk.at 1 (.int .i64 R.ag.id) rfl
      go_wp2_with fail
      first | exact ⟨_, rfl, rfl, Reg2.Ext.refl _⟩ | exact ⟨_, rfl, ⟨(), rfl, trivial⟩, Reg2.Ext.refl _⟩)); simp only [Act.put, xA, xB, xC, xD, xE, id])
 refine Reg2.aA ?_
 intro w4 HI4 _ dW
 clear dW
 dsimp only [List.drop]
 have bL := fZ.out.kept HI4
 have hc4 := hcon w4 _ _ _ bL
 go_wp2_with fail
 go_at_call 104
 refine hc4.mono ?_
 clear hc4
 rintro e w5 ⟨rfl, v5, g5, gy, hS5⟩
 have eO := bL.core gy hS5
 have uh := (hfr.trans (WS.of_below HI4)).trans (WS.dA hS5)
 have hf := iD eO.wk e1
 go_wp2_with (go_at_call 42; go_must (refine hf.mono ?_); rintro e w8 ⟨rfl, dR, fV⟩)
 go_ret
 exact ⟨rfl, v5, g5, eO.work dR fV, uh.trans (WS.bD fV)⟩
theorem IY (h : SW w b c t d p v g a m R P) (hE : bM P.J 0 R.ag.id (fun j : Jb => decide (j.state = 2)) = 0) :
 Calls Tryz.prog 86 #[.pointer (some ⟨b, 0, none⟩), .pointer (some ⟨c, 0, none⟩)] w (ay w b c t d p v g a m (fE 99) { R with aB := bN (cu P.J 0 R.ag.id (fun j : Jb => decide (j.state = 2)) oN) R.ag.id, rep := iV (bN (cu P.J 0 R.ag.id (fun j : Jb => decide (j.state = 2)) oN) R.ag.id) } { P with J := cu P.J 0 R.ag.id (fun j : Jb => decide (j.state = 2)) oN }) := by
 have zJ := bI
 obtain ⟨k, hk1⟩ : ∃ k, k = 10 := ⟨_, rfl⟩
 rw [← hk1] at zJ
 have hk0 : ¬ k = 0 := by omega
 have hS := Lib.hid h
 have hcon := fun (W : World) (v1 : Value) (g1 : Nat) (R1 : Wk) (hW : SW W b c t d p v1 g1 a m R1 P) => D5 hW.cw R.ag.id
 obtain ⟨L1, hL1⟩ : ∃ L1, L1 = cu P.J 0 R.ag.id (fun j : Jb => decide (j.state = 2)) oN := ⟨_, rfl⟩
 rw [← hL1]
 rw [← hL1, hE] at hcon
 replace hE := Lib.hid hE
 replace hL1 := Lib.hid hL1
 replace hk1 := Lib.hid hk1
 clear h
 go_enter Tryz.func86, Tryz.ntmps86
 go_wp2_with fail
 have fZ := Lib.hid hS.out
 have hfr : WS w w b c t d p v g v g := WS.refl _
 refine Reg2.ro w 9 32 [.p 0, .p 1, .p 3, .m 7, .p 0, .p 16, .p 48, .p 112, .m 240] [.pointer (some ⟨t, 0, none⟩), .int .i64 R.ag.id] (by kernel_rfl) (by kernel_rfl) rfl rfl ⟨rfl, rfl, rfl, Nat.le_refl _, fun _ _ => rfl⟩ ?_
 dsimp only [Reg2.gM]
 repeat ((first
  | (refine' Reg2.ak _ (by rfl) (fun wz => ?_) ?_; rotate_left; (go_simp; first | rfl | rw [if_neg (by omega)]))
  | (refine Reg2.az (by rfl) (fun wz hI hF => ?_) (fun _ => ?_)
     ·unfold Reg2.One
      have c0 := (fZ.out.cw.kept hI).c0
      have q0 := (fZ.out.kept hI).wk.at 1 (.int .i64 R.ag.id) rfl
      go_wp2_with fail
      first | exact ⟨_, rfl, rfl, Reg2.Ext.refl _⟩ | exact ⟨_, rfl, ⟨(), rfl, trivial⟩, Reg2.Ext.refl _⟩)); simp only [Act.put, xA, xB, xC, xD, xE, id])
 refine Reg2.aA ?_
 intro w4 HI4 _ dW
 clear dW
 dsimp only [List.drop]
 have bL := fZ.out.kept HI4
 have hc4 := hcon w4 _ _ _ bL
 go_wp2_with fail
 go_at_call 104
 refine hc4.mono ?_
 clear hc4
 rintro e w5 ⟨rfl, v5, g5, gy, hS5⟩
 have eO := bL.core gy hS5
 have uh := (hfr.trans (WS.of_below HI4)).trans (WS.dA hS5)
 have kD := om eO R.ag.id
 have q1 := eO.wk.at 1 (.int .i64 R.ag.id) rfl
 go_wp2_with fail
 go_at_call 78
 refine kD.mono ?_
 clear kD
 rintro e w8 ⟨rfl, dR, fV⟩
 have gF := eO.work dR fV
 have KR := uh.trans (WS.bD fV)
 obtain ⟨y, hy⟩ : ∃ y, y = bN L1 R.ag.id := ⟨_, rfl⟩
 rw [show bN ({ P with J := L1 } : Pg).J R.ag.id = y from hy.symm] at gF dR ⊢
 replace hy := Lib.hid hy
 obtain ⟨WQ, kC⟩ := dR.uf y
 have lY := au y
 rw [← hk1.out] at lY
 have Rk := gF.work kC (cz w8 _)
 have hfin := KR.trans (WS.bD (cz w8 (gB { ({ R with rep := iV y } : Wk) with aB := y }).toArray))
 generalize gB { ({ R with rep := iV y } : Wk) with aB := y } = W9 at *
 generalize ai y = cY at *
 go_wp2_with fail
 go_ret
 have ey := hy.out
 clear hy
 subst ey
 exact ⟨rfl, v5, g5, Rk, hfin⟩
theorem zz (h : SW w b c t d p v g a m R P) (hk : PK P) (s : Int) (e1 : Int) (he1 : e1 ≠ 0) (hE : bM P.J (bB s P.now) R.ag.id (eX s) = e1) :
 Calls Tryz.prog 84 #[.pointer (some ⟨b, 0, none⟩), .pointer (some ⟨c, 0, none⟩), .int .i64 s] w (ay w b c t d p v g a m .nilFunc { ({ R with aB := bN P.J R.ag.id } : Wk) with rep := kz e1, ok := false } P) := by
 have zJ := bI
 obtain ⟨k, hk1⟩ : ∃ k, k = 10 := ⟨_, rfl⟩
 rw [← hk1] at zJ
 have hk0 : ¬ k = 0 := by omega
 have hS := Lib.hid h
 have hcon := fun (W : World) (v1 : Value) (g1 : Nat) (R1 : Wk) (hW : SW W b c t d p v1 g1 a m R1 P) => tY hW.cw hk R.ag.id s P.now
 obtain ⟨L1, hL1⟩ : ∃ L1, L1 = cu P.J (bB s P.now) R.ag.id (eX s) (bQ s P.now) := ⟨_, rfl⟩
 have hL2 : L1 = P.J := hL1.trans (vV (by rw [hE]; exact he1))
 rw [← hL1, hE, hL2, show ({ P with J := P.J } : Pg) = P from rfl] at hcon
 have d0 : (e1 != 0) = true := by simp [he1]
 replace hL2 := Lib.hid hL2
 replace he1 := Lib.hid he1
 replace hE := Lib.hid hE
 replace hL1 := Lib.hid hL1
 have hget := gQ h.drew.cw.eQ R.ag.id
 unfold iM at hget
 obtain ⟨x, hx⟩ : ∃ x, x = bN P.J R.ag.id := ⟨_, rfl⟩
 rw [← hx] at hget
 rw [← hx]
 replace hx := Lib.hid hx
 have lJ := au x
 rw [← hk1] at lJ
 have hj := fun (W : World) (hW : SW W b c t d p v g a m R P) => hW.wk.uf x
 generalize ai x = cJ at *
 have c0 := h.cw.c0
 have q1 := h.wk.at 1 (.int .i64 R.ag.id) rfl
 obtain ⟨W9, kC⟩ : ∃ W9, W9 = gB { R with aB := x } := ⟨_, rfl⟩
 rw [← kC] at hj
 replace kC := Lib.hid kC
 replace hk1 := Lib.hid hk1
 clear h
 go_enter Tryz.func84, Tryz.ntmps84
 go_wp2_with fail
 go_region_with (go_at_call 77; go_must (refine hget.mono ?_); rintro e w' ⟨rfl, hgr⟩; have rR := hS.out.drew.kept hgr.below; obtain ⟨zW, pV⟩ := hj w' rR)
 all_goals
  have fZ := rR.work pV (cz w' W9.toArray)
  have hfr : WS w (w'.setRow b W9.toArray) b c t d p v g v g := ((WS.of_below hgr.below : WS w.drew w' b c t d p v g v g).trans (WS.bD (cz w' W9.toArray))).yC
  clear zW pV rR hgr hget c0 q1
  generalize w'.setRow b W9.toArray = w9 at *
  replace fZ := Lib.hid fZ
  go_wp2_with fail
  refine Reg2.ro w9 15 53 [.p 0, .p 1, .p 3, .m 7, .p 0, .p 16, .p 48, .p 112, .m 240, .p 0, .p 0, .p 1024, .p 3072, .m 7168, .m 15360] [.pointer (some ⟨t, 0, none⟩), .int .i64 R.ag.id, .pointer (some ⟨p, 0, none⟩), .int .i64 P.now] (by kernel_rfl) (by kernel_rfl) rfl rfl ⟨rfl, rfl, rfl, Nat.le_refl _, fun _ _ => rfl⟩ ?_
  dsimp only [Reg2.gM]
  repeat ((first
   | (refine' Reg2.ak _ (by rfl) (fun wz => ?_) ?_; rotate_left; (go_simp; first | rfl | rw [if_neg (by omega)]))
   | (refine Reg2.az (by rfl) (fun wz hI hF => ?_) (fun _ => ?_)
      ·unfold Reg2.One
       have c0 := (fZ.out.cw.kept hI).c0
       have q0 := (fZ.out.kept hI).wk.at 1 (.int .i64 R.ag.id) rfl
       have Ul := (fZ.out.cw.kept hI).c2
       go_wp2_with fail
       first | exact ⟨_, rfl, rfl, Reg2.Ext.refl _⟩ | exact ⟨_, rfl, ⟨(), rfl, trivial⟩, Reg2.Ext.refl _⟩)); simp only [Act.put, xA, xB, xC, xD, xE, id])
  refine Reg2.pm (fun wz hI hF => ?_) (fun TD => ?_) (by rfl)
  ·go_wp2_with (go_at_call 95; go_must (refine (gz (fZ.out.kept hI).cw).mono ?_); rintro e w' ⟨rfl, rfl⟩)
   first | exact ⟨_, rfl, rfl, Reg2.Ext.refl _⟩ | exact ⟨_, rfl, ⟨(), rfl, trivial⟩, Reg2.Ext.refl _⟩
  simp only [Act.put, xA, xB, xC, xD, xE, id]
  refine Reg2.aA ?_
  intro w4 HI4 _ dW
  clear dW
  dsimp only [List.drop]
  have bL := fZ.out.kept HI4
  have hc4 := hcon w4 _ _ _ bL
  go_wp2_with fail
  go_at_call 100
  refine hc4.mono ?_
  clear hc4
  rintro e w5 ⟨rfl, v5, g5, gy, hS5⟩
  have eO := bL.core gy hS5
  have uh := (hfr.trans (WS.of_below HI4)).trans (WS.dA hS5)
  have hf := iD eO.wk e1
  go_wp2_with (go_at_call 42; go_must (refine hf.mono ?_); rintro e w8 ⟨rfl, dR, fV⟩)
  go_ret
  exact ⟨rfl, v5, g5, eO.work dR fV, uh.trans (WS.bD fV)⟩
theorem KS (h : SW w b c t d p v g a m R P) (hk : PK P) (s : Int) (hE : bM P.J (bB s P.now) R.ag.id (eX s) = 0) :
 Calls Tryz.prog 84 #[.pointer (some ⟨b, 0, none⟩), .pointer (some ⟨c, 0, none⟩), .int .i64 s] w (ay w b c t d p v g a m (fE 101) { R with aB := bN P.J R.ag.id, rep := iV (bN (cu P.J (bB s P.now) R.ag.id (eX s) (bQ s P.now)) R.ag.id) } { P with J := cu P.J (bB s P.now) R.ag.id (eX s) (bQ s P.now) }) := by
 have zJ := bI
 obtain ⟨k, hk1⟩ : ∃ k, k = 10 := ⟨_, rfl⟩
 rw [← hk1] at zJ
 have hk0 : ¬ k = 0 := by omega
 have hS := Lib.hid h
 have hcon := fun (W : World) (v1 : Value) (g1 : Nat) (R1 : Wk) (hW : SW W b c t d p v1 g1 a m R1 P) => tY hW.cw hk R.ag.id s P.now
 obtain ⟨L1, hL1⟩ : ∃ L1, L1 = cu P.J (bB s P.now) R.ag.id (eX s) (bQ s P.now) := ⟨_, rfl⟩
 rw [← hL1]
 rw [← hL1, hE] at hcon
 replace hE := Lib.hid hE
 replace hL1 := Lib.hid hL1
 have hget := gQ h.drew.cw.eQ R.ag.id
 unfold iM at hget
 obtain ⟨x, hx⟩ : ∃ x, x = bN P.J R.ag.id := ⟨_, rfl⟩
 rw [← hx] at hget
 rw [← hx]
 replace hx := Lib.hid hx
 have lJ := au x
 rw [← hk1] at lJ
 have hj := fun (W : World) (hW : SW W b c t d p v g a m R P) => hW.wk.uf x
 generalize ai x = cJ at *
 have c0 := h.cw.c0
 have q1 := h.wk.at 1 (.int .i64 R.ag.id) rfl
 obtain ⟨W9, kC⟩ : ∃ W9, W9 = gB { R with aB := x } := ⟨_, rfl⟩
 rw [← kC] at hj
 replace kC := Lib.hid kC
 replace hk1 := Lib.hid hk1
 clear h
 go_enter Tryz.func84, Tryz.ntmps84
 go_wp2_with fail
 go_region_with (go_at_call 77; go_must (refine hget.mono ?_); rintro e w' ⟨rfl, hgr⟩; have rR := hS.out.drew.kept hgr.below; obtain ⟨zW, pV⟩ := hj w' rR)
 all_goals
  have fZ := rR.work pV (cz w' W9.toArray)
  have hfr : WS w (w'.setRow b W9.toArray) b c t d p v g v g := ((WS.of_below hgr.below : WS w.drew w' b c t d p v g v g).trans (WS.bD (cz w' W9.toArray))).yC
  clear zW pV rR hgr hget c0 q1
  generalize w'.setRow b W9.toArray = w9 at *
  replace fZ := Lib.hid fZ
  go_wp2_with fail
  refine Reg2.ro w9 15 53 [.p 0, .p 1, .p 3, .m 7, .p 0, .p 16, .p 48, .p 112, .m 240, .p 0, .p 0, .p 1024, .p 3072, .m 7168, .m 15360] [.pointer (some ⟨t, 0, none⟩), .int .i64 R.ag.id, .pointer (some ⟨p, 0, none⟩), .int .i64 P.now] (by kernel_rfl) (by kernel_rfl) rfl rfl ⟨rfl, rfl, rfl, Nat.le_refl _, fun _ _ => rfl⟩ ?_
  dsimp only [Reg2.gM]
  repeat ((first
   | (refine' Reg2.ak _ (by rfl) (fun wz => ?_) ?_; rotate_left; (go_simp; first | rfl | rw [if_neg (by omega)]))
   | (refine Reg2.az (by rfl) (fun wz hI hF => ?_) (fun _ => ?_)
      ·unfold Reg2.One
       have c0 := (fZ.out.cw.kept hI).c0
       have q0 := (fZ.out.kept hI).wk.at 1 (.int .i64 R.ag.id) rfl
       have Ul := (fZ.out.cw.kept hI).c2
       go_wp2_with fail
       first | exact ⟨_, rfl, rfl, Reg2.Ext.refl _⟩ | exact ⟨_, rfl, ⟨(), rfl, trivial⟩, Reg2.Ext.refl _⟩)); simp only [Act.put, xA, xB, xC, xD, xE, id])
  refine Reg2.pm (fun wz hI hF => ?_) (fun TD => ?_) (by rfl)
  ·go_wp2_with (go_at_call 95; go_must (refine (gz (fZ.out.kept hI).cw).mono ?_); rintro e w' ⟨rfl, rfl⟩)
   first | exact ⟨_, rfl, rfl, Reg2.Ext.refl _⟩ | exact ⟨_, rfl, ⟨(), rfl, trivial⟩, Reg2.Ext.refl _⟩
  simp only [Act.put, xA, xB, xC, xD, xE, id]
  refine Reg2.aA ?_
  intro w4 HI4 _ dW
  clear dW
  dsimp only [List.drop]
  have bL := fZ.out.kept HI4
  have hc4 := hcon w4 _ _ _ bL
  go_wp2_with fail
  go_at_call 100
  refine hc4.mono ?_
  clear hc4
  rintro e w5 ⟨rfl, v5, g5, gy, hS5⟩
  have eO := bL.core gy hS5
  have uh := (hfr.trans (WS.of_below HI4)).trans (WS.dA hS5)
  have kD := om eO R.ag.id
  have q1 := eO.wk.at 1 (.int .i64 R.ag.id) rfl
  go_wp2_with fail
  go_at_call 78
  refine kD.mono ?_
  clear kD
  rintro e w8 ⟨rfl, dR, fV⟩
  have gF := eO.work dR fV
  have KR := uh.trans (WS.bD fV)
  go_wp2_with fail
  go_ret
  exact ⟨rfl, v5, g5, gF, KR⟩
end
end Go.Proofs.YtelnhablglomjaaGreat

namespace Go.Proofs.YtelnhablglomjaaGreat
open Go.RowKit Go.Lib Go.Sort
theorem Rm {w : World} {b : Nat} {R : Wk} (h : bJ w b R) (v0 v1 v2 v3 v4 v5 v6 v7 v8 : Int) : ∃ W, W = (((((((((w).setCell ⟨b, 24, none⟩ (.int .i64 v0)).setCell ⟨b, 25, none⟩ (.int .i64 v1)).setCell ⟨b, 26, none⟩ (.int .i64 v2)).setCell ⟨b, 27, none⟩ (.int .i64 v3)).setCell ⟨b, 28, none⟩ (.int .i64 v4)).setCell ⟨b, 29, none⟩ (.int .i64 v5)).setCell ⟨b, 30, none⟩ (.int .i64 v6)).setCell ⟨b, 31, none⟩ (.int .i64 v7)).setCell ⟨b, 32, none⟩ (.int .i64 v8) ∧ bJ W b { R with rep := ⟨v0, v1, v2, v3, v4, v5, v6, v7, v8⟩ } ∧ bA (fun k => k = b) w W := by
 refine ⟨_, rfl, ?_, ?_⟩
 ·have h0 := h.put 24 (.int .i64 v0) (R' := { R with rep := { R.rep with err := v0 } }) rfl
  have h1 := h0.put 25 (.int .i64 v1) (R' := { R with rep := { R.rep with err := v0, id := v1 } }) rfl
  have h2 := h1.put 26 (.int .i64 v2) (R' := { R with rep := { R.rep with err := v0, id := v1, state := v2 } }) rfl
  have h3 := h2.put 27 (.int .i64 v3) (R' := { R with rep := { R.rep with err := v0, id := v1, state := v2, start := v3 } }) rfl
  have h4 := h3.put 28 (.int .i64 v4) (R' := { R with rep := { R.rep with err := v0, id := v1, state := v2, start := v3, stop := v4 } }) rfl
  have h5 := h4.put 29 (.int .i64 v5) (R' := { R with rep := { R.rep with err := v0, id := v1, state := v2, start := v3, stop := v4, plan := v5 } }) rfl
  have h6 := h5.put 30 (.int .i64 v6) (R' := { R with rep := { R.rep with err := v0, id := v1, state := v2, start := v3, stop := v4, plan := v5, a := v6 } }) rfl
  have h7 := h6.put 31 (.int .i64 v7) (R' := { R with rep := { R.rep with err := v0, id := v1, state := v2, start := v3, stop := v4, plan := v5, a := v6, b := v7 } }) rfl
  have h8 := h7.put 32 (.int .i64 v8) (R' := { R with rep := { R.rep with err := v0, id := v1, state := v2, start := v3, stop := v4, plan := v5, a := v6, b := v7, c := v8 } }) rfl
  exact h8
 ·exact fU (fU (fU (fU (fU (fU (fU (fU (dh _ 24 _) (dh _ 25 _)) (dh _ 26 _)) (dh _ 27 _)) (dh _ 28 _)) (dh _ 29 _)) (dh _ 30 _)) (dh _ 31 _)) (dh _ 32 _)
def gX (P : Pg) (n : Int) : Int := if (kL P.J n).st = 3 then max (kL P.J n).fin (P.now + 1) else P.now
section
variable {w : World} {b c t d p g a : Nat} {v : Value} {m : Int} {P : Pg} {R : Wk}
theorem N8 (h : CW w c t d p v g a m P) (hk : PK P) (j : Jb) : Calls Tryz.prog 156 #[.pointer (some ⟨c, 0, none⟩), .agg (ai j).toArray] w fun e w' => e = .returned (.int .i64 (max j.fin (P.now + 1))) ∧ Below w.heap.size w w' := by
 obtain ⟨wA, aJ⟩ : ∃ wA, wA = w.alloc (.cells (ai j).toArray 92) := ⟨_, rfl⟩
 have bR : Hid (Below w.heap.size w wA) := by show Below _ _ _; rw [aJ]; exact (Below.refl _ _).alloc (Nat.le_refl _) _
 have nR : Hid (wA.heap[w.heap.size]? = some (.cells (ai j).toArray 92 (0, 0))) := by show _ = _; rw [aJ]; exact heap_alloc_new w _
 have iP := Lib.hid (h.kept bR.out)
 have e7 : (ai j)[7]? = some (.int .i64 j.fin) := rfl
 have zE := bI
 obtain ⟨k, hk1⟩ : ∃ k, k = 10 := ⟨_, rfl⟩
 rw [← hk1] at zE
 have hk0 : ¬ k = 0 := by omega
 replace hk1 := Lib.hid hk1
 have ku := hk.now
 have wn : IntKind.i64.wrap (P.now + 1) = P.now + 1 := by rw [IntKind.wrap_i64]; omega
 generalize ai j = cJ at *
 generalize j.fin = jf at *
 clear h
 go_enter Tryz.func156, Tryz.ntmps156
 go_wp2_with fail
 rw [← aJ]
 replace aJ := Lib.hid aJ
 refine Reg2.ro wA 8 14 [.p 0, .m 1, .p 0, .p 4, .p 12, .m 28, .m 60, .p 124] [.int .i64 jf, .pointer (some ⟨p, 0, none⟩), .int .i64 P.now] (by kernel_rfl) (by kernel_rfl) rfl rfl ⟨rfl, rfl, rfl, Nat.le_refl _, fun _ _ => rfl⟩ ?_
 dsimp only [Reg2.gM]
 repeat ((first
  | (refine' Reg2.ak _ (by rfl) (fun wz => ?_) ?_; rotate_left; (go_simp; first | rfl | rw [if_neg (by omega)]))
  | (refine Reg2.az (by rfl) (fun wz hI hF => ?_) (fun _ => ?_)
     ·unfold Reg2.One
      have q0 : wz.cell? ⟨w.heap.size, 7, none⟩ = some (.int .i64 jf) := by simp [World.cell?, (hI.block _ (aC nR.out)).trans nR.out, e7]
      have c0 := (iP.out.kept hI).c2
      go_wp2_with fail
      first | exact ⟨_, rfl, rfl, Reg2.Ext.refl _⟩ | exact ⟨_, rfl, ⟨(), rfl, trivial⟩, Reg2.Ext.refl _⟩)); simp only [Act.put, xA, xB, xC, xD, xE, id])
 refine Reg2.pm (fun wz hI hF => ?_) (fun r6 => ?_) (by rfl)
 ·go_wp2_with (go_at_call 95; go_must (refine (gz (iP.out.kept hI)).mono ?_); rintro e w' ⟨rfl, rfl⟩)
  first | exact ⟨_, rfl, rfl, Reg2.Ext.refl _⟩ | exact ⟨_, rfl, ⟨(), rfl, trivial⟩, Reg2.Ext.refl _⟩
 simp only [Act.put, xA, xB, xC, xD, xE, id]
 repeat (refine' Reg2.ak _ (by rfl) (fun wz => ?_) ?_; rotate_left; (go_simp; first | rfl | rw [if_neg (by omega)]); simp only [Act.put, xA, xB, xC, xD, xE, id])
 refine Reg2.aA ?_
 intro w7 kr _ dW
 clear dW
 dsimp only [List.drop]
 have jZ := bR.out.trans (kr.mono bR.out.size)
 go_wp2_with fail
 go_ret
 exact ⟨rfl, jZ⟩
theorem N9 (h : CW w c t d p v g a m P) (hk : PK P) (hnd : ∀ j ∈ P.J, 0 ≤ j.bP ∧ j.bP ≤ 18446744073709551615) (n : Int) (hn : -9223372036854775808 ≤ n ∧ n ≤ 9223372036854775807) : Calls Tryz.prog 133 #[.pointer (some ⟨c, 0, none⟩), .int .i64 n] w fun e w' => e = .returned (.int .i64 (gX P n)) ∧ Below w.heap.size w w' := by
 have hho := IX h (hk.few) hnd n hn
 unfold gX
 generalize kL P.J n = y at *
 obtain ⟨sv, hsv⟩ : ∃ sv, sv = if y.st = 3 then max y.fin (P.now + 1) else P.now := ⟨_, rfl⟩
 rw [← hsv]
 replace hsv := Lib.hid hsv
 have zE := bI
 obtain ⟨k, hk1⟩ : ∃ k, k = 10 := ⟨_, rfl⟩
 rw [← hk1] at zE
 have hk0 : ¬ k = 0 := by omega
 have lY := au y
 rw [← hk1] at lY
 replace hk1 := Lib.hid hk1
 have e5 : (ai y)[5]? = some (.int .i64 y.st) := rfl
 have ST : Hid (∀ W : World, Sem.run Tryz.prog (storeCells ⟨W.heap.size, 0, none⟩ (ai y) 0) (W.alloc (.cells #[.int .i64 0, .int .i64 0, .int .i64 0, .int .i64 0, .int .i64 0, .int .i64 0, .int .i64 0, .int .i64 0, .int .i64 0, .int .u64 0] 92)) = .ok () (W.alloc (.cells (ai y).toArray 92))) := fun W => dB W W.heap.size (ai y) (ai il) 92 rfl rfl (dH y)
 have hun := fun (W : World) (hW : CW W c t d p v g a m P) => N8 hW hk y
 have hC := Lib.hid h
 generalize ai y = cY at *
 clear h
 go_enter Tryz.func133, Tryz.ntmps133
 go_wp2_with fail
 go_at_call 155
 refine hho.mono ?_
 clear hho
 rintro e w1 ⟨rfl, hb1⟩
 have st1 := ST.out w1
 obtain ⟨w2, hw2⟩ : ∃ w2, w2 = w1.alloc (.cells cY.toArray 92) := ⟨_, rfl⟩
 rw [← hw2] at st1
 have hb2 : Below w.heap.size w w2 := by rw [hw2]; exact hb1.alloc hb1.size _
 have hz2 : w2.heap[w1.heap.size]? = some (.cells cY.toArray 92 (0, 0)) := by rw [hw2]; exact heap_alloc_new w1 _
 have c5 : w2.cell? ⟨w1.heap.size, 5, none⟩ = some (.int .i64 y.st) := by simp [World.cell?, hz2, e5]
 have X9 := eZ hz2 lY
 have hC2 := hC.out.kept hb2
 have hu2 := hun w2 hC2
 have hnw := gz hC2
 have c2 := hC2.c2
 replace hw2 := Lib.hid hw2
 replace hz2 := Lib.hid hz2
 by_cases hs : y.st = 3
 ·have d0 : (y.st == 3) = true := by simp [hs]
  replace hs := Lib.hid hs
  go_wp2_with fail
  go_at_call 156
  refine hu2.mono ?_
  rintro e w3 ⟨rfl, hb3⟩
  go_wp2_with fail
  go_ret
  exact ⟨by rw [hsv.out, if_pos hs.out]; rfl, hb2.trans (hb3.mono hb2.size)⟩
 ·have d0 : (y.st == 3) = false := by simp [hs]
  go_wp2_with (go_at_call 95; go_must (refine hnw.mono ?_); rintro e w' ⟨rfl, rfl⟩)
  go_ret
  exact ⟨by rw [hsv.out, if_neg hs]; rfl, hb2⟩
theorem Eh (h : SW w b c t d p v g a m R P) (e0 by' : Int) (he : e0 ≠ 0) : Calls Tryz.prog 107 #[.pointer (some ⟨b, 0, none⟩), .pointer (some ⟨c, 0, none⟩), .int .i64 e0, .int .i64 by'] w (ay w b c t d p v g a m .nilFunc { R with rep := kz e0, ok := false } P) := by
 have hf := iD h.wk e0
 have d0 : (e0 != 0) = true := by simp [he]
 go_enter Tryz.func107, Tryz.ntmps107
 go_wp2_with (go_at_call 42; go_must (refine hf.mono ?_); rintro e w8 ⟨rfl, dR, fV⟩)
 go_ret
 exact ⟨rfl, v, g, h.work dR fV, WS.bD fV⟩
theorem KT (h : SW w b c t d p v g a m R P) (hk : PK P) (ha : a ≤ 800) (hm : m ≤ 1000000) (hnd : ∀ j ∈ P.J, 0 ≤ j.bP ∧ j.bP ≤ 18446744073709551615) (hn : -9223372036854775808 ≤ R.ag.node ∧ R.ag.node ≤ 9223372036854775807) (by' : Int) (hby : -64 ≤ by' ∧ by' ≤ 64) (F : Int → Int)
 (hF : ∀ u, P.now ≤ u → F u = P.f u + had (max (gX P R.ag.node) P.now) 1152921504606846976 by' u) (hr : ∀ u, P.now ≤ u → 0 ≤ F u ∧ F u ≤ 64) (hs : gX P R.ag.node < 1152921504606846976) :
 Calls Tryz.prog 107 #[.pointer (some ⟨b, 0, none⟩), .pointer (some ⟨c, 0, none⟩), .int .i64 0, .int .i64 by'] w (ay w b c t d p v g (a + 2) (m + 1) .nilFunc { R with rep := ⟨0, R.ag.node, qa P.T R.ag.node, 0, 0, 0, 0, 0, 0⟩ } { P with f := F }) := by
 have hS := Lib.hid h
 have q7 := h.wk.at 7 (.int .i64 R.ag.node) rfl
 have hsi := fun (W : World) (hW : CW W c t d p v g a m P) => N9 hW hk hnd R.ag.node hn
 generalize hsx : gX P R.ag.node = sx at *
 generalize hnx : R.ag.node = nx at *
 replace hsx := Lib.hid hsx
 replace hnx := Lib.hid hnx
 clear h
 go_enter Tryz.func107, Tryz.ntmps107
 go_wp2_with fail
 refine Reg2.ro w 8 40 [.p 0, .p 1, .p 3, .m 7, .p 0, .p 0, .m 48, .p 0] [.pointer (some ⟨p, 0, none⟩), .int .i64 sx] (by kernel_rfl) (by kernel_rfl) rfl rfl ⟨rfl, rfl, rfl, Nat.le_refl _, fun _ _ => rfl⟩ ?_
 dsimp only [Reg2.gM]
 repeat ((first
  | (refine' Reg2.ak _ (by rfl) (fun wz => ?_) ?_; rotate_left; (go_simp; first | rfl | rw [if_neg (by omega)]))
  | (refine Reg2.az (by rfl) (fun wz hI hF => ?_) (fun _ => ?_)
     ·unfold Reg2.One
      have c0 := (hS.out.cw.kept hI).c2
      go_wp2_with fail
      first | exact ⟨_, rfl, rfl, Reg2.Ext.refl _⟩ | exact ⟨_, rfl, ⟨(), rfl, trivial⟩, Reg2.Ext.refl _⟩)); simp only [Act.put, xA, xB, xC, xD, xE, id])
 refine Reg2.pm (fun wz hI hF => ?_) (fun r6 => ?_) (by rfl)
 ·go_wp2_with (go_at_call 133; go_must (refine (hsi wz (hS.out.kept hI).cw).mono ?_); rintro e w' ⟨rfl, hb5⟩)
  first | exact ⟨_, rfl, ⟨(), rfl, trivial⟩, hb5⟩ | exact ⟨_, rfl, rfl, hb5⟩
 simp only [Act.put, xA, xB, xC, xD, xE, id]
 repeat (refine' Reg2.ak _ (by rfl) (fun wz => ?_) ?_; rotate_left; (go_simp; first | rfl | rw [if_neg (by omega)]); simp only [Act.put, xA, xB, xC, xD, xE, id])
 refine Reg2.aA ?_
 intro w4 HI4 _ dW
 clear dW
 dsimp only [List.drop]
 have bL := hS.out.kept HI4
 have hadd := L9 bL.cw hk ha hm sx 1152921504606846976 by' F hs (by omega) hby hF hr
 go_wp2_with fail
 go_at_call 130
 refine hadd.mono ?_
 clear hadd
 rintro e w5 ⟨rfl, v5, g5, gy, hS5⟩
 have Xb := bL.core gy hS5
 have CU := (WS.of_below HI4 : WS w w4 b c t d p v g v g).trans (WS.dA hS5)
 have hst := vP nx hn gy.nodes hk.rH
 rw [show ({ P with f := F } : Pg).T = P.T from rfl] at hst
 have c1 := gy.c1
 go_wp2_with fail
 go_at_call 105
 refine hst.mono ?_
 clear hst c1
 rintro e w6 ⟨rfl, mm, xe⟩
 have hb6 : Below w5.heap.size w5 w6 := by rw [xe]; exact below_drewN (Below.refl _ _) _
 have eO := Xb.kept hb6
 have uh := CU.trans (WS.of_below hb6)
 obtain ⟨w7, hw7, yB, Ro⟩ := Rm eO.wk 0 nx (qa P.T nx) 0 0 0 0 0 0
 have a24 := eO.wk.at 24 (.int .i64 R.rep.err) rfl
 have f24 := eO.wk.free 24
 have a25 := eO.wk.at 25 (.int .i64 R.rep.id) rfl
 have f25 := eO.wk.free 25
 have a26 := eO.wk.at 26 (.int .i64 R.rep.state) rfl
 have f26 := eO.wk.free 26
 have a27 := eO.wk.at 27 (.int .i64 R.rep.start) rfl
 have f27 := eO.wk.free 27
 have a28 := eO.wk.at 28 (.int .i64 R.rep.stop) rfl
 have f28 := eO.wk.free 28
 have a29 := eO.wk.at 29 (.int .i64 R.rep.plan) rfl
 have f29 := eO.wk.free 29
 have a30 := eO.wk.at 30 (.int .i64 R.rep.a) rfl
 have f30 := eO.wk.free 30
 have a31 := eO.wk.at 31 (.int .i64 R.rep.b) rfl
 have f31 := eO.wk.free 31
 have a32 := eO.wk.at 32 (.int .i64 R.rep.c) rfl
 have f32 := eO.wk.free 32
 have gG := eO.work yB Ro
 have KU := uh.trans (WS.bD Ro)
 replace xe := Lib.hid xe
 go_wp2_with fail
 rw [← hw7]
 go_ret
 have en := hnx.out
 subst en
 exact ⟨rfl, v5, g5, gG, KU⟩
end
end Go.Proofs.YtelnhablglomjaaGreat

namespace Go.Proofs.YtelnhablglomjaaGreat
open Go.RowKit Go.Lib Go.Sort
def Early (M : Md) : Prop := ∀ j ∈ M.L, j.st ≤ 2 → j.fin = -1
theorem foldl_min (l : List Int) : ∀ x : Int, (l.foldl min x = x ∨ l.foldl min x ∈ l) ∧ l.foldl min x ≤ x ∧ ∀ z ∈ l, l.foldl min x ≤ z := by
 induction l with
 | nil => exact fun x => ⟨.inl rfl, Int.le_refl _, fun z hz => nomatch hz⟩
 | cons a l ih =>
   intro x
   obtain ⟨h1, h2, h3⟩ := ih (min x a)
   refine ⟨?_, by show l.foldl min (min x a) ≤ x; omega, fun z hz => ?_⟩
   ·show l.foldl min (min x a) = x ∨ l.foldl min (min x a) ∈ a :: l
    rcases h1 with h1 | h1
    ·rw [h1]
     rcases Int.le_total x a with h | h
     ·exact .inl (Int.min_eq_left h)
     ·exact .inr (by rw [Int.min_eq_right h]; exact List.mem_cons_self ..)
    ·exact .inr (List.mem_cons_of_mem _ h1)
   ·show l.foldl min (min x a) ≤ z
    rcases List.mem_cons.1 hz with rfl | hz
    ·omega
    ·exact h3 z hz
theorem BZ (l : List Int) : kK l = 1152921504606846976 ∨ kK l ∈ l := (foldl_min l _).1
theorem KV {l : List Int} {z : Int} (h : z ∈ l) : kK l ≤ z := (foldl_min l _).2.2 z h
section
variable {M : Md}
theorem IZ (hI : aF M) (hE : Early M) : kK (rQ M.now (M.L.filter fun j : Jb => decide (j.state ∈ [(1 : Int), 3]))) = if aS M < 0 then 1152921504606846976 else aS M := by
 have h0 := hI.mb.now
 have hL := qZ (M := M) h0.1
 have key : ∀ t, t ∈ rQ M.now (M.L.filter fun j : Jb => decide (j.state ∈ [(1 : Int), 3])) ↔ (t ∈ M.L.flatMap wW ∧ M.now < t) := by
  intro t
  unfold rQ
  simp only [List.mem_flatMap]
  constructor
  ·rintro ⟨j, hj, ht⟩
   obtain ⟨hjm, hjs⟩ := List.mem_filter.1 hj
   unfold KQ at ht
   obtain ⟨ht1, ht2⟩ := List.mem_filter.1 ht
   have ht2 : M.now < t := of_decide_eq_true ht2
   refine ⟨⟨j, hjm, ?_⟩, ht2⟩
   have hs : j.st = 1 ∨ j.st = 3 := by
    have : j.state = 1 ∨ j.state = 3 := by simpa using hjs
    exact this
   have ht3 : t = j.fin ∨ t = j.aN := by simpa using ht1
   unfold wW
   rcases hs with hs | hs
   ·have he := hE j hjm (by omega)
    have htp : t = j.aN := by rcases ht3 with h | h <;> omega
    have hpl : aj j = true := bq.2 ⟨hs, by omega⟩
    rw [hpl]
    simp [htp]
   ·have hr := hI.rest j hjm (by omega)
    have htp : t = j.fin := by rcases ht3 with h | h <;> omega
    simp [hs, htp]
  ·rintro ⟨⟨j, hjm, ht⟩, ht2⟩
   unfold wW at ht
   rcases List.mem_append.1 ht with h | h
   ·by_cases hs : j.st = 3
    ·rw [if_pos hs] at h
     refine ⟨j, List.mem_filter.2 ⟨hjm, ?_⟩, ?_⟩
     ·have : j.state = 3 := hs
      simp [this]
     ·unfold KQ
      rw [List.mem_singleton.1 h] at ht2 ⊢
      exact List.mem_filter.2 ⟨by simp, decide_eq_true ht2⟩
    ·rw [if_neg hs] at h; cases h
   ·by_cases hs : aj j = true
    ·rw [if_pos hs] at h
     refine ⟨j, List.mem_filter.2 ⟨hjm, ?_⟩, ?_⟩
     ·have : j.state = 1 := (bq.1 hs).1
      simp [this]
     ·unfold KQ
      rw [List.mem_singleton.1 h] at ht2 ⊢
      exact List.mem_filter.2 ⟨by simp, decide_eq_true ht2⟩
    ·rw [if_neg hs] at h; cases h
 have hbig : ∀ t ∈ M.L.flatMap wW, t ≤ 1099512676352 := by
  intro t ht
  obtain ⟨j, hjm, ht⟩ := List.mem_flatMap.1 ht
  have h1 := hI.mb.fin j hjm
  have h2 := hI.mb.aN j hjm
  unfold wW at ht
  rcases List.mem_append.1 ht with h | h
  ·split at h
   ·rw [List.mem_singleton.1 h]; omega
   ·cases h
  ·split at h
   ·rw [List.mem_singleton.1 h]; omega
   ·cases h
 rcases hL with ⟨h1, h2⟩ | ⟨h1, h2, h3, h4⟩
 ·rw [if_pos h1]
  rcases BZ (rQ M.now (M.L.filter fun j : Jb => decide (j.state ∈ [(1 : Int), 3]))) with h | h
  ·exact h
  ·have := (key _).1 h
   have := h2 _ this.1
   omega
 ·rw [if_neg (by omega)]
  have h5 := KV ((key _).2 ⟨h3, h2⟩)
  have h6 := hbig _ h3
  rcases BZ (rQ M.now (M.L.filter fun j : Jb => decide (j.state ∈ [(1 : Int), 3]))) with h | h
  ·omega
  ·have h7 := (key _).1 h
   have := h4 _ h7.1 h7.2
   omega
end
section
variable {w : World} {b c t d p g a : Nat} {v : Value} {m : Int} {P : Pg} {M : Md} {R : Wk}
theorem Oa (h : CW w c t d p v g a m P) (ha : a ≤ 1000) : Calls Tryz.prog 96 #[.pointer (some ⟨p, 0, none⟩), .int .i64 P.now] w fun e w' => e = .returned (.int .i64 (P.f P.now)) ∧ Below w.heap.size w w' := by
 obtain ⟨S, aK, hp, hC, hl, _⟩ := h.lW
 obtain ⟨i, hi⟩ := hC.sm.ix P.now
 rw [hi.val hC.sm (Int.le_refl _)]
 exact Nw P.now hi hC.sm (by omega) hp
theorem Ei (h : SW w b c t d p v g a m R P) (ha : a ≤ 1000) : Calls Tryz.prog 82 #[.pointer (some ⟨b, 0, none⟩), .pointer (some ⟨c, 0, none⟩)] w (ay w b c t d p v g a m (.tuple #[]) { R with rep := ⟨0, 0, 0, P.now, 0, 0, P.f P.now, 0, 0⟩ } P) := by
 have hS := Lib.hid h
 have hfr := fun (W : World) (hW : SW W b c t d p v g a m R P) => Oa hW.cw ha
 obtain ⟨fn, hfn⟩ : ∃ fn, fn = P.f P.now := ⟨_, rfl⟩
 rw [← hfn] at hfr ⊢
 replace hfn := Lib.hid hfn
 clear h
 go_enter Tryz.func82, Tryz.ntmps82
 go_wp2_with fail
 refine Reg2.ro w 17 23 [.p 0, .p 0, .p 2, .p 6, .m 14, .m 30, .p 0, .p 64, .p 192, .m 448, .p 0, .p 1024, .p 3072, .m 7168, .m 15422, .m 32766, .p 65534] [.pointer (some ⟨p, 0, none⟩), .int .i64 P.now, .pointer (some ⟨p, 0, none⟩), .pointer (some ⟨p, 0, none⟩), .int .i64 P.now, .int .i64 fn] (by kernel_rfl) (by kernel_rfl) rfl rfl ⟨rfl, rfl, rfl, Nat.le_refl _, fun _ _ => rfl⟩ ?_
 dsimp only [Reg2.gM]
 repeat ((first
  | (refine' Reg2.ak _ (by rfl) (fun wz => ?_) ?_; rotate_left; (go_simp; first | rfl | rw [if_neg (by omega)]))
  | (refine Reg2.az (by rfl) (fun wz hI hF => ?_) (fun _ => ?_)
     ·unfold Reg2.One
      have c0 := (hS.out.cw.kept hI).c2
      go_wp2_with fail
      first | exact ⟨_, rfl, rfl, Reg2.Ext.refl _⟩ | exact ⟨_, rfl, ⟨(), rfl, trivial⟩, Reg2.Ext.refl _⟩)); simp only [Act.put, xA, xB, xC, xD, xE, id])
 refine Reg2.pm (fun wz hI hF => ?_) (fun r5 => ?_) (by rfl)
 ·go_wp2_with (go_at_call 95; go_must (refine (gz (hS.out.kept hI).cw).mono ?_); rintro e w' ⟨rfl, rfl⟩)
  first | exact ⟨_, rfl, rfl, Reg2.Ext.refl _⟩ | exact ⟨_, rfl, ⟨(), rfl, trivial⟩, Reg2.Ext.refl _⟩
 simp only [Act.put, xA, xB, xC, xD, xE, id]
 repeat ((first
  | (refine' Reg2.ak _ (by rfl) (fun wz => ?_) ?_; rotate_left; (go_simp; first | rfl | rw [if_neg (by omega)]))
  | (refine Reg2.az (by rfl) (fun wz hI hF => ?_) (fun _ => ?_)
     ·unfold Reg2.One
      have c0 := (hS.out.cw.kept hI).c2
      go_wp2_with fail
      first | exact ⟨_, rfl, rfl, Reg2.Ext.refl _⟩ | exact ⟨_, rfl, ⟨(), rfl, trivial⟩, Reg2.Ext.refl _⟩)); simp only [Act.put, xA, xB, xC, xD, xE, id])
 refine Reg2.pm (fun wz hI hF => ?_) (fun TD => ?_) (by rfl)
 ·go_wp2_with (go_at_call 95; go_must (refine (gz (hS.out.kept hI).cw).mono ?_); rintro e w' ⟨rfl, rfl⟩)
  first | exact ⟨_, rfl, rfl, Reg2.Ext.refl _⟩ | exact ⟨_, rfl, ⟨(), rfl, trivial⟩, Reg2.Ext.refl _⟩
 simp only [Act.put, xA, xB, xC, xD, xE, id]
 refine Reg2.pm (fun wz hI hF => ?_) (fun Zd => ?_) (by rfl)
 ·go_wp2_with (go_at_call 96; go_must (refine (hfr wz (hS.out.kept hI)).mono ?_); rintro e w' ⟨rfl, hb5⟩)
  first | exact ⟨_, rfl, ⟨(), rfl, trivial⟩, hb5⟩ | exact ⟨_, rfl, rfl, hb5⟩
 simp only [Act.put, xA, xB, xC, xD, xE, id]
 repeat (refine' Reg2.ak _ (by rfl) (fun wz => ?_) ?_; rotate_left; (go_simp; first | rfl | rw [if_neg (by omega)]); simp only [Act.put, xA, xB, xC, xD, xE, id])
 refine Reg2.aA ?_
 intro w4 HI4 _ dW
 clear dW
 dsimp only [List.drop]
 have bL := hS.out.kept HI4
 obtain ⟨w7, hw7, yB, Ro⟩ := Rm bL.wk 0 0 0 P.now 0 0 fn 0 0
 have a24 := bL.wk.at 24 (.int .i64 R.rep.err) rfl
 have f24 := bL.wk.free 24
 have a25 := bL.wk.at 25 (.int .i64 R.rep.id) rfl
 have f25 := bL.wk.free 25
 have a26 := bL.wk.at 26 (.int .i64 R.rep.state) rfl
 have f26 := bL.wk.free 26
 have a27 := bL.wk.at 27 (.int .i64 R.rep.start) rfl
 have f27 := bL.wk.free 27
 have a28 := bL.wk.at 28 (.int .i64 R.rep.stop) rfl
 have f28 := bL.wk.free 28
 have a29 := bL.wk.at 29 (.int .i64 R.rep.plan) rfl
 have f29 := bL.wk.free 29
 have a30 := bL.wk.at 30 (.int .i64 R.rep.a) rfl
 have f30 := bL.wk.free 30
 have a31 := bL.wk.at 31 (.int .i64 R.rep.b) rfl
 have f31 := bL.wk.free 31
 have a32 := bL.wk.at 32 (.int .i64 R.rep.c) rfl
 have f32 := bL.wk.free 32
 have gG := bL.work yB Ro
 have KU := (WS.of_below HI4 : WS w w4 b c t d p v g v g).trans (WS.bD Ro)
 go_wp2_with fail
 rw [← hw7]
 go_end0
 exact ⟨rfl, v, g, gG, KU⟩
theorem ve (h : SW w b c t d p v g a m R (ah M)) (hI : aF M) (hE : Early M) (h1 : 1 ≤ M.dr.length) (hll : M.L.length ≤ 900) (ha : a ≤ 800) (hm : m ≤ 1000000) (hnx : aS M < 0 ∨ R.target < aS M) (sU : M.now ≤ R.target ∧ R.target ≤ 1099511627776) :
 Calls Tryz.prog 110 #[.pointer (some ⟨b, 0, none⟩), .pointer (some ⟨c, 0, none⟩)] w (ay w b c t d p v g a (m + 1) .nilFunc { R with rep := ⟨0, 0, 0, R.target, 0, 0, ax M R.target 0, 0, 0⟩ } (ah { M with now := R.target })) := by
 have sG := fB hI h1 hll
 have hne := Ee h.cw sG (fun j hj => hI.mb.fin j hj) (fun j hj => hI.mb.aN j hj)
 rw [show (ah M).now = M.now from rfl, show (ah M).J = M.L from rfl, IZ hI hE] at hne
 obtain ⟨x, hx⟩ : ∃ x, x = if aS M < 0 then 1152921504606846976 else aS M := ⟨_, rfl⟩
 rw [← hx] at hne
 have hgt : R.target < x := by rw [hx]; split <;> omega
 have d1 : decide (x > R.target) = true := decide_eq_true hgt
 replace hx := Lib.hid hx
 replace hgt := Lib.hid hgt
 have Ma := fun (W : World) (hW : SW W b c t d p v g a m R (ah M)) => zt hW.cw sG ha hm R.target sU.1 sU.2
 have KW := fun (W : World) (hW : SW W b c t d p v g a m R (ah M)) => hW.wk.at 23 (.int .i64 R.target) rfl
 generalize hrt : R.target = rt at *
 have hS := Lib.hid h
 clear h
 go_enter Tryz.func110, Tryz.ntmps110
 go_wp2_with fail
 go_at_call 137
 refine hne.mono ?_
 clear hne
 rintro e w1 ⟨rfl, hb1⟩
 have hS1 := Lib.hid (hS.out.kept hb1)
 have q1 := KW w1 hS1.out
 replace KW := Lib.hid KW
 replace hrt := Lib.hid hrt
 go_wp2_with fail
 refine Reg2.ro w1 8 44 [.p 0, .p 1, .p 3, .m 7, .p 0, .p 16, .p 48, .m 112] [.pointer (some ⟨p, 0, none⟩), .int .i64 rt] (by kernel_rfl) (by kernel_rfl) rfl rfl ⟨rfl, rfl, rfl, Nat.le_refl _, fun _ _ => rfl⟩ ?_
 dsimp only [Reg2.gM]
 repeat ((first
  | (refine' Reg2.ak _ (by rfl) (fun wz => ?_) ?_; rotate_left; (go_simp; first | rfl | rw [if_neg (by omega)]))
  | (refine Reg2.az (by rfl) (fun wz hI hF => ?_) (fun _ => ?_)
     ·unfold Reg2.One
      have c0 := (hS1.out.cw.kept hI).c2
      have q0 := KW.out wz (hS1.out.kept hI)
      go_wp2_with fail
      first | exact ⟨_, rfl, rfl, Reg2.Ext.refl _⟩ | exact ⟨_, rfl, ⟨(), rfl, trivial⟩, Reg2.Ext.refl _⟩)); simp only [Act.put, xA, xB, xC, xD, xE, id])
 refine Reg2.aA ?_
 intro w4 HI4 _ dW
 clear dW
 dsimp only [List.drop]
 have bL := hS1.out.kept HI4
 have Xc := Ma w4 bL
 go_wp2_with fail
 go_at_call 138
 refine Xc.mono ?_
 clear Xc
 rintro e w5 ⟨rfl, v5, g5, gy, hS5⟩
 have Rp := bL.core gy hS5
 have CU := (WS.of_below (hb1.trans (HI4.mono hb1.size)) : WS w w4 b c t d p v g v g).trans (WS.dA hS5)
 have hck := Ei Rp (by omega)
 rw [show ({ ah M with now := rt } : Pg).f = fun u => ax M u 0 from rfl, show ({ ah M with now := rt } : Pg).now = rt from rfl] at hck
 go_wp2_with fail
 go_at_call 82
 refine hck.mono ?_
 clear hck
 rintro e w6 ⟨rfl, v6, g6, eO, Yg⟩
 have uh := CU.trans Yg
 go_wp2_with fail
 go_ret
 have er := hrt.out
 clear hrt
 subst er
 exact ⟨rfl, v6, g6, eO, uh⟩
theorem zA (h : SW w b c t d p v g a m R (ah M)) (hI : aF M) (Yh : Calm M) (hE : Early M) (h1 : 1 ≤ M.dr.length) (hll : M.L.length ≤ 900) (ha : a ≤ 800) (hm : m ≤ 1000000) (hnx : 0 ≤ aS M ∧ aS M ≤ R.target) (sU : R.target ≤ 1099511627776) :
 Calls Tryz.prog 110 #[.pointer (some ⟨b, 0, none⟩), .pointer (some ⟨c, 0, none⟩)] w (ay w b c t d p v g a (m + 1) (fE 110) R (ah (dL { M with now := aS M }))) := by
 have sG := fB hI h1 hll
 have hne := Ee h.cw sG (fun j hj => hI.mb.fin j hj) (fun j hj => hI.mb.aN j hj)
 rw [show (ah M).now = M.now from rfl, show (ah M).J = M.L from rfl, IZ hI hE, if_neg (by omega)] at hne
 obtain ⟨hlt, TE, _⟩ := hI.step Yh hnx.1 (by omega)
 have hf0 : ∀ u, aS M ≤ u → 0 ≤ ax M u 0 ∧ ax M u 0 ≤ 64 := fun u hu => vS hI u (by omega)
 have hov := TE.over
 have Ma := fun (W : World) (hW : SW W b c t d p v g a m R (ah M)) => zt hW.cw sG ha hm (aS M) (by show M.now ≤ _; omega) (by omega)
 have Rs := fun (W : World) (v1 : Value) (g1 : Nat) (hW : CW W c t d p v1 g1 a (m + 1) { ah ({ M with now := aS M } : Md) with f := fun u => ax M u 0 }) => KO (M := { M with now := aS M }) (fun u => ax M u 0) hW TE h1 hll hf0
 have xw := fun (W : World) (v1 : Value) (g1 : Nat) (hW : CW W c t d p v1 g1 a (m + 1) { ah ({ ({ M with now := aS M } : Md) with L := M.L.map (aT (aS M)) } : Md) with f := fun u => ax M u 0 }) => NV (M := { ({ M with now := aS M } : Md) with L := M.L.map (aT (aS M)) }) (fun u => ax M u 0) hW hov.1 hov.2 M.L.length (by
  have := mH (fun j => if dm (aS M) j = true then (1 : Int) else 0) 1 (M.L.map (aT (aS M))) (fun j _ => by split <;> omega)
  rw [List.length_map] at this
  have e : mo ({ ({ M with now := aS M } : Md) with L := M.L.map (aT (aS M)) } : Md) = ((M.L.map (aT (aS M))).map fun j => if dm (aS M) j = true then (1 : Int) else 0).sum := rfl
  rw [e]; omega) h1 (by rw [List.length_map]; exact hll) hf0
 have Rt : startGo M.L.length ({ ({ M with now := aS M } : Md) with L := M.L.map (aT (aS M)) } : Md) = dL { M with now := aS M } := rfl
 rw [Rt] at xw
 rw [show ({ M with now := aS M } : Md).now = aS M from rfl, show ({ M with now := aS M } : Md).L = M.L from rfl] at Rs
 rw [show ({ ({ M with now := aS M } : Md) with L := M.L.map (aT (aS M)) } : Md).now = aS M from rfl] at xw
 have hfin : Hid (∀ {W : World} {v1 : Value} {g1 : Nat}, CW W c t d p v1 g1 a (m + 1) { ah (dL { M with now := aS M }) with f := fun u => ax M u 0 } → CW W c t d p v1 g1 a (m + 1) (ah (dL { M with now := aS M }))) := fun {W v1 g1} hW => by
  have ku : (dL { M with now := aS M }).now = aS M := by rw [← Rt]; exact (uY M.L.length hov.1.mb).2.2.1
  exact hW.Vo (fun u => ax (dL { M with now := aS M }) u 0) fun u hu => (Cv TE u (by
   have hu2 : (dL { M with now := aS M }).now ≤ u := hu
   rw [ku] at hu2; exact hu2)).symm
 obtain ⟨H, hH⟩ : ∃ H, H = dL { M with now := aS M } := ⟨_, rfl⟩
 rw [← hH] at xw hfin ⊢
 have d1 : decide (aS M > R.target) = false := decide_eq_false (by omega)
 replace hH := Lib.hid hH
 generalize ND : aS M = x at *
 replace ND := Lib.hid ND
 have KW := fun (W : World) (hW : SW W b c t d p v g a m R (ah M)) => hW.wk.at 23 (.int .i64 R.target) rfl
 generalize R.target = rt at *
 have hS := Lib.hid h
 clear h hov TE Rt
 go_enter Tryz.func110, Tryz.ntmps110
 go_wp2_with fail
 go_at_call 137
 refine hne.mono ?_
 clear hne
 rintro e w1 ⟨rfl, hb1⟩
 have hS1 := hS.out.kept hb1
 have q1 := KW w1 hS1
 have c2 := hS1.cw.c2
 have ha1 := Ma w1 hS1
 clear KW Ma
 go_wp2_with fail
 go_at_call 138
 refine ha1.mono ?_
 clear ha1
 rintro e w5 ⟨rfl, v5, g5, gy, hS5⟩
 have Rp := hS1.core gy hS5
 have CU := (WS.of_below hb1 : WS w w1 b c t d p v g v g).trans (WS.dA hS5)
 have Xd := Rs w5 v5 g5 gy
 clear Rs q1 c2
 go_wp2_with fail
 go_at_call 139
 refine Xd.mono ?_
 clear Xd
 rintro e w6 ⟨rfl, v6, g6, IA, eO⟩
 have Xe := Rp.core IA eO
 have uh := CU.trans (WS.dA eO)
 have hs6 := xw w6 v6 g6 IA
 clear xw
 go_wp2_with fail
 go_at_call 140
 refine hs6.mono ?_
 clear hs6
 rintro e w7 ⟨rfl, v7, g7, zU, gG⟩
 have Xf := Xe.core (hfin.out zU) gG
 have KU := uh.trans (WS.dA gG)
 go_wp2_with fail
 go_ret
 exact ⟨rfl, v7, g7, Xf, KU⟩
end
end Go.Proofs.YtelnhablglomjaaGreat

namespace Go.Proofs.YtelnhablglomjaaGreat
open Go.RowKit Go.Lib
section
variable {M : Md}
def nG (j : Jb) (x : Int) : Int := if aj j = true then min (x + j.lim) j.aN else x + j.lim
theorem Ru {id : Int} (h : gH M.L id ≠ 0) : (getM M id).2 = false := by
 unfold gH at h
 unfold getM
 by_cases h1 : id < 1
 ·rw [if_pos (.inl h1)]
 ·rw [if_neg h1] at h
  by_cases h2 : (M.L.length : Int) < id
  ·rw [if_pos (.inr h2)]
  ·rw [if_neg h2] at h; exact absurd rfl h
theorem uP {id : Int} (h : gH M.L id = 0) : ∃ i : Nat, i < M.L.length ∧ id = (i : Int) + 1 ∧ bN M.L id = M.L.getD i default ∧ getM M id = (M.L.getD i default, true) := by
 unfold gH at h
 by_cases h1 : id < 1
 ·rw [if_pos h1] at h; cases h
 ·rw [if_neg h1] at h
  by_cases h2 : (M.L.length : Int) < id
  ·rw [if_pos h2] at h; cases h
  ·refine ⟨(id - 1).toNat, by omega, by omega, ?_, ?_⟩
   ·unfold bN
    have hq : (id - 1).toNat < M.L.length := by omega
    rw [if_neg h1, if_neg h2, getElem!_pos M.L _ hq]
    generalize (id - 1).toNat = q at *
    simp [List.getD, hq]
   ·unfold getM
    rw [if_neg (by omega)]
theorem Rv (h : M.cl = true) (id x : Int) : fI M id x = false := by unfold fI; rw [if_pos (.inl h)]
theorem Ob {id x : Int} (h : x < M.now) : fI M id x = false := by unfold fI; rw [if_pos (.inr (.inr (.inr (.inl h))))]
theorem KX {id x : Int} (h : 1099511627776 < x) : fI M id x = false := by unfold fI; rw [if_pos (.inr (.inr (.inr (.inr (.inl h)))))]
theorem KY {id x : Int} (h : gH M.L id ≠ 0) : fI M id x = false := by unfold fI; rw [if_pos (.inr (.inl (Ru h)))]
theorem I1 {id x : Int} (h : gH M.L id = 0) (hs : (bN M.L id).st ≠ 1) : fI M id x = false := by
 obtain ⟨i, _, _, h3, h4⟩ := uP h
 unfold fI
 rw [if_pos]
 exact .inr (.inr (.inl (by rw [h4, ← h3]; exact hs)))
theorem KZ {id x : Int} (h : gH M.L id = 0) (hp : aj (bN M.L id) = true) (hl : (bN M.L id).aN ≤ x) : fI M id x = false := by
 obtain ⟨i, _, _, h3, h4⟩ := uP h
 unfold fI
 rw [if_pos]
 exact .inr (.inr (.inr (.inr (.inr (by rw [h4, ← h3]; exact ⟨(bq.1 hp).2, hl⟩)))))
theorem TF {x long width but : Int} (hx : 1 ≤ long) (h : ∀ t, x ≤ t → t < x + long → width ≤ ax M t but) : xL M x long width but = true := by
 unfold xL
 rw [Bool.and_eq_true, List.all_eq_true]
 refine ⟨decide_eq_true (h x (Int.le_refl _) (by omega)), fun t _ => ?_⟩
 rw [Bool.not_eq_true', Bool.and_eq_false_iff, Bool.and_eq_false_iff]
 by_cases h1 : x < t
 ·by_cases h2 : t < x + long
  ·refine .inr (decide_eq_false ?_)
   have := h t (by omega) h2
   omega
  ·exact .inl (.inr (decide_eq_false h2))
 ·exact .inl (.inl (decide_eq_false h1))
theorem K3 (hI : aF M) {id x m : Int} (hcl : M.cl = false) (h1 : M.now ≤ x) (h2 : x ≤ 1099511627776) (h : gH M.L id = 0) (hs : (bN M.L id).st = 1) (hl : aj (bN M.L id) = true → x < (bN M.L id).aN)
 (hm : BL (fun u => ax M u 0) x (nG (bN M.L id) x) m) : fI M id x = decide ((bN M.L id).wid ≤ m) := by
 obtain ⟨i, hi, hid, h3, h4⟩ := uP h
 have hmem := aY hi
 rw [h3] at hs hl hm ⊢
 have hone := hI.one _ hmem
 have Xg := hI.ids i hi
 have e : fI M id x = xL M x (M.L.getD i default).lim (M.L.getD i default).wid ((i : Int) + 1) := by
  unfold fI
  rw [h4]
  show (if M.cl = true ∨ true = false ∨ _ then _ else _) = _
  rw [if_neg, Xg]
  have h5 := hs
  rintro (a1 | a1 | a1 | a1 | a1 | a1)
  ·rw [hcl] at a1; cases a1
  ·cases a1
  ·exact a1 hs
  ·omega
  ·omega
  ·have := hl (bq.2 ⟨h5, a1.1⟩)
   have h6 : (M.L.getD i default).aN ≤ x := a1.2
   omega
 rw [e]
 have yU := mG hi hI.ids
 have hto : x < nG (M.L.getD i default) x := by
  unfold nG
  split
  ·rename_i hp; have := hl hp; omega
  ·omega
 have PH := hI.mb.wid _ hmem
 have hcon : ∀ u, x ≤ u → u < x + (M.L.getD i default).lim → (u < nG (M.L.getD i default) x → dM u 0 (M.L.getD i default) = 0) ∧ (nG (M.L.getD i default) x ≤ u → dM u 0 (M.L.getD i default) = (M.L.getD i default).wid) := by
  intro u hu1 hu2
  unfold nG
  cases hp : aj (M.L.getD i default) with
  | false =>
    refine ⟨fun _ => dN hp, fun h6 => ?_⟩
    rw [if_neg (by decide)] at h6
    omega
  | true =>
    have h7 := hl hp
    rw [if_pos rfl, mF hp (by omega)]
    refine ⟨fun h6 => if_neg (by omega), fun h6 => if_pos (by omega)⟩
 have hsub : nG (M.L.getD i default) x ≤ x + (M.L.getD i default).lim := by unfold nG; split <;> omega
 rw [Bool.eq_iff_iff, decide_eq_true_eq]
 constructor
 ·intro hr
  have hall := xP hI.mb.now.1 h1 hr
  rcases hm.one with e1 | ⟨u, u1, u2, u3⟩
  ·omega
  ·have h6 := hall u u1 (by omega)
   rw [yU, (hcon u u1 (by omega)).1 u2] at h6
   have h7 : ax M u 0 = m := u3
   omega
 ·intro hw
  refine TF (by omega) fun u ht1 ht2 => ?_
  rw [yU]
  rcases Int.lt_or_le u (nG (M.L.getD i default) x) with h6 | h6
  ·have h7 : m ≤ ax M u 0 := hm.all u ht1 h6
   rw [(hcon u ht1 ht2).1 h6]
   omega
  ·have h7 := hI.free u (by omega)
   rw [(hcon u ht1 ht2).2 h6]
   omega
end
end Go.Proofs.YtelnhablglomjaaGreat

namespace Go.Proofs.YtelnhablglomjaaGreat
open Go.RowKit Go.Lib Go.Sort
def iE (w0 : World) (y : Jb) (vs : List Value) (W : World) : Prop := Below w0.heap.size w0 W ∧ (match vs with
 | [] => True
 | [u] => ∃ k, u = .pointer (some ⟨k, 0, none⟩) ∧ w0.heap.size ≤ k ∧ W.heap[k]? = some (.cells (ai il).toArray 92 (0, 0))
 | u :: _ :: _ => ∃ k, u = .pointer (some ⟨k, 0, none⟩) ∧ w0.heap.size ≤ k ∧ W.heap[k]? = some (.cells (ai y).toArray 92 (0, 0)))
theorem iE.ext {w0 a b : World} {y : Jb} {vs : List Value} (h : Below a.heap.size a b) (hs : iE w0 y vs a) : iE w0 y vs b := by
 obtain ⟨h1, h2⟩ := hs
 refine ⟨h1.trans (h.mono h1.size), ?_⟩
 match vs, h2 with
 | [], _ => trivial
 | [u], ⟨k, e, hk, hz⟩ => exact ⟨k, e, hk, (h.block k (aC hz)).trans hz⟩
 | u :: _ :: _, ⟨k, e, hk, hz⟩ => exact ⟨k, e, hk, (h.block k (aC hz)).trans hz⟩
theorem iE.alloc {w0 W : World} {y : Jb} (hs : iE w0 y [] W) : iE w0 y ([] ++ [.pointer (some ⟨W.heap.size, 0, none⟩)]) (W.alloc (.cells #[.int .i64 0, .int .i64 0, .int .i64 0, .int .i64 0, .int .i64 0, .int .i64 0, .int .i64 0, .int .i64 0, .int .i64 0, .int .u64 0] 92)) :=
 ⟨hs.1.alloc hs.1.size _, _, rfl, hs.1.size, heap_alloc_new W _⟩
theorem iE.zero {w0 W : World} {y : Jb} {k : Nat} (hs : iE w0 y [.pointer (some ⟨k, 0, none⟩)] W) : W.heap[k]? = some (.cells (ai il).toArray 92 (0, 0)) ∧ w0.heap.size ≤ k := by
 obtain ⟨_, k', e, h1, h2⟩ := hs
 injection e with e
 injection e with e
 injection e with e
 subst e
 exact ⟨h2, h1⟩
theorem iE.store {w0 W : World} {y : Jb} {k : Nat} (hs : iE w0 y [.pointer (some ⟨k, 0, none⟩)] W) : iE w0 y ([.pointer (some ⟨k, 0, none⟩)] ++ [undef]) (W.setRow k (ai y).toArray) := by
 obtain ⟨hz, hk⟩ := hs.zero
 exact ⟨qN hs.1 hk _, k, rfl, hk, xm hz _⟩
theorem iE.full {w0 W : World} {y : Jb} {k : Nat} {u : Value} (hs : iE w0 y [.pointer (some ⟨k, 0, none⟩), u] W) : W.heap[k]? = some (.cells (ai y).toArray 92 (0, 0)) ∧ w0.heap.size ≤ k := by
 obtain ⟨_, k', e, h1, h2⟩ := hs
 injection e with e
 injection e with e
 injection e with e
 subst e
 exact ⟨h2, h1⟩
section
variable {w : World} {b c t d p g a : Nat} {v : Value} {m : Int} {P : Pg} {M : Md} {R : Wk}
theorem K4 (h : CW w c t d p v g a m P) (hk : PK P) (ha : a ≤ 1000) (lo hi : Int) (h0 : P.now ≤ lo) (hh : -9223372036854775808 ≤ hi ∧ hi ≤ 9223372036854775807) : Calls Tryz.prog 113 #[.pointer (some ⟨p, 0, none⟩), .int .i64 lo, .int .i64 hi] w fun e w' => ∃ r : Int, e = .returned (.int .i64 r) ∧ BL P.f lo hi r ∧ Below w.heap.size w w' := by
 obtain ⟨S, aK, hp, hC, hl, _⟩ := h.lW
 have := CO lo hi hh hC.sm hk.now.1 (by omega) hp
 rwa [Int.max_eq_left h0] at this
theorem F7 (h : CW w c t d p v g a m (ah M)) (hI : aF M) (h1 : 1 ≤ M.dr.length) (hll : M.L.length ≤ 900) (ha : a ≤ 800) (xi xt : Int) (hxt : -9223372036854775808 ≤ xt ∧ xt ≤ 9223372036854775807) (hc : M.cl = true) :
 Calls Tryz.prog 90 #[.pointer (some ⟨c, 0, none⟩), .agg #[.int .i64 xi, .int .i64 xt]] w fun e w' => e = .returned (.bool (fI M xi xt)) ∧ Below w.heap.size w w' := by
 have sG := Lib.hid (fB hI h1 hll)
 have zJ := bI
 have zS := kG
 obtain ⟨k, hk1⟩ : ∃ k, k = 10 := ⟨_, rfl⟩
 obtain ⟨k3, hk3⟩ : ∃ k, k = 3 := ⟨_, rfl⟩
 rw [← hk1] at zJ
 rw [← hk3] at zS
 have hk0 : ¬ k = 0 := by omega
 have zw : ¬ k3 = 0 := by omega
 replace hk1 := Lib.hid hk1
 replace hk3 := Lib.hid hk3
 obtain ⟨wA, aJ⟩ : ∃ wA, wA = w.alloc (.cells #[.int .i64 xi, .int .i64 xt] 77) := ⟨_, rfl⟩
 have bR : Hid (Below w.heap.size w wA) := by show Below _ _ _; rw [aJ]; exact (Below.refl _ _).alloc (Nat.le_refl _) _
 have nR : Hid (wA.heap[w.heap.size]? = some (.cells #[.int .i64 xi, .int .i64 xt] 77 (0, 0))) := by show _ = _; rw [aJ]; exact heap_alloc_new w _
 have iP := Lib.hid (h.kept bR.out)
 have hcl := fun (W : World) (hW : Below wA.heap.size wA W) => jl (iP.out.kept hW)
 rw [show (ah M).cl = M.cl from rfl] at hcl
 have hnw := fun (W : World) (hW : Below wA.heap.size wA W) => gz (iP.out.kept hW)
 rw [show (ah M).now = M.now from rfl] at hnw
 rw [hc] at hcl
 have hres := Rv hc xi xt
 rw [hres]
 replace hres := Lib.hid hres
 replace hc := Lib.hid hc
 clear h
 go_enter Tryz.func90, Tryz.ntmps90
 go_wp2_with fail
 rw [← aJ]
 replace aJ := Lib.hid aJ
 refine Reg2.ro wA 10 76 [.p 0, .m 1, .p 3, .p 7, .m 15, .p 7, .p 39, .p 103, .m 231, .m 487] [.bool true, .int .i64 xt, .pointer (some ⟨p, 0, none⟩), .int .i64 M.now] (by kernel_rfl) (by kernel_rfl) rfl rfl ⟨rfl, rfl, rfl, Nat.le_refl _, fun _ _ => rfl⟩ ?_
 dsimp only [Reg2.gM]
 repeat (refine' Reg2.ak _ (by rfl) (fun wz => ?_) ?_; rotate_left; (go_simp; first | rfl | rw [if_neg (by omega)]); simp only [Act.put, xA, xB, xC, xD, xE, id])
 refine Reg2.pm (fun wz hI hF => ?_) (fun r1 => ?_) (by rfl)
 ·go_wp2_with (go_at_call 68; go_must (refine (hcl wz hI).mono ?_); rintro e w' ⟨rfl, rfl⟩)
  first | exact ⟨_, rfl, rfl, Reg2.Ext.refl _⟩ | exact ⟨_, rfl, ⟨(), rfl, trivial⟩, Reg2.Ext.refl _⟩
 simp only [Act.put, xA, xB, xC, xD, xE, id]
 repeat ((first
  | (refine' Reg2.ak _ (by rfl) (fun wz => ?_) ?_; rotate_left; (go_simp; first | rfl | rw [if_neg (by omega)]))
  | refine Reg2.uA (by rfl) ?_
  | refine Reg2.lD (by rfl) ?_); simp only [Act.put, xA, xB, xC, xD, xE, id])
 refine Reg2.aA ?_
 intro w4 HI4 _ dW
 clear dW
 dsimp only [List.drop]
 go_wp2_with fail
 go_ret
 exact ⟨rfl, bR.out.trans (HI4.mono bR.out.size)⟩
theorem K5 (h : CW w c t d p v g a m (ah M)) (hI : aF M) (h1 : 1 ≤ M.dr.length) (hll : M.L.length ≤ 900) (ha : a ≤ 800) (xi xt : Int) (hxt : -9223372036854775808 ≤ xt ∧ xt ≤ 9223372036854775807) (hc : M.cl = false) :
 Calls Tryz.prog 90 #[.pointer (some ⟨c, 0, none⟩), .agg #[.int .i64 xi, .int .i64 xt]] w fun e w' => e = .returned (.bool (fI M xi xt)) ∧ Below w.heap.size w w' := by
 have sG := Lib.hid (fB hI h1 hll)
 have zJ := bI
 have zS := kG
 obtain ⟨k, hk1⟩ : ∃ k, k = 10 := ⟨_, rfl⟩
 obtain ⟨k3, hk3⟩ : ∃ k, k = 3 := ⟨_, rfl⟩
 rw [← hk1] at zJ
 rw [← hk3] at zS
 have hk0 : ¬ k = 0 := by omega
 have zw : ¬ k3 = 0 := by omega
 replace hk1 := Lib.hid hk1
 replace hk3 := Lib.hid hk3
 obtain ⟨wA, aJ⟩ : ∃ wA, wA = w.alloc (.cells #[.int .i64 xi, .int .i64 xt] 77) := ⟨_, rfl⟩
 have bR : Hid (Below w.heap.size w wA) := by show Below _ _ _; rw [aJ]; exact (Below.refl _ _).alloc (Nat.le_refl _) _
 have nR : Hid (wA.heap[w.heap.size]? = some (.cells #[.int .i64 xi, .int .i64 xt] 77 (0, 0))) := by show _ = _; rw [aJ]; exact heap_alloc_new w _
 have iP := Lib.hid (h.kept bR.out)
 have hcl := fun (W : World) (hW : Below wA.heap.size wA W) => jl (iP.out.kept hW)
 rw [show (ah M).cl = M.cl from rfl] at hcl
 have hnw := fun (W : World) (hW : Below wA.heap.size wA W) => gz (iP.out.kept hW)
 rw [show (ah M).now = M.now from rfl] at hnw
 rw [hc] at hcl
 have his := fun (W : World) => TA xt W hxt
 have hget := Lib.hid (fun (W : World) (hW : Below wA.heap.size wA W) => gQ (iP.out.kept hW).eQ xi)
 obtain ⟨rb, hrb⟩ : ∃ rb, rb = fI M xi xt := ⟨_, rfl⟩
 rw [← hrb]
 replace hrb := Lib.hid hrb
 replace hc := Lib.hid hc
 clear h
 go_enter Tryz.func90, Tryz.ntmps90
 go_wp2_with fail
 rw [← aJ]
 replace aJ := Lib.hid aJ
 refine Reg2.ro wA 10 76 [.p 0, .m 1, .p 3, .p 7, .m 15, .p 7, .p 39, .p 103, .m 231, .m 487] [.bool false, .int .i64 xt, .pointer (some ⟨p, 0, none⟩), .int .i64 M.now] (by kernel_rfl) (by kernel_rfl) rfl rfl ⟨rfl, rfl, rfl, Nat.le_refl _, fun _ _ => rfl⟩ ?_
 dsimp only [Reg2.gM]
 repeat (refine' Reg2.ak _ (by rfl) (fun wz => ?_) ?_; rotate_left; (go_simp; first | rfl | rw [if_neg (by omega)]); simp only [Act.put, xA, xB, xC, xD, xE, id])
 refine Reg2.pm (fun wz hI hF => ?_) (fun r1 => ?_) (by rfl)
 ·go_wp2_with (go_at_call 68; go_must (refine (hcl wz hI).mono ?_); rintro e w' ⟨rfl, rfl⟩)
  first | exact ⟨_, rfl, rfl, Reg2.Ext.refl _⟩ | exact ⟨_, rfl, ⟨(), rfl, trivial⟩, Reg2.Ext.refl _⟩
 simp only [Act.put, xA, xB, xC, xD, xE, id]
 repeat ((first
  | (refine' Reg2.ak _ (by rfl) (fun wz => ?_) ?_; rotate_left; (go_simp; first | rfl | rw [if_neg (by omega)]))
  | (refine Reg2.az (by rfl) (fun wz hI hF => ?_) (fun _ => ?_)
     ·unfold Reg2.One
      have q0 : wz.cell? ⟨w.heap.size, 1, none⟩ = some (.int .i64 xt) := by simp [World.cell?, (hI.block _ (aC nR.out)).trans nR.out]
      have c0 := (iP.out.kept hI).c2
      go_wp2_with fail
      first | exact ⟨_, rfl, rfl, Reg2.Ext.refl _⟩ | exact ⟨_, rfl, ⟨(), rfl, trivial⟩, Reg2.Ext.refl _⟩)); simp only [Act.put, xA, xB, xC, xD, xE, id])
 refine Reg2.pm (fun wz hI hF => ?_) (fun r9 => ?_) (by rfl)
 ·go_wp2_with (go_at_call 95; go_must (refine (hnw wz hI).mono ?_); rintro e w' ⟨rfl, rfl⟩)
  first | exact ⟨_, rfl, rfl, Reg2.Ext.refl _⟩ | exact ⟨_, rfl, ⟨(), rfl, trivial⟩, Reg2.Ext.refl _⟩
 simp only [Act.put, xA, xB, xC, xD, xE, id]
 refine Reg2.aA ?_
 intro w4 HI4 _ dW
 clear dW
 dsimp only [List.drop]
 have hb4 := bR.out.trans (HI4.mono bR.out.size)
 have zT : w4.heap[w.heap.size]? = some (.cells #[.int .i64 xi, .int .i64 xt] 77 (0, 0)) := (HI4.block _ (aC nR.out)).trans nR.out
 have x1 : w4.cell? ⟨w.heap.size, 1, none⟩ = some (.int .i64 xt) := by simp [World.cell?, zT]
 by_cases hlow : xt < M.now
 ·have d1 : decide (xt < M.now) = true := decide_eq_true hlow
  have hfin : Hid (rb = false) := hrb.out.trans (Ob hlow)
  replace hlow := Lib.hid hlow
  obtain rfl := hfin.out
  go_wp2_with fail
  go_ret
  exact ⟨rfl, hb4⟩
 have d1 : decide (xt < M.now) = false := decide_eq_false hlow
 by_cases hhi : 1099511627776 < xt
 ·have d2 : decide (0 ≤ xt ∧ xt ≤ 1099511627776) = false := decide_eq_false (by omega)
  rw [d2] at his
  have hfin : Hid (rb = false) := hrb.out.trans (KX hhi)
  replace hhi := Lib.hid hhi
  obtain rfl := hfin.out
  go_wp2_with (go_at_call 111; go_must (refine (his _).mono ?_); rintro e w' ⟨rfl, rfl⟩)
  go_ret
  exact ⟨rfl, hb4⟩
 have d2 : decide (0 ≤ xt ∧ xt ≤ 1099511627776) = true := decide_eq_true (by have := hI.mb.now; omega)
 rw [d2] at his
 have x0 : w4.cell? ⟨w.heap.size, 0, none⟩ = some (.int .i64 xi) := by simp [World.cell?, zT]
 have c0 := (iP.out.kept HI4).c0
 obtain ⟨y, hy⟩ : ∃ y, y = bN M.L xi := ⟨_, rfl⟩
 obtain ⟨e0, he0⟩ : ∃ e0, e0 = gH M.L xi := ⟨_, rfl⟩
 have hgo : Hid (∀ W, Below wA.heap.size wA W → Calls Tryz.prog 77 #[.pointer (some ⟨t, 0, none⟩), .int .i64 xi] W fun e w' => e = .returned (.tuple #[.agg (ai y).toArray, .int .i64 e0]) ∧ Gr W w') := fun W hW => by
  have := hget.out W hW
  unfold iM at this
  rw [show (ah M).J = M.L from rfl, ← hy, ← he0] at this
  exact this
 have lY := au y
 rw [← hk1.out] at lY
 have y2 : (ai y)[2]? = some (.int .i64 y.wid) := rfl
 have y3 : (ai y)[3]? = some (.int .i64 y.lim) := rfl
 have y5 : (ai y)[5]? = some (.int .i64 y.st) := rfl
 have hpy : Hid (∀ W, y.aN ≤ 1099511627776 → 0 ≤ y.lim ∧ y.lim ≤ 1048576 → Calls Tryz.prog 112 #[.agg (ai y).toArray] W fun e w' => e = .returned (.tuple #[.agg (aM y).toArray, .bool (aj y)]) ∧ Below W.heap.size W w') := fun W a1 a2 => kV y a1 a2
 replace hy := Lib.hid hy
 replace he0 := Lib.hid he0
 have Mc := Lib.hid zT
 have pF := Lib.hid (iP.out.kept HI4)
 clear zT hget x0 c0
 go_wp2_with (go_at_call 111; go_must (refine (his _).mono ?_); rintro e w' ⟨rfl, rfl⟩)
 go_wp2_with fail
 refine Reg2.qU 12 76 [[],[ae],[ae,ae],[ae,ae,ae],[af,af,af,af],[af,af,af,af,ae],[ae,ae,ae,ae,ae,ae],[ae,ae,ae,ae,ae,ae,ae],[ae,ae,ae,ae,ae,ae,ae,ae],[ae,ae,ae,ae,ae,ae,ae,ae,af],[af,af,af,af,af,af,af,af,af,af],[ae,ae,ae,ae,ae,ae,ae,ae,ae,af,ae]] [0, 0, 0, 1, 0, 1, 1, 0, 0, 0, 3, 3]
  [.pure, .pure, .pure, .mU (.pointer (some ⟨t, 0, none⟩)), .pure, .mU (.int .i64 xi), .mU (.tuple #[.agg (ai y).toArray, .int .i64 e0]), .pure, .pure, .pure, .major Nat 0 (fun k => .pointer (some ⟨k, 0, none⟩)), .major Unit () (fun _ => undef)]
  (fun W => Below w4.heap.size w4 W) (iE w4 y) (fun a b => Below w4.heap.size a b) (by kernel_rfl) (by kernel_rfl) rfl rfl (fun vs a b h hs => iE.ext h hs) ?_ ?_ ?_ ?_ ?_ ?_ ?_
 ·intro a b he hb; exact hb.trans (Below.mono he hb.size)
 ·intro a b he hb; exact hb.trans he
 ·exact ⟨trivial, trivial, trivial, ⟨fun _ _ _ _ _ => trivial, fun _ _ _ _ _ => trivial⟩, trivial, ⟨fun _ _ _ _ _ => trivial, fun _ _ _ _ _ => trivial⟩, ⟨fun _ _ _ _ _ => trivial, fun _ _ _ _ _ => trivial⟩, trivial, trivial, trivial, trivial, trivial, trivial⟩
 ·exact ⟨(fun h => nomatch h), (fun h => nomatch h), (fun h => nomatch h), (fun h => nomatch h), (fun h => nomatch h), (fun h => nomatch h), (fun h => nomatch h), (fun h => nomatch h), (fun h => nomatch h), (fun h => nomatch h), (fun h => nomatch h), (fun _ _ => rfl), trivial⟩
 ·exact ⟨rfl, rfl, rfl, Nat.le_refl _, fun _ _ => rfl⟩
 ·exact ⟨⟨rfl, rfl, rfl, Nat.le_refl _, fun _ _ => rfl⟩, trivial⟩
 dsimp only [Reg2.mk, List.zip, List.zipWith, List.take]
 repeat ((first
  | (refine' Reg2.ak _ (by rfl) (fun wz => ?_) ?_; rotate_left; (go_simp; first | rfl | rw [if_neg (by omega)]))
  | (refine Reg2.az (by rfl) (fun wz hI hF => ?_) (fun _ => ?_)
     ·unfold Reg2.One
      have c0 := (pF.out.kept hI).c0
      have q0 : wz.cell? ⟨w.heap.size, 0, none⟩ = some (.int .i64 xi) := by simp [World.cell?, (hI.block _ (aC Mc.out)).trans Mc.out]
      go_wp2_with fail
      first | exact ⟨_, rfl, rfl, Reg2.Ext.refl _⟩ | exact ⟨_, rfl, ⟨(), rfl, trivial⟩, Reg2.Ext.refl _⟩)); simp only [Act.put, xA, xB, xC, xD, xE, id])
 refine Reg2.pm (fun wz hI hF => ?_) (fun r6 => ?_) (by rfl)
 ·go_wp2_with (go_at_call 77; go_must (refine (hgo.out wz (HI4.trans (hI.mono HI4.size))).mono ?_); rintro e w' ⟨rfl, hg5⟩; have hb5 := hg5.below)
  first | exact ⟨_, rfl, ⟨(), rfl, trivial⟩, hb5⟩ | exact ⟨_, rfl, rfl, hb5⟩
 simp only [Act.put, xA, xB, xC, xD, xE, id]
 repeat (refine' Reg2.ak _ (by rfl) (fun wz => ?_) ?_; rotate_left; (go_simp; first | rfl | rw [if_neg (by omega)]); simp only [Act.put, xA, xB, xC, xD, xE, id])
 refine Reg2.pj (fun wz hI hS hF => ?_) (fun Bh => ?_) (by rfl)
 ·go_wp2_with fail
  exact ⟨_, rfl, ⟨⟨_, rfl⟩, iE.alloc hS⟩, (Below.refl _ _).alloc hI.size _⟩
 simp only [Act.put, xA, xB, xC, xD, xE, id]
 refine Reg2.pj (fun wz hI hS hF => ?_) (fun Vl => ?_) (by rfl)
 ·obtain ⟨hz, hge⟩ := iE.zero hS
  have zW := oz (x := y) hz
  have hfin := iE.store hS
  have hbw : Below w4.heap.size wz (wz.setRow Bh (ai y).toArray) := qN (Below.refl _ _) hge _
  generalize ai y = cY at *
  go_wp2_with fail
  exact ⟨_, rfl, ⟨⟨(), rfl⟩, hfin⟩, hbw⟩
 simp only [Act.put, xA, xB, xC, xD, xE, id]
 refine Reg2.aA ?_
 intro w7 kr sH kH
 clear kH
 dsimp only [List.drop]
 obtain ⟨zV, YG⟩ := iE.full sH
 have jZ := hb4.trans (kr.mono hb4.size)
 have Vr := (kr.block _ (aC Mc.out)).trans Mc.out
 have x1 : w7.cell? ⟨w.heap.size, 1, none⟩ = some (.int .i64 xt) := by simp [World.cell?, Vr]
 have b5 : w7.cell? ⟨Bh, 5, none⟩ = some (.int .i64 y.st) := by simp [World.cell?, zV, y5]
 have b3 : w7.cell? ⟨Bh, 3, none⟩ = some (.int .i64 y.lim) := by simp [World.cell?, zV, y3]
 have TB := eZ zV lY
 clear sH
 by_cases hne : e0 ≠ 0
 ·have d3 : (e0 != 0) = true := by simp [hne]
  have hfin : Hid (rb = false) := hrb.out.trans (KY (by rw [← he0.out]; exact hne))
  obtain rfl := hfin.out
  replace hne := Lib.hid hne
  go_wp2_with fail
  go_ret
  exact ⟨rfl, jZ⟩
 have he1 : e0 = 0 := by omega
 subst he1
 clear hne
 by_cases hst : y.st ≠ 1
 ·have d4 : (y.st != 1) = true := by simp [hst]
  have hfin : Hid (rb = false) := hrb.out.trans (I1 he0.out.symm (by rw [← hy.out]; exact hst))
  obtain rfl := hfin.out
  replace hst := Lib.hid hst
  go_wp2_with fail
  go_ret
  exact ⟨rfl, jZ⟩
 have hs1 : y.st = 1 := by omega
 have d4 : (y.st != 1) = false := by simp [hs1]
 clear hst
 have hym : y ∈ M.L := by
  obtain ⟨i, hi, _, h3, _⟩ := uP he0.out.symm
  rw [hy.out, h3]
  exact aY hi
 have Xh := hI.mb.lim y hym
 have Uo := hI.mb.aN y hym
 have hpl := hpy.out w7 Uo.2 Xh
 have lS : (aM y).length = 3 := by unfold aM; split <;> rfl
 have oS : ∀ u ∈ aM y, u.oneCell' = true := by unfold aM; split <;> (intro u hu; simp at hu; rcases hu with rfl | rfl | rfl <;> rfl)
 have SS : Hid (∀ W : World, Sem.run Tryz.prog (storeCells ⟨W.heap.size, 0, none⟩ (aM y) 0) (W.alloc (.cells #[.int .i64 0, .int .i64 0, .int .i64 0] 148)) = .ok () (W.alloc (.cells (aM y).toArray 148))) := fun W => dB W W.heap.size (aM y) [.int .i64 0, .int .i64 0, .int .i64 0] 148 rfl lS oS
 rw [← hk3.out] at lS
 have Yi := hI.mb.now
 have Yj : IntKind.i64.wrap (xt + y.lim) = xt + y.lim := by rw [IntKind.wrap_i64]; omega
 have hro := fun (mm : Int) (hl : aj y = true → xt < y.aN) (hB : BL (fun u => ax M u 0) xt (nG y xt) mm) => K3 (id := xi) hI hc.out (by omega) (by omega) he0.out.symm (by rw [← hy.out]; exact hs1) (by rw [← hy.out]; exact hl) (by rw [← hy.out]; exact hB)
 rw [← hrb.out, ← hy.out] at hro
 have Uq := Lib.hid (fun (W : World) (hW : Below wA.heap.size wA W) (hi : Int) (hh : -9223372036854775808 ≤ hi ∧ hi ≤ 9223372036854775807) => K4 (iP.out.kept hW) sG.out (by omega) xt hi (by show M.now ≤ xt; omega) hh)
 have PH := hI.mb.wid y hym
 have hs0 : (aM y)[0]? = some (.int .i64 (if aj y = true then y.aN else 0)) := by unfold aM; split <;> rfl
 obtain ⟨yw, K6⟩ : ∃ yw, yw = y.wid := ⟨_, rfl⟩
 rw [← K6] at y2 hro
 obtain ⟨yl, hyl⟩ : ∃ yl, yl = y.lim := ⟨_, rfl⟩
 rw [← hyl] at b3 Yj Xh
 obtain ⟨yp, hyp⟩ : ∃ yp, yp = y.aN := ⟨_, rfl⟩
 rw [← hyp] at hro hs0 Uo
 have hft : Hid (nG y xt = if aj y = true then min (xt + yl) yp else xt + yl) := by show _ = _; unfold nG; rw [hyl, hyp]
 replace K6 := Lib.hid K6
 replace hyl := Lib.hid hyl
 replace hyp := Lib.hid hyp
 replace hro := Lib.hid hro
 replace hs1 := Lib.hid hs1
 have I4 := Lib.hid zV
 have Me := Lib.hid Vr
 clear zV Vr
 generalize kY : aM y = cS at *
 replace kY := Lib.hid kY
 generalize zO : ai y = cY at *
 replace zO := Lib.hid zO
 have hrs := aC I4.out
 cases hP : aj y with
 | false =>
   rw [hP] at hpl
   replace hP := Lib.hid hP
   go_wp2_with fail
   go_at_call 112
   refine hpl.mono ?_
   clear hpl TB b5 b3 x1
   rintro e w8 ⟨rfl, pE⟩
   have Vs := SS.out w8
   obtain ⟨w9, rA⟩ : ∃ w9, w9 = w8.alloc (.cells cS.toArray 148) := ⟨_, rfl⟩
   rw [← rA] at Vs
   have xy : Below w7.heap.size w7 w9 := by rw [rA]; exact pE.alloc pE.size _
   have Rx := Lib.hid ((xy.block _ (aC I4.out)).trans I4.out)
   have Oc := Lib.hid ((xy.block _ (aC Me.out)).trans Me.out)
   have K7 := (HI4.trans (kr.mono HI4.size)).trans (xy.mono (HI4.trans (kr.mono HI4.size)).size)
   have Ej := jZ.trans (xy.mono jZ.size)
   have IQ := Lib.hid (iP.out.kept K7)
   replace rA := Lib.hid rA
   go_wp2_with fail
   refine Reg2.rd w9 10 76 [[],[ae],[ae,ae],[ae,ae,ae],[af,af,af,af],[af,af,af,af,ae],[af,af,af,af,af,af],[ae,ae,ae,ae,ae,ae,ae],[af,af,af,af,af,af,af,af],[af,af,af,af,af,af,af,af,ae]] [0, 0, 0, 1, 0, 1, 0, 1, 0, 1] [.pure, .pure, .pure, .mU (.pointer (some ⟨p, 0, none⟩)), .pure, .mU (.int .i64 xt), .pure, .minor Int 0 (fun x => .int .i64 x) (fun x _ => BL (fun u => ax M u 0) xt (xt + yl) x), .pure, .mU (.int .i64 yw)] (by kernel_rfl) (by kernel_rfl) rfl rfl ⟨trivial, trivial, trivial, Reg2.tt, trivial, Reg2.tt, trivial, ⟨fun _ _ _ _ h => h, fun _ _ _ _ h => h⟩, trivial, Reg2.tt, trivial⟩ ⟨rfl, rfl, rfl, Nat.le_refl _, fun _ _ => rfl⟩ ?_
   dsimp only [Reg2.mk, List.zip, List.zipWith, List.take]
   repeat ((first
    | (refine' Reg2.ak _ (by rfl) (fun wz => ?_) ?_; rotate_left; (go_simp; first | rfl | rw [if_neg (by omega)]))
    | (refine Reg2.az (by rfl) (fun wz hI hF => ?_) (fun _ => ?_)
       ·unfold Reg2.One
        have c0 := (IQ.out.kept hI).c2
        have q0 : wz.cell? ⟨w.heap.size, 1, none⟩ = some (.int .i64 xt) := by simp [World.cell?, (hI.block _ (aC Oc.out)).trans Oc.out]
        go_wp2_with fail
        first | exact ⟨_, rfl, rfl, Reg2.Ext.refl _⟩ | exact ⟨_, rfl, ⟨(), rfl, trivial⟩, Reg2.Ext.refl _⟩)); simp only [Act.put, xA, xB, xC, xD, xE, id])
   refine Reg2.pm (fun wz hI hF => ?_) (fun r7 => ?_) (by rfl)
   ·go_wp2_with (go_at_call 113; go_must (refine (Uq.out wz (K7.trans (hI.mono K7.size)) (xt + yl) (by omega)).mono ?_); rintro e w' ⟨mm, rfl, hB, hb5⟩)
    exact ⟨_, rfl, ⟨mm, rfl, hB⟩, hb5⟩
   simp only [Act.put, xA, xB, xC, xD, xE, id]
   repeat ((first
    | (refine' Reg2.ak _ (by rfl) (fun wz => ?_) ?_; rotate_left; (go_simp; first | rfl | rw [if_neg (by omega)]))
    | (refine Reg2.az (by rfl) (fun wz hI hF => ?_) (fun _ => ?_)
       ·unfold Reg2.One
        have q0 : wz.cell? ⟨Bh, 2, none⟩ = some (.int .i64 yw) := by simp [World.cell?, (hI.block _ (aC Rx.out)).trans Rx.out, y2]
        go_wp2_with fail
        first | exact ⟨_, rfl, rfl, Reg2.Ext.refl _⟩ | exact ⟨_, rfl, ⟨(), rfl, trivial⟩, Reg2.Ext.refl _⟩)); simp only [Act.put, xA, xB, xC, xD, xE, id])
   refine Reg2.aA ?_
   intro Vt Rz _ I5
   have hB := I5.2.2.2.2.2.2.2.1
   clear I5
   dsimp only [List.drop]
   have hfin := hro.out r7 (fun hp => by rw [hP.out] at hp; cases hp) (by rw [hft.out, hP.out, if_neg (by decide)]; exact hB)
   have Vu : Hid (rb = decide (r7 ≥ yw)) := by show _ = _; rw [hfin]
   obtain rfl := Vu.out
   go_wp2_with fail
   go_ret
   exact ⟨rfl, Ej.trans (Rz.mono Ej.size)⟩
 | true =>
   rw [hP] at hpl
   have Yk := (bq.1 hP).2
   rw [← hyp.out] at Yk
   have Xi : Hid (cS[0]? = some (.int .i64 yp)) := by show _ = _; rw [hs0, if_pos hP]
   replace hP := Lib.hid hP
   replace hs0 := Lib.hid hs0
   go_wp2_with fail
   go_at_call 112
   refine hpl.mono ?_
   clear hpl TB b5 b3 x1
   rintro e w8 ⟨rfl, pE⟩
   have Vs := SS.out w8
   obtain ⟨w9, rA⟩ : ∃ w9, w9 = w8.alloc (.cells cS.toArray 148) := ⟨_, rfl⟩
   have hzs : w9.heap[w8.heap.size]? = some (.cells cS.toArray 148 (0, 0)) := by rw [rA]; exact heap_alloc_new w8 _
   rw [← rA] at Vs
   have xy : Below w7.heap.size w7 w9 := by rw [rA]; exact pE.alloc pE.size _
   have Rx := Lib.hid ((xy.block _ (aC I4.out)).trans I4.out)
   have Oc := Lib.hid ((xy.block _ (aC Me.out)).trans Me.out)
   have K7 := (HI4.trans (kr.mono HI4.size)).trans (xy.mono (HI4.trans (kr.mono HI4.size)).size)
   have Ej := jZ.trans (xy.mono jZ.size)
   have IQ := Lib.hid (iP.out.kept K7)
   have cs0 : w9.cell? ⟨w8.heap.size, 0, none⟩ = some (.int .i64 yp) := by simp [World.cell?, hzs, Xi.out]
   have Ze : w9.cell? ⟨w.heap.size, 1, none⟩ = some (.int .i64 xt) := by simp [World.cell?, Oc.out]
   replace hzs := Lib.hid hzs
   replace rA := Lib.hid rA
   by_cases hlt : yp ≤ xt
   ·have d5 : decide (xt ≥ yp) = true := decide_eq_true hlt
    have hfin : Hid (rb = false) := hrb.out.trans (KZ he0.out.symm (by rw [← hy.out]; exact hP.out) (by rw [← hy.out, ← hyp.out]; exact hlt))
    obtain rfl := hfin.out
    replace hlt := Lib.hid hlt
    go_wp2_with fail
    go_ret
    exact ⟨rfl, Ej⟩
   ·have d5 : decide (xt ≥ yp) = false := decide_eq_false hlt
    go_wp2_with fail
    refine Reg2.rd w9 10 76 [[],[ae],[ae,ae],[ae,ae,ae],[af,af,af,af],[af,af,af,af,ae],[af,af,af,af,af,af],[ae,ae,ae,ae,ae,ae,ae],[af,af,af,af,af,af,af,af],[af,af,af,af,af,af,af,af,ae]] [0, 0, 0, 1, 0, 1, 0, 1, 0, 1] [.pure, .pure, .pure, .mU (.pointer (some ⟨p, 0, none⟩)), .pure, .mU (.int .i64 xt), .pure, .minor Int 0 (fun x => .int .i64 x) (fun x _ => BL (fun u => ax M u 0) xt (min (xt + yl) yp) x), .pure, .mU (.int .i64 yw)] (by kernel_rfl) (by kernel_rfl) rfl rfl ⟨trivial, trivial, trivial, Reg2.tt, trivial, Reg2.tt, trivial, ⟨fun _ _ _ _ h => h, fun _ _ _ _ h => h⟩, trivial, Reg2.tt, trivial⟩ ⟨rfl, rfl, rfl, Nat.le_refl _, fun _ _ => rfl⟩ ?_
    dsimp only [Reg2.mk, List.zip, List.zipWith, List.take]
    repeat ((first
     | (refine' Reg2.ak _ (by rfl) (fun wz => ?_) ?_; rotate_left; (go_simp; first | rfl | rw [if_neg (by omega)]))
     | (refine Reg2.az (by rfl) (fun wz hI hF => ?_) (fun _ => ?_)
        ·unfold Reg2.One
         have c0 := (IQ.out.kept hI).c2
         have q0 : wz.cell? ⟨w.heap.size, 1, none⟩ = some (.int .i64 xt) := by simp [World.cell?, (hI.block _ (aC Oc.out)).trans Oc.out]
         go_wp2_with fail
         first | exact ⟨_, rfl, rfl, Reg2.Ext.refl _⟩ | exact ⟨_, rfl, ⟨(), rfl, trivial⟩, Reg2.Ext.refl _⟩)); simp only [Act.put, xA, xB, xC, xD, xE, id])
    refine Reg2.pm (fun wz hI hF => ?_) (fun r7 => ?_) (by rfl)
    ·go_wp2_with (go_at_call 113; go_must (refine (Uq.out wz (K7.trans (hI.mono K7.size)) (min (xt + yl) yp) (by omega)).mono ?_); rintro e w' ⟨mm, rfl, hB, hb5⟩)
     exact ⟨_, rfl, ⟨mm, rfl, hB⟩, hb5⟩
    simp only [Act.put, xA, xB, xC, xD, xE, id]
    repeat ((first
     | (refine' Reg2.ak _ (by rfl) (fun wz => ?_) ?_; rotate_left; (go_simp; first | rfl | rw [if_neg (by omega)]))
     | (refine Reg2.az (by rfl) (fun wz hI hF => ?_) (fun _ => ?_)
        ·unfold Reg2.One
         have q0 : wz.cell? ⟨Bh, 2, none⟩ = some (.int .i64 yw) := by simp [World.cell?, (hI.block _ (aC Rx.out)).trans Rx.out, y2]
         go_wp2_with fail
         first | exact ⟨_, rfl, rfl, Reg2.Ext.refl _⟩ | exact ⟨_, rfl, ⟨(), rfl, trivial⟩, Reg2.Ext.refl _⟩)); simp only [Act.put, xA, xB, xC, xD, xE, id])
    refine Reg2.aA ?_
    intro Vt Rz _ I5
    have hB := I5.2.2.2.2.2.2.2.1
    clear I5
    dsimp only [List.drop]
    have hfin := hro.out r7 (fun _ => by omega) (by rw [hft.out, hP.out, if_pos rfl]; exact hB)
    have Vu : Hid (rb = decide (r7 ≥ yw)) := by show _ = _; rw [hfin]
    obtain rfl := Vu.out
    go_wp2_with fail
    go_ret
    exact ⟨rfl, Ej.trans (Rz.mono Ej.size)⟩
theorem El (h : CW w c t d p v g a m (ah M)) (hI : aF M) (h1 : 1 ≤ M.dr.length) (hll : M.L.length ≤ 900) (ha : a ≤ 800) (xi xt : Int) (hxt : -9223372036854775808 ≤ xt ∧ xt ≤ 9223372036854775807) :
 Calls Tryz.prog 90 #[.pointer (some ⟨c, 0, none⟩), .agg #[.int .i64 xi, .int .i64 xt]] w fun e w' => e = .returned (.bool (fI M xi xt)) ∧ Below w.heap.size w w' := by
 cases hc : M.cl with
 | true => exact F7 h hI h1 hll ha xi xt hxt hc
 | false => exact K5 h hI h1 hll ha xi xt hxt hc
end
end Go.Proofs.YtelnhablglomjaaGreat

namespace Go.Proofs.YtelnhablglomjaaGreat
open Go.RowKit Go.Lib Go.Sort
section
variable {w : World} {b c t d p g a : Nat} {v : Value} {m : Int} {P : Pg} {M : Md} {R : Wk}
theorem I6 (h : SW w b c t d p v g a m R P) (hk : PK P) (ha : a ≤ 800) (hm : m ≤ 1000000) (hP : aj R.aB = true) (hb1 : R.aB.aN ≤ 1099511627776) (hb2 : 0 ≤ R.aB.lim ∧ R.aB.lim ≤ 1048576) (hb3 : 1 ≤ R.aB.lim) (hb4 : 0 ≤ R.aB.wid ∧ R.aB.wid ≤ 64) (F : Int → Int)
 (hF : ∀ t, P.now ≤ t → F t = P.f t + had (max R.aB.aN P.now) (R.aB.aN + R.aB.lim) R.aB.wid t) (hr : ∀ t, P.now ≤ t → 0 ≤ F t ∧ F t ≤ 64) :
 Calls Tryz.prog 91 #[.pointer (some ⟨b, 0, none⟩), .pointer (some ⟨c, 0, none⟩)] w (ay w b c t d p v g (a + 2) (m + 1) (fE 115) R { P with f := F }) := by
 have zJ := bI
 have zS := kG
 obtain ⟨k, hk1⟩ : ∃ k, k = 10 := ⟨_, rfl⟩
 obtain ⟨k3, hk3⟩ : ∃ k, k = 3 := ⟨_, rfl⟩
 rw [← hk1] at zJ
 rw [← hk3] at zS
 have hk0 : ¬ k = 0 := by omega
 have zw : ¬ k3 = 0 := by omega
 have lJ := au R.aB
 rw [← hk1] at lJ
 replace hk1 := Lib.hid hk1
 have hS := Lib.hid h
 have qO := h.wk.nC lJ
 have hpl := kV (w := w) R.aB hb1 hb2
 have lS : (aM R.aB).length = 3 := by unfold aM; split <;> rfl
 have oS : ∀ u ∈ aM R.aB, u.oneCell' = true := by unfold aM; split <;> (intro u hu; simp at hu; rcases hu with rfl | rfl | rfl <;> rfl)
 have ST : Hid (∀ W : World, Sem.run Tryz.prog (storeCells ⟨W.heap.size, 0, none⟩ (aM R.aB) 0) (W.alloc (.cells #[.int .i64 0, .int .i64 0, .int .i64 0] 148)) = .ok () (W.alloc (.cells (aM R.aB).toArray 148))) := fun W => dB W W.heap.size (aM R.aB) [.int .i64 0, .int .i64 0, .int .i64 0] 148 rfl lS oS
 rw [← hk3] at lS
 replace hk3 := Lib.hid hk3
 generalize kY : aM R.aB = cS at *
 replace kY := Lib.hid kY
 generalize ai R.aB = cJ at *
 clear h
 have mr : cS = [.int .i64 R.aB.aN, .int .i64 (R.aB.aN + R.aB.lim), .int .i64 R.aB.wid] := by rw [← kY.out]; unfold aM; rw [if_pos hP]
 rw [hP] at hpl
 replace hP := Lib.hid hP
 replace mr := Lib.hid mr
 go_enter Tryz.func91, Tryz.ntmps91
 go_wp2_with fail
 go_at_call 112
 refine hpl.mono ?_
 clear hpl qO
 rintro e w1 ⟨rfl, hb⟩
 have st1 := ST.out w1
 obtain ⟨w2, hw2⟩ : ∃ w2, w2 = w1.alloc (.cells cS.toArray 148) := ⟨_, rfl⟩
 rw [← hw2] at st1
 have hb2' : Below w.heap.size w w2 := by rw [hw2]; exact hb.alloc hb.size _
 have hy2 : Hid (w2.heap[w1.heap.size]? = some (.cells cS.toArray 148 (0, 0))) := by show _ = _; rw [hw2]; exact heap_alloc_new w1 _
 have hs2 : w2.heap.size = w1.heap.size + 1 := by rw [hw2]; simp
 replace hw2 := Lib.hid hw2
 have hS2 := Lib.hid (hS.out.kept hb2')
 go_wp2_with fail
 refine Reg2.ro w2 5 22 [.p 0, .p 1, .p 3, .m 7, .m 0] [.pointer (some ⟨p, 0, none⟩), .agg cS.toArray] (by kernel_rfl) (by kernel_rfl) rfl rfl ⟨rfl, rfl, rfl, Nat.le_refl _, fun _ _ => rfl⟩ ?_
 dsimp only [Reg2.gM]
 repeat ((first
  | (refine' Reg2.ak _ (by rfl) (fun wz => ?_) ?_; rotate_left; (go_simp; first | rfl | rw [if_neg (by omega)]))
  | (refine Reg2.az (by rfl) (fun wz hI hF => ?_) (fun _ => ?_)
     ·unfold Reg2.One
      have c0 := (hS2.out.cw.kept hI).c2
      have d0 := eZ ((hI.block _ (aC hy2.out)).trans hy2.out) lS
      go_wp2_with fail
      first | exact ⟨_, rfl, rfl, Reg2.Ext.refl _⟩ | exact ⟨_, rfl, ⟨(), rfl, trivial⟩, Reg2.Ext.refl _⟩)); simp only [Act.put, xA, xB, xC, xD, xE, id])
 refine Reg2.aA ?_
 intro w4 HI4 _ dW
 clear dW
 dsimp only [List.drop]
 have bL := hS2.out.kept HI4
 have hrel := tX bL.cw hk ha hm R.aB.aN (R.aB.aN + R.aB.lim) R.aB.wid F (by omega) (by omega) hb4 hF hr
 have IL := mr.out
 clear kY mr
 subst IL
 go_wp2_with fail
 go_at_call 114
 refine hrel.mono ?_
 clear hrel
 rintro e w5 ⟨rfl, v5, g5, gy, hS5⟩
 have eO := bL.core gy hS5
 have hfin := (WS.of_below (hb2'.trans (HI4.mono hb2'.size)) : WS w w4 b c t d p v g v g).trans (WS.dA hS5)
 go_wp2_with fail
 go_ret
 exact ⟨rfl, v5, g5, eO, hfin⟩
theorem I7 (h : SW w b c t d p v g a m R P) (hP : aj R.aB = false) (hb1 : R.aB.aN ≤ 1099511627776) (hb2 : 0 ≤ R.aB.lim ∧ R.aB.lim ≤ 1048576) :
 Calls Tryz.prog 91 #[.pointer (some ⟨b, 0, none⟩), .pointer (some ⟨c, 0, none⟩)] w (ay w b c t d p v g a m (fE 115) R P) := by
 have zJ := bI
 have zS := kG
 obtain ⟨k, hk1⟩ : ∃ k, k = 10 := ⟨_, rfl⟩
 obtain ⟨k3, hk3⟩ : ∃ k, k = 3 := ⟨_, rfl⟩
 rw [← hk1] at zJ
 rw [← hk3] at zS
 have hk0 : ¬ k = 0 := by omega
 have zw : ¬ k3 = 0 := by omega
 have lJ := au R.aB
 rw [← hk1] at lJ
 replace hk1 := Lib.hid hk1
 have hS := Lib.hid h
 have qO := h.wk.nC lJ
 have hpl := kV (w := w) R.aB hb1 hb2
 have lS : (aM R.aB).length = 3 := by unfold aM; split <;> rfl
 have oS : ∀ u ∈ aM R.aB, u.oneCell' = true := by unfold aM; split <;> (intro u hu; simp at hu; rcases hu with rfl | rfl | rfl <;> rfl)
 have ST : Hid (∀ W : World, Sem.run Tryz.prog (storeCells ⟨W.heap.size, 0, none⟩ (aM R.aB) 0) (W.alloc (.cells #[.int .i64 0, .int .i64 0, .int .i64 0] 148)) = .ok () (W.alloc (.cells (aM R.aB).toArray 148))) := fun W => dB W W.heap.size (aM R.aB) [.int .i64 0, .int .i64 0, .int .i64 0] 148 rfl lS oS
 rw [← hk3] at lS
 replace hk3 := Lib.hid hk3
 generalize kY : aM R.aB = cS at *
 replace kY := Lib.hid kY
 generalize ai R.aB = cJ at *
 clear h
 rw [hP] at hpl
 go_enter Tryz.func91, Tryz.ntmps91
 go_wp2_with fail
 go_at_call 112
 refine hpl.mono ?_
 clear hpl qO
 rintro e w1 ⟨rfl, hb⟩
 have st1 := ST.out w1
 obtain ⟨w2, hw2⟩ : ∃ w2, w2 = w1.alloc (.cells cS.toArray 148) := ⟨_, rfl⟩
 rw [← hw2] at st1
 have hb2' : Below w.heap.size w w2 := by rw [hw2]; exact hb.alloc hb.size _
 have hy2 : Hid (w2.heap[w1.heap.size]? = some (.cells cS.toArray 148 (0, 0))) := by show _ = _; rw [hw2]; exact heap_alloc_new w1 _
 have hs2 : w2.heap.size = w1.heap.size + 1 := by rw [hw2]; simp
 replace hw2 := Lib.hid hw2
 have hS2 := Lib.hid (hS.out.kept hb2')
 go_wp2_with fail
 go_ret
 exact ⟨rfl, v, g, hS2.out, WS.of_below hb2'⟩
theorem Od (h : SW w b c t d p v g a m R P) (hk : PK P) (ha : a ≤ 800) (hm : m ≤ 1000000) (hst : R.aB.st = 1) (hx : 0 ≤ R.dQ ∧ R.dQ ≤ 1099511627776) (hb2 : 1 ≤ R.aB.lim ∧ R.aB.lim ≤ 1048576) (hb4 : 0 ≤ R.aB.wid ∧ R.aB.wid ≤ 64) (F : Int → Int)
 (hF : ∀ t, P.now ≤ t → F t = P.f t + had (max R.dQ P.now) (R.dQ + R.aB.lim) (-R.aB.wid) t) (hr : ∀ t, P.now ≤ t → 0 ≤ F t ∧ F t ≤ 64) :
 Calls Tryz.prog 115 #[.pointer (some ⟨b, 0, none⟩), .pointer (some ⟨c, 0, none⟩)] w (ay w b c t d p v g (a + 2) (m + 1) (fE 145) { R with aB := R.aB.aG R.dQ } { P with f := F }) := by
 have zJ := bI
 have zS := kG
 obtain ⟨k, hk1⟩ : ∃ k, k = 10 := ⟨_, rfl⟩
 obtain ⟨k3, hk3⟩ : ∃ k, k = 3 := ⟨_, rfl⟩
 rw [← hk1] at zJ
 rw [← hk3] at zS
 have hk0 : ¬ k = 0 := by omega
 have zw : ¬ k3 = 0 := by omega
 have Ko := h.wk.at 10 (.int .i64 R.dQ) rfl
 have c20 := h.wk.at 20 (.int .i64 R.aB.aN) rfl
 have f20 := h.wk.free 20
 have hW1 := h.wk.plan R.dQ
 have hS1 := h.work hW1 (dh w 20 (.int .i64 R.dQ))
 have hf1 : WS w (w.setCell ⟨b, 20, none⟩ (.int .i64 R.dQ)) b c t d p v g v g := WS.bD (dh w 20 (.int .i64 R.dQ))
 obtain ⟨y, hy⟩ : ∃ y, y = R.aB.aG R.dQ := ⟨_, rfl⟩
 have hyp : y.aN = R.dQ := by rw [hy]; rfl
 have hyl : y.lim = R.aB.lim := by rw [hy]; rfl
 have K6 : y.wid = R.aB.wid := by rw [hy]; rfl
 have hP : aj y = true := bq.2 ⟨by rw [hy]; exact hst, by rw [hyp]; exact hx.1⟩
 rw [← hy] at hS1 hW1 ⊢
 replace hy := Lib.hid hy
 have lJ := au y
 rw [← hk1] at lJ
 replace hk1 := Lib.hid hk1
 have qO := hW1.nC (R := { R with aB := y }) lJ
 rw [show ({ R with aB := y } : Wk).aB = y from rfl] at qO
 have hpl := kV (w := w.setCell ⟨b, 20, none⟩ (.int .i64 R.dQ)) y (by rw [hyp]; exact hx.2) (by rw [hyl]; omega)
 have mr : aM y = [.int .i64 R.dQ, .int .i64 (R.dQ + R.aB.lim), .int .i64 R.aB.wid] := by unfold aM; rw [if_pos hP, hyp, hyl, K6]
 rw [hP] at hpl
 have lS : (aM y).length = 3 := by rw [mr]; rfl
 have oS : ∀ u ∈ aM y, u.oneCell' = true := by rw [mr]; intro u hu; simp at hu; rcases hu with rfl | rfl | rfl <;> rfl
 have ST : Hid (∀ W : World, Sem.run Tryz.prog (storeCells ⟨W.heap.size, 0, none⟩ (aM y) 0) (W.alloc (.cells #[.int .i64 0, .int .i64 0, .int .i64 0] 148)) = .ok () (W.alloc (.cells (aM y).toArray 148))) := fun W => dB W W.heap.size (aM y) [.int .i64 0, .int .i64 0, .int .i64 0] 148 rfl lS oS
 rw [← hk3] at lS
 replace hk3 := Lib.hid hk3
 generalize kY : aM y = cS at *
 replace kY := Lib.hid kY
 generalize ai y = cJ at *
 replace mr := Lib.hid mr
 replace hP := Lib.hid hP
 replace hyp := Lib.hid hyp
 replace hyl := Lib.hid hyl
 replace K6 := Lib.hid K6
 clear h
 generalize R.dQ = xa at *
 go_enter Tryz.func115, Tryz.ntmps115
 go_wp2_with fail
 go_at_call 112
 refine hpl.mono ?_
 clear hpl qO Ko c20 f20
 rintro e w1 ⟨rfl, hb⟩
 have st1 := ST.out w1
 obtain ⟨w2, hw2⟩ : ∃ w2, w2 = w1.alloc (.cells cS.toArray 148) := ⟨_, rfl⟩
 rw [← hw2] at st1
 have hb2' : Below (w.setCell ⟨b, 20, none⟩ (.int .i64 xa)).heap.size (w.setCell ⟨b, 20, none⟩ (.int .i64 xa)) w2 := by rw [hw2]; exact hb.alloc hb.size _
 have hy2 : Hid (w2.heap[w1.heap.size]? = some (.cells cS.toArray 148 (0, 0))) := by show _ = _; rw [hw2]; exact heap_alloc_new w1 _
 replace hw2 := Lib.hid hw2
 have hS2 := Lib.hid (hS1.kept hb2')
 have hf2 := hf1.trans (WS.of_below hb2')
 go_wp2_with fail
 refine Reg2.ro w2 5 31 [.p 0, .p 1, .p 3, .m 7, .m 0] [.pointer (some ⟨p, 0, none⟩), .agg cS.toArray] (by kernel_rfl) (by kernel_rfl) rfl rfl ⟨rfl, rfl, rfl, Nat.le_refl _, fun _ _ => rfl⟩ ?_
 dsimp only [Reg2.gM]
 repeat ((first
  | (refine' Reg2.ak _ (by rfl) (fun wz => ?_) ?_; rotate_left; (go_simp; first | rfl | rw [if_neg (by omega)]))
  | (refine Reg2.az (by rfl) (fun wz hI hF => ?_) (fun _ => ?_)
     ·unfold Reg2.One
      have c0 := (hS2.out.cw.kept hI).c2
      have d0 := eZ ((hI.block _ (aC hy2.out)).trans hy2.out) lS
      go_wp2_with fail
      first | exact ⟨_, rfl, rfl, Reg2.Ext.refl _⟩ | exact ⟨_, rfl, ⟨(), rfl, trivial⟩, Reg2.Ext.refl _⟩)); simp only [Act.put, xA, xB, xC, xD, xE, id])
 refine Reg2.aA ?_
 intro w4 HI4 _ dW
 clear dW
 dsimp only [List.drop]
 have bL := hS2.out.kept HI4
 have hrel := Ik bL.cw hk ha hm xa (xa + R.aB.lim) R.aB.wid F (by omega) (by omega) hb4 hF hr
 have IL := mr.out
 clear kY mr
 subst IL
 go_wp2_with fail
 go_at_call 144
 refine hrel.mono ?_
 clear hrel
 rintro e w5 ⟨rfl, v5, g5, gy, hS5⟩
 have eO := bL.core gy hS5
 have hfin := (hf2.trans (WS.of_below HI4)).trans (WS.dA hS5)
 go_wp2_with fail
 go_ret
 exact ⟨rfl, v5, g5, eO, hfin⟩
theorem I8 (h : SW w b c t d p v g a m R P) (hk : PK P) (hx : R.dQ = P.now) (hj : -9223372036854775808 ≤ R.aB.wid ∧ R.aB.wid ≤ 9223372036854775807) {s : Nat} {T0 : List Int} (hT0 : p9 P.T R.aB.wid s 0 T0) :
 Calls Tryz.prog 145 #[.pointer (some ⟨b, 0, none⟩), .pointer (some ⟨c, 0, none⟩)] w (ay w b c t d p v g a m .nilFunc R { P with T := T0, J := cu P.J (gq P.now) R.aB.id (fun j : Jb => decide (j.state = 1)) (lL P.now s) }) := by
 have zJ := bI
 obtain ⟨k, hk1⟩ : ∃ k, k = 10 := ⟨_, rfl⟩
 rw [← hk1] at zJ
 have hk0 : ¬ k = 0 := by omega
 have lJ := au R.aB
 rw [← hk1] at lJ
 replace hk1 := Lib.hid hk1
 have d1 : (R.dQ == P.now) = true := by simp [hx]
 have Vj := fun (W : World) (hW : SW W b c t d p v g a m R P) => hW.wk.nC lJ
 have hla := fun (W : World) (hW : SW W b c t d p v g a m R P) => launch_fn hW.cw hk R.aB hj hT0
 have hS := Lib.hid h
 replace hx := Lib.hid hx
 generalize ai R.aB = cJ at *
 clear h
 go_enter Tryz.func145, Tryz.ntmps145
 go_wp2_with fail
 refine Reg2.ro w 10 37 [.p 0, .p 1, .p 3, .p 7, .m 15, .p 0, .p 32, .p 96, .m 224, .m 480] [.int .i64 R.dQ, .pointer (some ⟨p, 0, none⟩), .int .i64 P.now] (by kernel_rfl) (by kernel_rfl) rfl rfl ⟨rfl, rfl, rfl, Nat.le_refl _, fun _ _ => rfl⟩ ?_
 dsimp only [Reg2.gM]
 repeat ((first
  | (refine' Reg2.ak _ (by rfl) (fun wz => ?_) ?_; rotate_left; (go_simp; first | rfl | rw [if_neg (by omega)]))
  | (refine Reg2.az (by rfl) (fun wz hI hF => ?_) (fun _ => ?_)
     ·unfold Reg2.One
      have q0 := (hS.out.kept hI).wk.at 10 (.int .i64 R.dQ) rfl
      have c0 := (hS.out.cw.kept hI).c2
      go_wp2_with fail
      first | exact ⟨_, rfl, rfl, Reg2.Ext.refl _⟩ | exact ⟨_, rfl, ⟨(), rfl, trivial⟩, Reg2.Ext.refl _⟩)); simp only [Act.put, xA, xB, xC, xD, xE, id])
 refine Reg2.pm (fun wz hI hF => ?_) (fun r9 => ?_) (by rfl)
 ·go_wp2_with (go_at_call 95; go_must (refine (gz (hS.out.kept hI).cw).mono ?_); rintro e w' ⟨rfl, rfl⟩)
  first | exact ⟨_, rfl, rfl, Reg2.Ext.refl _⟩ | exact ⟨_, rfl, ⟨(), rfl, trivial⟩, Reg2.Ext.refl _⟩
 simp only [Act.put, xA, xB, xC, xD, xE, id]
 refine Reg2.aA ?_
 intro w4 HI4 _ dW
 clear dW
 dsimp only [List.drop]
 have bL := hS.out.kept HI4
 have Yb := Vj w4 bL
 have hl4 := hla w4 bL
 go_wp2_with fail
 go_at_call 160
 refine hl4.mono ?_
 clear hl4
 rintro e w5 ⟨rfl, v5, g5, gy, hS5⟩
 have eO := bL.core gy hS5
 have hfin := (WS.of_below HI4 : WS w w4 b c t d p v g v g).trans (WS.dA hS5)
 go_wp2_with fail
 go_ret
 exact ⟨rfl, v5, g5, eO, hfin⟩
theorem CV (h : SW w b c t d p v g a m R P) (hx : R.dQ ≠ P.now) :
 Calls Tryz.prog 145 #[.pointer (some ⟨b, 0, none⟩), .pointer (some ⟨c, 0, none⟩)] w (ay w b c t d p v g a m .nilFunc R { P with J := cu P.J (gT R.dQ) R.kX (fun j : Jb => decide (j.state = 1)) (kM R.dQ) }) := by
 have d1 : (R.dQ == P.now) = false := by simp [hx]
 have hpl := fun (W : World) (hW : SW W b c t d p v g a m R P) => D6 hW.cw R.kX R.dQ
 have hS := Lib.hid h
 replace hx := Lib.hid hx
 clear h
 go_enter Tryz.func145, Tryz.ntmps145
 go_wp2_with fail
 refine Reg2.ro w 10 37 [.p 0, .p 1, .p 3, .p 7, .m 15, .p 0, .p 32, .p 96, .m 224, .m 480] [.int .i64 R.dQ, .pointer (some ⟨p, 0, none⟩), .int .i64 P.now] (by kernel_rfl) (by kernel_rfl) rfl rfl ⟨rfl, rfl, rfl, Nat.le_refl _, fun _ _ => rfl⟩ ?_
 dsimp only [Reg2.gM]
 repeat ((first
  | (refine' Reg2.ak _ (by rfl) (fun wz => ?_) ?_; rotate_left; (go_simp; first | rfl | rw [if_neg (by omega)]))
  | (refine Reg2.az (by rfl) (fun wz hI hF => ?_) (fun _ => ?_)
     ·unfold Reg2.One
      have q0 := (hS.out.kept hI).wk.at 10 (.int .i64 R.dQ) rfl
      have c0 := (hS.out.cw.kept hI).c2
      go_wp2_with fail
      first | exact ⟨_, rfl, rfl, Reg2.Ext.refl _⟩ | exact ⟨_, rfl, ⟨(), rfl, trivial⟩, Reg2.Ext.refl _⟩)); simp only [Act.put, xA, xB, xC, xD, xE, id])
 refine Reg2.pm (fun wz hI hF => ?_) (fun r9 => ?_) (by rfl)
 ·go_wp2_with (go_at_call 95; go_must (refine (gz (hS.out.kept hI).cw).mono ?_); rintro e w' ⟨rfl, rfl⟩)
  first | exact ⟨_, rfl, rfl, Reg2.Ext.refl _⟩ | exact ⟨_, rfl, ⟨(), rfl, trivial⟩, Reg2.Ext.refl _⟩
 simp only [Act.put, xA, xB, xC, xD, xE, id]
 refine Reg2.aA ?_
 intro w4 HI4 _ dW
 clear dW
 dsimp only [List.drop]
 have bL := Lib.hid (hS.out.kept HI4)
 go_wp2_with fail
 refine Reg2.ro w4 14 37 [.p 0, .p 1, .p 3, .m 7, .p 0, .p 16, .p 48, .p 112, .m 240, .p 0, .p 512, .p 1536, .p 3584, .m 7680] [.pointer (some ⟨t, 0, none⟩), .int .i64 R.kX, .int .i64 R.dQ] (by kernel_rfl) (by kernel_rfl) rfl rfl ⟨rfl, rfl, rfl, Nat.le_refl _, fun _ _ => rfl⟩ ?_
 dsimp only [Reg2.gM]
 repeat ((first
  | (refine' Reg2.ak _ (by rfl) (fun wz => ?_) ?_; rotate_left; (go_simp; first | rfl | rw [if_neg (by omega)]))
  | (refine Reg2.az (by rfl) (fun wz hI hF => ?_) (fun _ => ?_)
     ·unfold Reg2.One
      have c0 := (bL.out.cw.kept hI).c0
      have q0 := (bL.out.kept hI).wk.at 9 (.int .i64 R.kX) rfl
      have D9 := (bL.out.kept hI).wk.at 10 (.int .i64 R.dQ) rfl
      go_wp2_with fail
      first | exact ⟨_, rfl, rfl, Reg2.Ext.refl _⟩ | exact ⟨_, rfl, ⟨(), rfl, trivial⟩, Reg2.Ext.refl _⟩)); simp only [Act.put, xA, xB, xC, xD, xE, id])
 refine Reg2.aA ?_
 intro w5 J5 _ dW
 clear dW
 dsimp only [List.drop]
 have hS5 := bL.out.kept J5
 have Xk := hpl w5 hS5
 go_wp2_with fail
 go_at_call 149
 refine Xk.mono ?_
 clear Xk
 rintro e w6 ⟨rfl, v6, g6, IA, eO⟩
 have gG := hS5.core IA eO
 have hfin := (WS.of_below (HI4.trans (J5.mono HI4.size)) : WS w w5 b c t d p v g v g).trans (WS.dA eO)
 go_wp2_with fail
 go_ret
 exact ⟨rfl, v6, g6, gG, hfin⟩
theorem CX (h : SW w b c t d p v g a m R P) (hc : P.cl = true) :
 Calls Tryz.prog 74 #[.pointer (some ⟨b, 0, none⟩), .pointer (some ⟨c, 0, none⟩)] w (ay w b c t d p v g a m .nilFunc { R with rep := kz 12, ok := false } P) := by
 have hcl := jl h.cw
 rw [hc] at hcl
 have hf := iD h.wk 12
 go_enter Tryz.func74, Tryz.ntmps74
 go_wp2_with (first | (go_at_call 68; go_must (refine hcl.mono ?_); rintro e w' ⟨rfl, rfl⟩) | (go_at_call 42; go_must (refine hf.mono ?_); rintro e w8 ⟨rfl, dR, fV⟩))
 go_ret
 exact ⟨rfl, v, g, h.work dR fV, WS.bD fV⟩
theorem xz (h : bJ w b R) : Sem.run Tryz.prog (loadCellsFrom ⟨b, 9, none⟩ 0 2 #[]) w = .ok #[.int .i64 R.kX, .int .i64 R.dQ] w :=
 xn (cs := [.int .i64 R.kX, .int .i64 R.dQ]) h rfl fun j u hj => by
  rcases (show j = 0 ∨ j = 1 by have := (List.getElem?_eq_some_iff.1 hj).1; simp at this; omega) with rfl | rfl
  ·exact hj
  ·exact hj
theorem Oe (h : SW w b c t d p v g a m R (ah M)) (hI : aF M) (h1 : 1 ≤ M.dr.length) (hll : M.L.length ≤ 900) (ha : a ≤ 800) (hxt : -9223372036854775808 ≤ R.dQ ∧ R.dQ ≤ 9223372036854775807) (hc : M.cl = false) (hfit : fI M R.kX R.dQ = false) :
 Calls Tryz.prog 74 #[.pointer (some ⟨b, 0, none⟩), .pointer (some ⟨c, 0, none⟩)] w (ay w b c t d p v g a m .nilFunc R (ah M)) := by
 have hcl := jl h.cw
 rw [show (ah M).cl = false from hc] at hcl
 have hft := El h.cw hI h1 hll ha R.kX R.dQ hxt
 rw [hfit] at hft
 have ld := xz h.wk
 have x9 := h.wk.at 9 (.int .i64 R.kX) rfl
 have Ko := h.wk.at 10 (.int .i64 R.dQ) rfl
 go_enter Tryz.func74, Tryz.ntmps74
 go_wp2_with (first | (go_at_call 68; go_must (refine hcl.mono ?_); rintro e w' ⟨rfl, rfl⟩) | (go_at_call 90; go_must (refine hft.mono ?_); rintro e w8 ⟨rfl, pE⟩))
 go_ret
 exact ⟨rfl, v, g, h.kept pE, WS.of_below pE⟩
theorem K8 (h : SW w b c t d p v g a m R (ah M)) (hI : aF M) (h1 : 1 ≤ M.dr.length) (hll : M.L.length ≤ 900) (ha : a ≤ 800) (hxt : -9223372036854775808 ≤ R.dQ ∧ R.dQ ≤ 9223372036854775807) (hc : M.cl = false) (hfit : fI M R.kX R.dQ = true) :
 Calls Tryz.prog 74 #[.pointer (some ⟨b, 0, none⟩), .pointer (some ⟨c, 0, none⟩)] w (ay w b c t d p v g a m (fE 91) { R with aB := bN M.L R.kX, ok := true } (ah M)) := by
 have zJ := bI
 obtain ⟨k, hk1⟩ : ∃ k, k = 10 := ⟨_, rfl⟩
 rw [← hk1] at zJ
 have hk0 : ¬ k = 0 := by omega
 have hcl := jl h.cw
 rw [show (ah M).cl = false from hc] at hcl
 have hft := El h.cw hI h1 hll ha R.kX R.dQ hxt
 rw [hfit] at hft
 have ld := xz h.wk
 have x9 := h.wk.at 9 (.int .i64 R.kX) rfl
 have Ko := h.wk.at 10 (.int .i64 R.dQ) rfl
 obtain ⟨x, hx⟩ : ∃ x, x = bN M.L R.kX := ⟨_, rfl⟩
 rw [← hx]
 have hget := Lib.hid (fun (W : World) (hW : SW W b c t d p v g a m R (ah M)) => show Calls Tryz.prog 77 #[.pointer (some ⟨t, 0, none⟩), .int .i64 R.kX] W fun e w' => e = .returned (.tuple #[.agg (ai x).toArray, .int .i64 (gH M.L R.kX)]) ∧ Gr W w' from by
  have := gQ hW.cw.eQ R.kX
  unfold iM at this
  rw [show (ah M).J = M.L from rfl, ← hx] at this
  exact this)
 replace hx := Lib.hid hx
 have lJ := au x
 rw [← hk1] at lJ
 replace hk1 := Lib.hid hk1
 have hj := fun (W : World) (hW : SW W b c t d p v g a m R (ah M)) => hW.wk.uf x
 generalize ai x = cJ at *
 obtain ⟨W9, kC⟩ : ∃ W9, W9 = gB { R with aB := x } := ⟨_, rfl⟩
 rw [← kC] at hj
 replace kC := Lib.hid kC
 have hS := Lib.hid h
 clear h
 go_enter Tryz.func74, Tryz.ntmps74
 go_wp2_with (first | (go_at_call 68; go_must (refine hcl.mono ?_); rintro e w' ⟨rfl, rfl⟩) | (go_at_call 90; go_must (refine hft.mono ?_); rintro e w2 ⟨rfl, hb2⟩))
 have hS2 := Lib.hid (hS.out.kept hb2)
 have c0 := hS2.out.cw.c0
 have q9 := hS2.out.wk.at 9 (.int .i64 R.kX) rfl
 clear hcl hft ld x9 Ko
 go_region_with (go_at_call 77; go_must (refine (hget.out _ hS2.out.drew).mono ?_); rintro e w' ⟨rfl, hgr⟩; have rR := hS2.out.drew.kept hgr.below; obtain ⟨zW, pV⟩ := hj w' rR)
 all_goals
  have fZ := rR.work pV (cz w' W9.toArray)
  have hfr : WS w2 (w'.setRow b W9.toArray) b c t d p v g v g := ((WS.of_below hgr.below : WS w2.drew w' b c t d p v g v g).trans (WS.bD (cz w' W9.toArray))).yC
  have hfr2 := (WS.of_below hb2 : WS w w2 b c t d p v g v g).trans hfr
  clear zW pV rR hgr c0 q9 hfr
  generalize w'.setRow b W9.toArray = w9 at *
  have a33 := fZ.wk.at 33 (.bool R.ok) rfl
  have f33 := fZ.wk.free 33
  have Rk := fZ.work (fZ.wk.Uh true) (dh w9 33 (.bool true))
  have Xl := hfr2.trans (WS.bD (dh w9 33 (.bool true)))
  go_wp2_with fail
  go_ret
  have ex := hx.out
  clear hx
  subst ex
  exact ⟨rfl, v, g, Rk, Xl⟩
end
end Go.Proofs.YtelnhablglomjaaGreat

namespace Go.Proofs.YtelnhablglomjaaGreat
open Go.RowKit Go.Lib Go.Sort
section
variable {w : World} {b c t d p g a : Nat} {v : Value} {m : Int} {P P1 : Pg} {M : Md} {R : Wk}
theorem mO.uniq {l l1 l2 : List Int} {n : Int} {d : Bool} {e1 e2 : Int} (h : mO l n d e1 l1) (h' : mO l n d e2 l2) : e1 = e2 ∧ l1 = l2 := by
 by_cases h1 : n < 0 ∨ (l.length : Int) ≤ n
 ·obtain ⟨rfl, rfl⟩ := h.out h1
  obtain ⟨rfl, rfl⟩ := h'.out h1
  exact ⟨rfl, rfl⟩
 ·by_cases h2 : d = decide (l.getD n.toNat 0 < 3)
  ·obtain ⟨rfl, rfl⟩ := h.good (by omega) (by omega) h2
   obtain ⟨rfl, rfl⟩ := h'.good (by omega) (by omega) h2
   exact ⟨rfl, rfl⟩
  ·obtain ⟨rfl, rfl⟩ := h.bad (by omega) (by omega) h2
   obtain ⟨rfl, rfl⟩ := h'.bad (by omega) (by omega) h2
   exact ⟨rfl, rfl⟩
def Og (b c t d p a : Nat) (m : Int) (R : Wk) (P : Pg) (x : Int) (T' : List Int) (a' : Nat) (m' : Int) (R' : Wk) (P' : Pg) : Prop :=
 ∀ (W : World) (v1 : Value) (g1 : Nat), SW W b c t d p v1 g1 a m R { P with T := T' } → Calls Tryz.prog 107 #[.pointer (some ⟨b, 0, none⟩), .pointer (some ⟨c, 0, none⟩), .int .i64 x, .int .i64 (-1)] W (ay W b c t d p v1 g1 a' m' .nilFunc R' P')
def Oh (b c t d p a : Nat) (m : Int) (R : Wk) (P : Pg) (x : Int) (T' : List Int) (a' : Nat) (m' : Int) (R' : Wk) (P' : Pg) : Prop :=
 ∀ (W : World) (v1 : Value) (g1 : Nat), SW W b c t d p v1 g1 a m R { P with T := T' } → Calls Tryz.prog 107 #[.pointer (some ⟨b, 0, none⟩), .pointer (some ⟨c, 0, none⟩), .int .i64 x, .int .i64 1] W (ay W b c t d p v1 g1 a' m' .nilFunc R' P')
theorem resume_fn (h : SW w b c t d p v g a m R P) (hk : PK P) (hn : -9223372036854775808 ≤ R.ag.node ∧ R.ag.node ≤ 9223372036854775807) {x0 : Int} {T0 : List Int} (hT0 : mO P.T R.ag.node false x0 T0) {a' : Nat} {m' : Int} {R' : Wk} {P' : Pg}
 (Vv : Oh b c t d p a m R P x0 T0 a' m' R' P') :
 Calls Tryz.prog 88 #[.pointer (some ⟨b, 0, none⟩), .pointer (some ⟨c, 0, none⟩)] w (ay w b c t d p v g a' m' .nilFunc R' P') := by
 have hS := Lib.hid h
 replace hT0 := Lib.hid hT0
 have hmu := fun (W : World) (hW : SW W b c t d p v g a m R P) => Il hW.cw hk R.ag.node hn
 clear h
 go_enter Tryz.func88, Tryz.ntmps88
 go_wp2_with fail
 refine Reg2.sO 12 18 [[],[af],[af,af],[af,af,ae],[af,af,ae,ae],[af,af,ae,ae,ae],[af,af,af,af,af,af],[af,af,af,af,af,af,ae],[af,af,af,af,af,af,ae,ae],[af,af,af,af,af,af,ae,ae,ae],[af,af,af,af,af,af,ae,ae,ae,ae],[af,af,ae,ae,ae,ae,ae,ae,ae,ae,ae]] [0, 0, 0, 0, 0, 2, 0, 0, 0, 0, 2, 3]
  [.pure, .pure, .pure, .pure, .pure, .pinned Unit () (fun _ => .pointer (some ⟨d, 0, none⟩)) (fun _ _ => True), .pure, .pure, .pure, .pure, .pinned Unit () (fun _ => .int .i64 R.ag.node) (fun _ _ => True), .major Unit () (fun _ => .int .i64 x0)]
  (fun _ => True) (fun vs W => match vs with | [] => Below w.heap.size w W | _ :: _ => (gV w b c t d p v g a m R { P with T := T0 }) W) (fun _ _ => True) (by kernel_rfl) (by kernel_rfl) rfl rfl (fun vs a b h hs => by cases vs with | nil => exact Below.trans hs (h.mono (Below.size hs)) | cons v vs => exact gV.ext a b h hs) ?_ ?_ ?_ ?_ ?_ ?_
 ·intro a b he hb; trivial
 ·intro a b he hb; trivial
 ·exact ⟨trivial, trivial, trivial, trivial, trivial, ⟨fun _ _ _ _ _ => trivial, fun _ _ _ _ _ => trivial⟩, trivial, trivial, trivial, trivial, ⟨fun _ _ _ _ _ => trivial, fun _ _ _ _ _ => trivial⟩, trivial, trivial⟩
 ·trivial
 ·exact ⟨rfl, rfl, rfl, Nat.le_refl _, fun _ _ => rfl⟩
 dsimp only [Reg2.mk, List.zip, List.zipWith, List.take]
 repeat (refine' Reg2.ak _ (by rfl) (fun wz => ?_) ?_; rotate_left; (go_simp; first | rfl | rw [if_neg (by omega)]); simp only [Act.put, xA, xB, xC, xD, xE, id])
 refine Reg2.pp (fun wz _ hI hF => ?_) (fun r5 => ?_) (by rfl)
 ·have c0 := (hS.out.cw.kept hI).c1
  go_wp2_with fail
  first | exact ⟨_, rfl, rfl, Reg2.Ext.refl _⟩ | exact ⟨_, rfl, ⟨(), rfl, trivial⟩, Reg2.Ext.refl _⟩
 simp only [Act.put, xA, xB, xC, xD, xE, id]
 repeat (refine' Reg2.ak _ (by rfl) (fun wz => ?_) ?_; rotate_left; (go_simp; first | rfl | rw [if_neg (by omega)]); simp only [Act.put, xA, xB, xC, xD, xE, id])
 refine Reg2.pp (fun wz _ hI hF => ?_) (fun Bh => ?_) (by rfl)
 ·have q0 := (hS.out.kept hI).wk.at 7 (.int .i64 R.ag.node) rfl
  go_wp2_with fail
  first | exact ⟨_, rfl, rfl, Reg2.Ext.refl _⟩ | exact ⟨_, rfl, ⟨(), rfl, trivial⟩, Reg2.Ext.refl _⟩
 simp only [Act.put, xA, xB, xC, xD, xE, id]
 refine Reg2.pj (fun wz _ hI hF => ?_) (fun Vl => ?_) (by rfl)
 ·go_wp2_with (go_at_call 108; go_must (refine (hmu wz (hS.out.kept hI)).mono ?_); rintro e w' ⟨x, T', hT, hL, rfl, v4, g4, pF, bL⟩)
  obtain ⟨rfl, rfl⟩ := hT0.out.uniq hT
  have hpost : gV w b c t d p v g a m R { P with T := T0 } w' := ⟨v4, g4, (hS.out.kept hI).core pF bL, (WS.of_below hI).trans (WS.dA bL)⟩
  exact ⟨_, rfl, ⟨⟨(), rfl⟩, hpost⟩, trivial⟩
 simp only [Act.put, xA, xB, xC, xD, xE, id]
 refine Reg2.aA ?_
 intro w7 _ sH kH
 clear kH
 dsimp only [List.drop]
 obtain ⟨v7, g7, gG, yB⟩ : gV w b c t d p v g a m R { P with T := T0 } w7 := sH
 have RA := Vv w7 v7 g7 gG
 go_wp2_with fail
 go_at_call 107
 refine RA.mono ?_
 clear RA
 rintro e w8 ⟨rfl, v8, g8, gF, dR⟩
 go_wp2_with fail
 go_ret
 exact ⟨rfl, v8, g8, gF, yB.trans dR⟩
theorem zB (h : SW w b c t d p v g a m R P) (hk : PK P) (Vw : P = ah M) (hI : aF M) (h1 : 1 ≤ M.dr.length) (hll : M.L.length ≤ 900) (ha : a ≤ 800) (hm : m ≤ 1000000) (hhit : dS lq M.L = none) (hn : -9223372036854775808 ≤ R.ag.node ∧ R.ag.node ≤ 9223372036854775807) {x0 : Int} {T0 : List Int} (hT0 : mO P.T R.ag.node true x0 T0) {a' : Nat} {m' : Int} {R' : Wk} {P' : Pg}
 (Vv : Og b c t d p a m R P x0 T0 a' m' R' P') :
 Calls Tryz.prog 106 #[.pointer (some ⟨b, 0, none⟩), .pointer (some ⟨c, 0, none⟩)] w (ay w b c t d p v g a' m' .nilFunc R' P') := by
 obtain ⟨wA, aJ⟩ : ∃ wA, wA = w.alloc (.cells #[.int .i64 1] 3) := ⟨_, rfl⟩
 have bR : Below w.heap.size w wA := by rw [aJ]; exact (Below.refl _ _).alloc (Nat.le_refl _) _
 have KP : aD enc1 1 wA (.slice (some ⟨w.heap.size, 0, none⟩) 1 1) [1] := by rw [aJ]; exact gp w w.heap.size [1] rfl (by decide)
 have K9 := h.kept bR
 have hin := vM K9.cw.eQ (by rw [Vw]; show M.L.length ≤ 1000; omega) KP
 have hJ : P.J = M.L := by rw [Vw]; rfl
 rw [hJ] at hin
 have hdr := fun (W : World) (u : Value) (hC : CW W c t d p v g a m P) (hu : aD ai 10 W u (M.L.filter fun j : Jb => decide (j.state ∈ [(1 : Int)]))) => vT (Vw ▸ hC) hI h1 hll ha hm u _ (fun j : Jb => decide (j.state ∈ [(1 : Int)])) hu rfl
 have hno : M.L.findIdx? (fun j : Jb => decide (j.state ∈ [(1 : Int)]) && aj j) = none := by have := hhit; unfold dS at this; rw [← IB] at this; exact this
 rw [hno] at hdr
 have c0 := h.cw.c0
 have hS := Lib.hid h
 replace hT0 := Lib.hid hT0
 have hmu := fun (W : World) (hW : SW W b c t d p v g a m R P) => KE hW.cw hk R.ag.node hn
 rw [aJ] at hin
 clear h hno hhit
 go_enter Tryz.func106, Tryz.ntmps106
 go_wp2_with fail
 go_at_call 125
 refine hin.mono ?_
 clear hin c0
 rw [← aJ]
 rintro e w1 ⟨u, rfl, ho, hb1⟩
 have hS1 := K9.kept hb1
 have hd1 := hdr w1 u hS1.cw (aD.iW ho au rfl rfl)
 replace aJ := Lib.hid aJ
 clear ho hdr
 go_wp2_with fail
 go_at_call 123
 refine hd1.mono ?_
 clear hd1
 rintro e w2 (⟨_, rfl, hb2⟩ | ⟨i, hbad, _⟩)
 rotate_left
 ·cases hbad
 have hbw := bR.trans ((hb1.trans (hb2.mono hb1.size)).mono bR.size)
 have hS2 := Lib.hid (hS1.kept hb2)
 replace hS1 := Lib.hid hS1
 replace K9 := Lib.hid K9
 go_wp2_with fail
 refine Reg2.sO 12 26 [[],[af],[af,af],[af,af,ae],[af,af,ae,ae],[af,af,ae,ae,ae],[af,af,af,af,af,af],[af,af,af,af,af,af,ae],[af,af,af,af,af,af,ae,ae],[af,af,af,af,af,af,ae,ae,ae],[af,af,af,af,af,af,ae,ae,ae,ae],[af,af,ae,ae,ae,ae,ae,ae,ae,ae,ae]] [0, 0, 0, 0, 0, 2, 0, 0, 0, 0, 2, 3]
  [.pure, .pure, .pure, .pure, .pure, .pinned Unit () (fun _ => .pointer (some ⟨d, 0, none⟩)) (fun _ _ => True), .pure, .pure, .pure, .pure, .pinned Unit () (fun _ => .int .i64 R.ag.node) (fun _ _ => True), .major Unit () (fun _ => .int .i64 x0)]
  (fun _ => True) (fun vs W => match vs with | [] => Below w2.heap.size w2 W | _ :: _ => (gV w2 b c t d p v g a m R { P with T := T0 }) W) (fun _ _ => True) (by kernel_rfl) (by kernel_rfl) rfl rfl (fun vs a b h hs => by cases vs with | nil => exact Below.trans hs (h.mono (Below.size hs)) | cons v vs => exact gV.ext a b h hs) ?_ ?_ ?_ ?_ ?_ ?_
 ·intro a b he hb; trivial
 ·intro a b he hb; trivial
 ·exact ⟨trivial, trivial, trivial, trivial, trivial, ⟨fun _ _ _ _ _ => trivial, fun _ _ _ _ _ => trivial⟩, trivial, trivial, trivial, trivial, ⟨fun _ _ _ _ _ => trivial, fun _ _ _ _ _ => trivial⟩, trivial, trivial⟩
 ·trivial
 ·exact ⟨rfl, rfl, rfl, Nat.le_refl _, fun _ _ => rfl⟩
 dsimp only [Reg2.mk, List.zip, List.zipWith, List.take]
 repeat (refine' Reg2.ak _ (by rfl) (fun wz => ?_) ?_; rotate_left; (go_simp; first | rfl | rw [if_neg (by omega)]); simp only [Act.put, xA, xB, xC, xD, xE, id])
 refine Reg2.pp (fun wz _ hI hF => ?_) (fun r5 => ?_) (by rfl)
 ·have c0 := (hS2.out.cw.kept hI).c1
  go_wp2_with fail
  first | exact ⟨_, rfl, rfl, Reg2.Ext.refl _⟩ | exact ⟨_, rfl, ⟨(), rfl, trivial⟩, Reg2.Ext.refl _⟩
 simp only [Act.put, xA, xB, xC, xD, xE, id]
 repeat (refine' Reg2.ak _ (by rfl) (fun wz => ?_) ?_; rotate_left; (go_simp; first | rfl | rw [if_neg (by omega)]); simp only [Act.put, xA, xB, xC, xD, xE, id])
 refine Reg2.pp (fun wz _ hI hF => ?_) (fun Bh => ?_) (by rfl)
 ·have q0 := (hS2.out.kept hI).wk.at 7 (.int .i64 R.ag.node) rfl
  go_wp2_with fail
  first | exact ⟨_, rfl, rfl, Reg2.Ext.refl _⟩ | exact ⟨_, rfl, ⟨(), rfl, trivial⟩, Reg2.Ext.refl _⟩
 simp only [Act.put, xA, xB, xC, xD, xE, id]
 refine Reg2.pj (fun wz _ hI hF => ?_) (fun Vl => ?_) (by rfl)
 ·go_wp2_with (go_at_call 132; go_must (refine (hmu wz (hS2.out.kept hI)).mono ?_); rintro e w' ⟨x, T', hT, hL, rfl, v4, g4, pF, bL⟩)
  obtain ⟨rfl, rfl⟩ := hT0.out.uniq hT
  have hpost : gV w2 b c t d p v g a m R { P with T := T0 } w' := ⟨v4, g4, (hS2.out.kept hI).core pF bL, (WS.of_below hI).trans (WS.dA bL)⟩
  exact ⟨_, rfl, ⟨⟨(), rfl⟩, hpost⟩, trivial⟩
 simp only [Act.put, xA, xB, xC, xD, xE, id]
 refine Reg2.aA ?_
 intro w7 _ sH kH
 clear kH
 dsimp only [List.drop]
 obtain ⟨v7, g7, gG, yB⟩ : gV w2 b c t d p v g a m R { P with T := T0 } w7 := sH
 have RA := Vv w7 v7 g7 gG
 go_wp2_with fail
 go_at_call 107
 refine RA.mono ?_
 clear RA
 rintro e w8 ⟨rfl, v8, g8, gF, dR⟩
 go_wp2_with fail
 go_ret
 exact ⟨rfl, v8, g8, gF, ((WS.of_below hbw).trans yB).trans dR⟩
theorem zC (h : SW w b c t d p v g a m R (ah M)) (hI : aF M) (h1 : 1 ≤ M.dr.length) (hll : M.L.length ≤ 900) (ha : a ≤ 800) (hm : m ≤ 1000000) {i : Nat} (hhit : dS lq M.L = some i) :
 Calls Tryz.prog 106 #[.pointer (some ⟨b, 0, none⟩), .pointer (some ⟨c, 0, none⟩)] w (ay w b c t d p v g (a + 2) (m + 1) (fE 106) R (ah { M with L := M.L.set i ((M.L.getD i default).aG (-1)) })) := by
 obtain ⟨wA, aJ⟩ : ∃ wA, wA = w.alloc (.cells #[.int .i64 1] 3) := ⟨_, rfl⟩
 have bR : Below w.heap.size w wA := by rw [aJ]; exact (Below.refl _ _).alloc (Nat.le_refl _) _
 have KP : aD enc1 1 wA (.slice (some ⟨w.heap.size, 0, none⟩) 1 1) [1] := by rw [aJ]; exact gp w w.heap.size [1] rfl (by decide)
 have K9 := h.kept bR
 have hin := vM K9.cw.eQ (by show M.L.length ≤ 1000; omega) KP
 rw [show (ah M).J = M.L from rfl] at hin
 have hdr := fun (W : World) (u : Value) (hC : CW W c t d p v g a m (ah M)) (hu : aD ai 10 W u (M.L.filter fun j : Jb => decide (j.state ∈ [(1 : Int)]))) => vT hC hI h1 hll ha hm u _ (fun j : Jb => decide (j.state ∈ [(1 : Int)])) hu rfl
 have hno : M.L.findIdx? (fun j : Jb => decide (j.state ∈ [(1 : Int)]) && aj j) = some i := by have := hhit; unfold dS at this; rw [← IB] at this; exact this
 rw [hno] at hdr
 have c0 := h.cw.c0
 rw [aJ] at hin
 clear h hno hhit
 go_enter Tryz.func106, Tryz.ntmps106
 go_wp2_with fail
 go_at_call 125
 refine hin.mono ?_
 clear hin c0
 rw [← aJ]
 rintro e w1 ⟨u, rfl, ho, hb1⟩
 have hS1 := K9.kept hb1
 have hd1 := hdr w1 u hS1.cw (aD.iW ho au rfl rfl)
 replace aJ := Lib.hid aJ
 clear ho hdr
 go_wp2_with fail
 go_at_call 123
 refine hd1.mono ?_
 clear hd1
 rintro e w2 (⟨hbad, _⟩ | ⟨i2, he, rfl, v2, g2, hC2, hS2⟩)
 ·cases hbad
 obtain rfl := Option.some.inj he
 have Xm := hS1.core hC2 hS2
 have hf := (WS.of_below (bR.trans (hb1.mono bR.size)) : WS w w1 b c t d p v g v g).trans (WS.dA hS2)
 go_wp2_with fail
 go_ret
 exact ⟨rfl, v2, g2, Xm, hf⟩
theorem Em (h : SW w b c t d p v g a m R P) (hk : PK P) (hn : -9223372036854775808 ≤ R.ag.node ∧ R.ag.node ≤ 9223372036854775807) (hst : qa P.T R.ag.node = 1 ∨ qa P.T R.ag.node = 2) {L : Value} {a' : Nat} {m' : Int} {R' : Wk} {P' : Pg}
 (hcl : ∀ W, SW W b c t d p v g a m R P → Calls Tryz.prog 106 #[.pointer (some ⟨b, 0, none⟩), .pointer (some ⟨c, 0, none⟩)] W (ay W b c t d p v g a' m' L R' P')) :
 Calls Tryz.prog 87 #[.pointer (some ⟨b, 0, none⟩), .pointer (some ⟨c, 0, none⟩)] w (ay w b c t d p v g a' m' L R' P') := by
 have hS := Lib.hid h
 have xw := fun (W : World) (hW : SW W b c t d p v g a m R P) => vP R.ag.node hn hW.cw.nodes hk.rH
 generalize hsx : qa P.T R.ag.node = sx at *
 replace hsx := Lib.hid hsx
 clear h
 go_enter Tryz.func87, Tryz.ntmps87
 go_wp2_with fail
 refine Reg2.ro w 9 28 [.p 0, .p 1, .p 3, .m 7, .p 0, .p 16, .p 48, .p 112, .m 240] [.pointer (some ⟨d, 0, none⟩), .int .i64 R.ag.node] (by kernel_rfl) (by kernel_rfl) rfl rfl ⟨rfl, rfl, rfl, Nat.le_refl _, fun _ _ => rfl⟩ ?_
 dsimp only [Reg2.gM]
 repeat ((first
  | (refine' Reg2.ak _ (by rfl) (fun wz => ?_) ?_; rotate_left; (go_simp; first | rfl | rw [if_neg (by omega)]))
  | (refine Reg2.az (by rfl) (fun wz hI hF => ?_) (fun _ => ?_)
     ·unfold Reg2.One
      have c0 := (hS.out.cw.kept hI).c1
      have q0 := (hS.out.kept hI).wk.at 7 (.int .i64 R.ag.node) rfl
      go_wp2_with fail
      first | exact ⟨_, rfl, rfl, Reg2.Ext.refl _⟩ | exact ⟨_, rfl, ⟨(), rfl, trivial⟩, Reg2.Ext.refl _⟩)); simp only [Act.put, xA, xB, xC, xD, xE, id])
 refine Reg2.aA ?_
 intro w4 HI4 _ dW
 clear dW
 dsimp only [List.drop]
 have bL := hS.out.kept HI4
 have I9 := xw w4 bL
 go_wp2_with fail
 go_at_call 105
 refine I9.mono ?_
 clear I9
 rintro e w5 ⟨rfl, mm, BC⟩
 have hb5 : Below w4.heap.size w4 w5 := by rw [BC]; exact below_drewN (Below.refl _ _) _
 have hS5 := bL.kept hb5
 have Xn := hcl w5 hS5
 have CU := HI4.trans (hb5.mono HI4.size)
 replace BC := Lib.hid BC
 rcases hst with rfl | rfl
 all_goals
  go_wp2_with fail
  go_at_call 106
  refine Xn.mono ?_
  clear Xn
  rintro e w8 ⟨rfl, v8, g8, gF, dR⟩
  go_wp2_with fail
  go_ret
  exact ⟨rfl, v8, g8, gF, (WS.of_below CU).trans dR⟩
theorem En (h : SW w b c t d p v g a m R P) (hk : PK P) (hn : -9223372036854775808 ≤ R.ag.node ∧ R.ag.node ≤ 9223372036854775807) (e0 : Int) (hst : (qa P.T R.ag.node = 0 ∧ e0 = 11) ∨ ((qa P.T R.ag.node = 3 ∨ qa P.T R.ag.node = 4) ∧ e0 = 8)) :
 Calls Tryz.prog 87 #[.pointer (some ⟨b, 0, none⟩), .pointer (some ⟨c, 0, none⟩)] w (ay w b c t d p v g a m .nilFunc { R with rep := kz e0, ok := false } P) := by
 have hS := Lib.hid h
 have xw := fun (W : World) (hW : SW W b c t d p v g a m R P) => vP R.ag.node hn hW.cw.nodes hk.rH
 generalize hsx : qa P.T R.ag.node = sx at *
 replace hsx := Lib.hid hsx
 clear h
 go_enter Tryz.func87, Tryz.ntmps87
 go_wp2_with fail
 refine Reg2.ro w 9 28 [.p 0, .p 1, .p 3, .m 7, .p 0, .p 16, .p 48, .p 112, .m 240] [.pointer (some ⟨d, 0, none⟩), .int .i64 R.ag.node] (by kernel_rfl) (by kernel_rfl) rfl rfl ⟨rfl, rfl, rfl, Nat.le_refl _, fun _ _ => rfl⟩ ?_
 dsimp only [Reg2.gM]
 repeat ((first
  | (refine' Reg2.ak _ (by rfl) (fun wz => ?_) ?_; rotate_left; (go_simp; first | rfl | rw [if_neg (by omega)]))
  | (refine Reg2.az (by rfl) (fun wz hI hF => ?_) (fun _ => ?_)
     ·unfold Reg2.One
      have c0 := (hS.out.cw.kept hI).c1
      have q0 := (hS.out.kept hI).wk.at 7 (.int .i64 R.ag.node) rfl
      go_wp2_with fail
      first | exact ⟨_, rfl, rfl, Reg2.Ext.refl _⟩ | exact ⟨_, rfl, ⟨(), rfl, trivial⟩, Reg2.Ext.refl _⟩)); simp only [Act.put, xA, xB, xC, xD, xE, id])
 refine Reg2.aA ?_
 intro w4 HI4 _ dW
 clear dW
 dsimp only [List.drop]
 have bL := hS.out.kept HI4
 have I9 := xw w4 bL
 go_wp2_with fail
 go_at_call 105
 refine I9.mono ?_
 clear I9
 rintro e w5 ⟨rfl, mm, BC⟩
 have hb5 : Below w4.heap.size w4 w5 := by rw [BC]; exact below_drewN (Below.refl _ _) _
 have hS5 := bL.kept hb5
 have CU := HI4.trans (hb5.mono HI4.size)
 replace BC := Lib.hid BC
 rcases hst with ⟨rfl, rfl⟩ | ⟨rfl | rfl, rfl⟩
 ·have hf := iD hS5.wk 11
  go_wp2_with (go_at_call 42; go_must (refine hf.mono ?_); rintro e w8 ⟨rfl, dR, fV⟩)
  go_ret
  exact ⟨rfl, v, g, hS5.work dR fV, (WS.of_below CU).trans (WS.bD fV)⟩
 all_goals
  have hf := iD hS5.wk 8
  go_wp2_with (go_at_call 42; go_must (refine hf.mono ?_); rintro e w8 ⟨rfl, dR, fV⟩)
  go_ret
  exact ⟨rfl, v, g, hS5.work dR fV, (WS.of_below CU).trans (WS.bD fV)⟩
end
end Go.Proofs.YtelnhablglomjaaGreat

namespace Go.Proofs.YtelnhablglomjaaGreat
open Go.RowKit Go.Lib Go.Sort
section
variable {w : World} {b c t d p g a : Nat} {v : Value} {m : Int} {P : Pg} {R : Wk}
theorem Oi (h : SW w b c t d p v g a m R P) (hk : PK P) (hlow : R.ag.till < 1) :
 Calls Tryz.prog 89 #[.pointer (some ⟨b, 0, none⟩), .pointer (some ⟨c, 0, none⟩)] w (ay w b c t d p v g a m .nilFunc { R with rep := kz 10, ok := false } P) := by
 have hS := Lib.hid h
 have hsub := fun (W : World) => BP 1099511627776 P.now W
 have hnw := hk.now
 obtain ⟨sb, hsb⟩ : ∃ sb, sb = 1099511627776 - P.now := ⟨_, rfl⟩
 rw [show hd (hd 1099511627776 - hd P.now) = sb by rw [hsb]; unfold hd; omega] at hsub
 obtain ⟨ty, hty⟩ : ∃ ty, R.ag.till = ty := ⟨_, rfl⟩
 rw [hty] at hlow
 have d1 : decide (ty < 1) = true := decide_eq_true hlow
 replace hty := Lib.hid hty
 replace hsb := Lib.hid hsb
 clear h
 go_enter Tryz.func89, Tryz.ntmps89
 go_wp2_with fail
 refine Reg2.ro w 18 44 [.p 0, .p 1, .p 3, .p 7, .m 15, .p 31, .p 63, .p 127, .p 255, .p 511, .p 1023, .m 2047, .p 127, .p 4223, .p 12415, .m 28799, .m 61567, .m 127103] [.int .i64 ty, .int .i64 ty, .pointer (some ⟨p, 0, none⟩), .int .i64 P.now, .int .i64 sb] (by kernel_rfl) (by kernel_rfl) rfl rfl ⟨rfl, rfl, rfl, Nat.le_refl _, fun _ _ => rfl⟩ ?_
 dsimp only [Reg2.gM]
 repeat ((first
  | (refine' Reg2.ak _ (by rfl) (fun wz => ?_) ?_; rotate_left; (go_simp; first | rfl | rw [if_neg (by omega)]))
  | refine Reg2.uA (by rfl) ?_
  | refine Reg2.lD (by rfl) ?_
  | (refine Reg2.az (by rfl) (fun wz hI hF => ?_) (fun _ => ?_)
     ·unfold Reg2.One
      have q0 := (hS.out.kept hI).wk.at 8 (.int .i64 R.ag.till) rfl
      rw [hty.out] at q0
      go_wp2_with fail
      first | exact ⟨_, rfl, rfl, Reg2.Ext.refl _⟩ | exact ⟨_, rfl, ⟨(), rfl, trivial⟩, Reg2.Ext.refl _⟩)); simp only [Act.put, xA, xB, xC, xD, xE, id])
 refine Reg2.aA ?_
 intro w4 HI4 _ dW
 clear dW
 dsimp only [List.drop]
 have bL := hS.out.kept HI4
 have hf := iD bL.wk 10
 go_wp2_with (go_at_call 42; go_must (refine hf.mono ?_); rintro e w8 ⟨rfl, dR, fV⟩)
 go_ret
 exact ⟨rfl, v, g, bL.work dR fV, (WS.of_below HI4).trans (WS.bD fV)⟩
theorem La (h : SW w b c t d p v g a m R P) (hk : PK P) (hlow : ¬ R.ag.till < 1) (hhi : 1099511627776 - P.now < R.ag.till) :
 Calls Tryz.prog 89 #[.pointer (some ⟨b, 0, none⟩), .pointer (some ⟨c, 0, none⟩)] w (ay w b c t d p v g a m .nilFunc { R with rep := kz 10, ok := false } P) := by
 have hS := Lib.hid h
 have hsub := fun (W : World) => BP 1099511627776 P.now W
 have hnw := hk.now
 obtain ⟨sb, hsb⟩ : ∃ sb, sb = 1099511627776 - P.now := ⟨_, rfl⟩
 rw [show hd (hd 1099511627776 - hd P.now) = sb by rw [hsb]; unfold hd; omega] at hsub
 obtain ⟨ty, hty⟩ : ∃ ty, R.ag.till = ty := ⟨_, rfl⟩
 rw [hty] at hlow hhi
 have d1 : decide (ty < 1) = false := decide_eq_false hlow
 have d2 : decide (ty > sb) = true := decide_eq_true (by omega)
 replace hhi := Lib.hid hhi
 replace hty := Lib.hid hty
 replace hsb := Lib.hid hsb
 clear h
 go_enter Tryz.func89, Tryz.ntmps89
 go_wp2_with fail
 refine Reg2.ro w 18 44 [.p 0, .p 1, .p 3, .p 7, .m 15, .p 31, .p 63, .p 127, .p 255, .p 511, .p 1023, .m 2047, .p 127, .p 4223, .p 12415, .m 28799, .m 61567, .m 127103] [.int .i64 ty, .int .i64 ty, .pointer (some ⟨p, 0, none⟩), .int .i64 P.now, .int .i64 sb] (by kernel_rfl) (by kernel_rfl) rfl rfl ⟨rfl, rfl, rfl, Nat.le_refl _, fun _ _ => rfl⟩ ?_
 dsimp only [Reg2.gM]
 repeat ((first
  | (refine' Reg2.ak _ (by rfl) (fun wz => ?_) ?_; rotate_left; (go_simp; first | rfl | rw [if_neg (by omega)]))
  | (refine Reg2.az (by rfl) (fun wz hI hF => ?_) (fun _ => ?_)
     ·unfold Reg2.One
      have q0 := (hS.out.kept hI).wk.at 8 (.int .i64 R.ag.till) rfl
      rw [hty.out] at q0
      have c0 := (hS.out.cw.kept hI).c2
      go_wp2_with fail
      first | exact ⟨_, rfl, rfl, Reg2.Ext.refl _⟩ | exact ⟨_, rfl, ⟨(), rfl, trivial⟩, Reg2.Ext.refl _⟩)); simp only [Act.put, xA, xB, xC, xD, xE, id])
 refine Reg2.pm (fun wz hI hF => ?_) (fun r16 => ?_) (by rfl)
 ·go_wp2_with (go_at_call 95; go_must (refine (gz (hS.out.kept hI).cw).mono ?_); rintro e w' ⟨rfl, rfl⟩)
  first | exact ⟨_, rfl, rfl, Reg2.Ext.refl _⟩ | exact ⟨_, rfl, ⟨(), rfl, trivial⟩, Reg2.Ext.refl _⟩
 simp only [Act.put, xA, xB, xC, xD, xE, id]
 refine Reg2.pm (fun wz hI hF => ?_) (fun Yl => ?_) (by rfl)
 ·go_wp2_with (go_at_call 109; go_must (refine (hsub wz).mono ?_); rintro e w' ⟨rfl, rfl⟩)
  first | exact ⟨_, rfl, rfl, Reg2.Ext.refl _⟩ | exact ⟨_, rfl, ⟨(), rfl, trivial⟩, Reg2.Ext.refl _⟩
 simp only [Act.put, xA, xB, xC, xD, xE, id]
 refine Reg2.aA ?_
 intro w4 HI4 _ dW
 clear dW
 dsimp only [List.drop]
 have bL := hS.out.kept HI4
 have hf := iD bL.wk 10
 go_wp2_with (go_at_call 42; go_must (refine hf.mono ?_); rintro e w8 ⟨rfl, dR, fV⟩)
 go_ret
 exact ⟨rfl, v, g, bL.work dR fV, (WS.of_below HI4).trans (WS.bD fV)⟩
theorem Ja (h : SW w b c t d p v g a m R P) (hk : PK P) (hlow : ¬ R.ag.till < 1) (hhi : ¬ 1099511627776 - P.now < R.ag.till) {L : Value} {a' : Nat} {m' : Int} {R' : Wk} {P' : Pg}
 (hfw : ∀ W, SW W b c t d p v g a m { R with target := P.now + R.ag.till } P → Calls Tryz.prog 110 #[.pointer (some ⟨b, 0, none⟩), .pointer (some ⟨c, 0, none⟩)] W (ay W b c t d p v g a' m' L R' P')) :
 Calls Tryz.prog 89 #[.pointer (some ⟨b, 0, none⟩), .pointer (some ⟨c, 0, none⟩)] w (ay w b c t d p v g a' m' L R' P') := by
 have hS := Lib.hid h
 have hsub := fun (W : World) => BP 1099511627776 P.now W
 have hnw := hk.now
 obtain ⟨sb, hsb⟩ : ∃ sb, sb = 1099511627776 - P.now := ⟨_, rfl⟩
 rw [show hd (hd 1099511627776 - hd P.now) = sb by rw [hsb]; unfold hd; omega] at hsub
 obtain ⟨ty, hty⟩ : ∃ ty, R.ag.till = ty := ⟨_, rfl⟩
 rw [hty] at hlow hhi hfw
 have d1 : decide (ty < 1) = false := decide_eq_false hlow
 have d2 : decide (ty > sb) = false := decide_eq_false (by omega)
 have wt : IntKind.i64.wrap (P.now + ty) = P.now + ty := by rw [IntKind.wrap_i64]; omega
 replace hhi := Lib.hid hhi
 replace hty := Lib.hid hty
 replace hsb := Lib.hid hsb
 clear h
 go_enter Tryz.func89, Tryz.ntmps89
 go_wp2_with fail
 refine Reg2.ro w 18 44 [.p 0, .p 1, .p 3, .p 7, .m 15, .p 31, .p 63, .p 127, .p 255, .p 511, .p 1023, .m 2047, .p 127, .p 4223, .p 12415, .m 28799, .m 61567, .m 127103] [.int .i64 ty, .int .i64 ty, .pointer (some ⟨p, 0, none⟩), .int .i64 P.now, .int .i64 sb] (by kernel_rfl) (by kernel_rfl) rfl rfl ⟨rfl, rfl, rfl, Nat.le_refl _, fun _ _ => rfl⟩ ?_
 dsimp only [Reg2.gM]
 repeat ((first
  | (refine' Reg2.ak _ (by rfl) (fun wz => ?_) ?_; rotate_left; (go_simp; first | rfl | rw [if_neg (by omega)]))
  | (refine Reg2.az (by rfl) (fun wz hI hF => ?_) (fun _ => ?_)
     ·unfold Reg2.One
      have q0 := (hS.out.kept hI).wk.at 8 (.int .i64 R.ag.till) rfl
      rw [hty.out] at q0
      have c0 := (hS.out.cw.kept hI).c2
      go_wp2_with fail
      first | exact ⟨_, rfl, rfl, Reg2.Ext.refl _⟩ | exact ⟨_, rfl, ⟨(), rfl, trivial⟩, Reg2.Ext.refl _⟩)); simp only [Act.put, xA, xB, xC, xD, xE, id])
 refine Reg2.pm (fun wz hI hF => ?_) (fun r16 => ?_) (by rfl)
 ·go_wp2_with (go_at_call 95; go_must (refine (gz (hS.out.kept hI).cw).mono ?_); rintro e w' ⟨rfl, rfl⟩)
  first | exact ⟨_, rfl, rfl, Reg2.Ext.refl _⟩ | exact ⟨_, rfl, ⟨(), rfl, trivial⟩, Reg2.Ext.refl _⟩
 simp only [Act.put, xA, xB, xC, xD, xE, id]
 refine Reg2.pm (fun wz hI hF => ?_) (fun Yl => ?_) (by rfl)
 ·go_wp2_with (go_at_call 109; go_must (refine (hsub wz).mono ?_); rintro e w' ⟨rfl, rfl⟩)
  first | exact ⟨_, rfl, rfl, Reg2.Ext.refl _⟩ | exact ⟨_, rfl, ⟨(), rfl, trivial⟩, Reg2.Ext.refl _⟩
 simp only [Act.put, xA, xB, xC, xD, xE, id]
 refine Reg2.aA ?_
 intro w4 HI4 _ dW
 clear dW
 dsimp only [List.drop]
 have bL := Lib.hid (hS.out.kept HI4)
 go_wp2_with fail
 refine Reg2.ro w4 12 44 [.p 0, .p 0, .p 2, .p 6, .m 14, .m 30, .p 0, .p 64, .p 192, .p 448, .m 960, .p 2046] [.pointer (some ⟨p, 0, none⟩), .int .i64 P.now, .int .i64 ty] (by kernel_rfl) (by kernel_rfl) rfl rfl ⟨rfl, rfl, rfl, Nat.le_refl _, fun _ _ => rfl⟩ ?_
 dsimp only [Reg2.gM]
 repeat ((first
  | (refine' Reg2.ak _ (by rfl) (fun wz => ?_) ?_; rotate_left; (go_simp; first | rfl | rw [if_neg (by omega)]))
  | (refine Reg2.az (by rfl) (fun wz hI hF => ?_) (fun _ => ?_)
     ·unfold Reg2.One
      have c0 := (bL.out.cw.kept hI).c2
      go_wp2_with fail
      first | exact ⟨_, rfl, rfl, Reg2.Ext.refl _⟩ | exact ⟨_, rfl, ⟨(), rfl, trivial⟩, Reg2.Ext.refl _⟩)); simp only [Act.put, xA, xB, xC, xD, xE, id])
 refine Reg2.pm (fun wz hI hF => ?_) (fun r5 => ?_) (by rfl)
 ·go_wp2_with (go_at_call 95; go_must (refine (gz (bL.out.kept hI).cw).mono ?_); rintro e w' ⟨rfl, rfl⟩)
  first | exact ⟨_, rfl, rfl, Reg2.Ext.refl _⟩ | exact ⟨_, rfl, ⟨(), rfl, trivial⟩, Reg2.Ext.refl _⟩
 simp only [Act.put, xA, xB, xC, xD, xE, id]
 repeat ((first
  | (refine' Reg2.ak _ (by rfl) (fun wz => ?_) ?_; rotate_left; (go_simp; first | rfl | rw [if_neg (by omega)]))
  | (refine Reg2.az (by rfl) (fun wz hI hF => ?_) (fun _ => ?_)
     ·unfold Reg2.One
      have q0 := (bL.out.kept hI).wk.at 8 (.int .i64 R.ag.till) rfl
      rw [hty.out] at q0
      go_wp2_with fail
      first | exact ⟨_, rfl, rfl, Reg2.Ext.refl _⟩ | exact ⟨_, rfl, ⟨(), rfl, trivial⟩, Reg2.Ext.refl _⟩)); simp only [Act.put, xA, xB, xC, xD, xE, id])
 refine Reg2.aA ?_
 intro w6 Iz _ dW
 clear dW
 dsimp only [List.drop]
 have eO := bL.out.kept Iz
 have a23 := eO.wk.at 23 (.int .i64 R.target) rfl
 have f23 := eO.wk.free 23
 have gG := eO.work (eO.wk.target (P.now + ty)) (dh w6 23 (.int .i64 (P.now + ty)))
 have KU := (WS.of_below (HI4.trans (Iz.mono HI4.size)) : WS w w6 b c t d p v g v g).trans (WS.bD (dh w6 23 (.int .i64 (P.now + ty))))
 have Ur := hfw _ gG
 go_wp2_with fail
 go_at_call 110
 refine Ur.mono ?_
 clear Ur
 rintro e w8 ⟨rfl, v8, g8, gF, dR⟩
 have KR := KU.trans dR
 go_wp2_with fail
 go_ret
 exact ⟨rfl, v8, g8, gF, KR⟩
end
end Go.Proofs.YtelnhablglomjaaGreat

namespace Go.Proofs.YtelnhablglomjaaGreat
open Go.RowKit Go.Lib Go.Sort
section
variable {w : World} {b c t d p g a : Nat} {v : Value} {m : Int} {P : Pg} {M : Md} {R : Wk}
theorem zX (h : SW w b c t d p v g a m R P) (hq : R.ag.kind = 6) (e1 : Int) (he1 : e1 ≠ 0) (he : gH P.J R.ag.id = e1) :
 Calls Tryz.prog 70 #[.pointer (some ⟨b, 0, none⟩), .pointer (some ⟨c, 0, none⟩)] w (ay w b c t d p v g a m .nilFunc { R with rep := kz e1, ok := false } P) := by
 have zJ := bI
 obtain ⟨k, hk1⟩ : ∃ k, k = 10 := ⟨_, rfl⟩
 rw [← hk1] at zJ
 have hk0 : ¬ k = 0 := by omega
 have lY := au (bN P.J R.ag.id)
 rw [← hk1] at lY
 replace hk1 := Lib.hid hk1
 have q0 := h.wk.at 0 (.int .i64 R.ag.kind) rfl
 rw [hq] at q0
 obtain ⟨y, hy⟩ : ∃ y, y = bN P.J R.ag.id := ⟨_, rfl⟩
 obtain ⟨e0, he0⟩ : ∃ e0, e0 = gH P.J R.ag.id := ⟨_, rfl⟩
 have hgo : Hid (∀ W, SW W b c t d p v g a m R P → Calls Tryz.prog 77 #[.pointer (some ⟨t, 0, none⟩), .int .i64 R.ag.id] W fun e w' => e = .returned (.tuple #[.agg (ai y).toArray, .int .i64 e0]) ∧ Gr W w') := fun W hW => by
  have := gQ hW.cw.eQ R.ag.id
  unfold iM at this
  rw [← hy, ← he0] at this
  exact this
 rw [← he0] at he
 rw [← hy] at lY
 replace he := Lib.hid he
 have hS := Lib.hid h
 replace he0 := Lib.hid he0
 replace hy := Lib.hid hy
 replace hq := Lib.hid hq
 clear h
 go_enter Tryz.func70, Tryz.ntmps70
 go_wp2_with fail
 refine Reg2.qU 15 73 [[],[ae],[ae,ae],[ae,ae,ae],[af,af,af,af],[af,af,af,af,ae],[af,af,af,af,ae,ae],[af,af,af,af,ae,ae,ae],[af,af,af,af,ae,ae,ae,ae],[ae,ae,ae,ae,ae,ae,ae,ae,ae],[ae,ae,ae,ae,ae,ae,ae,ae,ae,ae],[ae,ae,ae,ae,ae,ae,ae,ae,ae,ae,ae],[ae,ae,ae,ae,ae,ae,ae,ae,ae,ae,ae,af],[af,af,af,af,af,af,af,af,af,af,af,af,af],[ae,ae,ae,ae,ae,ae,ae,ae,ae,ae,ae,ae,af,ae]] [0, 0, 0, 1, 0, 0, 0, 0, 1, 1, 0, 0, 0, 3, 3]
  [.pure, .pure, .pure, .mU (.pointer (some ⟨t, 0, none⟩)), .pure, .pure, .pure, .pure, .mU (.int .i64 R.ag.id), .mU (.tuple #[.agg (ai y).toArray, .int .i64 e0]), .pure, .pure, .pure, .major Nat 0 (fun k => .pointer (some ⟨k, 0, none⟩)), .major Unit () (fun _ => undef)]
  (fun W => Below w.heap.size w W) (iE w y) (fun a b => Below w.heap.size a b) (by kernel_rfl) (by kernel_rfl) rfl rfl (fun vs a b h hs => iE.ext h hs) ?_ ?_ ?_ ?_ ?_ ?_ ?_
 ·intro a b he hb; exact hb.trans (Below.mono he hb.size)
 ·intro a b he hb; exact hb.trans he
 ·exact ⟨trivial, trivial, trivial, ⟨fun _ _ _ _ _ => trivial, fun _ _ _ _ _ => trivial⟩, trivial, trivial, trivial, trivial, ⟨fun _ _ _ _ _ => trivial, fun _ _ _ _ _ => trivial⟩, ⟨fun _ _ _ _ _ => trivial, fun _ _ _ _ _ => trivial⟩, trivial, trivial, trivial, trivial, trivial, trivial⟩
 ·exact ⟨(fun h => nomatch h), (fun h => nomatch h), (fun h => nomatch h), (fun h => nomatch h), (fun h => nomatch h), (fun h => nomatch h), (fun h => nomatch h), (fun h => nomatch h), (fun h => nomatch h), (fun h => nomatch h), (fun h => nomatch h), (fun h => nomatch h), (fun h => nomatch h), (fun h => nomatch h), (fun _ _ => rfl), trivial⟩
 ·exact ⟨rfl, rfl, rfl, Nat.le_refl _, fun _ _ => rfl⟩
 ·exact ⟨⟨rfl, rfl, rfl, Nat.le_refl _, fun _ _ => rfl⟩, trivial⟩
 dsimp only [Reg2.mk, List.zip, List.zipWith, List.take]
 repeat ((first
  | (refine' Reg2.ak _ (by rfl) (fun wz => ?_) ?_; rotate_left; (go_simp; first | rfl | rw [if_neg (by omega)]))
  | (refine Reg2.az (by rfl) (fun wz hI hF => ?_) (fun _ => ?_)
     ·unfold Reg2.One
      have c0 := (hS.out.kept hI).cw.c0
      have q0 := (hS.out.kept hI).wk.at 1 (.int .i64 R.ag.id) rfl
      go_wp2_with fail
      first | exact ⟨_, rfl, rfl, Reg2.Ext.refl _⟩ | exact ⟨_, rfl, ⟨(), rfl, trivial⟩, Reg2.Ext.refl _⟩)); simp only [Act.put, xA, xB, xC, xD, xE, id])
 refine Reg2.pm (fun wz hI hF => ?_) (fun r9 => ?_) (by rfl)
 ·go_wp2_with (go_at_call 77; go_must (refine (hgo.out wz (hS.out.kept hI)).mono ?_); rintro e w' ⟨rfl, hg5⟩; have hb5 := hg5.below)
  first | exact ⟨_, rfl, ⟨(), rfl, trivial⟩, hb5⟩ | exact ⟨_, rfl, rfl, hb5⟩
 simp only [Act.put, xA, xB, xC, xD, xE, id]
 repeat (refine' Reg2.ak _ (by rfl) (fun wz => ?_) ?_; rotate_left; (go_simp; first | rfl | rw [if_neg (by omega)]); simp only [Act.put, xA, xB, xC, xD, xE, id])
 refine Reg2.pj (fun wz hI hS hF => ?_) (fun Vx => ?_) (by rfl)
 ·go_wp2_with fail
  exact ⟨_, rfl, ⟨⟨_, rfl⟩, iE.alloc hS⟩, (Below.refl _ _).alloc hI.size _⟩
 simp only [Act.put, xA, xB, xC, xD, xE, id]
 refine Reg2.pj (fun wz hI hS hF => ?_) (fun TD => ?_) (by rfl)
 ·obtain ⟨hz, hge⟩ := iE.zero hS
  have zW := oz (x := y) hz
  have hfin := iE.store hS
  have hbw : Below w.heap.size wz (wz.setRow Vx (ai y).toArray) := qN (Below.refl _ _) hge _
  generalize ai y = cY at *
  go_wp2_with fail
  exact ⟨_, rfl, ⟨⟨(), rfl⟩, hfin⟩, hbw⟩
 simp only [Act.put, xA, xB, xC, xD, xE, id]
 refine Reg2.aA ?_
 intro w7 kr sH kH
 clear kH sH
 dsimp only [List.drop]
 have gG := hS.out.kept kr
 have d3 : (e0 != 0) = true := by rw [he.out]; simp [he1]
 have hf := iD gG.wk e0
 go_wp2_with (go_at_call 42; go_must (refine hf.mono ?_); rintro e w8 ⟨rfl, dR, fV⟩)
 go_ret
 have e9 := he.out
 clear he
 subst e9
 exact ⟨rfl, v, g, gG.work dR fV, (WS.of_below kr).trans (WS.bD fV)⟩
theorem Ca (h : SW w b c t d p v g a m R P) (hq : R.ag.kind = 6) (he : gH P.J R.ag.id = 0) :
 Calls Tryz.prog 70 #[.pointer (some ⟨b, 0, none⟩), .pointer (some ⟨c, 0, none⟩)] w (ay w b c t d p v g a m .nilFunc { R with rep := iV (bN P.J R.ag.id) } P) := by
 have zJ := bI
 obtain ⟨k, hk1⟩ : ∃ k, k = 10 := ⟨_, rfl⟩
 rw [← hk1] at zJ
 have hk0 : ¬ k = 0 := by omega
 have lY := au (bN P.J R.ag.id)
 rw [← hk1] at lY
 replace hk1 := Lib.hid hk1
 have q0 := h.wk.at 0 (.int .i64 R.ag.kind) rfl
 rw [hq] at q0
 obtain ⟨y, hy⟩ : ∃ y, y = bN P.J R.ag.id := ⟨_, rfl⟩
 obtain ⟨e0, he0⟩ : ∃ e0, e0 = gH P.J R.ag.id := ⟨_, rfl⟩
 have hgo : Hid (∀ W, SW W b c t d p v g a m R P → Calls Tryz.prog 77 #[.pointer (some ⟨t, 0, none⟩), .int .i64 R.ag.id] W fun e w' => e = .returned (.tuple #[.agg (ai y).toArray, .int .i64 e0]) ∧ Gr W w') := fun W hW => by
  have := gQ hW.cw.eQ R.ag.id
  unfold iM at this
  rw [← hy, ← he0] at this
  exact this
 rw [← he0] at he
 rw [← hy] at lY
 replace he := Lib.hid he
 have hS := Lib.hid h
 replace he0 := Lib.hid he0
 replace hy := Lib.hid hy
 replace hq := Lib.hid hq
 clear h
 go_enter Tryz.func70, Tryz.ntmps70
 go_wp2_with fail
 refine Reg2.qU 15 73 [[],[ae],[ae,ae],[ae,ae,ae],[af,af,af,af],[af,af,af,af,ae],[af,af,af,af,ae,ae],[af,af,af,af,ae,ae,ae],[af,af,af,af,ae,ae,ae,ae],[ae,ae,ae,ae,ae,ae,ae,ae,ae],[ae,ae,ae,ae,ae,ae,ae,ae,ae,ae],[ae,ae,ae,ae,ae,ae,ae,ae,ae,ae,ae],[ae,ae,ae,ae,ae,ae,ae,ae,ae,ae,ae,af],[af,af,af,af,af,af,af,af,af,af,af,af,af],[ae,ae,ae,ae,ae,ae,ae,ae,ae,ae,ae,ae,af,ae]] [0, 0, 0, 1, 0, 0, 0, 0, 1, 1, 0, 0, 0, 3, 3]
  [.pure, .pure, .pure, .mU (.pointer (some ⟨t, 0, none⟩)), .pure, .pure, .pure, .pure, .mU (.int .i64 R.ag.id), .mU (.tuple #[.agg (ai y).toArray, .int .i64 e0]), .pure, .pure, .pure, .major Nat 0 (fun k => .pointer (some ⟨k, 0, none⟩)), .major Unit () (fun _ => undef)]
  (fun W => Below w.heap.size w W) (iE w y) (fun a b => Below w.heap.size a b) (by kernel_rfl) (by kernel_rfl) rfl rfl (fun vs a b h hs => iE.ext h hs) ?_ ?_ ?_ ?_ ?_ ?_ ?_
 ·intro a b he hb; exact hb.trans (Below.mono he hb.size)
 ·intro a b he hb; exact hb.trans he
 ·exact ⟨trivial, trivial, trivial, ⟨fun _ _ _ _ _ => trivial, fun _ _ _ _ _ => trivial⟩, trivial, trivial, trivial, trivial, ⟨fun _ _ _ _ _ => trivial, fun _ _ _ _ _ => trivial⟩, ⟨fun _ _ _ _ _ => trivial, fun _ _ _ _ _ => trivial⟩, trivial, trivial, trivial, trivial, trivial, trivial⟩
 ·exact ⟨(fun h => nomatch h), (fun h => nomatch h), (fun h => nomatch h), (fun h => nomatch h), (fun h => nomatch h), (fun h => nomatch h), (fun h => nomatch h), (fun h => nomatch h), (fun h => nomatch h), (fun h => nomatch h), (fun h => nomatch h), (fun h => nomatch h), (fun h => nomatch h), (fun h => nomatch h), (fun _ _ => rfl), trivial⟩
 ·exact ⟨rfl, rfl, rfl, Nat.le_refl _, fun _ _ => rfl⟩
 ·exact ⟨⟨rfl, rfl, rfl, Nat.le_refl _, fun _ _ => rfl⟩, trivial⟩
 dsimp only [Reg2.mk, List.zip, List.zipWith, List.take]
 repeat ((first
  | (refine' Reg2.ak _ (by rfl) (fun wz => ?_) ?_; rotate_left; (go_simp; first | rfl | rw [if_neg (by omega)]))
  | (refine Reg2.az (by rfl) (fun wz hI hF => ?_) (fun _ => ?_)
     ·unfold Reg2.One
      have c0 := (hS.out.kept hI).cw.c0
      have q0 := (hS.out.kept hI).wk.at 1 (.int .i64 R.ag.id) rfl
      go_wp2_with fail
      first | exact ⟨_, rfl, rfl, Reg2.Ext.refl _⟩ | exact ⟨_, rfl, ⟨(), rfl, trivial⟩, Reg2.Ext.refl _⟩)); simp only [Act.put, xA, xB, xC, xD, xE, id])
 refine Reg2.pm (fun wz hI hF => ?_) (fun r9 => ?_) (by rfl)
 ·go_wp2_with (go_at_call 77; go_must (refine (hgo.out wz (hS.out.kept hI)).mono ?_); rintro e w' ⟨rfl, hg5⟩; have hb5 := hg5.below)
  first | exact ⟨_, rfl, ⟨(), rfl, trivial⟩, hb5⟩ | exact ⟨_, rfl, rfl, hb5⟩
 simp only [Act.put, xA, xB, xC, xD, xE, id]
 repeat (refine' Reg2.ak _ (by rfl) (fun wz => ?_) ?_; rotate_left; (go_simp; first | rfl | rw [if_neg (by omega)]); simp only [Act.put, xA, xB, xC, xD, xE, id])
 refine Reg2.pj (fun wz hI hS hF => ?_) (fun Vx => ?_) (by rfl)
 ·go_wp2_with fail
  exact ⟨_, rfl, ⟨⟨_, rfl⟩, iE.alloc hS⟩, (Below.refl _ _).alloc hI.size _⟩
 simp only [Act.put, xA, xB, xC, xD, xE, id]
 refine Reg2.pj (fun wz hI hS hF => ?_) (fun TD => ?_) (by rfl)
 ·obtain ⟨hz, hge⟩ := iE.zero hS
  have zW := oz (x := y) hz
  have hfin := iE.store hS
  have hbw : Below w.heap.size wz (wz.setRow Vx (ai y).toArray) := qN (Below.refl _ _) hge _
  generalize ai y = cY at *
  go_wp2_with fail
  exact ⟨_, rfl, ⟨⟨(), rfl⟩, hfin⟩, hbw⟩
 simp only [Act.put, xA, xB, xC, xD, xE, id]
 refine Reg2.aA ?_
 intro w7 kr sH kH
 clear kH sH
 dsimp only [List.drop]
 have gG := hS.out.kept kr
 have d3 : (e0 != 0) = false := by rw [he.out]; rfl
 have q1 := gG.wk.at 1 (.int .i64 R.ag.id) rfl
 have ht := om gG R.ag.id
 go_wp2_with (go_at_call 78; go_must (refine ht.mono ?_); rintro e w8 ⟨rfl, dR, fV⟩)
 go_ret
 exact ⟨rfl, v, g, gG.work dR fV, (WS.of_below kr).trans (WS.bD fV)⟩
theorem Lb (h : SW w b c t d p v g a m R P) (hk : PK P) (hq : R.ag.kind = 10) :
 Calls Tryz.prog 70 #[.pointer (some ⟨b, 0, none⟩), .pointer (some ⟨c, 0, none⟩)] w (ay w b c t d p v g a m .nilFunc { R with rep := ⟨0, 0, 0, 0, 0, 0, (aO (gZ P.T) 64 : Int), (aO (bX P.T) 64 : Int), (aO (fun i => bY P.T i && !bX P.T i) 64 : Int)⟩ } P) := by
 have q0 := h.wk.at 0 (.int .i64 R.ag.kind) rfl
 rw [hq] at q0
 replace hq := Lib.hid hq
 have zY := vR
 obtain ⟨k9, bO⟩ : ∃ k, k = 9 := ⟨_, rfl⟩
 rw [← bO] at zY
 have hk0 : ¬ k9 = 0 := by omega
 have cc := h.cw.c1
 have hco := HY h.cw.nodes hk.rH
 have hth := fun (x y z : Int) (W : World) => yz x y z W
 obtain ⟨v0, hv0⟩ : ∃ x : Int, x = (aO (gZ P.T) 64 : Int) := ⟨_, rfl⟩
 obtain ⟨v1, hv1⟩ : ∃ x : Int, x = (aO (bX P.T) 64 : Int) := ⟨_, rfl⟩
 obtain ⟨v2, hv2⟩ : ∃ x : Int, x = (aO (fun i => bY P.T i && !bX P.T i) 64 : Int) := ⟨_, rfl⟩
 rw [← hv0, ← hv1, ← hv2] at hco ⊢
 replace hv0 := Lib.hid hv0
 replace hv1 := Lib.hid hv1
 replace hv2 := Lib.hid hv2
 have hS := Lib.hid h
 clear h
 go_enter Tryz.func70, Tryz.ntmps70
 go_wp2_with fail
 go_at_call 80
 refine hco.mono ?_
 clear hco
 rintro e w1 ⟨rfl, mm, hw1⟩
 have hb1 : Below w.heap.size w w1 := by rw [hw1]; exact below_drewN (Below.refl _ _) _
 replace hw1 := Lib.hid hw1
 have hS1 := hS.out.kept hb1
 go_wp2_with fail
 go_at_call 79
 refine (hth _ _ _ w1).mono ?_
 clear hth
 rintro e w2 ⟨rfl, hb2⟩
 have hS2 := hS1.kept hb2
 obtain ⟨y, hy⟩ : ∃ y : Ry, y = ⟨0, 0, 0, 0, 0, 0, v0, v1, v2⟩ := ⟨_, rfl⟩
 rw [← hy]
 replace hy := Lib.hid hy
 obtain ⟨st, hW3⟩ := hS2.wk.FQ y
 have lY := jD y
 rw [← bO] at lY
 replace bO := Lib.hid bO
 have Cb := hS2.work hW3 (cz w2 _)
 have hfin := ((WS.of_below (hb1.trans (hb2.mono hb1.size)) : WS w w2 b c t d p v g v g)).trans (WS.bD (cz w2 (gB { R with rep := y }).toArray))
 generalize gB { R with rep := y } = W2 at *
 generalize bV y = cY at *
 go_wp2_with fail
 go_ret
 have ey := hy.out
 clear hy
 subst ey
 exact ⟨rfl, v, g, Cb, hfin⟩
theorem Lc (h : SW w b c t d p v g a m R P) (hk : PK P) (hq : R.ag.kind = 11) :
 Calls Tryz.prog 70 #[.pointer (some ⟨b, 0, none⟩), .pointer (some ⟨c, 0, none⟩)] w (ay w b c t d p v g a m .nilFunc { R with rep := ⟨0, 0, 0, 0, 0, 0, (cnt 1 P.J : Int), (cnt 2 P.J : Int), (cnt 3 P.J : Int)⟩ } P) := by
 have q0 := h.wk.at 0 (.int .i64 R.ag.kind) rfl
 rw [hq] at q0
 replace hq := Lib.hid hq
 have zY := vR
 obtain ⟨k9, bO⟩ : ∃ k, k = 9 := ⟨_, rfl⟩
 rw [← bO] at zY
 have hk0 : ¬ k9 = 0 := by omega
 have cc := h.cw.c0
 have hco := Bc h.cw.eQ (by have := hk.few; omega)
 have hth := fun (x y z : Int) (W : World) => yz x y z W
 obtain ⟨v0, hv0⟩ : ∃ x : Int, x = (cnt 1 P.J : Int) := ⟨_, rfl⟩
 obtain ⟨v1, hv1⟩ : ∃ x : Int, x = (cnt 2 P.J : Int) := ⟨_, rfl⟩
 obtain ⟨v2, hv2⟩ : ∃ x : Int, x = (cnt 3 P.J : Int) := ⟨_, rfl⟩
 rw [← hv0, ← hv1, ← hv2] at hco ⊢
 replace hv0 := Lib.hid hv0
 replace hv1 := Lib.hid hv1
 replace hv2 := Lib.hid hv2
 have hS := Lib.hid h
 clear h
 go_enter Tryz.func70, Tryz.ntmps70
 go_wp2_with fail
 go_at_call 81
 refine hco.mono ?_
 clear hco
 rintro e w1 ⟨rfl, hb1⟩
 have hS1 := hS.out.kept hb1
 go_wp2_with fail
 go_at_call 79
 refine (hth _ _ _ w1).mono ?_
 clear hth
 rintro e w2 ⟨rfl, hb2⟩
 have hS2 := hS1.kept hb2
 obtain ⟨y, hy⟩ : ∃ y : Ry, y = ⟨0, 0, 0, 0, 0, 0, v0, v1, v2⟩ := ⟨_, rfl⟩
 rw [← hy]
 replace hy := Lib.hid hy
 obtain ⟨st, hW3⟩ := hS2.wk.FQ y
 have lY := jD y
 rw [← bO] at lY
 replace bO := Lib.hid bO
 have Cb := hS2.work hW3 (cz w2 _)
 have hfin := ((WS.of_below (hb1.trans (hb2.mono hb1.size)) : WS w w2 b c t d p v g v g)).trans (WS.bD (cz w2 (gB { R with rep := y }).toArray))
 generalize gB { R with rep := y } = W2 at *
 generalize bV y = cY at *
 go_wp2_with fail
 go_ret
 have ey := hy.out
 clear hy
 subst ey
 exact ⟨rfl, v, g, Cb, hfin⟩
theorem zD (h : SW w b c t d p v g a m R P) (ha : a ≤ 1000) (hq : R.ag.kind = 12) :
 Calls Tryz.prog 70 #[.pointer (some ⟨b, 0, none⟩), .pointer (some ⟨c, 0, none⟩)] w (ay w b c t d p v g a m .nilFunc { R with rep := ⟨0, 0, 0, P.now, 0, 0, P.f P.now, 0, 0⟩ } P) := by
 have q0 := h.wk.at 0 (.int .i64 R.ag.kind) rfl
 rw [hq] at q0
 replace hq := Lib.hid hq
 have hc := Ei h ha
 go_enter Tryz.func70, Tryz.ntmps70
 go_wp2_with (go_at_call 82; go_must (refine hc.mono ?_); rintro e w8 ⟨rfl, v8, g8, gF, dR⟩)
 go_ret
 exact ⟨rfl, v8, g8, gF, dR⟩
theorem CY (h : SW w b c t d p v g a m R P) (hc : P.cl = true) :
 Calls Tryz.prog 40 #[.pointer (some ⟨b, 0, none⟩), .pointer (some ⟨c, 0, none⟩)] w (ay w b c t d p v g a m .nilFunc { R with rep := kz 12, ok := false } P) := by
 have hcl := jl h.cw
 rw [hc] at hcl
 have hf := iD h.wk 12
 go_enter Tryz.func40, Tryz.ntmps40
 go_wp2_with (first | (go_at_call 68; go_must (refine hcl.mono ?_); rintro e w' ⟨rfl, rfl⟩) | (go_at_call 42; go_must (refine hf.mono ?_); rintro e w8 ⟨rfl, dR, fV⟩))
 go_ret
 exact ⟨rfl, v, g, h.work dR fV, WS.bD fV⟩
theorem Jc (h : SW w b c t d p v g a m R P) (hc : P.cl = false) (hq : ¬ (1 ≤ R.ag.kind ∧ R.ag.kind ≤ 13)) :
 Calls Tryz.prog 40 #[.pointer (some ⟨b, 0, none⟩), .pointer (some ⟨c, 0, none⟩)] w (ay w b c t d p v g a m .nilFunc { R with rep := kz 4, ok := false } P) := by
 have hcl := jl h.cw
 rw [hc] at hcl
 have hf := iD h.wk 4
 have q0 := h.wk.at 0 (.int .i64 R.ag.kind) rfl
 have his := Af R.ag.kind w
 rw [show (decide (1 ≤ R.ag.kind) && decide (R.ag.kind ≤ 13)) = false by rw [Bool.and_eq_false_iff, decide_eq_false_iff_not, decide_eq_false_iff_not]; omega] at his
 generalize R.ag.kind = kk at *
 replace hq := Lib.hid hq
 go_enter Tryz.func40, Tryz.ntmps40
 go_wp2_with (first | (go_at_call 68; go_must (refine hcl.mono ?_); rintro e w' ⟨rfl, rfl⟩) | (go_at_call 60; go_must (refine his.mono ?_); rintro e w' ⟨rfl, rfl⟩) | (go_at_call 42; go_must (refine hf.mono ?_); rintro e w8 ⟨rfl, dR, fV⟩))
 go_ret
 exact ⟨rfl, v, g, h.work dR fV, WS.bD fV⟩
theorem zF (h : SW w b c t d p v g a m R P) (hc : P.cl = false) (hq : 1 ≤ R.ag.kind ∧ R.ag.kind ≤ 13) (hr : jG R.ag.kind = true) {L : Value} {a' : Nat} {m' : Int} {R' : Wk} {P' : Pg}
 (hn : Calls Tryz.prog 70 #[.pointer (some ⟨b, 0, none⟩), .pointer (some ⟨c, 0, none⟩)] w (ay w b c t d p v g a' m' L R' P')) :
 Calls Tryz.prog 40 #[.pointer (some ⟨b, 0, none⟩), .pointer (some ⟨c, 0, none⟩)] w (ay w b c t d p v g a' m' L R' P') := by
 have hcl := jl h.cw
 rw [hc] at hcl
 have q0 := h.wk.at 0 (.int .i64 R.ag.kind) rfl
 have his := Af R.ag.kind w
 rw [show (decide (1 ≤ R.ag.kind) && decide (R.ag.kind ≤ 13)) = true by rw [decide_eq_true hq.1, decide_eq_true hq.2]; rfl] at his
 have hre := Dh R.ag.kind w
 rw [hr] at hre
 generalize R.ag.kind = kk at *
 replace hq := Lib.hid hq
 replace hr := Lib.hid hr
 go_enter Tryz.func40, Tryz.ntmps40
 go_wp2_with (first | (go_at_call 68; go_must (refine hcl.mono ?_); rintro e w' ⟨rfl, rfl⟩) | (go_at_call 60; go_must (refine his.mono ?_); rintro e w' ⟨rfl, rfl⟩) | (go_at_call 69; go_must (refine hre.mono ?_); rintro e w' ⟨rfl, rfl⟩) | (go_at_call 70; go_must (refine hn.mono ?_); rintro e w8 ⟨rfl, v8, g8, gF, dR⟩))
 go_ret
 exact ⟨rfl, v8, g8, gF, dR⟩
theorem fO (h : SW w b c t d p v g a m R P) (hc : P.cl = false) (hq : 1 ≤ R.ag.kind ∧ R.ag.kind ≤ 13) (hr : jG R.ag.kind = false) {L : Value} {a' : Nat} {m' : Int} {R' : Wk} {P' : Pg}
 (hn : Calls Tryz.prog 71 #[.pointer (some ⟨b, 0, none⟩), .pointer (some ⟨c, 0, none⟩)] w (ay w b c t d p v g a' m' L R' P')) :
 Calls Tryz.prog 40 #[.pointer (some ⟨b, 0, none⟩), .pointer (some ⟨c, 0, none⟩)] w (ay w b c t d p v g a' m' L R' P') := by
 have hcl := jl h.cw
 rw [hc] at hcl
 have q0 := h.wk.at 0 (.int .i64 R.ag.kind) rfl
 have his := Af R.ag.kind w
 rw [show (decide (1 ≤ R.ag.kind) && decide (R.ag.kind ≤ 13)) = true by rw [decide_eq_true hq.1, decide_eq_true hq.2]; rfl] at his
 have hre := Dh R.ag.kind w
 rw [hr] at hre
 generalize R.ag.kind = kk at *
 replace hq := Lib.hid hq
 replace hr := Lib.hid hr
 go_enter Tryz.func40, Tryz.ntmps40
 go_wp2_with (first | (go_at_call 68; go_must (refine hcl.mono ?_); rintro e w' ⟨rfl, rfl⟩) | (go_at_call 60; go_must (refine his.mono ?_); rintro e w' ⟨rfl, rfl⟩) | (go_at_call 69; go_must (refine hre.mono ?_); rintro e w' ⟨rfl, rfl⟩) | (go_at_call 71; go_must (refine hn.mono ?_); rintro e w8 ⟨rfl, v8, g8, gF, dR⟩))
 go_ret
 exact ⟨rfl, v8, g8, gF, dR⟩
theorem Oj (h : SW w b c t d p v g a m R P) (hq : R.ag.kind = 1) {L : Value} {a' : Nat} {m' : Int} {R' : Wk} {P' : Pg}
 (hn : Calls Tryz.prog 83 #[.pointer (some ⟨b, 0, none⟩), .pointer (some ⟨c, 0, none⟩)] w (ay w b c t d p v g a' m' L R' P')) :
 Calls Tryz.prog 71 #[.pointer (some ⟨b, 0, none⟩), .pointer (some ⟨c, 0, none⟩)] w (ay w b c t d p v g a' m' L R' P') := by
 have q0 := h.wk.at 0 (.int .i64 R.ag.kind) rfl
 rw [hq] at q0
 replace hq := Lib.hid hq
 go_enter Tryz.func71, Tryz.ntmps71
 go_wp2_with (go_at_call 83; go_must (refine hn.mono ?_); rintro e w8 ⟨rfl, v8, g8, gF, dR⟩)
 go_ret
 exact ⟨rfl, v8, g8, gF, dR⟩
theorem Ol (h : SW w b c t d p v g a m R P) (hq : R.ag.kind = 2) {L : Value} {a' : Nat} {m' : Int} {R' : Wk} {P' : Pg}
 (hn : Calls Tryz.prog 84 #[.pointer (some ⟨b, 0, none⟩), .pointer (some ⟨c, 0, none⟩), .int .i64 5] w (ay w b c t d p v g a' m' L R' P')) :
 Calls Tryz.prog 71 #[.pointer (some ⟨b, 0, none⟩), .pointer (some ⟨c, 0, none⟩)] w (ay w b c t d p v g a' m' L R' P') := by
 have q0 := h.wk.at 0 (.int .i64 R.ag.kind) rfl
 rw [hq] at q0
 replace hq := Lib.hid hq
 go_enter Tryz.func71, Tryz.ntmps71
 go_wp2_with (go_at_call 84; go_must (refine hn.mono ?_); rintro e w8 ⟨rfl, v8, g8, gF, dR⟩)
 go_ret
 exact ⟨rfl, v8, g8, gF, dR⟩
theorem Om (h : SW w b c t d p v g a m R P) (hq : R.ag.kind = 5) {L : Value} {a' : Nat} {m' : Int} {R' : Wk} {P' : Pg}
 (hn : Calls Tryz.prog 84 #[.pointer (some ⟨b, 0, none⟩), .pointer (some ⟨c, 0, none⟩), .int .i64 4] w (ay w b c t d p v g a' m' L R' P')) :
 Calls Tryz.prog 71 #[.pointer (some ⟨b, 0, none⟩), .pointer (some ⟨c, 0, none⟩)] w (ay w b c t d p v g a' m' L R' P') := by
 have q0 := h.wk.at 0 (.int .i64 R.ag.kind) rfl
 rw [hq] at q0
 replace hq := Lib.hid hq
 go_enter Tryz.func71, Tryz.ntmps71
 go_wp2_with (go_at_call 84; go_must (refine hn.mono ?_); rintro e w8 ⟨rfl, v8, g8, gF, dR⟩)
 go_ret
 exact ⟨rfl, v8, g8, gF, dR⟩
theorem Oo (h : SW w b c t d p v g a m R P) (hq : R.ag.kind = 3) {L : Value} {a' : Nat} {m' : Int} {R' : Wk} {P' : Pg}
 (hn : Calls Tryz.prog 85 #[.pointer (some ⟨b, 0, none⟩), .pointer (some ⟨c, 0, none⟩)] w (ay w b c t d p v g a' m' L R' P')) :
 Calls Tryz.prog 71 #[.pointer (some ⟨b, 0, none⟩), .pointer (some ⟨c, 0, none⟩)] w (ay w b c t d p v g a' m' L R' P') := by
 have q0 := h.wk.at 0 (.int .i64 R.ag.kind) rfl
 rw [hq] at q0
 replace hq := Lib.hid hq
 go_enter Tryz.func71, Tryz.ntmps71
 go_wp2_with (go_at_call 85; go_must (refine hn.mono ?_); rintro e w8 ⟨rfl, v8, g8, gF, dR⟩)
 go_ret
 exact ⟨rfl, v8, g8, gF, dR⟩
theorem Oq (h : SW w b c t d p v g a m R P) (hq : R.ag.kind = 4) {L : Value} {a' : Nat} {m' : Int} {R' : Wk} {P' : Pg}
 (hn : Calls Tryz.prog 86 #[.pointer (some ⟨b, 0, none⟩), .pointer (some ⟨c, 0, none⟩)] w (ay w b c t d p v g a' m' L R' P')) :
 Calls Tryz.prog 71 #[.pointer (some ⟨b, 0, none⟩), .pointer (some ⟨c, 0, none⟩)] w (ay w b c t d p v g a' m' L R' P') := by
 have q0 := h.wk.at 0 (.int .i64 R.ag.kind) rfl
 rw [hq] at q0
 replace hq := Lib.hid hq
 go_enter Tryz.func71, Tryz.ntmps71
 go_wp2_with (go_at_call 86; go_must (refine hn.mono ?_); rintro e w8 ⟨rfl, v8, g8, gF, dR⟩)
 go_ret
 exact ⟨rfl, v8, g8, gF, dR⟩
theorem Ot (h : SW w b c t d p v g a m R P) (hq : R.ag.kind = 7) {L : Value} {a' : Nat} {m' : Int} {R' : Wk} {P' : Pg}
 (hn : Calls Tryz.prog 87 #[.pointer (some ⟨b, 0, none⟩), .pointer (some ⟨c, 0, none⟩)] w (ay w b c t d p v g a' m' L R' P')) :
 Calls Tryz.prog 71 #[.pointer (some ⟨b, 0, none⟩), .pointer (some ⟨c, 0, none⟩)] w (ay w b c t d p v g a' m' L R' P') := by
 have q0 := h.wk.at 0 (.int .i64 R.ag.kind) rfl
 rw [hq] at q0
 replace hq := Lib.hid hq
 go_enter Tryz.func71, Tryz.ntmps71
 go_wp2_with (go_at_call 87; go_must (refine hn.mono ?_); rintro e w8 ⟨rfl, v8, g8, gF, dR⟩)
 go_ret
 exact ⟨rfl, v8, g8, gF, dR⟩
theorem Ou (h : SW w b c t d p v g a m R P) (hq : R.ag.kind = 8) {L : Value} {a' : Nat} {m' : Int} {R' : Wk} {P' : Pg}
 (hn : Calls Tryz.prog 88 #[.pointer (some ⟨b, 0, none⟩), .pointer (some ⟨c, 0, none⟩)] w (ay w b c t d p v g a' m' L R' P')) :
 Calls Tryz.prog 71 #[.pointer (some ⟨b, 0, none⟩), .pointer (some ⟨c, 0, none⟩)] w (ay w b c t d p v g a' m' L R' P') := by
 have q0 := h.wk.at 0 (.int .i64 R.ag.kind) rfl
 rw [hq] at q0
 replace hq := Lib.hid hq
 go_enter Tryz.func71, Tryz.ntmps71
 go_wp2_with (go_at_call 88; go_must (refine hn.mono ?_); rintro e w8 ⟨rfl, v8, g8, gF, dR⟩)
 go_ret
 exact ⟨rfl, v8, g8, gF, dR⟩
theorem Ov (h : SW w b c t d p v g a m R P) (hq : R.ag.kind = 9) {L : Value} {a' : Nat} {m' : Int} {R' : Wk} {P' : Pg}
 (hn : Calls Tryz.prog 89 #[.pointer (some ⟨b, 0, none⟩), .pointer (some ⟨c, 0, none⟩)] w (ay w b c t d p v g a' m' L R' P')) :
 Calls Tryz.prog 71 #[.pointer (some ⟨b, 0, none⟩), .pointer (some ⟨c, 0, none⟩)] w (ay w b c t d p v g a' m' L R' P') := by
 have q0 := h.wk.at 0 (.int .i64 R.ag.kind) rfl
 rw [hq] at q0
 replace hq := Lib.hid hq
 go_enter Tryz.func71, Tryz.ntmps71
 go_wp2_with (go_at_call 89; go_must (refine hn.mono ?_); rintro e w8 ⟨rfl, v8, g8, gF, dR⟩)
 go_ret
 exact ⟨rfl, v8, g8, gF, dR⟩
theorem Ld (h : SW w b c t d p v g a m R P) (hq : R.ag.kind = 13) :
 Calls Tryz.prog 71 #[.pointer (some ⟨b, 0, none⟩), .pointer (some ⟨c, 0, none⟩)] w (ay w b c t d p v g a m .nilFunc R { P with cl := true }) := by
 have q0 := h.wk.at 0 (.int .i64 R.ag.kind) rfl
 rw [hq] at q0
 replace hq := Lib.hid hq
 have c4 := h.cw.c4
 have f4 := h.cw.fz 4
 obtain ⟨hC, hS⟩ := h.cw.close
 have hS2 := h.core hC hS
 have hW2 := (WS.dA hS : WS w (w.setCell ⟨c, 4, none⟩ (.bool true)) b c t d p v g v g)
 go_enter Tryz.func71, Tryz.ntmps71
 go_wp2_with fail
 go_ret
 exact ⟨rfl, v, g, hS2, hW2⟩
end
end Go.Proofs.YtelnhablglomjaaGreat

namespace Go.Proofs.YtelnhablglomjaaGreat
open Go.RowKit Go.Lib Go.Sort
theorem Ow (n : Nat) : cZ (dI n) = List.replicate n 1 := by
 refine pq (by rw [bC]; simp [dI]) fun i hi => ?_
 have hin : i < n := by rw [bC] at hi; simpa [dI] using hi
 rw [df, eU (by simpa [dI] using hin)]
 have h1 : ¬ 0 ≤ holderL (dI n).L i := by unfold dI holderL; simp
 rw [if_neg h1]
 simp [dI, List.getD_eq_getElem?_getD, hin]
theorem Cc (n : Nat) (t : Int) : ax (dI n) t 0 = n := by
 unfold ax aL bU
 have h1 : (List.range (dI n).dr.length).countP (bS (dI n) t) = n := by
  have e : (dI n).dr.length = n := by simp [dI]
  rw [e]
  have : (List.range n).countP (bS (dI n) t) = (List.range n).length := by
   rw [List.countP_eq_length]
   intro k hk
   have hk := List.mem_range.1 hk
   unfold bS dI holderL
   simp [List.getD_eq_getElem?_getD, hk]
  rw [this, List.length_range]
 rw [h1]
 simp [dI]
structure Xo (w0 w : World) (c t d p : Nat) (v : Value) (g a : Nat) (m : Int) (P : Pg) : Prop where
 cw : CW w c t d p v g a m P
 lo : ∀ k, dP c t d p v g k → w0.heap.size ≤ k
section
variable {w : World}
theorem Ox (n : Int) (w : World) (h : n < 1 ∨ 64 < n) : Calls Tryz.prog 35 #[.int .i64 n] w fun e w' => e = .returned (.tuple #[.pointer none, .int .i64 1]) ∧ w = w' := by
 have hn := H5 n w h
 go_enter Tryz.func35, Tryz.ntmps35
 go_wp2_with (go_at_call 61; go_must (refine hn.mono ?_); rintro e w' ⟨rfl, rfl⟩)
 go_ret2
 exact ⟨rfl, rfl⟩
theorem Jd (n : Nat) (w : World) (h1 : 1 ≤ n) (h2 : n ≤ 64) : Calls Tryz.prog 35 #[.int .i64 n] w fun e w' => ∃ c t d p v g, e = .returned (.tuple #[.pointer (some ⟨c, 0, none⟩), .int .i64 0]) ∧ Xo w w' c t d p v g 1 0 (ah (dI n)) ∧ Below w.heap.size w w' := by
 have hn := H7 n w h1 h2
 go_enter Tryz.func35, Tryz.ntmps35
 go_wp2_with fail
 go_at_call 61
 refine hn.mono ?_
 clear hn
 rintro e w1 ⟨rfl, hT1, hb1⟩
 have hs1 : w.heap.size < w1.heap.size := aC hT1
 have hp := Ii (n : Int) w1 (by omega)
 go_wp2_with fail
 go_at_call 62
 refine hp.mono ?_
 clear hp
 rintro e w2 ⟨p, g, rfl, hP2, lp, lg, hb2⟩
 have Xp : TW w2 w.heap.size (List.replicate n 1) := hT1.kept hb2
 have hj := J9 w2
 go_wp2_with fail
 go_at_call 63
 refine hj.mono ?_
 clear hj
 rintro e w3 ⟨rfl, hw3⟩
 have hb3 : Below w2.heap.size w2 w3 := by rw [← hw3]; exact (Below.refl _ _).alloc (Nat.le_refl _) _
 have hJ3 : TV w3 w2.heap.size (.slice none 0 0) [] := by rw [← hw3]; exact BV.Wn w2
 have bW := Xp.kept hb3
 have hP3 := hP2.kept hb3
 have hs2 := hb2.size
 replace hw3 := Lib.hid hw3
 obtain ⟨w4, hw4⟩ : ∃ w4, w4 = w3.alloc (.cells #[.pointer (some ⟨w2.heap.size, 0, none⟩), .pointer (some ⟨w.heap.size, 0, none⟩), .pointer (some ⟨p, 0, none⟩), .bool true, .bool false] 65) := ⟨_, rfl⟩
 have hb4 : Below w3.heap.size w3 w4 := by rw [hw4]; exact (Below.refl _ _).alloc (Nat.le_refl _) _
 have hc4 : w4.heap[w3.heap.size]? = some (.cells #[.pointer (some ⟨w2.heap.size, 0, none⟩), .pointer (some ⟨w.heap.size, 0, none⟩), .pointer (some ⟨p, 0, none⟩), .bool true, .bool false] 65 (0, 0)) := by rw [hw4]; exact heap_alloc_new w3 _
 have hs3 := hb3.size
 have hCW : Hid (CW w4 w3.heap.size w2.heap.size w.heap.size p (.slice none 0 0) g 1 0 (ah (dI n))) := by
  refine ⟨hc4, hJ3.kept hb4, by show TW w4 w.heap.size (cZ (dI n)); rw [Ow]; exact bW.kept hb4, [(0, (n : Int))], 0, hP3.kept hb4, ?_, Nat.le_refl _, Int.le_refl _, Int.le_refl _⟩
  exact (QD n).congr fun t _ => (Cc n t).symm
 have hlo : Hid (∀ k, dP w3.heap.size w2.heap.size w.heap.size p (.slice none 0 0) g k → w.heap.size ≤ k) := by
  rintro k (rfl | rfl | rfl | rfl | hv | rfl)
  ·omega
  ·omega
  ·exact Nat.le_refl _
  ·omega
  ·cases hv
  ·omega
 have hbw := hb1.trans ((hb2.trans ((hb3.trans (hb4.mono hb3.size)).mono hb2.size)).mono hb1.size)
 clear hc4 hJ3 bW hP3 hT1 Xp hP2
 go_wp2_with fail
 rw [← hw4]
 go_ret2
 exact ⟨w3.heap.size, w2.heap.size, w.heap.size, p, .slice none 0 0, g, rfl, ⟨hCW.out, hlo.out⟩, hbw⟩
def jR (r : Rq) : Wk := ⟨gW r, 0, 0, fE 40, il, 0, 0, nQ, false⟩
def zG (i t : Int) : Wk := ⟨Vg, i, t, fE 74, il, 0, 0, nQ, false⟩
theorem CZ (i t : Int) (w : World) : Calls Tryz.prog 57 #[.agg #[.int .i64 i, .int .i64 t]] w fun e w' => ∃ b, e = .returned (.pointer (some ⟨b, 0, none⟩)) ∧ bJ w' b (zG i t) ∧ w.heap.size ≤ b ∧ Below w.heap.size w w' := by
 obtain ⟨w2, hw2⟩ : ∃ w2, w2 = (w.alloc (.cells #[.int .i64 i, .int .i64 t] 77)).alloc (.cells (gB (zG i t)).toArray 94) := ⟨_, rfl⟩
 have hb2 : Below w.heap.size w w2 := by rw [hw2]; exact ((Below.refl _ _).alloc (Nat.le_refl _) _).alloc (by simp) _
 have hW2 : bJ w2 (w.heap.size + 1) (zG i t) := by show _ = _; rw [hw2]; exact heap_alloc2_new w _ _
 have hl : (gB (zG i t)).toArray = #[.int .i64 0, .int .i64 0, .int .i64 0, .int .i64 0, .int .i64 0, .int .i64 0, .bool false, .int .i64 0, .int .i64 0, .int .i64 i, .int .i64 t, .func (.func 74) #[] #[], .int .i64 0, .int .i64 0, .int .i64 0, .int .i64 0, .int .i64 0, .int .i64 0, .int .i64 0, .int .i64 0, .int .i64 0, .int .u64 0, .int .i64 0, .int .i64 0, .int .i64 0, .int .i64 0, .int .i64 0, .int .i64 0, .int .i64 0, .int .i64 0, .int .i64 0, .int .i64 0, .int .i64 0, .bool false] := rfl
 rw [hl] at hw2
 replace hl := Lib.hid hl
 go_enter Tryz.func57, Tryz.ntmps57
 go_wp2_with fail
 rw [← hw2]
 go_ret
 exact ⟨w.heap.size + 1, rfl, hW2, Nat.le_succ _, hb2⟩
theorem zH (r : Rq) (w : World) : Calls Tryz.prog 10 #[.agg (encR r).toArray] w fun e w' => ∃ b, e = .returned (.pointer (some ⟨b, 0, none⟩)) ∧ bJ w' b (jR r) ∧ w.heap.size ≤ b ∧ Below w.heap.size w w' := by
 have zR := jY
 obtain ⟨k9, bO⟩ : ∃ k, k = 9 := ⟨_, rfl⟩
 rw [← bO] at zR
 have hk0 : ¬ k9 = 0 := by omega
 have lR := gI r
 rw [← bO] at lR
 replace bO := Lib.hid bO
 obtain ⟨wA, aJ⟩ : ∃ wA, wA = w.alloc (.cells (encR r).toArray 24) := ⟨_, rfl⟩
 have bR : Below w.heap.size w wA := by rw [aJ]; exact (Below.refl _ _).alloc (Nat.le_refl _) _
 have nR : wA.heap[w.heap.size]? = some (.cells (encR r).toArray 24 (0, 0)) := by rw [aJ]; exact heap_alloc_new w _
 have Xq := eZ nR lR
 have hcl := Ec r wA
 rw [aJ] at Xq hcl
 generalize hcr : encR r = cR at *
 replace hcr := Lib.hid hcr
 go_enter Tryz.func10, Tryz.ntmps10
 go_wp2_with fail
 go_at_call 22
 refine hcl.mono ?_
 clear hcl Xq
 rw [← aJ]
 rintro e w1 ⟨rfl, hb1⟩
 replace aJ := Lib.hid aJ
 obtain ⟨y1, y2, y3, y4, y5, y6, y7, y8, y9, hy⟩ : ∃ y1 y2 y3 y4 y5 y6 y7 y8 y9, gW r = ⟨y1, y2, y3, y4, y5, y6, y7, y8, y9⟩ := ⟨_, _, _, _, _, _, _, _, _, rfl⟩
 obtain ⟨w2, hw2⟩ : ∃ w2, w2 = w1.alloc (.cells (gB (jR r)).toArray 94) := ⟨_, rfl⟩
 have hb2 : Below w1.heap.size w1 w2 := by rw [hw2]; exact (Below.refl _ _).alloc (Nat.le_refl _) _
 have hW2 : bJ w2 w1.heap.size (jR r) := by show _ = _; rw [hw2]; exact heap_alloc_new w1 _
 have hl : (gB (jR r)).toArray = #[.int .i64 y1, .int .i64 y2, .int .i64 y3, .int .i64 y4, .int .i64 y5, .int .i64 y6, .bool y7, .int .i64 y8, .int .i64 y9, .int .i64 0, .int .i64 0, .func (.func 40) #[] #[], .int .i64 0, .int .i64 0, .int .i64 0, .int .i64 0, .int .i64 0, .int .i64 0, .int .i64 0, .int .i64 0, .int .i64 0, .int .u64 0, .int .i64 0, .int .i64 0, .int .i64 0, .int .i64 0, .int .i64 0, .int .i64 0, .int .i64 0, .int .i64 0, .int .i64 0, .int .i64 0, .int .i64 0, .bool false] := by unfold jR; rw [hy]; rfl
 have hbw := bR.trans ((hb1.trans (hb2.mono hb1.size)).mono bR.size)
 have hlo : w.heap.size ≤ w1.heap.size := Nat.le_trans bR.size hb1.size
 rw [hl] at hw2
 rw [hy, show (encR ⟨y1, y2, y3, y4, y5, y6, y7, y8, y9⟩).toArray = #[.int .i64 y1, .int .i64 y2, .int .i64 y3, .int .i64 y4, .int .i64 y5, .int .i64 y6, .bool y7, .int .i64 y8, .int .i64 y9] from rfl]
 replace hl := Lib.hid hl
 replace hy := Lib.hid hy
 obtain rfl := bO.out
 go_wp2_with fail
 rw [← hw2]
 go_ret
 exact ⟨w1.heap.size, rfl, hW2, hlo, hbw⟩
end
end Go.Proofs.YtelnhablglomjaaGreat

namespace Go.Proofs.YtelnhablglomjaaGreat
open Go.RowKit Go.Lib Go.Sort
def Xr (w w' : World) : Prop := ∀ (k : Nat) (cs : Array Value) (T : TypeId) (fz : Nat × Nat), T ≠ 94 → (T ≠ 65 ∧ T ≠ 103 ∧ T ≠ 126 ∧ T ≠ 108 ∧ T ≠ 92 ∧ T ≠ 105) → w.heap[k]? = some (.cells cs T fz) → w'.heap[k]? = some (.cells cs T fz)
theorem SW.far {w w' : World} {b c t d p g a : Nat} {v v' : Value} {g' : Nat} {m : Int} {R : Wk} {P : Pg} (h : SW w b c t d p v g a m R P) (hs : WS w w' b c t d p v g v' g') : Xr w w' := by
 intro k cs T fz h1 h2 hk
 refine (hs.heap (aC hk) ?_).trans hk
 rintro (rfl | hf)
 ·have e := h.wk
  unfold bJ at e
  rw [hk] at e
  exact h1 (Obj.cells.inj (Option.some.inj e)).2.1
 ·exact h.cw.other hk h2 hf
def dY (k a : Nat) (m : Int) (R : Wk) (P : Pg) (L : Value) (a' : Nat) (m' : Int) (R' : Wk) (P' : Pg) : Prop :=
 ∀ (w : World) (b c t d p : Nat) (v : Value) (g : Nat), SW w b c t d p v g a m R P → Calls Tryz.prog k #[.pointer (some ⟨b, 0, none⟩), .pointer (some ⟨c, 0, none⟩)] w (ay w b c t d p v g a' m' L R' P')
def One (dn : Bool) (a : Nat) (m : Int) (R : Wk) (P : Pg) (a' : Nat) (m' : Int) (R' : Wk) (P' : Pg) : Prop :=
 ∀ (w : World) (b c t d p : Nat) (v : Value) (g : Nat), SW w b c t d p v g a m R P → Calls Tryz.prog 12 #[.pointer (some ⟨b, 0, none⟩), .pointer (some ⟨c, 0, none⟩)] w fun e w' => e = .returned (.bool dn) ∧ ∃ v' g', SW w' b c t d p v' g' a' m' R' P' ∧ WS w w' b c t d p v g v' g'
def Run : Nat → Nat → Int → Wk → Pg → (Nat → Int → Wk → Pg → Prop) → Prop
 | 0, _, _, _, _, _ => False
 | N + 1, a, m, R, P, Q => ∃ a' m' R' P', (N = 0 ∧ One true a m R P a' m' R' P' ∧ Q a' m' R' P') ∨ (One false a m R P a' m' R' P' ∧ Run N a' m' R' P' Q)
def fo (N a : Nat) (m : Int) (R : Wk) (P : Pg) (Q : Nat → Int → Wk → Pg → Prop) : Prop := ∃ K, K ≤ N ∧ Run K a m R P Q
theorem fo.more {N N' a : Nat} {m : Int} {R : Wk} {P : Pg} {Q : Nat → Int → Wk → Pg → Prop} (h : fo N a m R P Q) (hN : N ≤ N') : fo N' a m R P Q := by
 obtain ⟨K, h1, h2⟩ := h
 exact ⟨K, Nat.le_trans h1 hN, h2⟩
def Fin (mx : Int) (M : Md) (y : Ry) (ok : Bool) (a : Nat) (m : Int) (R : Wk) (P : Pg) : Prop := P = ah M ∧ a ≤ 800 ∧ m ≤ mx ∧ R.left = .nilFunc ∧ R.rep = y ∧ R.ok = ok
section
variable {a N : Nat} {m mx : Int} {P : Pg} {M M' : Md} {R : Wk} {Q : Nat → Int → Wk → Pg → Prop}
theorem vW {k k' a' : Nat} {m' : Int} {R' : Wk} {P' : Pg} (hl : R.left = fE k) (hl' : R'.left = fE k)
 (hk : ∀ args w, Sem.run Tryz.prog (callFunc k args) w = .ok (.enter k args) w)
 (hp : dY k a m R P (fE k') a' m' R' P')
 (hn : fo N a' m' { R' with left := fE k' } P' Q) : fo (N + 1) a m R P Q := by
 obtain ⟨K, h1, h2⟩ := hn
 refine ⟨K + 1, by omega, a', m', _, P', .inr ⟨fun w b c t d p v g h => ?_, h2⟩⟩
 refine (BO h hl hl' (.inr ⟨⟨k', rfl⟩, rfl⟩) hk (hp w b c t d p v g h)).mono ?_
 rintro e w' ⟨rfl, v', g', h1, h2⟩
 exact ⟨rfl, v', g', h1, h2⟩
theorem vX {k a' : Nat} {m' : Int} {R' : Wk} (hl : R.left = fE k) (hl' : R'.left = fE k)
 (hk : ∀ args w, Sem.run Tryz.prog (callFunc k args) w = .ok (.enter k args) w)
 (hp : dY k a m R P .nilFunc a' m' R' (ah M'))
 (ha : a' ≤ 800) (hm : m' ≤ mx) : fo (N + 1) a m R P (Fin mx M' R'.rep R'.ok) := by
 refine ⟨1, by omega, a', m', { R' with left := .nilFunc }, ah M', .inl ⟨rfl, fun w b c t d p v g h => ?_, rfl, ha, hm, rfl, rfl, rfl⟩⟩
 refine (BO h hl hl' (.inl ⟨rfl, rfl⟩) hk (hp w b c t d p v g h)).mono ?_
 rintro e w' ⟨rfl, v', g', h1, h2⟩
 exact ⟨rfl, v', g', h1, h2⟩
theorem rT : ∀ args w, Sem.run Tryz.prog (callFunc 99 args) w = .ok (.enter 99 args) w := fun _ _ => rfl
theorem bu : ∀ args w, Sem.run Tryz.prog (callFunc 40 args) w = .ok (.enter 40 args) w := fun _ _ => rfl
theorem yF : ∀ args w, Sem.run Tryz.prog (callFunc 74 args) w = .ok (.enter 74 args) w := fun _ _ => rfl
theorem Eo : ∀ args w, Sem.run Tryz.prog (callFunc 91 args) w = .ok (.enter 91 args) w := fun _ _ => rfl
theorem Oy : ∀ args w, Sem.run Tryz.prog (callFunc 115 args) w = .ok (.enter 115 args) w := fun _ _ => rfl
theorem Ce : ∀ args w, Sem.run Tryz.prog (callFunc 145 args) w = .ok (.enter 145 args) w := fun _ _ => rfl
theorem Je : ∀ args w, Sem.run Tryz.prog (callFunc 101 args) w = .ok (.enter 101 args) w := fun _ _ => rfl
theorem vY : ∀ args w, Sem.run Tryz.prog (callFunc 103 args) w = .ok (.enter 103 args) w := fun _ _ => rfl
theorem Ep : ∀ args w, Sem.run Tryz.prog (callFunc 106 args) w = .ok (.enter 106 args) w := fun _ _ => rfl
theorem zI : ∀ args w, Sem.run Tryz.prog (callFunc 110 args) w = .ok (.enter 110 args) w := fun _ _ => rfl
theorem ui (hl : R.left = fE 99) (hid : R.aB.id ≠ 0) (h1 : 1 ≤ M.dr.length) (hll : M.L.length ≤ 900) (hmx : mx ≤ 1000000) (q : Nat) :
 ∀ {L : List Jb} {a : Nat} {m : Int}, L.length = M.L.length → hits R.aB L ≤ q → aF { M with L := L } → fu { M with L := L } R.aB = M' → a + 2 * hits R.aB L ≤ 800 → m + hits R.aB L ≤ mx →
  fo (q + 1) a m R (ah { M with L := L }) (Fin mx M' R.rep R.ok) := by
 induction q with
 | zero =>
   intro L a m hL hq hI hM ha hm
   refine vX (k := 99) (M' := M') (a' := a) (m' := m) hl hl rT (fun w b c t d p v g hS => (rO hS hI h1 (by show L.length ≤ 900; omega) (by omega) (by omega) hid).mono fun e w' hp => ?_) (by omega) (by omega)
   rcases hp with ⟨ho, hp⟩ | ⟨i, ho, _⟩
   ·have := ru (M := { M with L := L }) ho
    rw [this] at hM
    rw [← hM]; exact hp
   ·have := (jy (L := L) ho).2.2.2.2
    omega
 | succ q ih =>
   intro L a m hL hq hI hM ha hm
   cases ho : dS R.aB L with
   | none =>
     refine vX (k := 99) (M' := M') (a' := a) (m' := m) hl hl rT (fun w b c t d p v g hS => (rO hS hI h1 (by show L.length ≤ 900; omega) (by omega) (by omega) hid).mono fun e w' hp => ?_) (by omega) (by omega)
     rcases hp with ⟨_, hp⟩ | ⟨i, h2, _⟩
     ·have := ru (M := { M with L := L }) ho
      rw [this] at hM
      rw [← hM]; exact hp
     ·have h3 : dS R.aB L = some i := h2
      rw [ho] at h3; cases h3
   | some i =>
     obtain ⟨hi, _, _, _, hh⟩ := jy ho
     refine vW (k := 99) (k' := 99) (a' := a + 2) (m' := m + 1) (R' := R) (P' := ah { M with L := L.set i ((L.getD i default).aG (-1)) }) hl hl rT (fun w b c t d p v g hS => (rO hS hI h1 (by show L.length ≤ 900; omega) (by omega) (by omega) hid).mono fun e w' hp => ?_) ?_
     ·rcases hp with ⟨h2, _⟩ | ⟨i2, h2, hp⟩
      ·have h3 : dS R.aB L = none := h2
       rw [ho] at h3; cases h3
      ·have h3 : dS R.aB L = some i2 := h2
       rw [ho] at h3
       obtain rfl := Option.some.inj h3
       exact hp
     ·rw [← hl]
      exact ih (L := L.set i ((L.getD i default).aG (-1))) (by rw [List.length_set]; exact hL) (by omega) (hI.wU hi) ((vG (M := { M with L := L }) ho).trans hM) (by omega) (by omega)
end
end Go.Proofs.YtelnhablglomjaaGreat

namespace Go.Proofs.YtelnhablglomjaaGreat
open Go.RowKit Go.Lib Go.Sort
def lZ (x : Rl) : Ry := ⟨x.1, x.2.1, x.2.2.1, x.2.2.2.1, x.2.2.2.2.1, x.2.2.2.2.2.1, x.2.2.2.2.2.2.1, x.2.2.2.2.2.2.2.1, x.2.2.2.2.2.2.2.2⟩
section
variable {M : Md}
theorem uj (M : Md) : (nK M).length ≤ 1 + 2 * M.L.length := by
 have key : ∀ (ts : List Int) (acc : List (Int × Int)), (ts.foldl (stepOn M) acc).length ≤ acc.length + ts.length := by
  intro ts
  induction ts with
  | nil => intro acc; simp
  | cons t ts ih =>
    intro acc
    have h1 := ih (stepOn M acc t)
    have h2 : (stepOn M acc t).length ≤ acc.length + 1 := by
     unfold stepOn
     split
     ·split
      ·omega
      ·simp
     ·simp
    show (ts.foldl (stepOn M) (stepOn M acc t)).length ≤ acc.length + (ts.length + 1)
    omega
 have h3 : ∀ (n : Nat) (last : Int), (timesGo M.L n last).length ≤ n := by
  intro n
  induction n with
  | zero => intro last; simp [timesGo]
  | succ n ih =>
    intro last
    unfold timesGo
    split
    ·simp
    ·simp only [List.length_cons]; have := ih (kv M.L last); omega
 have h1 := key (mV M) []
 have h4 := h3 (2 * M.L.length) M.now
 unfold nK
 unfold mV at h1 ⊢
 simp only [List.length_cons, List.length_nil] at h1
 omega
theorem CW.RB {w : World} {c t d p g a : Nat} {v : Value} {m : Int} (h : CW w c t d p v g a m (ah M)) (hI : aF M) : CW w c t d p v g (1 + 2 * M.L.length) m (ah M) := by
 obtain ⟨S, aK, hp, hC, hl, h0⟩ := h.lW
 have e : S = nK M := hC.uniq (AP hI) fun _ _ => rfl
 exact ⟨h.cell, h.eQ, h.nodes, S, aK, hp, hC, by rw [e]; exact uj M, h0⟩
theorem Le (M : Md) (hn : M.dr.length ≤ 64) (r : Rq) (hk : r.kind = 1) : (ng M.dr.length r = 9 ∧ iw M (toW r) = 9) ∨ (ng M.dr.length r = 0 ∧ iT M.L r = iw M (toW r)) := by
 have hlive : EE M = jF M.L := rfl
 have s1 : (r.user < 0 ∨ 255 < r.user ∨ r.prio < 0 ∨ 1000 < r.prio) → iw M (toW r) = 1 := fun h => if_pos h
 have s2 : ¬ (r.user < 0 ∨ 255 < r.user ∨ r.prio < 0 ∨ 1000 < r.prio) → (r.width < 1 ∨ (M.dr.length : Int) < r.width) → iw M (toW r) = 9 := fun h h' => (if_neg h).trans (if_pos h')
 have s3 : ¬ (r.user < 0 ∨ 255 < r.user ∨ r.prio < 0 ∨ 1000 < r.prio) → ¬ (r.width < 1 ∨ (M.dr.length : Int) < r.width) → (r.limit < 1 ∨ 1048576 < r.limit) → iw M (toW r) = 10 := fun h h' h2 => (if_neg h).trans ((if_neg h').trans (if_pos h2))
 have s4 : ¬ (r.user < 0 ∨ 255 < r.user ∨ r.prio < 0 ∨ 1000 < r.prio) → ¬ (r.width < 1 ∨ (M.dr.length : Int) < r.width) → ¬ (r.limit < 1 ∨ 1048576 < r.limit) → (63 < EE M ∨ 1023 < M.L.length) → iw M (toW r) = 6 := fun h h' h2 h3 => (if_neg h).trans ((if_neg h').trans ((if_neg h2).trans (if_pos h3)))
 have s5 : ¬ (r.user < 0 ∨ 255 < r.user ∨ r.prio < 0 ∨ 1000 < r.prio) → ¬ (r.width < 1 ∨ (M.dr.length : Int) < r.width) → ¬ (r.limit < 1 ∨ 1048576 < r.limit) → ¬ (63 < EE M ∨ 1023 < M.L.length) → iw M (toW r) = 0 := fun h h' h2 h3 => (if_neg h).trans ((if_neg h').trans ((if_neg h2).trans (if_neg h3)))
 have b1 : aQ r ≠ 0 → iT M.L r = aQ r := fun h => if_pos h
 have b2 : aQ r = 0 → (64 ≤ jF M.L ∨ 1024 ≤ M.L.length) → iT M.L r = 6 := fun h h' => (if_neg (by omega)).trans (if_pos h')
 have b3 : aQ r = 0 → ¬ (64 ≤ jF M.L ∨ 1024 ≤ M.L.length) → iT M.L r = 0 := fun h h' => (if_neg (by omega)).trans (if_neg h')
 have x1 : (r.kind = 1 ∧ (M.dr.length : Int) < r.width ∧ r.width ≤ 64 ∧ aQ r ≠ 1) → ng M.dr.length r = 9 := fun h => if_pos h
 have x2 : ¬ (r.kind = 1 ∧ (M.dr.length : Int) < r.width ∧ r.width ≤ 64 ∧ aQ r ≠ 1) → ng M.dr.length r = 0 := fun h => if_neg h
 by_cases h1 : r.user < 0 ∨ 255 < r.user ∨ r.prio < 0 ∨ 1000 < r.prio
 ·have hR : aQ r = 1 := by unfold aQ; (repeat' split) <;> omega
  exact .inr ⟨x2 (by omega), by rw [s1 h1, b1 (by omega), hR]⟩
 ·by_cases h2 : r.width < 1
  ·have hR : aQ r = 9 := by unfold aQ; (repeat' split) <;> omega
   exact .inr ⟨x2 (by omega), by rw [s2 h1 (.inl h2), b1 (by omega), hR]⟩
  ·by_cases h3 : (M.dr.length : Int) < r.width
   ·by_cases h4 : r.width ≤ 64
    ·have hR : aQ r ≠ 1 := by unfold aQ; (repeat' split) <;> omega
     exact .inl ⟨x1 ⟨hk, h3, h4, hR⟩, s2 h1 (.inr h3)⟩
    ·have hR : aQ r = 9 := by unfold aQ; (repeat' split) <;> omega
     exact .inr ⟨x2 (by omega), by rw [s2 h1 (.inr h3), b1 (by omega), hR]⟩
   ·by_cases h5 : r.limit < 1 ∨ 1048576 < r.limit
    ·have hR : aQ r = 10 := by unfold aQ; (repeat' split) <;> omega
     exact .inr ⟨x2 (by omega), by rw [s3 h1 (by omega) h5, b1 (by omega), hR]⟩
    ·have hR : aQ r = 0 := by unfold aQ; (repeat' split) <;> omega
     refine .inr ⟨x2 (by omega), ?_⟩
     by_cases h6 : 63 < jF M.L ∨ 1023 < M.L.length
     ·rw [s4 h1 (by omega) h5 h6, b2 hR (by omega)]
     ·rw [s5 h1 (by omega) h5 h6, b3 hR (by omega)]
end
section
variable {a N : Nat} {m mx : Int} {P : Pg} {M M' : Md} {R : Wk} {Q : Nat → Int → Wk → Pg → Prop}
theorem Cf (j : Jb) (L : List Jb) : hits j L ≤ L.length := List.countP_le_length
theorem aX {k a' : Nat} {m' : Int} {R' : Wk} {M1 : Md} {y : Ry} {o : Bool} (hk : ∀ args w, Sem.run Tryz.prog (callFunc k args) w = .ok (.enter k args) w)
 (hp : dY k a m R P .nilFunc a' m' R' (ah M1))
 (hl : R.left = fE k) (hl' : R'.left = R.left) (ha : a' ≤ 800) (hm : m' ≤ mx) (hM : M1 = M') (hy : R'.rep = y) (ho : R'.ok = o) : fo (N + 1) a m R P (Fin mx M' y o) := by
 subst hM hy ho
 exact vX hl (hl'.trans hl) hk hp ha hm
theorem fo.ok {y : Ry} {o o' : Bool} (h : fo N a m R P (Fin mx M' y o)) (e : o = o') : fo N a m R P (Fin mx M' y o') := e ▸ h
theorem F8 (hl : R.left = fE 40) (hI : aF M) (hcl : M.cl = false) (h1 : 1 ≤ M.dr.length) (hll : M.L.length ≤ 190) (ha : a ≤ 1 + 2 * M.L.length) (hm : m + 1000 ≤ mx) (hmx : mx ≤ 1000000)
 (hk : R.ag.kind = 1) (ho : R.ok = false) : fo 1000 a m R (ah M) (Fin mx (jJ M (toW R.ag)).2 (lZ (jJ M (toW R.ag)).1) false) := by
 have sG := fB hI h1 (by omega)
 have hrd : jG R.ag.kind = false := by rw [hk]; rfl
 have jo : ∀ {L : Value} {a' : Nat} {m' : Int} {R' : Wk} {P' : Pg}, dY 83 a m R (ah M) L a' m' R' P' → dY 40 a m R (ah M) L a' m' R' P' := fun hn w b c t d p v g hS => fO hS hcl (by rw [hk]; decide) hrd (Oj hS hk (hn w b c t d p v g hS))
 unfold jJ
 rcases Le M hI.mb.nn R.ag hk with ⟨e1, e2⟩ | ⟨e1, e2⟩
 ·rw [if_pos (by rw [e2]; decide), e2]
  exact aX (N := 999) bu (jo (fun _ _ _ _ _ _ _ _ hS => CQ hS sG e1)) hl rfl (by omega) (by omega) rfl rfl rfl
 ·by_cases e3 : iw M (toW R.ag) = 0
  ·rw [if_neg (by omega)]
   rw [e3] at e2
   cases hh : R.ag.held with
   | true =>
     rw [if_pos (show (toW R.ag).held = true from hh)]
     exact aX (N := 999) bu (jo (fun _ _ _ _ _ _ _ _ hS => BR hS sG e1 e2 hh)) hl rfl (by omega) (by omega) rfl rfl ho
   | false =>
     rw [if_neg (show ¬ (toW R.ag).held = true by rw [show (toW R.ag).held = R.ag.held from rfl, hh]; decide)]
     have hc := e3
     unfold iw at hc
     have hst : (dw M (toW R.ag)).st = 1 := by show (if R.ag.held then (2 : Int) else 1) = 1; rw [hh]; rfl
     have hI1 : aF { M with L := M.L ++ [dw M (toW R.ag)] } := by
      split at hc
      ·omega
      split at hc
      ·omega
      split at hc
      ·omega
      split at hc
      ·omega
      rename_i h2 h3 h4 h5
      have hn := hI.mb.nn
      exact hI.app (dw M (toW R.ag)) (hI.mb.app _ (by omega) (by show 0 ≤ (toW R.ag).wid ∧ (toW R.ag).wid ≤ 64; omega) (by show 0 ≤ (toW R.ag).lim ∧ (toW R.ag).lim ≤ 1048576; omega) (by show (-1 : Int) ≤ -1 ∧ (-1 : Int) ≤ _; omega) (by show (-1 : Int) ≤ -1 ∧ (-1 : Int) ≤ _; omega) (by show (0 : Int) ≤ 0 ∧ (0 : Int) ≤ _; omega)) rfl ⟨show 1 ≤ (toW R.ag).wid by omega, show (toW R.ag).wid ≤ _ by omega, show 1 ≤ (toW R.ag).lim by omega, by omega, by omega⟩ rfl (by omega)
     refine (vW (N := 901) (k := 40) (k' := 99) (R' := { R with rep := iV (dw M (toW R.ag)), aB := dw M (toW R.ag) }) hl hl bu (jo (fun _ _ _ _ _ _ _ _ hS => IK hS sG e1 e2 hh)) ?_).more (show 902 ≤ 1000 by decide)
     have hL : (M.L ++ [dw M (toW R.ag)]).length = M.L.length + 1 := by simp
     have Xt := Cf (dw M (toW R.ag)) (M.L ++ [dw M (toW R.ag)])
     have := ui (M := { M with L := M.L ++ [dw M (toW R.ag)] }) (M' := fu { M with L := M.L ++ [dw M (toW R.ag)] } (dw M (toW R.ag))) (R := { ({ R with rep := iV (dw M (toW R.ag)), aB := dw M (toW R.ag) } : Wk) with left := fE 99 }) (mx := mx) rfl (by show (M.L.length : Int) + 1 ≠ 0; omega) h1 (by show (M.L ++ [dw M (toW R.ag)]).length ≤ 900; omega) hmx 900 (L := M.L ++ [dw M (toW R.ag)]) rfl (by show hits (dw M (toW R.ag)) _ ≤ 900; omega) hI1 rfl (by show a + 2 * hits (dw M (toW R.ag)) _ ≤ 800; omega) (by show m + (hits (dw M (toW R.ag)) _ : Nat) ≤ mx; omega)
     exact this.ok ho
  ·rw [if_pos e3]
   exact aX (N := 999) bu (jo (fun _ _ _ _ _ _ _ _ hS => submit_bad hS sG e1 (iw M (toW R.ag)) e3 e2)) hl rfl (by omega) (by omega) rfl rfl rfl
end
end Go.Proofs.YtelnhablglomjaaGreat
