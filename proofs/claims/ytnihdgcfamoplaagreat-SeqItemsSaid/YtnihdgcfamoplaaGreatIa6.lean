/-
 Own words and walks, merged: part 6 of 9.
-/
import Derived.Deep.RegionWith
import Derived.Test.YtnihdgcfamoplaaGreatIa5
set_option maxRecDepth 1000000
set_option maxHeartbeats 8000000
set_option linter.all false
namespace Go.Proofs.YtnihdgcfamoplaaGreat
open Go.RowKit Go.Lib Go.Sort
def mK (n : Int) (r : Rq) : Int := if r.kind = 1 ∧ n < r.width ∧ r.width ≤ 64 ∧ aT r ≠ 1 then 9 else 0
section
variable {w : World} {c t d p g a : Nat} {v : Value} {m : Int} {P : Pg}
theorem HZ (h : CW w c t d p v g a m P) (hl : ib P.T) (r : Rq) (hk : r.kind ≠ 1) : Calls Tryz.prog 136 #[.pointer (some ⟨c, 0, none⟩), .agg (encR r).toArray] w fun e w' => e = .returned (.int .i64 0) ∧ Below w.heap.size w w' := by
 have zR := lu
 obtain ⟨k9, bS⟩ : ∃ k, k = 9 := ⟨_, rfl⟩
 rw [← bS] at zR
 have hk0 : ¬ k9 = 0 := by omega
 have lR := iU r
 rw [← bS] at lR
 replace bS := Lib.hid bS
 obtain ⟨wA, aK⟩ : ∃ wA, wA = w.alloc (.cells (encR r).toArray 32) := ⟨_, rfl⟩
 have bR : Hid (Below w.heap.size w wA) := by show Below _ _ _; rw [aK]; exact (Below.refl _ _).alloc (Nat.le_refl _) _
 have iq : Hid (wA.heap[w.heap.size]? = some (.cells (encR r).toArray 32 (0, 0))) := by show _ = _; rw [aK]; exact heap_alloc_new w _
 have iZ := Lib.hid (h.kept bR.out)
 have hno := fun (W : World) (hW : Below wA.heap.size wA W) => kE (iZ.out.kept hW)
 have hsz := fun (W : World) (hW : Below wA.heap.size wA W) => ql (iZ.out.kept hW).nodes hl
 have Nk := fun (W : World) => nK r W
 have e0 : (encR r)[0]? = some (.int .i64 r.kind) := rfl
 have e3 : (encR r)[3]? = some (.int .i64 r.width) := rfl
 generalize r.kind = rk at *
 generalize r.width = rw at *
 generalize aT r = rf at *
 generalize encR r = cR at *
 generalize (P.T.length : Int) = nl at *
 have d1 : (rk != 1) = true := by simp [hk]
 clear h
 go_enter Tryz.func136, Tryz.ntmps136
 go_wp2_with fail
 rw [← aK]
 replace aK := Lib.hid aK
 refine Reg2.rd wA 20 30 [[],[ae],[ae,ae],[ae,ae,ae],[ae,ae,ae,ae],[ae,ae,ae,ae,ae],[ae,ae,ae,ae,ae,ae],[ae,ae,ae,ae,ae,ae,ae],[ae,ae,ae,ae,ae,ae,ae,ae],[ae,ae,ae,ae,ae,ae,ae,ae,ae],[ae,ae,ae,ae,ae,ae,ae,ae,ae,ae],[ae,ae,ae,ae,ae,ae,ae,ae,ae,ae,ae],[ae,ae,ae,ae,ae,ae,ae,ae,ae,ae,ae,ae],[ae,ae,ae,ae,ae,ae,ae,ae,ae,ae,ae,ae,ae],[ae,ae,ae,ae,ae,ae,ae,ae,ae,ae,ae,ae,ae,ae],[ae,ae,ae,ae,ae,ae,ae,ae,ae,ae,ae,ae,ae,af,af],[ae,ae,ae,ae,ae,ae,ae,ae,ae,ae,ae,ae,ae,af,af,ae],[ae,ae,ae,ae,ae,ae,ae,ae,ae,ae,ae,ae,ae,af,af,ae,ae],[ae,ae,ae,ae,ae,ae,ae,ae,ae,ae,ae,ae,ae,af,af,ae,ae,ae],[ae,ae,ae,ae,ae,ae,ae,ae,ae,ae,ae,ae,ae,af,af,ae,ae,ae,ae]] [0, 1, 0, 0, 1, 0, 0, 0, 0, 1, 0, 0, 0, 0, 1, 0, 0, 0, 1, 1] [.pure, .mU (.bool false), .pure, .pure, .mU (.int .i64 rk), .pure, .pure, .pure, .pure, .mU (.int .i64 rw), .pure, .pure, .pure, .pure, .mU (.int .i64 rw), .pure, .pure, .pure, .mU (.pointer (some ⟨d, 0, none⟩)), .mU (.int .i64 nl)] (by kernel_rfl) (by kernel_rfl) rfl rfl ⟨trivial, Reg2.tt, trivial, trivial, Reg2.tt, trivial, trivial, trivial, trivial, Reg2.tt, trivial, trivial, trivial, trivial, Reg2.tt, trivial, trivial, trivial, Reg2.tt, Reg2.tt, trivial⟩ ⟨rfl, rfl, rfl, Nat.le_refl _, fun _ _ => rfl⟩ ?_
 dsimp only [Reg2.mk, List.zip, List.zipWith, List.take]
 repeat (refine' Reg2.ai _ (by rfl) (fun wz => ?_) ?_; rotate_left; (go_simp; first | rfl | rw [if_neg (by omega)]); simp only [Act.put, xA, xB, xC]; (try simp only [xD]); (try simp only [xE]); (try simp only [id]))
 refine Reg2.pm (fun wz hI hF => ?_) (fun r1 => ?_) (by rfl)
 ·go_wp2_with (go_at_call 51; go_must (refine (hno wz hI).mono ?_); rintro e w' ⟨rfl, rfl⟩)
  first | exact ⟨_, rfl, rfl, Reg2.Ext.refl _⟩ | exact ⟨_, rfl, ⟨(), rfl, trivial⟩, Reg2.Ext.refl _⟩
 simp only [Act.put, xA, xB, xC]; (try simp only [xD]); (try simp only [xE]); (try simp only [id])
 repeat (refine' Reg2.ai _ (by rfl) (fun wz => ?_) ?_; rotate_left; (go_simp; first | rfl | rw [if_neg (by omega)]); simp only [Act.put, xA, xB, xC]; (try simp only [xD]); (try simp only [xE]); (try simp only [id]))
 refine Reg2.pm (fun wz hI hF => ?_) (fun r4 => ?_) (by rfl)
 ·have q0 : wz.cell? ⟨w.heap.size, 0, none⟩ = some (.int .i64 rk) := by simp [World.cell?, (hI.block _ (aG iq.out)).trans iq.out, e0]
  go_wp2_with fail
  first | exact ⟨_, rfl, rfl, Reg2.Ext.refl _⟩ | exact ⟨_, rfl, ⟨(), rfl, trivial⟩, Reg2.Ext.refl _⟩
 simp only [Act.put, xA, xB, xC]; (try simp only [xD]); (try simp only [xE]); (try simp only [id])
 repeat (refine' Reg2.ai _ (by rfl) (fun wz => ?_) ?_; rotate_left; (go_simp; first | rfl | rw [if_neg (by omega)]); simp only [Act.put, xA, xB, xC]; (try simp only [xD]); (try simp only [xE]); (try simp only [id]))
 refine Reg2.dJ (by rfl) ?_
 simp only [Act.put, xA, xB, xC]; (try simp only [xD]); (try simp only [xE]); (try simp only [id])
 refine Reg2.cu (by rfl) ?_
 simp only [Act.put, xA, xB, xC]; (try simp only [xD]); (try simp only [xE]); (try simp only [id])
 refine Reg2.dJ (by rfl) ?_
 simp only [Act.put, xA, xB, xC]; (try simp only [xD]); (try simp only [xE]); (try simp only [id])
 repeat (refine' Reg2.ai _ (by rfl) (fun wz => ?_) ?_; rotate_left; (go_simp; first | rfl | rw [if_neg (by omega)]); simp only [Act.put, xA, xB, xC]; (try simp only [xD]); (try simp only [xE]); (try simp only [id]))
 refine Reg2.dJ (by rfl) ?_
 simp only [Act.put, xA, xB, xC]; (try simp only [xD]); (try simp only [xE]); (try simp only [id])
 refine Reg2.cu (by rfl) ?_
 simp only [Act.put, xA, xB, xC]; (try simp only [xD]); (try simp only [xE]); (try simp only [id])
 refine Reg2.dJ (by rfl) ?_
 simp only [Act.put, xA, xB, xC]; (try simp only [xD]); (try simp only [xE]); (try simp only [id])
 refine Reg2.dJ (by rfl) ?_
 simp only [Act.put, xA, xB, xC]; (try simp only [xD]); (try simp only [xE]); (try simp only [id])
 refine Reg2.dJ (by rfl) ?_
 simp only [Act.put, xA, xB, xC]; (try simp only [xD]); (try simp only [xE]); (try simp only [id])
 refine Reg2.cu (by rfl) ?_
 simp only [Act.put, xA, xB, xC]; (try simp only [xD]); (try simp only [xE]); (try simp only [id])
 refine Reg2.cu (by rfl) ?_
 simp only [Act.put, xA, xB, xC]; (try simp only [xD]); (try simp only [xE]); (try simp only [id])
 refine Reg2.aC ?_
 intro w7 jZ _ kG
 clear kG
 dsimp only [List.drop]
 have kV := bR.out.trans (jZ.mono bR.out.size)
 go_wp2_with fail
 go_ret
 exact ⟨rfl, kV⟩
theorem H5 (h : CW w c t d p v g a m P) (hl : ib P.T) (r : Rq) (hk : r.kind = 1) (hw : 64 < r.width) : Calls Tryz.prog 136 #[.pointer (some ⟨c, 0, none⟩), .agg (encR r).toArray] w fun e w' => e = .returned (.int .i64 0) ∧ Below w.heap.size w w' := by
 have zR := lu
 obtain ⟨k9, bS⟩ : ∃ k, k = 9 := ⟨_, rfl⟩
 rw [← bS] at zR
 have hk0 : ¬ k9 = 0 := by omega
 have lR := iU r
 rw [← bS] at lR
 replace bS := Lib.hid bS
 obtain ⟨wA, aK⟩ : ∃ wA, wA = w.alloc (.cells (encR r).toArray 32) := ⟨_, rfl⟩
 have bR : Hid (Below w.heap.size w wA) := by show Below _ _ _; rw [aK]; exact (Below.refl _ _).alloc (Nat.le_refl _) _
 have iq : Hid (wA.heap[w.heap.size]? = some (.cells (encR r).toArray 32 (0, 0))) := by show _ = _; rw [aK]; exact heap_alloc_new w _
 have iZ := Lib.hid (h.kept bR.out)
 have hno := fun (W : World) (hW : Below wA.heap.size wA W) => kE (iZ.out.kept hW)
 have hsz := fun (W : World) (hW : Below wA.heap.size wA W) => ql (iZ.out.kept hW).nodes hl
 have Nk := fun (W : World) => nK r W
 have e0 : (encR r)[0]? = some (.int .i64 r.kind) := rfl
 have e3 : (encR r)[3]? = some (.int .i64 r.width) := rfl
 generalize r.kind = rk at *
 generalize r.width = rw at *
 generalize aT r = rf at *
 generalize encR r = cR at *
 generalize (P.T.length : Int) = nl at *
 have d1 : (rk != 1) = false := by simp [hk]
 replace hk := Lib.hid hk
 have d2 : decide (rw > 64) = true := decide_eq_true hw
 clear h
 go_enter Tryz.func136, Tryz.ntmps136
 go_wp2_with fail
 rw [← aK]
 replace aK := Lib.hid aK
 refine Reg2.rd wA 20 30 [[],[ae],[ae,ae],[ae,ae,ae],[ae,ae,ae,ae],[ae,ae,ae,ae,ae],[ae,ae,ae,ae,ae,ae],[ae,ae,ae,ae,ae,ae,ae],[ae,ae,ae,ae,ae,ae,ae,ae],[ae,ae,ae,ae,ae,ae,ae,ae,ae],[ae,ae,ae,ae,ae,ae,ae,ae,ae,ae],[ae,ae,ae,ae,ae,ae,ae,ae,ae,ae,ae],[ae,ae,ae,ae,ae,ae,ae,ae,ae,ae,ae,ae],[ae,ae,ae,ae,ae,ae,ae,ae,ae,ae,ae,ae,ae],[ae,ae,ae,ae,ae,ae,ae,ae,ae,ae,ae,ae,ae,ae],[ae,ae,ae,ae,ae,ae,ae,ae,ae,ae,ae,ae,ae,af,af],[ae,ae,ae,ae,ae,ae,ae,ae,ae,ae,ae,ae,ae,af,af,ae],[ae,ae,ae,ae,ae,ae,ae,ae,ae,ae,ae,ae,ae,af,af,ae,ae],[ae,ae,ae,ae,ae,ae,ae,ae,ae,ae,ae,ae,ae,af,af,ae,ae,ae],[ae,ae,ae,ae,ae,ae,ae,ae,ae,ae,ae,ae,ae,af,af,ae,ae,ae,ae]] [0, 1, 0, 0, 1, 0, 0, 0, 0, 1, 0, 0, 0, 0, 1, 0, 0, 0, 1, 1] [.pure, .mU (.bool false), .pure, .pure, .mU (.int .i64 rk), .pure, .pure, .pure, .pure, .mU (.int .i64 rw), .pure, .pure, .pure, .pure, .mU (.int .i64 rw), .pure, .pure, .pure, .mU (.pointer (some ⟨d, 0, none⟩)), .mU (.int .i64 nl)] (by kernel_rfl) (by kernel_rfl) rfl rfl ⟨trivial, Reg2.tt, trivial, trivial, Reg2.tt, trivial, trivial, trivial, trivial, Reg2.tt, trivial, trivial, trivial, trivial, Reg2.tt, trivial, trivial, trivial, Reg2.tt, Reg2.tt, trivial⟩ ⟨rfl, rfl, rfl, Nat.le_refl _, fun _ _ => rfl⟩ ?_
 dsimp only [Reg2.mk, List.zip, List.zipWith, List.take]
 repeat (refine' Reg2.ai _ (by rfl) (fun wz => ?_) ?_; rotate_left; (go_simp; first | rfl | rw [if_neg (by omega)]); simp only [Act.put, xA, xB, xC]; (try simp only [xD]); (try simp only [xE]); (try simp only [id]))
 refine Reg2.pm (fun wz hI hF => ?_) (fun r1 => ?_) (by rfl)
 ·go_wp2_with (go_at_call 51; go_must (refine (hno wz hI).mono ?_); rintro e w' ⟨rfl, rfl⟩)
  first | exact ⟨_, rfl, rfl, Reg2.Ext.refl _⟩ | exact ⟨_, rfl, ⟨(), rfl, trivial⟩, Reg2.Ext.refl _⟩
 simp only [Act.put, xA, xB, xC]; (try simp only [xD]); (try simp only [xE]); (try simp only [id])
 repeat (refine' Reg2.ai _ (by rfl) (fun wz => ?_) ?_; rotate_left; (go_simp; first | rfl | rw [if_neg (by omega)]); simp only [Act.put, xA, xB, xC]; (try simp only [xD]); (try simp only [xE]); (try simp only [id]))
 refine Reg2.pm (fun wz hI hF => ?_) (fun r4 => ?_) (by rfl)
 ·have q0 : wz.cell? ⟨w.heap.size, 0, none⟩ = some (.int .i64 rk) := by simp [World.cell?, (hI.block _ (aG iq.out)).trans iq.out, e0]
  go_wp2_with fail
  first | exact ⟨_, rfl, rfl, Reg2.Ext.refl _⟩ | exact ⟨_, rfl, ⟨(), rfl, trivial⟩, Reg2.Ext.refl _⟩
 simp only [Act.put, xA, xB, xC]; (try simp only [xD]); (try simp only [xE]); (try simp only [id])
 repeat (refine' Reg2.ai _ (by rfl) (fun wz => ?_) ?_; rotate_left; (go_simp; first | rfl | rw [if_neg (by omega)]); simp only [Act.put, xA, xB, xC]; (try simp only [xD]); (try simp only [xE]); (try simp only [id]))
 refine Reg2.pm (fun wz hI hF => ?_) (fun r9 => ?_) (by rfl)
 ·have q0 : wz.cell? ⟨w.heap.size, 3, none⟩ = some (.int .i64 rw) := by simp [World.cell?, (hI.block _ (aG iq.out)).trans iq.out, e3]
  go_wp2_with fail
  first | exact ⟨_, rfl, rfl, Reg2.Ext.refl _⟩ | exact ⟨_, rfl, ⟨(), rfl, trivial⟩, Reg2.Ext.refl _⟩
 simp only [Act.put, xA, xB, xC]; (try simp only [xD]); (try simp only [xE]); (try simp only [id])
 repeat (refine' Reg2.ai _ (by rfl) (fun wz => ?_) ?_; rotate_left; (go_simp; first | rfl | rw [if_neg (by omega)]); simp only [Act.put, xA, xB, xC]; (try simp only [xD]); (try simp only [xE]); (try simp only [id]))
 refine Reg2.dJ (by rfl) ?_
 simp only [Act.put, xA, xB, xC]; (try simp only [xD]); (try simp only [xE]); (try simp only [id])
 refine Reg2.cu (by rfl) ?_
 simp only [Act.put, xA, xB, xC]; (try simp only [xD]); (try simp only [xE]); (try simp only [id])
 refine Reg2.dJ (by rfl) ?_
 simp only [Act.put, xA, xB, xC]; (try simp only [xD]); (try simp only [xE]); (try simp only [id])
 refine Reg2.dJ (by rfl) ?_
 simp only [Act.put, xA, xB, xC]; (try simp only [xD]); (try simp only [xE]); (try simp only [id])
 refine Reg2.dJ (by rfl) ?_
 simp only [Act.put, xA, xB, xC]; (try simp only [xD]); (try simp only [xE]); (try simp only [id])
 refine Reg2.cu (by rfl) ?_
 simp only [Act.put, xA, xB, xC]; (try simp only [xD]); (try simp only [xE]); (try simp only [id])
 refine Reg2.cu (by rfl) ?_
 simp only [Act.put, xA, xB, xC]; (try simp only [xD]); (try simp only [xE]); (try simp only [id])
 refine Reg2.aC ?_
 intro w7 jZ _ kG
 clear kG
 dsimp only [List.drop]
 have kV := bR.out.trans (jZ.mono bR.out.size)
 go_wp2_with fail
 go_ret
 exact ⟨rfl, kV⟩
theorem H6 (h : CW w c t d p v g a m P) (hl : ib P.T) (r : Rq) (hk : r.kind = 1) (hw : r.width ≤ 64) (hn : r.width ≤ P.T.length) : Calls Tryz.prog 136 #[.pointer (some ⟨c, 0, none⟩), .agg (encR r).toArray] w fun e w' => e = .returned (.int .i64 0) ∧ Below w.heap.size w w' := by
 have zR := lu
 obtain ⟨k9, bS⟩ : ∃ k, k = 9 := ⟨_, rfl⟩
 rw [← bS] at zR
 have hk0 : ¬ k9 = 0 := by omega
 have lR := iU r
 rw [← bS] at lR
 replace bS := Lib.hid bS
 obtain ⟨wA, aK⟩ : ∃ wA, wA = w.alloc (.cells (encR r).toArray 32) := ⟨_, rfl⟩
 have bR : Hid (Below w.heap.size w wA) := by show Below _ _ _; rw [aK]; exact (Below.refl _ _).alloc (Nat.le_refl _) _
 have iq : Hid (wA.heap[w.heap.size]? = some (.cells (encR r).toArray 32 (0, 0))) := by show _ = _; rw [aK]; exact heap_alloc_new w _
 have iZ := Lib.hid (h.kept bR.out)
 have hno := fun (W : World) (hW : Below wA.heap.size wA W) => kE (iZ.out.kept hW)
 have hsz := fun (W : World) (hW : Below wA.heap.size wA W) => ql (iZ.out.kept hW).nodes hl
 have Nk := fun (W : World) => nK r W
 have e0 : (encR r)[0]? = some (.int .i64 r.kind) := rfl
 have e3 : (encR r)[3]? = some (.int .i64 r.width) := rfl
 generalize r.kind = rk at *
 generalize r.width = rw at *
 generalize aT r = rf at *
 generalize encR r = cR at *
 generalize (P.T.length : Int) = nl at *
 have d1 : (rk != 1) = false := by simp [hk]
 replace hk := Lib.hid hk
 have d2 : decide (rw > 64) = false := decide_eq_false (by omega)
 have d3 : decide (rw ≤ nl) = true := decide_eq_true hn
 clear h
 go_enter Tryz.func136, Tryz.ntmps136
 go_wp2_with fail
 rw [← aK]
 replace aK := Lib.hid aK
 refine Reg2.rd wA 20 30 [[],[ae],[ae,ae],[ae,ae,ae],[ae,ae,ae,ae],[ae,ae,ae,ae,ae],[ae,ae,ae,ae,ae,ae],[ae,ae,ae,ae,ae,ae,ae],[ae,ae,ae,ae,ae,ae,ae,ae],[ae,ae,ae,ae,ae,ae,ae,ae,ae],[ae,ae,ae,ae,ae,ae,ae,ae,ae,ae],[ae,ae,ae,ae,ae,ae,ae,ae,ae,ae,ae],[ae,ae,ae,ae,ae,ae,ae,ae,ae,ae,ae,ae],[ae,ae,ae,ae,ae,ae,ae,ae,ae,ae,ae,ae,ae],[ae,ae,ae,ae,ae,ae,ae,ae,ae,ae,ae,ae,ae,ae],[ae,ae,ae,ae,ae,ae,ae,ae,ae,ae,ae,ae,ae,af,af],[ae,ae,ae,ae,ae,ae,ae,ae,ae,ae,ae,ae,ae,af,af,ae],[ae,ae,ae,ae,ae,ae,ae,ae,ae,ae,ae,ae,ae,af,af,ae,ae],[ae,ae,ae,ae,ae,ae,ae,ae,ae,ae,ae,ae,ae,af,af,ae,ae,ae],[ae,ae,ae,ae,ae,ae,ae,ae,ae,ae,ae,ae,ae,af,af,ae,ae,ae,ae]] [0, 1, 0, 0, 1, 0, 0, 0, 0, 1, 0, 0, 0, 0, 1, 0, 0, 0, 1, 1] [.pure, .mU (.bool false), .pure, .pure, .mU (.int .i64 rk), .pure, .pure, .pure, .pure, .mU (.int .i64 rw), .pure, .pure, .pure, .pure, .mU (.int .i64 rw), .pure, .pure, .pure, .mU (.pointer (some ⟨d, 0, none⟩)), .mU (.int .i64 nl)] (by kernel_rfl) (by kernel_rfl) rfl rfl ⟨trivial, Reg2.tt, trivial, trivial, Reg2.tt, trivial, trivial, trivial, trivial, Reg2.tt, trivial, trivial, trivial, trivial, Reg2.tt, trivial, trivial, trivial, Reg2.tt, Reg2.tt, trivial⟩ ⟨rfl, rfl, rfl, Nat.le_refl _, fun _ _ => rfl⟩ ?_
 dsimp only [Reg2.mk, List.zip, List.zipWith, List.take]
 repeat (refine' Reg2.ai _ (by rfl) (fun wz => ?_) ?_; rotate_left; (go_simp; first | rfl | rw [if_neg (by omega)]); simp only [Act.put, xA, xB, xC]; (try simp only [xD]); (try simp only [xE]); (try simp only [id]))
 refine Reg2.pm (fun wz hI hF => ?_) (fun r1 => ?_) (by rfl)
 ·go_wp2_with (go_at_call 51; go_must (refine (hno wz hI).mono ?_); rintro e w' ⟨rfl, rfl⟩)
  first | exact ⟨_, rfl, rfl, Reg2.Ext.refl _⟩ | exact ⟨_, rfl, ⟨(), rfl, trivial⟩, Reg2.Ext.refl _⟩
 simp only [Act.put, xA, xB, xC]; (try simp only [xD]); (try simp only [xE]); (try simp only [id])
 repeat (refine' Reg2.ai _ (by rfl) (fun wz => ?_) ?_; rotate_left; (go_simp; first | rfl | rw [if_neg (by omega)]); simp only [Act.put, xA, xB, xC]; (try simp only [xD]); (try simp only [xE]); (try simp only [id]))
 refine Reg2.pm (fun wz hI hF => ?_) (fun r4 => ?_) (by rfl)
 ·have q0 : wz.cell? ⟨w.heap.size, 0, none⟩ = some (.int .i64 rk) := by simp [World.cell?, (hI.block _ (aG iq.out)).trans iq.out, e0]
  go_wp2_with fail
  first | exact ⟨_, rfl, rfl, Reg2.Ext.refl _⟩ | exact ⟨_, rfl, ⟨(), rfl, trivial⟩, Reg2.Ext.refl _⟩
 simp only [Act.put, xA, xB, xC]; (try simp only [xD]); (try simp only [xE]); (try simp only [id])
 repeat (refine' Reg2.ai _ (by rfl) (fun wz => ?_) ?_; rotate_left; (go_simp; first | rfl | rw [if_neg (by omega)]); simp only [Act.put, xA, xB, xC]; (try simp only [xD]); (try simp only [xE]); (try simp only [id]))
 refine Reg2.pm (fun wz hI hF => ?_) (fun r9 => ?_) (by rfl)
 ·have q0 : wz.cell? ⟨w.heap.size, 3, none⟩ = some (.int .i64 rw) := by simp [World.cell?, (hI.block _ (aG iq.out)).trans iq.out, e3]
  go_wp2_with fail
  first | exact ⟨_, rfl, rfl, Reg2.Ext.refl _⟩ | exact ⟨_, rfl, ⟨(), rfl, trivial⟩, Reg2.Ext.refl _⟩
 simp only [Act.put, xA, xB, xC]; (try simp only [xD]); (try simp only [xE]); (try simp only [id])
 repeat (refine' Reg2.ai _ (by rfl) (fun wz => ?_) ?_; rotate_left; (go_simp; first | rfl | rw [if_neg (by omega)]); simp only [Act.put, xA, xB, xC]; (try simp only [xD]); (try simp only [xE]); (try simp only [id]))
 refine Reg2.pm (fun wz hI hF => ?_) (fun Ck => ?_) (by rfl)
 ·have q0 : wz.cell? ⟨w.heap.size, 3, none⟩ = some (.int .i64 rw) := by simp [World.cell?, (hI.block _ (aG iq.out)).trans iq.out, e3]
  go_wp2_with fail
  first | exact ⟨_, rfl, rfl, Reg2.Ext.refl _⟩ | exact ⟨_, rfl, ⟨(), rfl, trivial⟩, Reg2.Ext.refl _⟩
 simp only [Act.put, xA, xB, xC]; (try simp only [xD]); (try simp only [xE]); (try simp only [id])
 repeat (refine' Reg2.ai _ (by rfl) (fun wz => ?_) ?_; rotate_left; (go_simp; first | rfl | rw [if_neg (by omega)]); simp only [Act.put, xA, xB, xC]; (try simp only [xD]); (try simp only [xE]); (try simp only [id]))
 refine Reg2.pm (fun wz hI hF => ?_) (fun TZ => ?_) (by rfl)
 ·have c0 := (iZ.out.kept hI).c1
  go_wp2_with fail
  first | exact ⟨_, rfl, rfl, Reg2.Ext.refl _⟩ | exact ⟨_, rfl, ⟨(), rfl, trivial⟩, Reg2.Ext.refl _⟩
 simp only [Act.put, xA, xB, xC]; (try simp only [xD]); (try simp only [xE]); (try simp only [id])
 refine Reg2.pm (fun wz hI hF => ?_) (fun Vt => ?_) (by rfl)
 ·go_wp2_with (go_at_call 52; go_must (refine (hsz wz hI).mono ?_); rintro e w' ⟨rfl, rfl⟩)
  first | exact ⟨_, rfl, rfl, Reg2.Ext.refl _⟩ | exact ⟨_, rfl, ⟨(), rfl, trivial⟩, Reg2.Ext.refl _⟩
 simp only [Act.put, xA, xB, xC]; (try simp only [xD]); (try simp only [xE]); (try simp only [id])
 refine Reg2.aC ?_
 intro w7 jZ _ kG
 clear kG
 dsimp only [List.drop]
 have kV := bR.out.trans (jZ.mono bR.out.size)
 go_wp2_with fail
 go_ret
 exact ⟨rfl, kV⟩
theorem Ka (h : CW w c t d p v g a m P) (hl : ib P.T) (r : Rq) (hk : r.kind = 1) (hw : r.width ≤ 64) (hn : ¬ r.width ≤ P.T.length) (hrf : aT r = 1) : Calls Tryz.prog 136 #[.pointer (some ⟨c, 0, none⟩), .agg (encR r).toArray] w fun e w' => e = .returned (.int .i64 0) ∧ Below w.heap.size w w' := by
 have zR := lu
 obtain ⟨k9, bS⟩ : ∃ k, k = 9 := ⟨_, rfl⟩
 rw [← bS] at zR
 have hk0 : ¬ k9 = 0 := by omega
 have lR := iU r
 rw [← bS] at lR
 replace bS := Lib.hid bS
 obtain ⟨wA, aK⟩ : ∃ wA, wA = w.alloc (.cells (encR r).toArray 32) := ⟨_, rfl⟩
 have bR : Hid (Below w.heap.size w wA) := by show Below _ _ _; rw [aK]; exact (Below.refl _ _).alloc (Nat.le_refl _) _
 have iq : Hid (wA.heap[w.heap.size]? = some (.cells (encR r).toArray 32 (0, 0))) := by show _ = _; rw [aK]; exact heap_alloc_new w _
 have iZ := Lib.hid (h.kept bR.out)
 have hno := fun (W : World) (hW : Below wA.heap.size wA W) => kE (iZ.out.kept hW)
 have hsz := fun (W : World) (hW : Below wA.heap.size wA W) => ql (iZ.out.kept hW).nodes hl
 have Nk := fun (W : World) => nK r W
 have e0 : (encR r)[0]? = some (.int .i64 r.kind) := rfl
 have e3 : (encR r)[3]? = some (.int .i64 r.width) := rfl
 generalize r.kind = rk at *
 generalize r.width = rw at *
 generalize aT r = rf at *
 generalize encR r = cR at *
 generalize (P.T.length : Int) = nl at *
 have d1 : (rk != 1) = false := by simp [hk]
 replace hk := Lib.hid hk
 have d2 : decide (rw > 64) = false := decide_eq_false (by omega)
 have d3 : decide (rw ≤ nl) = false := decide_eq_false hn
 subst hrf
 clear h
 go_enter Tryz.func136, Tryz.ntmps136
 go_wp2_with fail
 rw [← aK]
 replace aK := Lib.hid aK
 refine Reg2.rd wA 20 30 [[],[ae],[ae,ae],[ae,ae,ae],[ae,ae,ae,ae],[ae,ae,ae,ae,ae],[ae,ae,ae,ae,ae,ae],[ae,ae,ae,ae,ae,ae,ae],[ae,ae,ae,ae,ae,ae,ae,ae],[ae,ae,ae,ae,ae,ae,ae,ae,ae],[ae,ae,ae,ae,ae,ae,ae,ae,ae,ae],[ae,ae,ae,ae,ae,ae,ae,ae,ae,ae,ae],[ae,ae,ae,ae,ae,ae,ae,ae,ae,ae,ae,ae],[ae,ae,ae,ae,ae,ae,ae,ae,ae,ae,ae,ae,ae],[ae,ae,ae,ae,ae,ae,ae,ae,ae,ae,ae,ae,ae,ae],[ae,ae,ae,ae,ae,ae,ae,ae,ae,ae,ae,ae,ae,af,af],[ae,ae,ae,ae,ae,ae,ae,ae,ae,ae,ae,ae,ae,af,af,ae],[ae,ae,ae,ae,ae,ae,ae,ae,ae,ae,ae,ae,ae,af,af,ae,ae],[ae,ae,ae,ae,ae,ae,ae,ae,ae,ae,ae,ae,ae,af,af,ae,ae,ae],[ae,ae,ae,ae,ae,ae,ae,ae,ae,ae,ae,ae,ae,af,af,ae,ae,ae,ae]] [0, 1, 0, 0, 1, 0, 0, 0, 0, 1, 0, 0, 0, 0, 1, 0, 0, 0, 1, 1] [.pure, .mU (.bool false), .pure, .pure, .mU (.int .i64 rk), .pure, .pure, .pure, .pure, .mU (.int .i64 rw), .pure, .pure, .pure, .pure, .mU (.int .i64 rw), .pure, .pure, .pure, .mU (.pointer (some ⟨d, 0, none⟩)), .mU (.int .i64 nl)] (by kernel_rfl) (by kernel_rfl) rfl rfl ⟨trivial, Reg2.tt, trivial, trivial, Reg2.tt, trivial, trivial, trivial, trivial, Reg2.tt, trivial, trivial, trivial, trivial, Reg2.tt, trivial, trivial, trivial, Reg2.tt, Reg2.tt, trivial⟩ ⟨rfl, rfl, rfl, Nat.le_refl _, fun _ _ => rfl⟩ ?_
 dsimp only [Reg2.mk, List.zip, List.zipWith, List.take]
 repeat (refine' Reg2.ai _ (by rfl) (fun wz => ?_) ?_; rotate_left; (go_simp; first | rfl | rw [if_neg (by omega)]); simp only [Act.put, xA, xB, xC]; (try simp only [xD]); (try simp only [xE]); (try simp only [id]))
 refine Reg2.pm (fun wz hI hF => ?_) (fun r1 => ?_) (by rfl)
 ·go_wp2_with (go_at_call 51; go_must (refine (hno wz hI).mono ?_); rintro e w' ⟨rfl, rfl⟩)
  first | exact ⟨_, rfl, rfl, Reg2.Ext.refl _⟩ | exact ⟨_, rfl, ⟨(), rfl, trivial⟩, Reg2.Ext.refl _⟩
 simp only [Act.put, xA, xB, xC]; (try simp only [xD]); (try simp only [xE]); (try simp only [id])
 repeat (refine' Reg2.ai _ (by rfl) (fun wz => ?_) ?_; rotate_left; (go_simp; first | rfl | rw [if_neg (by omega)]); simp only [Act.put, xA, xB, xC]; (try simp only [xD]); (try simp only [xE]); (try simp only [id]))
 refine Reg2.pm (fun wz hI hF => ?_) (fun r4 => ?_) (by rfl)
 ·have q0 : wz.cell? ⟨w.heap.size, 0, none⟩ = some (.int .i64 rk) := by simp [World.cell?, (hI.block _ (aG iq.out)).trans iq.out, e0]
  go_wp2_with fail
  first | exact ⟨_, rfl, rfl, Reg2.Ext.refl _⟩ | exact ⟨_, rfl, ⟨(), rfl, trivial⟩, Reg2.Ext.refl _⟩
 simp only [Act.put, xA, xB, xC]; (try simp only [xD]); (try simp only [xE]); (try simp only [id])
 repeat (refine' Reg2.ai _ (by rfl) (fun wz => ?_) ?_; rotate_left; (go_simp; first | rfl | rw [if_neg (by omega)]); simp only [Act.put, xA, xB, xC]; (try simp only [xD]); (try simp only [xE]); (try simp only [id]))
 refine Reg2.pm (fun wz hI hF => ?_) (fun r9 => ?_) (by rfl)
 ·have q0 : wz.cell? ⟨w.heap.size, 3, none⟩ = some (.int .i64 rw) := by simp [World.cell?, (hI.block _ (aG iq.out)).trans iq.out, e3]
  go_wp2_with fail
  first | exact ⟨_, rfl, rfl, Reg2.Ext.refl _⟩ | exact ⟨_, rfl, ⟨(), rfl, trivial⟩, Reg2.Ext.refl _⟩
 simp only [Act.put, xA, xB, xC]; (try simp only [xD]); (try simp only [xE]); (try simp only [id])
 repeat (refine' Reg2.ai _ (by rfl) (fun wz => ?_) ?_; rotate_left; (go_simp; first | rfl | rw [if_neg (by omega)]); simp only [Act.put, xA, xB, xC]; (try simp only [xD]); (try simp only [xE]); (try simp only [id]))
 refine Reg2.pm (fun wz hI hF => ?_) (fun Ck => ?_) (by rfl)
 ·have q0 : wz.cell? ⟨w.heap.size, 3, none⟩ = some (.int .i64 rw) := by simp [World.cell?, (hI.block _ (aG iq.out)).trans iq.out, e3]
  go_wp2_with fail
  first | exact ⟨_, rfl, rfl, Reg2.Ext.refl _⟩ | exact ⟨_, rfl, ⟨(), rfl, trivial⟩, Reg2.Ext.refl _⟩
 simp only [Act.put, xA, xB, xC]; (try simp only [xD]); (try simp only [xE]); (try simp only [id])
 repeat (refine' Reg2.ai _ (by rfl) (fun wz => ?_) ?_; rotate_left; (go_simp; first | rfl | rw [if_neg (by omega)]); simp only [Act.put, xA, xB, xC]; (try simp only [xD]); (try simp only [xE]); (try simp only [id]))
 refine Reg2.pm (fun wz hI hF => ?_) (fun TZ => ?_) (by rfl)
 ·have c0 := (iZ.out.kept hI).c1
  go_wp2_with fail
  first | exact ⟨_, rfl, rfl, Reg2.Ext.refl _⟩ | exact ⟨_, rfl, ⟨(), rfl, trivial⟩, Reg2.Ext.refl _⟩
 simp only [Act.put, xA, xB, xC]; (try simp only [xD]); (try simp only [xE]); (try simp only [id])
 refine Reg2.pm (fun wz hI hF => ?_) (fun Vt => ?_) (by rfl)
 ·go_wp2_with (go_at_call 52; go_must (refine (hsz wz hI).mono ?_); rintro e w' ⟨rfl, rfl⟩)
  first | exact ⟨_, rfl, rfl, Reg2.Ext.refl _⟩ | exact ⟨_, rfl, ⟨(), rfl, trivial⟩, Reg2.Ext.refl _⟩
 simp only [Act.put, xA, xB, xC]; (try simp only [xD]); (try simp only [xE]); (try simp only [id])
 refine Reg2.aC ?_
 intro w7 jZ _ kG
 clear kG
 dsimp only [List.drop]
 have kV := bR.out.trans (jZ.mono bR.out.size)
 have zu : w7.heap[w.heap.size]? = some (.cells cR.toArray 32 (0, 0)) := (jZ.block _ (aG iq.out)).trans iq.out
 have RU := fQ zu lR
 have Ua := Nk w7
 go_wp2_with (go_at_call 156; go_must (refine Ua.mono ?_); rintro e w8 ⟨rfl, ob, rfl⟩)
 go_ret
 exact ⟨rfl, kV.alloc kV.size _⟩
theorem H7 (h : CW w c t d p v g a m P) (hl : ib P.T) (r : Rq) (hk : r.kind = 1) (hw : r.width ≤ 64) (hn : ¬ r.width ≤ P.T.length) (hrf : ¬ aT r = 1) : Calls Tryz.prog 136 #[.pointer (some ⟨c, 0, none⟩), .agg (encR r).toArray] w fun e w' => e = .returned (.int .i64 9) ∧ Below w.heap.size w w' := by
 have zR := lu
 obtain ⟨k9, bS⟩ : ∃ k, k = 9 := ⟨_, rfl⟩
 rw [← bS] at zR
 have hk0 : ¬ k9 = 0 := by omega
 have lR := iU r
 rw [← bS] at lR
 replace bS := Lib.hid bS
 obtain ⟨wA, aK⟩ : ∃ wA, wA = w.alloc (.cells (encR r).toArray 32) := ⟨_, rfl⟩
 have bR : Hid (Below w.heap.size w wA) := by show Below _ _ _; rw [aK]; exact (Below.refl _ _).alloc (Nat.le_refl _) _
 have iq : Hid (wA.heap[w.heap.size]? = some (.cells (encR r).toArray 32 (0, 0))) := by show _ = _; rw [aK]; exact heap_alloc_new w _
 have iZ := Lib.hid (h.kept bR.out)
 have hno := fun (W : World) (hW : Below wA.heap.size wA W) => kE (iZ.out.kept hW)
 have hsz := fun (W : World) (hW : Below wA.heap.size wA W) => ql (iZ.out.kept hW).nodes hl
 have Nk := fun (W : World) => nK r W
 have e0 : (encR r)[0]? = some (.int .i64 r.kind) := rfl
 have e3 : (encR r)[3]? = some (.int .i64 r.width) := rfl
 generalize r.kind = rk at *
 generalize r.width = rw at *
 generalize aT r = rf at *
 generalize encR r = cR at *
 generalize (P.T.length : Int) = nl at *
 have d1 : (rk != 1) = false := by simp [hk]
 replace hk := Lib.hid hk
 have d2 : decide (rw > 64) = false := decide_eq_false (by omega)
 have d3 : decide (rw ≤ nl) = false := decide_eq_false hn
 have d5 : (rf == 1) = false := by simp [hrf]
 clear h
 go_enter Tryz.func136, Tryz.ntmps136
 go_wp2_with fail
 rw [← aK]
 replace aK := Lib.hid aK
 refine Reg2.rd wA 20 30 [[],[ae],[ae,ae],[ae,ae,ae],[ae,ae,ae,ae],[ae,ae,ae,ae,ae],[ae,ae,ae,ae,ae,ae],[ae,ae,ae,ae,ae,ae,ae],[ae,ae,ae,ae,ae,ae,ae,ae],[ae,ae,ae,ae,ae,ae,ae,ae,ae],[ae,ae,ae,ae,ae,ae,ae,ae,ae,ae],[ae,ae,ae,ae,ae,ae,ae,ae,ae,ae,ae],[ae,ae,ae,ae,ae,ae,ae,ae,ae,ae,ae,ae],[ae,ae,ae,ae,ae,ae,ae,ae,ae,ae,ae,ae,ae],[ae,ae,ae,ae,ae,ae,ae,ae,ae,ae,ae,ae,ae,ae],[ae,ae,ae,ae,ae,ae,ae,ae,ae,ae,ae,ae,ae,af,af],[ae,ae,ae,ae,ae,ae,ae,ae,ae,ae,ae,ae,ae,af,af,ae],[ae,ae,ae,ae,ae,ae,ae,ae,ae,ae,ae,ae,ae,af,af,ae,ae],[ae,ae,ae,ae,ae,ae,ae,ae,ae,ae,ae,ae,ae,af,af,ae,ae,ae],[ae,ae,ae,ae,ae,ae,ae,ae,ae,ae,ae,ae,ae,af,af,ae,ae,ae,ae]] [0, 1, 0, 0, 1, 0, 0, 0, 0, 1, 0, 0, 0, 0, 1, 0, 0, 0, 1, 1] [.pure, .mU (.bool false), .pure, .pure, .mU (.int .i64 rk), .pure, .pure, .pure, .pure, .mU (.int .i64 rw), .pure, .pure, .pure, .pure, .mU (.int .i64 rw), .pure, .pure, .pure, .mU (.pointer (some ⟨d, 0, none⟩)), .mU (.int .i64 nl)] (by kernel_rfl) (by kernel_rfl) rfl rfl ⟨trivial, Reg2.tt, trivial, trivial, Reg2.tt, trivial, trivial, trivial, trivial, Reg2.tt, trivial, trivial, trivial, trivial, Reg2.tt, trivial, trivial, trivial, Reg2.tt, Reg2.tt, trivial⟩ ⟨rfl, rfl, rfl, Nat.le_refl _, fun _ _ => rfl⟩ ?_
 dsimp only [Reg2.mk, List.zip, List.zipWith, List.take]
 repeat (refine' Reg2.ai _ (by rfl) (fun wz => ?_) ?_; rotate_left; (go_simp; first | rfl | rw [if_neg (by omega)]); simp only [Act.put, xA, xB, xC]; (try simp only [xD]); (try simp only [xE]); (try simp only [id]))
 refine Reg2.pm (fun wz hI hF => ?_) (fun r1 => ?_) (by rfl)
 ·go_wp2_with (go_at_call 51; go_must (refine (hno wz hI).mono ?_); rintro e w' ⟨rfl, rfl⟩)
  first | exact ⟨_, rfl, rfl, Reg2.Ext.refl _⟩ | exact ⟨_, rfl, ⟨(), rfl, trivial⟩, Reg2.Ext.refl _⟩
 simp only [Act.put, xA, xB, xC]; (try simp only [xD]); (try simp only [xE]); (try simp only [id])
 repeat (refine' Reg2.ai _ (by rfl) (fun wz => ?_) ?_; rotate_left; (go_simp; first | rfl | rw [if_neg (by omega)]); simp only [Act.put, xA, xB, xC]; (try simp only [xD]); (try simp only [xE]); (try simp only [id]))
 refine Reg2.pm (fun wz hI hF => ?_) (fun r4 => ?_) (by rfl)
 ·have q0 : wz.cell? ⟨w.heap.size, 0, none⟩ = some (.int .i64 rk) := by simp [World.cell?, (hI.block _ (aG iq.out)).trans iq.out, e0]
  go_wp2_with fail
  first | exact ⟨_, rfl, rfl, Reg2.Ext.refl _⟩ | exact ⟨_, rfl, ⟨(), rfl, trivial⟩, Reg2.Ext.refl _⟩
 simp only [Act.put, xA, xB, xC]; (try simp only [xD]); (try simp only [xE]); (try simp only [id])
 repeat (refine' Reg2.ai _ (by rfl) (fun wz => ?_) ?_; rotate_left; (go_simp; first | rfl | rw [if_neg (by omega)]); simp only [Act.put, xA, xB, xC]; (try simp only [xD]); (try simp only [xE]); (try simp only [id]))
 refine Reg2.pm (fun wz hI hF => ?_) (fun r9 => ?_) (by rfl)
 ·have q0 : wz.cell? ⟨w.heap.size, 3, none⟩ = some (.int .i64 rw) := by simp [World.cell?, (hI.block _ (aG iq.out)).trans iq.out, e3]
  go_wp2_with fail
  first | exact ⟨_, rfl, rfl, Reg2.Ext.refl _⟩ | exact ⟨_, rfl, ⟨(), rfl, trivial⟩, Reg2.Ext.refl _⟩
 simp only [Act.put, xA, xB, xC]; (try simp only [xD]); (try simp only [xE]); (try simp only [id])
 repeat (refine' Reg2.ai _ (by rfl) (fun wz => ?_) ?_; rotate_left; (go_simp; first | rfl | rw [if_neg (by omega)]); simp only [Act.put, xA, xB, xC]; (try simp only [xD]); (try simp only [xE]); (try simp only [id]))
 refine Reg2.pm (fun wz hI hF => ?_) (fun Ck => ?_) (by rfl)
 ·have q0 : wz.cell? ⟨w.heap.size, 3, none⟩ = some (.int .i64 rw) := by simp [World.cell?, (hI.block _ (aG iq.out)).trans iq.out, e3]
  go_wp2_with fail
  first | exact ⟨_, rfl, rfl, Reg2.Ext.refl _⟩ | exact ⟨_, rfl, ⟨(), rfl, trivial⟩, Reg2.Ext.refl _⟩
 simp only [Act.put, xA, xB, xC]; (try simp only [xD]); (try simp only [xE]); (try simp only [id])
 repeat (refine' Reg2.ai _ (by rfl) (fun wz => ?_) ?_; rotate_left; (go_simp; first | rfl | rw [if_neg (by omega)]); simp only [Act.put, xA, xB, xC]; (try simp only [xD]); (try simp only [xE]); (try simp only [id]))
 refine Reg2.pm (fun wz hI hF => ?_) (fun TZ => ?_) (by rfl)
 ·have c0 := (iZ.out.kept hI).c1
  go_wp2_with fail
  first | exact ⟨_, rfl, rfl, Reg2.Ext.refl _⟩ | exact ⟨_, rfl, ⟨(), rfl, trivial⟩, Reg2.Ext.refl _⟩
 simp only [Act.put, xA, xB, xC]; (try simp only [xD]); (try simp only [xE]); (try simp only [id])
 refine Reg2.pm (fun wz hI hF => ?_) (fun Vt => ?_) (by rfl)
 ·go_wp2_with (go_at_call 52; go_must (refine (hsz wz hI).mono ?_); rintro e w' ⟨rfl, rfl⟩)
  first | exact ⟨_, rfl, rfl, Reg2.Ext.refl _⟩ | exact ⟨_, rfl, ⟨(), rfl, trivial⟩, Reg2.Ext.refl _⟩
 simp only [Act.put, xA, xB, xC]; (try simp only [xD]); (try simp only [xE]); (try simp only [id])
 refine Reg2.aC ?_
 intro w7 jZ _ kG
 clear kG
 dsimp only [List.drop]
 have kV := bR.out.trans (jZ.mono bR.out.size)
 have zu : w7.heap[w.heap.size]? = some (.cells cR.toArray 32 (0, 0)) := (jZ.block _ (aG iq.out)).trans iq.out
 have RU := fQ zu lR
 have Ua := Nk w7
 go_wp2_with (go_at_call 156; go_must (refine Ua.mono ?_); rintro e w8 ⟨rfl, ob, rfl⟩)
 go_ret
 exact ⟨rfl, kV.alloc kV.size _⟩
theorem uo (h : CW w c t d p v g a m P) (hl : ib P.T) (r : Rq) : Calls Tryz.prog 136 #[.pointer (some ⟨c, 0, none⟩), .agg (encR r).toArray] w fun e w' => e = .returned (.int .i64 (mK P.T.length r)) ∧ Below w.heap.size w w' := by
 unfold mK
 by_cases h1 : r.kind = 1
 ·by_cases h2 : r.width ≤ 64
  ·by_cases h3 : r.width ≤ P.T.length
   ·rw [if_neg (by omega)]; exact H6 h hl r h1 h2 h3
   ·by_cases h4 : aT r = 1
    ·rw [if_neg (by simp [h4])]; exact Ka h hl r h1 h2 h3 h4
    ·rw [if_pos ⟨h1, by omega, h2, h4⟩]; exact H7 h hl r h1 h2 h3 h4
  ·rw [if_neg (by omega)]; exact H5 h hl r h1 (by omega)
 ·rw [if_neg (by simp [h1])]; exact HZ h hl r h1
end
end Go.Proofs.YtnihdgcfamoplaaGreat

namespace Go.Proofs.YtnihdgcfamoplaaGreat
open Go.RowKit Go.Lib Go.Sort
def ic (w : World) (b c t d p : Nat) (v : Value) (g a : Nat) (m : Int) (R : Wk) (P : Pg) (W : World) : Prop := ∃ v' g', SW W b c t d p v' g' a m R P ∧ WS w W b c t d p v g v' g'
theorem ic.ext {w : World} {b c t d p g a : Nat} {v : Value} {m : Int} {R : Wk} {P : Pg} : ∀ (x y : World), Reg2.Ext x y → ic w b c t d p v g a m R P x → ic w b c t d p v g a m R P y := by
 rintro x y h ⟨v', g', h1, h2⟩
 exact ⟨v', g', h1.kept h, h2.trans (WS.of_below h)⟩
def ku (e : Int) : Ry := ⟨e, 0, 0, 0, 0, 0, 0, 0, 0⟩
def toW (r : Rq) : Rw := ⟨r.kind, r.id, r.user, r.width, r.limit, r.prio, r.held, r.node, r.till⟩
theorem Dz {M : Md} (x : Jb) (h1 : x.st ≠ 3) (h2 : ak x = false) : aj { M with L := M.L ++ [x] } = { aj M with J := M.L ++ [x] } := by
 have e1 : dC { M with L := M.L ++ [x] } = dC M := by
  refine oG (by rw [bG, bG]) fun n hn => ?_
  rw [dA, dA]
  unfold aU
  rw [show ({ M with L := M.L ++ [x] } : Md).L = M.L ++ [x] from rfl, wu M.L x _ (by unfold aI; simp [h1])]
 have e2 : (fun t => ay { M with L := M.L ++ [x] } t 0) = fun t => ay M t 0 := funext fun t => zX x h1 h2 t 0
 unfold aj
 rw [e1, e2]
section
variable {w : World} {b c t d p g a : Nat} {v : Value} {m : Int} {M : Md} {R : Wk}
theorem Cm (h : SW w b c t d p v g a m R (aj M)) (hk : PK (aj M)) (hw : mK M.dr.length R.ag = 9) :
  Calls Tryz.prog 119 #[.pointer (some ⟨b, 0, none⟩), .pointer (some ⟨c, 0, none⟩)] w (au w b c t d p v g a m .nilFunc { R with rep := ku 9, ok := false } (aj M)) := by
 have zR := lu
 have zJ := bL
 obtain ⟨k9, bS⟩ : ∃ k, k = 9 := ⟨_, rfl⟩
 obtain ⟨k, hkk⟩ : ∃ k, k = 10 := ⟨_, rfl⟩
 rw [← bS] at zR
 rw [← hkk] at zJ
 have hk0 : ¬ k9 = 0 := by omega
 have hk1 : ¬ k = 0 := by omega
 have lR := iU R.ag
 rw [← bS] at lR
 replace bS := Lib.hid bS
 replace hkk := Lib.hid hkk
 have hS := Lib.hid h
 have qw := h.wk.mR lR
 have Nl : Hid (∀ W, Below w.heap.size w W → Sem.run Tryz.prog (loadCellsFrom ⟨b, 0, none⟩ 0 k9 #[]) W = .ok (encR R.ag).toArray W) := fun W hW => (h.kept hW).wk.mR lR
 have qU := uo h.cw hk.qo R.ag
 have hsub := fun (W : World) (hW : Below w.heap.size w W) => pz (h.kept hW).cw hk R.ag
 have hn : (aj M).T.length = M.dr.length := bG
 rw [hn] at qU
 replace hn := Lib.hid hn
 generalize encR R.ag = cR at *
 rw [hw] at qU
 clear h hsub
 go_enter Tryz.func119, Tryz.ntmps119
 go_wp2_with fail
 go_at_call 136
 refine qU.mono ?_
 clear qU qw
 rintro e w1 ⟨rfl, hb1⟩
 have hS1 := hS.out.kept hb1
 have hf := iI hS1.wk 9
 go_wp2_with (go_at_call 95; go_must (refine hf.mono ?_); rintro e w9 ⟨rfl, kv, Qb⟩)
 go_ret
 exact ⟨rfl, v, g, hS1.work kv Qb, (WS.of_below hb1).trans (WS.bH Qb)⟩
theorem submit_bad (h : SW w b c t d p v g a m R (aj M)) (hk : PK (aj M)) (hw : mK M.dr.length R.ag = 0) (e0 : Int) (he0 : e0 ≠ 0) (hE : jg M.L R.ag = e0) :
  Calls Tryz.prog 119 #[.pointer (some ⟨b, 0, none⟩), .pointer (some ⟨c, 0, none⟩)] w (au w b c t d p v g a m .nilFunc { R with rep := ku e0, ok := false } (aj M)) := by
 have zR := lu
 have zJ := bL
 obtain ⟨k9, bS⟩ : ∃ k, k = 9 := ⟨_, rfl⟩
 obtain ⟨k, hkk⟩ : ∃ k, k = 10 := ⟨_, rfl⟩
 rw [← bS] at zR
 rw [← hkk] at zJ
 have hk0 : ¬ k9 = 0 := by omega
 have hk1 : ¬ k = 0 := by omega
 have lR := iU R.ag
 rw [← bS] at lR
 replace bS := Lib.hid bS
 replace hkk := Lib.hid hkk
 have hS := Lib.hid h
 have qw := h.wk.mR lR
 have Nl : Hid (∀ W, Below w.heap.size w W → Sem.run Tryz.prog (loadCellsFrom ⟨b, 0, none⟩ 0 k9 #[]) W = .ok (encR R.ag).toArray W) := fun W hW => (h.kept hW).wk.mR lR
 have qU := uo h.cw hk.qo R.ag
 have hsub := fun (W : World) (hW : Below w.heap.size w W) => pz (h.kept hW).cw hk R.ag
 have hn : (aj M).T.length = M.dr.length := bG
 rw [hn] at qU
 replace hn := Lib.hid hn
 generalize encR R.ag = cR at *
 rw [hw] at qU
 unfold fB at hsub
 obtain ⟨Qc, qy⟩ : ∃ x, x = lD (aj M).J R.ag := ⟨_, rfl⟩
 obtain ⟨se, hse⟩ : ∃ x, x = jg (aj M).J R.ag := ⟨_, rfl⟩
 rw [← qy, ← hse] at hsub
 have hL : oW (aj M).J R.ag = M.L := by
  have hE2 := hE
  unfold jg at hE2
  show oW M.L R.ag = M.L
  unfold oW
  split
  ·rfl
  ·rename_i h1
   rw [if_neg h1] at hE2
   split
   ·rfl
   ·rename_i h2
    rw [if_neg h2] at hE2
    omega
 rw [hL, show ({ aj M with J := M.L } : Pg) = aj M from rfl] at hsub
 have H8 : se = e0 := hse.trans hE
 subst H8
 replace qy := Lib.hid qy
 replace hse := Lib.hid hse
 replace hL := Lib.hid hL
 have d0 : (se != 0) = true := by simp [he0]
 clear h
 go_enter Tryz.func119, Tryz.ntmps119
 go_wp2_with fail
 go_at_call 136
 refine qU.mono ?_
 clear qU qw
 rintro e w1 ⟨rfl, hb1⟩
 have hS1 := Lib.hid (hS.out.kept hb1)
 go_wp2_with fail
 refine Reg2.rP 13 49 [[],[ae],[ae,ae],[ae,ae,ae],[af,af,af,af],[af,af,af,af,ae],[af,af,af,af,ae,ae],[af,af,af,af,ae,ae,ae],[ae,ae,ae,ae,ae,ae,ae,ae],[ae,ae,ae,ae,ae,ae,ae,ae,ae],[ae,ae,ae,ae,ae,ae,ae,ae,ae,ae],[ae,ae,ae,ae,ae,ae,ae,ae,ae,ae,af],[ae,ae,ae,ae,ae,ae,ae,ae,ae,ae,ae,af]] [0, 0, 0, 2, 0, 0, 0, 2, 3, 0, 0, 0, 0]
  [.pure, .pure, .pure, .pinned Unit () (fun _ => .pointer (some ⟨t, 0, none⟩)) (fun _ _ => True), .pure, .pure, .pure, .pinned Unit () (fun _ => .agg cR.toArray) (fun _ _ => True), .major Unit () (fun _ => .tuple #[.int .i64 Qc, .int .i64 se]), .pure, .pure, .pure, .pure]
  (fun _ => True) (fun vs W => match vs with | [] => Below w1.heap.size w1 W | _ :: _ => (ic w b c t d p v g a m R (aj M)) W) (fun _ _ => True) (by kernel_rfl) (by kernel_rfl) rfl rfl (fun vs a b h hs => by cases vs with | nil => exact Below.trans hs (h.mono (Below.size hs)) | cons v vs => exact ic.ext a b h hs) ?_ ?_ ?_ ?_ ?_ ?_
 ·intro a b he hb; trivial
 ·intro a b he hb; trivial
 ·exact ⟨trivial, trivial, trivial, ⟨fun _ _ _ _ _ => trivial, fun _ _ _ _ _ => trivial⟩, trivial, trivial, trivial, ⟨fun _ _ _ _ _ => trivial, fun _ _ _ _ _ => trivial⟩, trivial, trivial, trivial, trivial, trivial, trivial⟩
 ·trivial
 ·exact ⟨rfl, rfl, rfl, Nat.le_refl _, fun _ _ => rfl⟩
 dsimp only [Reg2.mk, List.zip, List.zipWith, List.take]
 repeat (refine' Reg2.ai _ (by rfl) (fun wz => ?_) ?_; rotate_left; (go_simp; first | rfl | rw [if_neg (by omega)]); simp only [Act.put, xA, xB, xC]; (try simp only [xD]); (try simp only [xE]); (try simp only [id]))
 refine Reg2.pp (fun wz _ hI hF => ?_) (fun r3 => ?_) (by rfl)
 ·have c0 := (hS1.out.cw.kept hI).c0
  go_wp2_with fail
  first | exact ⟨_, rfl, rfl, Reg2.Ext.refl _⟩ | exact ⟨_, rfl, ⟨(), rfl, trivial⟩, Reg2.Ext.refl _⟩
 simp only [Act.put, xA, xB, xC]; (try simp only [xD]); (try simp only [xE]); (try simp only [id])
 repeat (refine' Reg2.ai _ (by rfl) (fun wz => ?_) ?_; rotate_left; (go_simp; first | rfl | rw [if_neg (by omega)]); simp only [Act.put, xA, xB, xC]; (try simp only [xD]); (try simp only [xE]); (try simp only [id]))
 refine Reg2.pp (fun wz _ hI hF => ?_) (fun r7 => ?_) (by rfl)
 ·have d0 := Nl.out wz (hb1.trans (Below.mono hI hb1.size))
  go_wp2_with fail
  first | exact ⟨_, rfl, rfl, Reg2.Ext.refl _⟩ | exact ⟨_, rfl, ⟨(), rfl, trivial⟩, Reg2.Ext.refl _⟩
 simp only [Act.put, xA, xB, xC]; (try simp only [xD]); (try simp only [xE]); (try simp only [id])
 refine Reg2.pj (fun wz _ hI hF => ?_) (fun r8 => ?_) (by rfl)
 ·go_wp2_with (go_at_call 137; go_must (refine (hsub wz (hb1.trans (Below.mono hI hb1.size))).mono ?_); rintro e w' ⟨rfl, v4, g4, oM, bN⟩)
  have hpost : ic w b c t d p v g a m R (aj M) w' := ⟨v4, g4, (hS1.out.kept hI).core oM bN, (WS.of_below (hb1.trans (Below.mono hI hb1.size))).trans (WS.dE bN)⟩
  exact ⟨_, rfl, ⟨⟨(), rfl⟩, hpost⟩, trivial⟩
 simp only [Act.put, xA, xB, xC]; (try simp only [xD]); (try simp only [xE]); (try simp only [id])
 repeat (refine' Reg2.ai _ (by rfl) (fun wz => ?_) ?_; rotate_left; (go_simp; first | rfl | rw [if_neg (by omega)]); simp only [Act.put, xA, xB, xC]; (try simp only [xD]); (try simp only [xE]); (try simp only [id]))
 refine Reg2.aC ?_
 intro w7 _ rG kG
 clear kG
 dsimp only [List.drop]
 obtain ⟨v7, g7, gM, xX⟩ : ic w b c t d p v g a m R (aj M) w7 := rG
 have hf := iI gM.wk se
 go_wp2_with (go_at_call 95; go_must (refine hf.mono ?_); rintro e w9 ⟨rfl, kv, Qb⟩)
 go_ret
 exact ⟨rfl, v7, g7, gM.work kv Qb, xX.trans (WS.bH Qb)⟩
theorem Bn (h : SW w b c t d p v g a m R (aj M)) (hk : PK (aj M)) (hw : mK M.dr.length R.ag = 0) (hE : jg M.L R.ag = 0) (hh : R.ag.held = true) :
  Calls Tryz.prog 119 #[.pointer (some ⟨b, 0, none⟩), .pointer (some ⟨c, 0, none⟩)] w (au w b c t d p v g a m .nilFunc { R with rep := iX (cZ M (toW R.ag)), aD := cZ M (toW R.ag) } (aj { M with L := M.L ++ [cZ M (toW R.ag)] })) := by
 have zR := lu
 have zJ := bL
 obtain ⟨k9, bS⟩ : ∃ k, k = 9 := ⟨_, rfl⟩
 obtain ⟨k, hkk⟩ : ∃ k, k = 10 := ⟨_, rfl⟩
 rw [← bS] at zR
 rw [← hkk] at zJ
 have hk0 : ¬ k9 = 0 := by omega
 have hk1 : ¬ k = 0 := by omega
 have lR := iU R.ag
 rw [← bS] at lR
 replace bS := Lib.hid bS
 replace hkk := Lib.hid hkk
 have hS := Lib.hid h
 have qw := h.wk.mR lR
 have Nl : Hid (∀ W, Below w.heap.size w W → Sem.run Tryz.prog (loadCellsFrom ⟨b, 0, none⟩ 0 k9 #[]) W = .ok (encR R.ag).toArray W) := fun W hW => (h.kept hW).wk.mR lR
 have qU := uo h.cw hk.qo R.ag
 have hsub := fun (W : World) (hW : Below w.heap.size w W) => pz (h.kept hW).cw hk R.ag
 have hn : (aj M).T.length = M.dr.length := bG
 rw [hn] at qU
 replace hn := Lib.hid hn
 generalize encR R.ag = cR at *
 rw [hw] at qU
 unfold fB at hsub
 obtain ⟨Qc, qy⟩ : ∃ x, x = lD (aj M).J R.ag := ⟨_, rfl⟩
 obtain ⟨se, hse⟩ : ∃ x, x = jg (aj M).J R.ag := ⟨_, rfl⟩
 rw [← qy, ← hse] at hsub
 have hL : oW (aj M).J R.ag = M.L ++ [cZ M (toW R.ag)] := by
  have hE2 := hE
  unfold jg at hE2
  show oW M.L R.ag = _
  unfold oW
  split
  ·rename_i h1; rw [if_pos h1] at hE2; omega
  ·rename_i h1
   rw [if_neg h1] at hE2
   split
   ·rename_i h2; rw [if_pos h2] at hE2; omega
   ·rfl
 have hI0 : lD (aj M).J R.ag = (M.L.length : Int) + 1 := by
  have hE2 := hE
  unfold jg at hE2
  show lD M.L R.ag = _
  unfold lD
  split
  ·rename_i h1; rw [if_pos h1] at hE2; omega
  ·rename_i h1
   rw [if_neg h1] at hE2
   split
   ·rename_i h2; rw [if_pos h2] at hE2; omega
   ·rfl
 obtain ⟨x, hx⟩ : ∃ x, x = cZ M (toW R.ag) := ⟨_, rfl⟩
 have hxs : x.st = if R.ag.held then 2 else 1 := by rw [hx]; rfl
 have hxp : x.aL = -1 := by rw [hx]; rfl
 have hcore := Dz (M := M) x (by rw [hxs]; split <;> decide) (by unfold ak; rw [hxp]; simp)
 rw [hL, ← hx, show ({ aj M with J := M.L ++ [x] } : Pg) = aj { M with L := M.L ++ [x] } from hcore.symm] at hsub
 rw [← hx]
 have hget : bM (M.L ++ [x]) ((M.L.length : Int) + 1) = x := by
  unfold bM
  rw [if_neg (by omega), if_neg (by simp), show ((M.L.length : Int) + 1 - 1).toNat = M.L.length by omega]
  simp
 have H8 : se = 0 := hse.trans hE
 have Kb : Qc = (M.L.length : Int) + 1 := qy.trans hI0
 subst H8
 subst Kb
 replace qy := Lib.hid qy
 replace hse := Lib.hid hse
 replace hL := Lib.hid hL
 replace hx := Lib.hid hx
 replace hcore := Lib.hid hcore
 replace hI0 := Lib.hid hI0
 clear h
 rw [hh] at hxs
 replace hxs : x.st = 2 := hxs
 go_enter Tryz.func119, Tryz.ntmps119
 go_wp2_with fail
 go_at_call 136
 refine qU.mono ?_
 clear qU qw
 rintro e w1 ⟨rfl, hb1⟩
 have hS1 := Lib.hid (hS.out.kept hb1)
 go_wp2_with fail
 refine Reg2.rP 13 49 [[],[ae],[ae,ae],[ae,ae,ae],[af,af,af,af],[af,af,af,af,ae],[af,af,af,af,ae,ae],[af,af,af,af,ae,ae,ae],[ae,ae,ae,ae,ae,ae,ae,ae],[ae,ae,ae,ae,ae,ae,ae,ae,ae],[ae,ae,ae,ae,ae,ae,ae,ae,ae,ae],[ae,ae,ae,ae,ae,ae,ae,ae,ae,ae,af],[ae,ae,ae,ae,ae,ae,ae,ae,ae,ae,ae,af]] [0, 0, 0, 2, 0, 0, 0, 2, 3, 0, 0, 0, 0]
  [.pure, .pure, .pure, .pinned Unit () (fun _ => .pointer (some ⟨t, 0, none⟩)) (fun _ _ => True), .pure, .pure, .pure, .pinned Unit () (fun _ => .agg cR.toArray) (fun _ _ => True), .major Unit () (fun _ => .tuple #[.int .i64 ((M.L.length : Int) + 1), .int .i64 0]), .pure, .pure, .pure, .pure]
  (fun _ => True) (fun vs W => match vs with | [] => Below w1.heap.size w1 W | _ :: _ => (ic w b c t d p v g a m R (aj { M with L := M.L ++ [x] })) W) (fun _ _ => True) (by kernel_rfl) (by kernel_rfl) rfl rfl (fun vs a b h hs => by cases vs with | nil => exact Below.trans hs (h.mono (Below.size hs)) | cons v vs => exact ic.ext a b h hs) ?_ ?_ ?_ ?_ ?_ ?_
 ·intro a b he hb; trivial
 ·intro a b he hb; trivial
 ·exact ⟨trivial, trivial, trivial, ⟨fun _ _ _ _ _ => trivial, fun _ _ _ _ _ => trivial⟩, trivial, trivial, trivial, ⟨fun _ _ _ _ _ => trivial, fun _ _ _ _ _ => trivial⟩, trivial, trivial, trivial, trivial, trivial, trivial⟩
 ·trivial
 ·exact ⟨rfl, rfl, rfl, Nat.le_refl _, fun _ _ => rfl⟩
 dsimp only [Reg2.mk, List.zip, List.zipWith, List.take]
 repeat (refine' Reg2.ai _ (by rfl) (fun wz => ?_) ?_; rotate_left; (go_simp; first | rfl | rw [if_neg (by omega)]); simp only [Act.put, xA, xB, xC]; (try simp only [xD]); (try simp only [xE]); (try simp only [id]))
 refine Reg2.pp (fun wz _ hI hF => ?_) (fun r3 => ?_) (by rfl)
 ·have c0 := (hS1.out.cw.kept hI).c0
  go_wp2_with fail
  first | exact ⟨_, rfl, rfl, Reg2.Ext.refl _⟩ | exact ⟨_, rfl, ⟨(), rfl, trivial⟩, Reg2.Ext.refl _⟩
 simp only [Act.put, xA, xB, xC]; (try simp only [xD]); (try simp only [xE]); (try simp only [id])
 repeat (refine' Reg2.ai _ (by rfl) (fun wz => ?_) ?_; rotate_left; (go_simp; first | rfl | rw [if_neg (by omega)]); simp only [Act.put, xA, xB, xC]; (try simp only [xD]); (try simp only [xE]); (try simp only [id]))
 refine Reg2.pp (fun wz _ hI hF => ?_) (fun r7 => ?_) (by rfl)
 ·have d0 := Nl.out wz (hb1.trans (Below.mono hI hb1.size))
  go_wp2_with fail
  first | exact ⟨_, rfl, rfl, Reg2.Ext.refl _⟩ | exact ⟨_, rfl, ⟨(), rfl, trivial⟩, Reg2.Ext.refl _⟩
 simp only [Act.put, xA, xB, xC]; (try simp only [xD]); (try simp only [xE]); (try simp only [id])
 refine Reg2.pj (fun wz _ hI hF => ?_) (fun r8 => ?_) (by rfl)
 ·go_wp2_with (go_at_call 137; go_must (refine (hsub wz (hb1.trans (Below.mono hI hb1.size))).mono ?_); rintro e w' ⟨rfl, v4, g4, oM, bN⟩)
  have hpost : ic w b c t d p v g a m R (aj { M with L := M.L ++ [x] }) w' := ⟨v4, g4, (hS1.out.kept hI).core oM bN, (WS.of_below (hb1.trans (Below.mono hI hb1.size))).trans (WS.dE bN)⟩
  exact ⟨_, rfl, ⟨⟨(), rfl⟩, hpost⟩, trivial⟩
 simp only [Act.put, xA, xB, xC]; (try simp only [xD]); (try simp only [xE]); (try simp only [id])
 repeat (refine' Reg2.ai _ (by rfl) (fun wz => ?_) ?_; rotate_left; (go_simp; first | rfl | rw [if_neg (by omega)]); simp only [Act.put, xA, xB, xC]; (try simp only [xD]); (try simp only [xE]); (try simp only [id]))
 refine Reg2.aC ?_
 intro w7 _ rG kG
 clear kG
 dsimp only [List.drop]
 obtain ⟨v7, g7, gM, xX⟩ : ic w b c t d p v g a m R (aj { M with L := M.L ++ [x] }) w7 := rG
 have ky := nN gM ((M.L.length : Int) + 1)
 rw [show (aj { M with L := M.L ++ [x] }).J = M.L ++ [x] from rfl, hget] at ky
 go_wp2_with fail
 go_at_call 114
 refine ky.mono ?_
 clear ky
 rintro e w8 ⟨rfl, dU, gy⟩
 have gT := gM.work dU gy
 have Qd := xX.trans (WS.bH gy)
 obtain ⟨Vu, kv⟩ := dU.sU x
 have lJ := ax x
 rw [← hkk.out] at lJ
 have gz := gT.work kv (dh w8 _)
 have hfin := Qd.trans (WS.bH (dh w8 (gH { ({ R with rep := iX x } : Wk) with aD := x }).toArray))
 have c17 := kv.at 17 (.int .i64 2) (by rw [← hxs]; rfl)
 generalize gH { ({ R with rep := iX x } : Wk) with aD := x } = W9 at *
 generalize ah x = cJ at *
 go_wp2_with fail
 go_ret
 exact ⟨rfl, v7, g7, gz, hfin⟩
theorem H9 (h : SW w b c t d p v g a m R (aj M)) (hk : PK (aj M)) (hw : mK M.dr.length R.ag = 0) (hE : jg M.L R.ag = 0) (hh : R.ag.held = false) :
  Calls Tryz.prog 119 #[.pointer (some ⟨b, 0, none⟩), .pointer (some ⟨c, 0, none⟩)] w (au w b c t d p v g a m (fP 138) { R with rep := iX (cZ M (toW R.ag)), aD := cZ M (toW R.ag) } (aj { M with L := M.L ++ [cZ M (toW R.ag)] })) := by
 have zR := lu
 have zJ := bL
 obtain ⟨k9, bS⟩ : ∃ k, k = 9 := ⟨_, rfl⟩
 obtain ⟨k, hkk⟩ : ∃ k, k = 10 := ⟨_, rfl⟩
 rw [← bS] at zR
 rw [← hkk] at zJ
 have hk0 : ¬ k9 = 0 := by omega
 have hk1 : ¬ k = 0 := by omega
 have lR := iU R.ag
 rw [← bS] at lR
 replace bS := Lib.hid bS
 replace hkk := Lib.hid hkk
 have hS := Lib.hid h
 have qw := h.wk.mR lR
 have Nl : Hid (∀ W, Below w.heap.size w W → Sem.run Tryz.prog (loadCellsFrom ⟨b, 0, none⟩ 0 k9 #[]) W = .ok (encR R.ag).toArray W) := fun W hW => (h.kept hW).wk.mR lR
 have qU := uo h.cw hk.qo R.ag
 have hsub := fun (W : World) (hW : Below w.heap.size w W) => pz (h.kept hW).cw hk R.ag
 have hn : (aj M).T.length = M.dr.length := bG
 rw [hn] at qU
 replace hn := Lib.hid hn
 generalize encR R.ag = cR at *
 rw [hw] at qU
 unfold fB at hsub
 obtain ⟨Qc, qy⟩ : ∃ x, x = lD (aj M).J R.ag := ⟨_, rfl⟩
 obtain ⟨se, hse⟩ : ∃ x, x = jg (aj M).J R.ag := ⟨_, rfl⟩
 rw [← qy, ← hse] at hsub
 have hL : oW (aj M).J R.ag = M.L ++ [cZ M (toW R.ag)] := by
  have hE2 := hE
  unfold jg at hE2
  show oW M.L R.ag = _
  unfold oW
  split
  ·rename_i h1; rw [if_pos h1] at hE2; omega
  ·rename_i h1
   rw [if_neg h1] at hE2
   split
   ·rename_i h2; rw [if_pos h2] at hE2; omega
   ·rfl
 have hI0 : lD (aj M).J R.ag = (M.L.length : Int) + 1 := by
  have hE2 := hE
  unfold jg at hE2
  show lD M.L R.ag = _
  unfold lD
  split
  ·rename_i h1; rw [if_pos h1] at hE2; omega
  ·rename_i h1
   rw [if_neg h1] at hE2
   split
   ·rename_i h2; rw [if_pos h2] at hE2; omega
   ·rfl
 obtain ⟨x, hx⟩ : ∃ x, x = cZ M (toW R.ag) := ⟨_, rfl⟩
 have hxs : x.st = if R.ag.held then 2 else 1 := by rw [hx]; rfl
 have hxp : x.aL = -1 := by rw [hx]; rfl
 have hcore := Dz (M := M) x (by rw [hxs]; split <;> decide) (by unfold ak; rw [hxp]; simp)
 rw [hL, ← hx, show ({ aj M with J := M.L ++ [x] } : Pg) = aj { M with L := M.L ++ [x] } from hcore.symm] at hsub
 rw [← hx]
 have hget : bM (M.L ++ [x]) ((M.L.length : Int) + 1) = x := by
  unfold bM
  rw [if_neg (by omega), if_neg (by simp), show ((M.L.length : Int) + 1 - 1).toNat = M.L.length by omega]
  simp
 have H8 : se = 0 := hse.trans hE
 have Kb : Qc = (M.L.length : Int) + 1 := qy.trans hI0
 subst H8
 subst Kb
 replace qy := Lib.hid qy
 replace hse := Lib.hid hse
 replace hL := Lib.hid hL
 replace hx := Lib.hid hx
 replace hcore := Lib.hid hcore
 replace hI0 := Lib.hid hI0
 clear h
 rw [hh] at hxs
 replace hxs : x.st = 1 := hxs
 go_enter Tryz.func119, Tryz.ntmps119
 go_wp2_with fail
 go_at_call 136
 refine qU.mono ?_
 clear qU qw
 rintro e w1 ⟨rfl, hb1⟩
 have hS1 := Lib.hid (hS.out.kept hb1)
 go_wp2_with fail
 refine Reg2.rP 13 49 [[],[ae],[ae,ae],[ae,ae,ae],[af,af,af,af],[af,af,af,af,ae],[af,af,af,af,ae,ae],[af,af,af,af,ae,ae,ae],[ae,ae,ae,ae,ae,ae,ae,ae],[ae,ae,ae,ae,ae,ae,ae,ae,ae],[ae,ae,ae,ae,ae,ae,ae,ae,ae,ae],[ae,ae,ae,ae,ae,ae,ae,ae,ae,ae,af],[ae,ae,ae,ae,ae,ae,ae,ae,ae,ae,ae,af]] [0, 0, 0, 2, 0, 0, 0, 2, 3, 0, 0, 0, 0]
  [.pure, .pure, .pure, .pinned Unit () (fun _ => .pointer (some ⟨t, 0, none⟩)) (fun _ _ => True), .pure, .pure, .pure, .pinned Unit () (fun _ => .agg cR.toArray) (fun _ _ => True), .major Unit () (fun _ => .tuple #[.int .i64 ((M.L.length : Int) + 1), .int .i64 0]), .pure, .pure, .pure, .pure]
  (fun _ => True) (fun vs W => match vs with | [] => Below w1.heap.size w1 W | _ :: _ => (ic w b c t d p v g a m R (aj { M with L := M.L ++ [x] })) W) (fun _ _ => True) (by kernel_rfl) (by kernel_rfl) rfl rfl (fun vs a b h hs => by cases vs with | nil => exact Below.trans hs (h.mono (Below.size hs)) | cons v vs => exact ic.ext a b h hs) ?_ ?_ ?_ ?_ ?_ ?_
 ·intro a b he hb; trivial
 ·intro a b he hb; trivial
 ·exact ⟨trivial, trivial, trivial, ⟨fun _ _ _ _ _ => trivial, fun _ _ _ _ _ => trivial⟩, trivial, trivial, trivial, ⟨fun _ _ _ _ _ => trivial, fun _ _ _ _ _ => trivial⟩, trivial, trivial, trivial, trivial, trivial, trivial⟩
 ·trivial
 ·exact ⟨rfl, rfl, rfl, Nat.le_refl _, fun _ _ => rfl⟩
 dsimp only [Reg2.mk, List.zip, List.zipWith, List.take]
 repeat (refine' Reg2.ai _ (by rfl) (fun wz => ?_) ?_; rotate_left; (go_simp; first | rfl | rw [if_neg (by omega)]); simp only [Act.put, xA, xB, xC]; (try simp only [xD]); (try simp only [xE]); (try simp only [id]))
 refine Reg2.pp (fun wz _ hI hF => ?_) (fun r3 => ?_) (by rfl)
 ·have c0 := (hS1.out.cw.kept hI).c0
  go_wp2_with fail
  first | exact ⟨_, rfl, rfl, Reg2.Ext.refl _⟩ | exact ⟨_, rfl, ⟨(), rfl, trivial⟩, Reg2.Ext.refl _⟩
 simp only [Act.put, xA, xB, xC]; (try simp only [xD]); (try simp only [xE]); (try simp only [id])
 repeat (refine' Reg2.ai _ (by rfl) (fun wz => ?_) ?_; rotate_left; (go_simp; first | rfl | rw [if_neg (by omega)]); simp only [Act.put, xA, xB, xC]; (try simp only [xD]); (try simp only [xE]); (try simp only [id]))
 refine Reg2.pp (fun wz _ hI hF => ?_) (fun r7 => ?_) (by rfl)
 ·have d0 := Nl.out wz (hb1.trans (Below.mono hI hb1.size))
  go_wp2_with fail
  first | exact ⟨_, rfl, rfl, Reg2.Ext.refl _⟩ | exact ⟨_, rfl, ⟨(), rfl, trivial⟩, Reg2.Ext.refl _⟩
 simp only [Act.put, xA, xB, xC]; (try simp only [xD]); (try simp only [xE]); (try simp only [id])
 refine Reg2.pj (fun wz _ hI hF => ?_) (fun r8 => ?_) (by rfl)
 ·go_wp2_with (go_at_call 137; go_must (refine (hsub wz (hb1.trans (Below.mono hI hb1.size))).mono ?_); rintro e w' ⟨rfl, v4, g4, oM, bN⟩)
  have hpost : ic w b c t d p v g a m R (aj { M with L := M.L ++ [x] }) w' := ⟨v4, g4, (hS1.out.kept hI).core oM bN, (WS.of_below (hb1.trans (Below.mono hI hb1.size))).trans (WS.dE bN)⟩
  exact ⟨_, rfl, ⟨⟨(), rfl⟩, hpost⟩, trivial⟩
 simp only [Act.put, xA, xB, xC]; (try simp only [xD]); (try simp only [xE]); (try simp only [id])
 repeat (refine' Reg2.ai _ (by rfl) (fun wz => ?_) ?_; rotate_left; (go_simp; first | rfl | rw [if_neg (by omega)]); simp only [Act.put, xA, xB, xC]; (try simp only [xD]); (try simp only [xE]); (try simp only [id]))
 refine Reg2.aC ?_
 intro w7 _ rG kG
 clear kG
 dsimp only [List.drop]
 obtain ⟨v7, g7, gM, xX⟩ : ic w b c t d p v g a m R (aj { M with L := M.L ++ [x] }) w7 := rG
 have ky := nN gM ((M.L.length : Int) + 1)
 rw [show (aj { M with L := M.L ++ [x] }).J = M.L ++ [x] from rfl, hget] at ky
 go_wp2_with fail
 go_at_call 114
 refine ky.mono ?_
 clear ky
 rintro e w8 ⟨rfl, dU, gy⟩
 have gT := gM.work dU gy
 have Qd := xX.trans (WS.bH gy)
 obtain ⟨Vu, kv⟩ := dU.sU x
 have lJ := ax x
 rw [← hkk.out] at lJ
 have gz := gT.work kv (dh w8 _)
 have hfin := Qd.trans (WS.bH (dh w8 (gH { ({ R with rep := iX x } : Wk) with aD := x }).toArray))
 have c17 := kv.at 17 (.int .i64 1) (by rw [← hxs]; rfl)
 generalize gH { ({ R with rep := iX x } : Wk) with aD := x } = W9 at *
 generalize ah x = cJ at *
 go_wp2_with fail
 go_ret
 exact ⟨rfl, v7, g7, gz, hfin⟩
end
end Go.Proofs.YtnihdgcfamoplaaGreat

namespace Go.Proofs.YtnihdgcfamoplaaGreat
open Go.RowKit Go.Lib Go.Sort
section
variable {w : World} {b c t d p g a : Nat} {v : Value} {m : Int} {P : Pg} {R : Wk}
theorem SW.drew (h : SW w b c t d p v g a m R P) : SW w.drew b c t d p v g a m R P := h.kept (Below.refl _ _).drew
theorem WS.xY {w1 : World} {v1 : Value} {g1 : Nat} (h : WS w.drew w1 b c t d p v g v1 g1) : WS w w1 b c t d p v g v1 g1 := (WS.of_below (Below.refl _ _).drew).trans h
theorem CW.Ub (h : CW w c t d p v g a m P) (F : Int → Int) (hf : ∀ t, P.now ≤ t → P.f t = F t) : CW w c t d p v g a m { P with f := F } := by
 obtain ⟨S, aJ, hp, hC, hrest⟩ := h.kT
 exact ⟨h.cell, h.dX, h.nodes, S, aJ, hp, hC.congr hf, hrest⟩
theorem Nn (h : SW w b c t d p v g a m R P) (hk : PK P) (hr : R.aD.st = 3) (hn : 0 ≤ R.aD.bP ∧ R.aD.bP ≤ 18446744073709551615) :
  Calls Tryz.prog 140 #[.pointer (some ⟨b, 0, none⟩), .pointer (some ⟨c, 0, none⟩)] w fun e w' => ∃ (n x : Int) (T' : List Int), AQ P.T R.aD.bP.toNat n x T' ∧ au w b c t d p v g a m (fP 142) { R with idle := n } { P with T := T' } e w' := by
 have hS := Lib.hid h
 have hg := Dt h.drew.cw hk R.aD.bP.toNat (by omega)
 rw [show ((R.aD.bP.toNat : Nat) : Int) = R.aD.bP by omega] at hg
 have c17 := h.wk.at 17 (.int .i64 R.aD.st) rfl
 have c21 := h.wk.at 21 (.int .u64 R.aD.bP) rfl
 have c1 := h.cw.c1
 rw [hr] at c17
 replace hn := Lib.hid hn
 clear h
 go_enter Tryz.func140, Tryz.ntmps140
 go_wp2_with fail
 go_region_with (go_at_call 164; go_must (refine hg.mono ?_); rintro e w' ⟨n, x, T', hG, hL, rfl, v4, g4, oM, bN⟩; have gT := hS.out.drew.core oM bN; have a22 := gT.wk.at 22 (.int .i64 R.idle) rfl; have f22 := gT.wk.free 22)
 all_goals
  have kv := gT.wk.idle n
  have gz := gT.work kv (dB w' 22 (.int .i64 n))
  have hfin := ((WS.dE bN : WS w.drew w' b c t d p v g v4 g4).trans (WS.bH (dB w' 22 (.int .i64 n)))).xY
  go_wp2_with fail
  go_ret
  exact ⟨n, x, T', hG, rfl, v4, g4, gz, hfin⟩
theorem Qe (h : SW w b c t d p v g a m R P) (hr : R.aD.st ≠ 3) :
  Calls Tryz.prog 140 #[.pointer (some ⟨b, 0, none⟩), .pointer (some ⟨c, 0, none⟩)] w (au w b c t d p v g a m (fP 142) R P) := by
 have c17 := h.wk.at 17 (.int .i64 R.aD.st) rfl
 have d0 : (R.aD.st == 3) = false := by simp [hr]
 generalize R.aD.st = s at *
 go_enter Tryz.func140, Tryz.ntmps140
 go_wp2_with fail
 go_ret
 exact ⟨rfl, v, g, h, WS.refl _⟩
theorem Fg (h : SW w b c t d p v g a m R P) (hk : PK P) (ha : a ≤ 800) (hm : m ≤ 1000000) (hP : ak R.aD = true) (hb1 : R.aD.aL ≤ 1099511627776) (hb2 : 0 ≤ R.aD.lim ∧ R.aD.lim ≤ 1048576) (hb3 : 1 ≤ R.aD.lim) (hb4 : 0 ≤ R.aD.wid ∧ R.aD.wid ≤ 64) (F : Int → Int)
  (hF : ∀ t, P.now ≤ t → F t = P.f t + had (max R.aD.aL P.now) (R.aD.aL + R.aD.lim) R.aD.wid t) (hr : ∀ t, P.now ≤ t → 0 ≤ F t ∧ F t ≤ 64) :
  Calls Tryz.prog 142 #[.pointer (some ⟨b, 0, none⟩), .pointer (some ⟨c, 0, none⟩)] w (au w b c t d p v g (a + 2) (m + 1) .nilFunc R { P with f := F }) := by
 have zJ := bL
 have zS := kF
 obtain ⟨k, hk1⟩ : ∃ k, k = 10 := ⟨_, rfl⟩
 obtain ⟨k3, hk3⟩ : ∃ k, k = 3 := ⟨_, rfl⟩
 rw [← hk1] at zJ
 rw [← hk3] at zS
 have hk0 : ¬ k = 0 := by omega
 have yU : ¬ k3 = 0 := by omega
 have lJ := ax R.aD
 rw [← hk1] at lJ
 replace hk1 := Lib.hid hk1
 have hS := Lib.hid h
 have qw := h.wk.mV lJ
 have hpl := kU (w := w) R.aD hb1 hb2
 have lS : (aN R.aD).length = 3 := by unfold aN; split <;> rfl
 have oS : ∀ u ∈ aN R.aD, u.oneCell' = true := by unfold aN; split <;> (intro u hu; simp at hu; rcases hu with rfl | rfl | rfl <;> rfl)
 have ST : Hid (∀ W : World, Sem.run Tryz.prog (storeCells ⟨W.heap.size, 0, none⟩ (aN R.aD) 0) (W.alloc (.cells #[.int .i64 0, .int .i64 0, .int .i64 0] 152)) = .ok () (W.alloc (.cells (aN R.aD).toArray 152))) := fun W => dF W W.heap.size (aN R.aD) [.int .i64 0, .int .i64 0, .int .i64 0] 152 rfl lS oS
 rw [← hk3] at lS
 replace hk3 := Lib.hid hk3
 have hst : ∀ W, SW W b c t d p v g a m R P → W.cell? ⟨b, 17, none⟩ = some (.int .i64 R.aD.st) := fun W hW => hW.wk.at 17 (.int .i64 R.aD.st) rfl
 generalize kX : aN R.aD = cS at *
 replace kX := Lib.hid kX
 generalize ah R.aD = cJ at *
 clear h
 have CP : R.aD.st = 1 := (bC.1 hP).1
 rw [CP] at hst
 have lX : cS = [.int .i64 R.aD.aL, .int .i64 (R.aD.aL + R.aD.lim), .int .i64 R.aD.wid] := by rw [← kX.out]; unfold aN; rw [if_pos hP]
 rw [hP] at hpl
 replace hP := Lib.hid hP
 replace CP := Lib.hid CP
 replace lX := Lib.hid lX
 replace hst := Lib.hid hst
 go_enter Tryz.func142, Tryz.ntmps142
 go_wp2_with fail
 go_at_call 110
 refine hpl.mono ?_
 clear hpl qw
 rintro e w1 ⟨rfl, hb⟩
 have st1 := ST.out w1
 obtain ⟨w2, hw2⟩ : ∃ w2, w2 = w1.alloc (.cells cS.toArray 152) := ⟨_, rfl⟩
 rw [← hw2] at st1
 have hb2' : Below w.heap.size w w2 := by rw [hw2]; exact hb.alloc hb.size _
 have hy2 : Hid (w2.heap[w1.heap.size]? = some (.cells cS.toArray 152 (0, 0))) := by show _ = _; rw [hw2]; exact heap_alloc_new w1 _
 have hs2 : w2.heap.size = w1.heap.size + 1 := by rw [hw2]; simp
 replace hw2 := Lib.hid hw2
 have hS2 := Lib.hid (hS.out.kept hb2')
 go_wp2_with fail
 refine Reg2.rd w2 5 47 [[],[ae],[ae,ae],[ae,ae,ae],[af,af,af,af]] [0, 0, 0, 1, 1] [.pure, .pure, .pure, .mU (.pointer (some ⟨p, 0, none⟩)), .mU (.agg cS.toArray)] (by kernel_rfl) (by kernel_rfl) rfl rfl ⟨trivial, trivial, trivial, Reg2.tt, Reg2.tt, trivial⟩ ⟨rfl, rfl, rfl, Nat.le_refl _, fun _ _ => rfl⟩ ?_
 dsimp only [Reg2.mk, List.zip, List.zipWith, List.take]
 repeat (refine' Reg2.ai _ (by rfl) (fun wz => ?_) ?_; rotate_left; (go_simp; first | rfl | rw [if_neg (by omega)]); simp only [Act.put, xA, xB, xC]; (try simp only [xD]); (try simp only [xE]); (try simp only [id]))
 refine Reg2.pm (fun wz hI hF => ?_) (fun r3 => ?_) (by rfl)
 ·have c0 := (hS2.out.cw.kept hI).c2
  go_wp2_with fail
  first | exact ⟨_, rfl, rfl, Reg2.Ext.refl _⟩ | exact ⟨_, rfl, ⟨(), rfl, trivial⟩, Reg2.Ext.refl _⟩
 simp only [Act.put, xA, xB, xC]; (try simp only [xD]); (try simp only [xE]); (try simp only [id])
 refine Reg2.pm (fun wz hI hF => ?_) (fun r4 => ?_) (by rfl)
 ·have d0 := fQ ((hI.block _ (aG hy2.out)).trans hy2.out) lS
  go_wp2_with fail
  first | exact ⟨_, rfl, rfl, Reg2.Ext.refl _⟩ | exact ⟨_, rfl, ⟨(), rfl, trivial⟩, Reg2.Ext.refl _⟩
 simp only [Act.put, xA, xB, xC]; (try simp only [xD]); (try simp only [xE]); (try simp only [id])
 refine Reg2.aC ?_
 intro w4 HI4 _ fG
 clear fG
 dsimp only [List.drop]
 have bN := hS2.out.kept HI4
 have hrel := sO bN.cw hk ha hm R.aD.aL (R.aD.aL + R.aD.lim) R.aD.wid F (by omega) (by omega) hb4 hF hr
 have Ia := lX.out
 clear kX lX
 subst Ia
 go_wp2_with fail
 go_at_call 112
 refine hrel.mono ?_
 clear hrel
 rintro e w5 ⟨rfl, v5, g5, gL, hS5⟩
 have dR := bN.core gL hS5
 have hfin := (WS.of_below (hb2'.trans (HI4.mono hb2'.size)) : WS w w4 b c t d p v g v g).trans (WS.dE hS5)
 have c17 := dR.wk.at 17 (.int .i64 R.aD.st) rfl
 rw [CP.out] at c17
 go_wp2_with fail
 go_ret
 exact ⟨rfl, v5, g5, dR, hfin⟩
theorem Ib (h : SW w b c t d p v g a m R P) (hk : PK P) (ha : a ≤ 800) (hm : m ≤ 1000000) (hP : R.aD.st = 3) (hb1 : R.aD.aL ≤ 1099511627776) (hb2 : 0 ≤ R.aD.lim ∧ R.aD.lim ≤ 1048576) (hb3 : P.now < R.aD.fin ∧ R.aD.fin ≤ 1099512676352) (hb4 : -64 ≤ R.idle ∧ R.idle ≤ 64) (F : Int → Int)
  (hF : ∀ t, P.now ≤ t → F t = P.f t + had (max P.now P.now) R.aD.fin R.idle t) (hr : ∀ t, P.now ≤ t → 0 ≤ F t ∧ F t ≤ 64) :
  Calls Tryz.prog 142 #[.pointer (some ⟨b, 0, none⟩), .pointer (some ⟨c, 0, none⟩)] w (au w b c t d p v g (a + 2) (m + 1) .nilFunc R { P with f := F }) := by
 have zJ := bL
 have zS := kF
 obtain ⟨k, hk1⟩ : ∃ k, k = 10 := ⟨_, rfl⟩
 obtain ⟨k3, hk3⟩ : ∃ k, k = 3 := ⟨_, rfl⟩
 rw [← hk1] at zJ
 rw [← hk3] at zS
 have hk0 : ¬ k = 0 := by omega
 have yU : ¬ k3 = 0 := by omega
 have lJ := ax R.aD
 rw [← hk1] at lJ
 replace hk1 := Lib.hid hk1
 have hS := Lib.hid h
 have qw := h.wk.mV lJ
 have hpl := kU (w := w) R.aD hb1 hb2
 have lS : (aN R.aD).length = 3 := by unfold aN; split <;> rfl
 have oS : ∀ u ∈ aN R.aD, u.oneCell' = true := by unfold aN; split <;> (intro u hu; simp at hu; rcases hu with rfl | rfl | rfl <;> rfl)
 have ST : Hid (∀ W : World, Sem.run Tryz.prog (storeCells ⟨W.heap.size, 0, none⟩ (aN R.aD) 0) (W.alloc (.cells #[.int .i64 0, .int .i64 0, .int .i64 0] 152)) = .ok () (W.alloc (.cells (aN R.aD).toArray 152))) := fun W => dF W W.heap.size (aN R.aD) [.int .i64 0, .int .i64 0, .int .i64 0] 152 rfl lS oS
 rw [← hk3] at lS
 replace hk3 := Lib.hid hk3
 have hst : ∀ W, SW W b c t d p v g a m R P → W.cell? ⟨b, 17, none⟩ = some (.int .i64 R.aD.st) := fun W hW => hW.wk.at 17 (.int .i64 R.aD.st) rfl
 generalize kX : aN R.aD = cS at *
 replace kX := Lib.hid kX
 generalize ah R.aD = cJ at *
 clear h
 have hno : ak R.aD = false := by unfold ak; rw [hP]; rfl
 rw [hP] at hst
 rw [hno] at hpl
 replace hP := Lib.hid hP
 replace hno := Lib.hid hno
 go_enter Tryz.func142, Tryz.ntmps142
 go_wp2_with fail
 go_at_call 110
 refine hpl.mono ?_
 clear hpl qw
 rintro e w1 ⟨rfl, hb⟩
 have st1 := ST.out w1
 obtain ⟨w2, hw2⟩ : ∃ w2, w2 = w1.alloc (.cells cS.toArray 152) := ⟨_, rfl⟩
 rw [← hw2] at st1
 have hb2' : Below w.heap.size w w2 := by rw [hw2]; exact hb.alloc hb.size _
 have hy2 : Hid (w2.heap[w1.heap.size]? = some (.cells cS.toArray 152 (0, 0))) := by show _ = _; rw [hw2]; exact heap_alloc_new w1 _
 have hs2 : w2.heap.size = w1.heap.size + 1 := by rw [hw2]; simp
 replace hw2 := Lib.hid hw2
 have hS2 := Lib.hid (hS.out.kept hb2')
 have c17 := hst w2 hS2.out
 replace hst := Lib.hid hst
 go_wp2_with fail
 refine Reg2.rd w2 18 47 [[],[ae],[ae,ae],[ae,ae,ae],[af,af,af,af],[af,af,af,af,ae],[af,af,af,af,ae,ae],[af,af,af,af,ae,ae,ae],[af,af,af,af,ae,ae,ae,ae],[af,af,af,af,af,af,af,af,af],[af,af,af,af,af,af,af,af,af,ae],[af,af,af,af,af,af,af,af,af,ae,ae],[af,af,af,af,af,af,af,af,af,ae,ae,ae],[af,af,af,af,af,af,af,af,af,ae,ae,ae,ae],[af,af,af,af,af,af,af,af,af,af,af,af,af,af],[af,af,af,af,af,af,af,af,af,af,af,af,af,af,ae],[af,af,af,af,af,af,af,af,af,af,af,af,af,af,ae,ae],[af,af,af,af,af,af,af,af,af,af,af,af,af,af,ae,ae,ae]] [0, 0, 0, 1, 0, 0, 0, 1, 1, 0, 0, 0, 0, 1, 0, 0, 0, 1] [.pure, .pure, .pure, .mU (.pointer (some ⟨p, 0, none⟩)), .pure, .pure, .pure, .mU (.pointer (some ⟨p, 0, none⟩)), .mU (.int .i64 P.now), .pure, .pure, .pure, .pure, .mU (.int .i64 R.aD.fin), .pure, .pure, .pure, .mU (.int .i64 R.idle)] (by kernel_rfl) (by kernel_rfl) rfl rfl ⟨trivial, trivial, trivial, Reg2.tt, trivial, trivial, trivial, Reg2.tt, Reg2.tt, trivial, trivial, trivial, trivial, Reg2.tt, trivial, trivial, trivial, Reg2.tt, trivial⟩ ⟨rfl, rfl, rfl, Nat.le_refl _, fun _ _ => rfl⟩ ?_
 dsimp only [Reg2.mk, List.zip, List.zipWith, List.take]
 repeat (refine' Reg2.ai _ (by rfl) (fun wz => ?_) ?_; rotate_left; (go_simp; first | rfl | rw [if_neg (by omega)]); simp only [Act.put, xA, xB, xC]; (try simp only [xD]); (try simp only [xE]); (try simp only [id]))
 refine Reg2.pm (fun wz hI hF => ?_) (fun r3 => ?_) (by rfl)
 ·have c0 := (hS2.out.cw.kept hI).c2
  go_wp2_with fail
  first | exact ⟨_, rfl, rfl, Reg2.Ext.refl _⟩ | exact ⟨_, rfl, ⟨(), rfl, trivial⟩, Reg2.Ext.refl _⟩
 simp only [Act.put, xA, xB, xC]; (try simp only [xD]); (try simp only [xE]); (try simp only [id])
 repeat (refine' Reg2.ai _ (by rfl) (fun wz => ?_) ?_; rotate_left; (go_simp; first | rfl | rw [if_neg (by omega)]); simp only [Act.put, xA, xB, xC]; (try simp only [xD]); (try simp only [xE]); (try simp only [id]))
 refine Reg2.pm (fun wz hI hF => ?_) (fun r7 => ?_) (by rfl)
 ·have c0 := (hS2.out.cw.kept hI).c2
  go_wp2_with fail
  first | exact ⟨_, rfl, rfl, Reg2.Ext.refl _⟩ | exact ⟨_, rfl, ⟨(), rfl, trivial⟩, Reg2.Ext.refl _⟩
 simp only [Act.put, xA, xB, xC]; (try simp only [xD]); (try simp only [xE]); (try simp only [id])
 refine Reg2.pm (fun wz hI hF => ?_) (fun r8 => ?_) (by rfl)
 ·go_wp2_with (go_at_call 25; go_must (refine (gQ (hS2.out.kept hI).cw).mono ?_); rintro e w' ⟨rfl, rfl⟩)
  first | exact ⟨_, rfl, rfl, Reg2.Ext.refl _⟩ | exact ⟨_, rfl, ⟨(), rfl, trivial⟩, Reg2.Ext.refl _⟩
 simp only [Act.put, xA, xB, xC]; (try simp only [xD]); (try simp only [xE]); (try simp only [id])
 repeat (refine' Reg2.ai _ (by rfl) (fun wz => ?_) ?_; rotate_left; (go_simp; first | rfl | rw [if_neg (by omega)]); simp only [Act.put, xA, xB, xC]; (try simp only [xD]); (try simp only [xE]); (try simp only [id]))
 refine Reg2.pm (fun wz hI hF => ?_) (fun Fh => ?_) (by rfl)
 ·have q0 := (hS2.out.kept hI).wk.at 19 (.int .i64 R.aD.fin) rfl
  go_wp2_with fail
  first | exact ⟨_, rfl, rfl, Reg2.Ext.refl _⟩ | exact ⟨_, rfl, ⟨(), rfl, trivial⟩, Reg2.Ext.refl _⟩
 simp only [Act.put, xA, xB, xC]; (try simp only [xD]); (try simp only [xE]); (try simp only [id])
 repeat (refine' Reg2.ai _ (by rfl) (fun wz => ?_) ?_; rotate_left; (go_simp; first | rfl | rw [if_neg (by omega)]); simp only [Act.put, xA, xB, xC]; (try simp only [xD]); (try simp only [xE]); (try simp only [id]))
 refine Reg2.pm (fun wz hI hF => ?_) (fun Vv => ?_) (by rfl)
 ·have q0 := (hS2.out.kept hI).wk.at 22 (.int .i64 R.idle) rfl
  go_wp2_with fail
  first | exact ⟨_, rfl, rfl, Reg2.Ext.refl _⟩ | exact ⟨_, rfl, ⟨(), rfl, trivial⟩, Reg2.Ext.refl _⟩
 simp only [Act.put, xA, xB, xC]; (try simp only [xD]); (try simp only [xE]); (try simp only [id])
 refine Reg2.aC ?_
 intro w4 HI4 _ fG
 clear fG
 dsimp only [List.drop]
 have bN := hS2.out.kept HI4
 have hadd := Ls bN.cw hk ha hm P.now R.aD.fin R.idle F hb3.1 (by omega) hb4 hF hr
 go_wp2_with fail
 go_at_call 152
 refine hadd.mono ?_
 clear hadd
 rintro e w5 ⟨rfl, v5, g5, gL, hS5⟩
 have dR := bN.core gL hS5
 have hfin := (WS.of_below (hb2'.trans (HI4.mono hb2'.size)) : WS w w4 b c t d p v g v g).trans (WS.dE hS5)
 go_wp2_with fail
 go_ret
 exact ⟨rfl, v5, g5, dR, hfin⟩
theorem Fj (h : SW w b c t d p v g a m R P) (hk : PK P) (ha : a ≤ 800) (hm : m ≤ 1000000) (hP : ak R.aD = false) (hP2 : R.aD.st ≠ 3) (hb1 : R.aD.aL ≤ 1099511627776) (hb2 : 0 ≤ R.aD.lim ∧ R.aD.lim ≤ 1048576) :
  Calls Tryz.prog 142 #[.pointer (some ⟨b, 0, none⟩), .pointer (some ⟨c, 0, none⟩)] w (au w b c t d p v g a m .nilFunc R P) := by
 have zJ := bL
 have zS := kF
 obtain ⟨k, hk1⟩ : ∃ k, k = 10 := ⟨_, rfl⟩
 obtain ⟨k3, hk3⟩ : ∃ k, k = 3 := ⟨_, rfl⟩
 rw [← hk1] at zJ
 rw [← hk3] at zS
 have hk0 : ¬ k = 0 := by omega
 have yU : ¬ k3 = 0 := by omega
 have lJ := ax R.aD
 rw [← hk1] at lJ
 replace hk1 := Lib.hid hk1
 have hS := Lib.hid h
 have qw := h.wk.mV lJ
 have hpl := kU (w := w) R.aD hb1 hb2
 have lS : (aN R.aD).length = 3 := by unfold aN; split <;> rfl
 have oS : ∀ u ∈ aN R.aD, u.oneCell' = true := by unfold aN; split <;> (intro u hu; simp at hu; rcases hu with rfl | rfl | rfl <;> rfl)
 have ST : Hid (∀ W : World, Sem.run Tryz.prog (storeCells ⟨W.heap.size, 0, none⟩ (aN R.aD) 0) (W.alloc (.cells #[.int .i64 0, .int .i64 0, .int .i64 0] 152)) = .ok () (W.alloc (.cells (aN R.aD).toArray 152))) := fun W => dF W W.heap.size (aN R.aD) [.int .i64 0, .int .i64 0, .int .i64 0] 152 rfl lS oS
 rw [← hk3] at lS
 replace hk3 := Lib.hid hk3
 have hst : ∀ W, SW W b c t d p v g a m R P → W.cell? ⟨b, 17, none⟩ = some (.int .i64 R.aD.st) := fun W hW => hW.wk.at 17 (.int .i64 R.aD.st) rfl
 generalize kX : aN R.aD = cS at *
 replace kX := Lib.hid kX
 generalize ah R.aD = cJ at *
 clear h
 have d0 : (R.aD.st == 3) = false := by simp [hP2]
 rw [hP] at hpl
 generalize R.aD.st = s at *
 go_enter Tryz.func142, Tryz.ntmps142
 go_wp2_with fail
 go_at_call 110
 refine hpl.mono ?_
 clear hpl qw
 rintro e w1 ⟨rfl, hb⟩
 have st1 := ST.out w1
 obtain ⟨w2, hw2⟩ : ∃ w2, w2 = w1.alloc (.cells cS.toArray 152) := ⟨_, rfl⟩
 rw [← hw2] at st1
 have hb2' : Below w.heap.size w w2 := by rw [hw2]; exact hb.alloc hb.size _
 have hy2 : Hid (w2.heap[w1.heap.size]? = some (.cells cS.toArray 152 (0, 0))) := by show _ = _; rw [hw2]; exact heap_alloc_new w1 _
 have hs2 : w2.heap.size = w1.heap.size + 1 := by rw [hw2]; simp
 replace hw2 := Lib.hid hw2
 have hS2 := Lib.hid (hS.out.kept hb2')
 have c17 := hst w2 hS2.out
 replace hst := Lib.hid hst
 go_wp2_with fail
 go_ret
 exact ⟨rfl, v, g, hS2.out, WS.of_below hb2'⟩
end
end Go.Proofs.YtnihdgcfamoplaaGreat

namespace Go.Proofs.YtnihdgcfamoplaaGreat
open Go.RowKit Go.Lib
theorem Fp {p : Jb → Bool} : ∀ {X : List Jb} {x : Jb} {r : List Jb}, X.filter p = x :: r → ∃ q, q < X.length ∧ X.getD q default = x ∧ (∀ k, k < q → p (X.getD k default) = false) ∧ (X.drop (q + 1)).filter p = r ∧ p x = true := by
 intro X
 induction X with
 | nil => intro x r h; cases h
 | cons y X ih =>
  intro x r h
  cases hp : p y with
  | true =>
   rw [List.filter_cons_of_pos hp] at h
   obtain ⟨rfl, rfl⟩ := List.cons.inj h
   exact ⟨0, by simp, rfl, fun k hk => absurd hk (Nat.not_lt_zero _), rfl, hp⟩
  | false =>
   rw [List.filter_cons_of_neg (by simp [hp])] at h
   obtain ⟨q, h1, h2, h3, h4, h5⟩ := ih h
   refine ⟨q + 1, by simp; omega, by simpa using h2, fun k hk => ?_, by simpa using h4, h5⟩
   cases k with
   | zero => simpa using hp
   | succ k => simpa using h3 k (by omega)
theorem filter_none {p : Jb → Bool} {X : List Jb} (h : X.filter p = []) (k : Nat) (hk : k < X.length) : p (X.getD k default) = false := by
 have h1 := List.filter_eq_nil_iff.1 h (X.getD k default) (bA hk)
 simpa using h1
theorem getD_drop {L : List Jb} {k q : Nat} : (L.drop k).getD q default = L.getD (k + q) default := by simp [List.getD]
theorem yV {f : Jb → Jb} {L : List Jb} {k : Nat} : ∀ {k' : Nat}, k ≤ k' → k' ≤ L.length → (∀ m, k ≤ m → m < k' → f (L.getD m default) = L.getD m default) → eU f L k = eU f L k' := by
 intro k'
 induction k' with
 | zero =>
  intro h _ _
  obtain rfl : k = 0 := by omega
  rfl
 | succ k' ih =>
  intro h1 h2 h3
  rcases Nat.lt_or_ge k' k with h4 | h4
  ·obtain rfl : k = k' + 1 := by omega
   rfl
  ·rw [ih h4 (by omega) fun m a b => h3 m a (by omega)]
   exact mM (by omega) (h3 k' h4 (by omega))
theorem vE {t : Int} {j : Jb} (h : ¬ (j.st = 3 ∧ j.fin = t)) : bg t j = j := if_neg h
theorem Bo {t : Int} {j : Jb} (h : j.st = 3 ∧ j.fin = t) : bg t j = j.setSt 6 := if_pos h
def jy (M : Md) (k : Nat) : Md := { M with L := eU (bg M.now) M.L k }
section
variable {M : Md}
theorem wN (k : Nat) : (jy M k).L.length = M.L.length := nT M.L k
theorem Qf : jy M M.L.length = { M with L := M.L.map (bg M.now) } := by unfold jy; rw [qE]
theorem Np : jy M 0 = M := by unfold jy eU; simp
theorem Qg (h : aF M) (h1 : 1 ≤ M.dr.length) (h2 : M.L.length ≤ 900) {f0 : Int → Int} (hf : ∀ t, M.now ≤ t → 0 ≤ f0 t ∧ f0 t ≤ 64) : PK { aj M with f := f0 } := by
 have := fA h h1 h2
 exact ⟨this.now, this.few, this.st, this.lim, this.qo, hf⟩
theorem Fq {x y : Jb} (h : x.id ≠ y.id) (hn : aO y x = false) : aO x y = true := by
 unfold aO at *
 simp only [Bool.or_eq_false_iff, Bool.and_eq_false_iff, decide_eq_false_iff_not, Bool.or_eq_true, Bool.and_eq_true, decide_eq_true_eq] at *
 omega
theorem Ic {L : List Jb} {now : Int} {f : Nat} (hd : dD now (L.getD f default) = true) (hf : ∀ q, q < L.length → q ≠ f → dD now (L.getD q default) = true → aO (L.getD f default) (L.getD q default) = true) :
  ∀ k, k ≤ L.length → f < k → iD L now k = f := by
 have sp : ∀ q, dD now (L.getD q default) = true ↔ (ak (L.getD q default) = true ∧ (L.getD q default).aL = now) := fun q => by unfold dD; simp
 intro k
 induction k with
 | zero => intro _ h; omega
 | succ k ih =>
  intro hk Uc
  unfold iD
  rcases Nat.lt_or_ge f k with h1 | h1
  ·rw [ih (by omega) h1, if_neg]
   rintro ⟨h2, h3, h4⟩
   have h5 := hf k (by omega) (by omega) ((sp k).2 ⟨h2, h3⟩)
   rcases h4 with h4 | h4
   ·omega
   ·rw [Int.toNat_natCast] at h4
    have := FK h5
    rw [this] at h4
    cases h4
  ·obtain rfl : f = k := by omega
   obtain ⟨h2, h3⟩ := (sp f).1 hd
   rw [if_pos]
   refine ⟨h2, h3, ?_⟩
   rcases mJ L now f with ⟨h4, _⟩ | ⟨q, h4, h5, h6⟩
   ·exact .inl h4
   ·refine .inr ?_
    rw [h4, Int.toNat_natCast]
    exact hf q (by omega) (by omega) h6
theorem Kc {f : Nat} (hfl : f < M.L.length) (hd : dD M.now (M.L.getD f default) = true) (hf : ∀ q, q < M.L.length → q ≠ f → dD M.now (M.L.getD q default) = true → aO (M.L.getD f default) (M.L.getD q default) = true) : firstM M = f :=
 Ic hd hf _ (Nat.le_refl _) hfl
theorem Cn (n : Nat) (h : ∀ q, q < M.L.length → dD M.now (M.L.getD q default) = false) : startGo n M = M := by
 have hf : ¬ 0 ≤ firstM M := by
  unfold firstM
  rcases mJ M.L M.now M.L.length with ⟨h4, _⟩ | ⟨q, h4, h5, h6⟩
  ·omega
  ·rw [h q h5] at h6; cases h6
 induction n with
 | zero => rfl
 | succ n ih => unfold startGo; rw [if_neg hf]; exact ih
structure Going (M F : Md) (r : List Jb) : Prop where
 inv : aF M
 run : ∀ j ∈ M.L, j.st = 3 → M.now < j.fin
 goes : ∃ n, startGo n M = F ∧ lV M ≤ n
 still : ∀ x ∈ r, 1 ≤ x.id ∧ x.id ≤ M.L.length ∧ M.L.getD (x.id - 1).toNat default = x
 due : ∀ q, q < M.L.length → dD M.now (M.L.getD q default) = true → M.L.getD q default ∈ r
 sorted : r.Pairwise (fun x y => aO y x = false)
 nodup : r.Pairwise (fun x y => x.id ≠ y.id)
 pend : ∀ x ∈ r, x.st = 1
theorem Going.skip {F : Md} {x : Jb} {r : List Jb} (h : Going M F (x :: r)) (hx : dD M.now x = false) : Going M F r :=
 ⟨h.inv, h.run, h.goes, fun y hy => h.still y (List.mem_cons_of_mem _ hy), fun q hq hd => by
  rcases List.mem_cons.1 (h.due q hq hd) with e | e
  ·rw [e, hx] at hd; cases hd
  ·exact e, (List.pairwise_cons.1 h.sorted).2, (List.pairwise_cons.1 h.nodup).2, fun y hy => h.pend y (List.mem_cons_of_mem _ hy)⟩
theorem Going.last {F : Md} (h : Going M F []) : F = M := by
 obtain ⟨n, h1, _⟩ := h.goes
 rw [← h1]
 refine Cn n fun q hq => ?_
 cases hd : dD M.now (M.L.getD q default) with
 | false => rfl
 | true => exact absurd (h.due q hq hd) (by simp)
theorem Going.next {F : Md} {x : Jb} {r : List Jb} (h : Going M F (x :: r)) (hx : dD M.now x = true) : (x.id - 1).toNat < M.L.length ∧ M.L.getD (x.id - 1).toNat default = x ∧ Going (bq M (x.id - 1).toNat) F r := by
 obtain ⟨i1, i2, i3⟩ := h.still x (List.mem_cons_self ..)
 obtain ⟨f, hf⟩ : ∃ f, f = (x.id - 1).toNat := ⟨_, rfl⟩
 have hfl : f < M.L.length := by omega
 rw [← hf] at i3 ⊢
 have hs := List.pairwise_cons.1 h.sorted
 have hn := List.pairwise_cons.1 h.nodup
 have hdf : dD M.now (M.L.getD f default) = true := by rw [i3]; exact hx
 have tT : firstM M = f := Kc hfl hdf fun q hq hne hd => by
  have hmem := h.due q hq hd
  have Qh := h.inv.ids q hq
  have Hy := h.inv.ids f hfl
  rcases List.mem_cons.1 hmem with e | e
  ·rw [e] at Qh; rw [i3] at Hy; omega
  ·rw [i3]
   exact Fq (hn.1 _ e) (hs.1 _ e)
 obtain ⟨n, h1, h2⟩ := h.goes
 obtain ⟨s1, s2, s3, _⟩ := h.inv.start h.run hfl hdf
 have hpos : 1 ≤ lV M := by
  have h5 := zZ (fun j => if dD M.now j = true then (1 : Int) else 0) M.L (fun j _ => by split <;> omega) (bA hfl)
  rw [if_pos hdf] at h5
  exact h5
 have hlen : (bq M f).L.length = M.L.length := by unfold bq; exact List.length_set
 have hget : ∀ q, (bq M f).L.getD q default = if f = q ∧ f < M.L.length then fV M (M.L.getD f default) else M.L.getD q default := fun q => gF
 refine ⟨hfl, i3, s1, s2, ?_, ?_, ?_, hs.2, hn.2, fun y hy => h.pend y (List.mem_cons_of_mem _ hy)⟩
 ·cases n with
  | zero => omega
  | succ n =>
   refine ⟨n, ?_, by omega⟩
   unfold startGo at h1
   rw [tT, if_pos (by omega), Int.toNat_natCast] at h1
   exact h1
 ·intro y hy
  obtain ⟨a1, a2, a3⟩ := h.still y (List.mem_cons_of_mem _ hy)
  refine ⟨a1, by rw [hlen]; exact a2, ?_⟩
  rw [hget, if_neg, a3]
  rintro ⟨e, _⟩
  exact hn.1 y hy (by omega)
 ·intro q hq hd
  rw [hlen] at hq
  rw [hget] at hd ⊢
  by_cases e : f = q ∧ f < M.L.length
  ·rw [if_pos e] at hd
   have : dD (bq M f).now (fV M (M.L.getD f default)) = false := by unfold dD ak; rfl
   rw [this] at hd; cases hd
  ·rw [if_neg e] at hd ⊢
   rcases List.mem_cons.1 (h.due q hq hd) with e2 | e2
   ·exfalso
    have Qh := h.inv.ids q hq
    rw [e2] at Qh
    exact e ⟨by omega, hfl⟩
   ·exact e2
end
end Go.Proofs.YtnihdgcfamoplaaGreat

namespace Go.Proofs.YtnihdgcfamoplaaGreat
open Go.RowKit Go.Lib Go.Sort
def xZ (w : World) (c t d p : Nat) (v : Value) (g a : Nat) (m : Int) (P : Pg) (W : World) : Prop := ∃ v' g', CW W c t d p v' g' a m P ∧ CS w W c t d p v g v' g'
theorem xZ.ext {w : World} {c t d p g a : Nat} {v : Value} {m : Int} {P : Pg} : ∀ (x y : World), Reg2.Ext x y → xZ w c t d p v g a m P x → xZ w c t d p v g a m P y := by
 rintro x y h ⟨v', g', h1, h2⟩
 exact ⟨v', g', h1.kept h, h2.trans (CS.of_below h)⟩
def uq (w : World) (c t d p : Nat) (v : Value) (g a : Nat) (m : Int) (P : Pg) (T : List Int) (W : World) : Prop := xZ w c t d p v g a m P W ∧ ib T
theorem uq.ext {w : World} {c t d p g a : Nat} {v : Value} {m : Int} {P : Pg} {T : List Int} : ∀ (x y : World), Reg2.Ext x y → uq w c t d p v g a m P T x → uq w c t d p v g a m P T y := fun x y h hs => ⟨xZ.ext x y h hs.1, hs.2⟩
section
variable {w : World} {c t d p g a : Nat} {v : Value} {m : Int} {P : Pg} {M : Md}
theorem launch_fn (h : CW w c t d p v g a m P) (hk : PK P) (j : Jb) (hj : -9223372036854775808 ≤ j.wid ∧ j.wid ≤ 9223372036854775807) {s : Nat} {T0 : List Int} (hT0 : pM P.T j.wid s 0 T0) :
  Calls Tryz.prog 153 #[.pointer (some ⟨c, 0, none⟩), .agg (ah j).toArray] w (fB w c t d p v g a m (.tuple #[]) { P with T := T0, J := df P.J (gG P.now) j.id (fun j : Jb => decide (j.state = 1)) (lF P.now s) }) := by
 obtain ⟨wA, aK⟩ : ∃ wA, wA = w.alloc (.cells (ah j).toArray 63) := ⟨_, rfl⟩
 have bR : Below w.heap.size w wA := by rw [aK]; exact (Below.refl _ _).alloc (Nat.le_refl _) _
 have hsA : wA.heap.size = w.heap.size + 1 := by rw [aK]; simp
 have vF : Hid (wA.heap[w.heap.size]? = some (.cells (ah j).toArray 63 (0, 0))) := by show _ = _; rw [aK]; exact heap_alloc_new w _
 have iZ := Lib.hid (h.kept bR)
 have hft : Hid (¬ dH c t d p v g w.heap.size) := fun hf => absurd (h.lt hf) (Nat.lt_irrefl _)
 have e0 : (ah j)[0]? = some (.int .i64 j.id) := rfl
 have e2 : (ah j)[2]? = some (.int .i64 j.wid) := rfl
 have zE := bL
 obtain ⟨k, hk1⟩ : ∃ k, k = 10 := ⟨_, rfl⟩
 rw [← hk1] at zE
 have hk0 : ¬ k = 0 := by omega
 replace hk1 := Lib.hid hk1
 have Qi := fun (W : World) (hW : CW W c t d p v g a m P) => M8 hW hk j.wid hj
 have hbe := fun (W : World) (v1 : Value) (g1 : Nat) (hL : ib T0) (hW : CW W c t d p v1 g1 a m { P with T := T0 }) => J3 hW ⟨hk.now, hk.few, hk.st, hk.lim, hL, hk.f⟩ j.id P.now s
 rw [show ({ P with T := T0 } : Pg).J = P.J from rfl] at hbe
 have Yh : Hid (∀ {T' : List Int}, ib T' → T0 = T' → ib T0) := fun h1 h2 => h2 ▸ h1
 generalize ah j = cJ at *
 generalize j.wid = jw at *
 generalize j.id = ji at *
 replace hT0 := Lib.hid hT0
 clear h
 go_enter Tryz.func153, Tryz.ntmps153
 go_wp2_with fail
 rw [← aK]
 replace aK := Lib.hid aK
 refine Reg2.rP 11 31 [[],[ae],[ae,ae],[ae,ae,ae],[af,af,af,af],[af,af,af,af,ae],[ae,ae,ae,ae,ae,ae],[ae,ae,ae,ae,ae,ae,ae],[ae,ae,ae,ae,ae,ae,ae,ae],[ae,ae,ae,ae,ae,ae,ae,ae,af],[ae,ae,ae,ae,ae,ae,ae,ae,ae,af]] [0, 0, 0, 2, 0, 2, 3, 0, 0, 0, 0]
  [.pure, .pure, .pure, .pinned Unit () (fun _ => .pointer (some ⟨d, 0, none⟩)) (fun _ _ => True), .pure, .pinned Unit () (fun _ => .int .i64 jw) (fun _ _ => True), .major Unit () (fun _ => .tuple #[.int .u64 s, .int .i64 0]), .pure, .pure, .pure, .pure]
  (fun _ => True) (fun vs W => match vs with | [] => Below wA.heap.size wA W | _ :: _ => (uq wA c t d p v g a m { P with T := T0 } T0) W) (fun _ _ => True) (by kernel_rfl) (by kernel_rfl) rfl rfl (fun vs a b h hs => by cases vs with | nil => exact Below.trans hs (h.mono (Below.size hs)) | cons v vs => exact uq.ext a b h hs) ?_ ?_ ?_ ?_ ?_ ?_
 ·intro a b he hb; trivial
 ·intro a b he hb; trivial
 ·exact ⟨trivial, trivial, trivial, ⟨fun _ _ _ _ _ => trivial, fun _ _ _ _ _ => trivial⟩, trivial, ⟨fun _ _ _ _ _ => trivial, fun _ _ _ _ _ => trivial⟩, trivial, trivial, trivial, trivial, trivial, trivial⟩
 ·trivial
 ·exact ⟨rfl, rfl, rfl, Nat.le_refl _, fun _ _ => rfl⟩
 dsimp only [Reg2.mk, List.zip, List.zipWith, List.take]
 repeat (refine' Reg2.ai _ (by rfl) (fun wz => ?_) ?_; rotate_left; (go_simp; first | rfl | rw [if_neg (by omega)]); simp only [Act.put, xA, xB, xC]; (try simp only [xD]); (try simp only [xE]); (try simp only [id]))
 refine Reg2.pp (fun wz _ hI hF => ?_) (fun r3 => ?_) (by rfl)
 ·have c0 := (iZ.out.kept hI).c1
  go_wp2_with fail
  first | exact ⟨_, rfl, rfl, Reg2.Ext.refl _⟩ | exact ⟨_, rfl, ⟨(), rfl, trivial⟩, Reg2.Ext.refl _⟩
 simp only [Act.put, xA, xB, xC]; (try simp only [xD]); (try simp only [xE]); (try simp only [id])
 repeat (refine' Reg2.ai _ (by rfl) (fun wz => ?_) ?_; rotate_left; (go_simp; first | rfl | rw [if_neg (by omega)]); simp only [Act.put, xA, xB, xC]; (try simp only [xD]); (try simp only [xE]); (try simp only [id]))
 refine Reg2.pp (fun wz _ hI hF => ?_) (fun r5 => ?_) (by rfl)
 ·have q0 : wz.cell? ⟨w.heap.size, 2, none⟩ = some (.int .i64 jw) := by simp [World.cell?, (hI.block _ (aG vF.out)).trans vF.out, e2]
  go_wp2_with fail
  first | exact ⟨_, rfl, rfl, Reg2.Ext.refl _⟩ | exact ⟨_, rfl, ⟨(), rfl, trivial⟩, Reg2.Ext.refl _⟩
 simp only [Act.put, xA, xB, xC]; (try simp only [xD]); (try simp only [xE]); (try simp only [id])
 refine Reg2.pj (fun wz _ hI hF => ?_) (fun r6 => ?_) (by rfl)
 ·go_wp2_with (go_at_call 178; go_must (refine (Qi wz (iZ.out.kept hI)).mono ?_); rintro e w' ⟨s1, x1, T', hT, hL, rfl, v4, g4, oM, bN⟩)
  obtain ⟨rfl, rfl, rfl⟩ := hT0.out.uniq hT
  have hpost : uq wA c t d p v g a m { P with T := T0 } T0 w' := ⟨⟨v4, g4, oM, (CS.of_below hI).trans bN⟩, hL⟩
  exact ⟨_, rfl, ⟨⟨(), rfl⟩, hpost⟩, trivial⟩
 simp only [Act.put, xA, xB, xC]; (try simp only [xD]); (try simp only [xE]); (try simp only [id])
 repeat (refine' Reg2.ai _ (by rfl) (fun wz => ?_) ?_; rotate_left; (go_simp; first | rfl | rw [if_neg (by omega)]); simp only [Act.put, xA, xB, xC]; (try simp only [xD]); (try simp only [xE]); (try simp only [id]))
 refine Reg2.aC ?_
 intro w7 _ rG kG
 clear kG
 dsimp only [List.drop]
 obtain ⟨⟨v7, g7, zt, gM⟩, hL7⟩ : xZ wA c t d p v g a m { P with T := T0 } w7 ∧ ib T0 := rG
 have zu : Hid (w7.heap[w.heap.size]? = some (.cells cJ.toArray 63 (0, 0))) := (gM.heap (aG vF.out) hft.out).trans vF.out
 replace zt := Lib.hid zt
 go_wp2_with fail
 refine Reg2.rd w7 12 31 [[],[ae],[ae,ae],[ae,ae,ae],[af,af,af,af],[af,af,af,af,ae],[af,af,af,af,af,af],[af,af,af,af,af,af,ae],[af,af,af,af,af,af,ae,ae],[af,af,af,af,af,af,ae,ae,ae],[af,af,af,af,af,af,ae,ae,ae,ae],[af,af,af,af,af,af,af,af,af,af,af]] [0, 0, 0, 1, 0, 1, 0, 0, 0, 1, 1, 0] [.pure, .pure, .pure, .mU (.pointer (some ⟨t, 0, none⟩)), .pure, .mU (.int .i64 ji), .pure, .pure, .pure, .mU (.pointer (some ⟨p, 0, none⟩)), .mU (.int .i64 P.now), .pure] (by kernel_rfl) (by kernel_rfl) rfl rfl ⟨trivial, trivial, trivial, Reg2.tt, trivial, Reg2.tt, trivial, trivial, trivial, Reg2.tt, Reg2.tt, trivial, trivial⟩ ⟨rfl, rfl, rfl, Nat.le_refl _, fun _ _ => rfl⟩ ?_
 dsimp only [Reg2.mk, List.zip, List.zipWith, List.take]
 repeat (refine' Reg2.ai _ (by rfl) (fun wz => ?_) ?_; rotate_left; (go_simp; first | rfl | rw [if_neg (by omega)]); simp only [Act.put, xA, xB, xC]; (try simp only [xD]); (try simp only [xE]); (try simp only [id]))
 refine Reg2.pm (fun wz hI hF => ?_) (fun r3 => ?_) (by rfl)
 ·have c0 := (zt.out.kept hI).c0
  go_wp2_with fail
  first | exact ⟨_, rfl, rfl, Reg2.Ext.refl _⟩ | exact ⟨_, rfl, ⟨(), rfl, trivial⟩, Reg2.Ext.refl _⟩
 simp only [Act.put, xA, xB, xC]; (try simp only [xD]); (try simp only [xE]); (try simp only [id])
 repeat (refine' Reg2.ai _ (by rfl) (fun wz => ?_) ?_; rotate_left; (go_simp; first | rfl | rw [if_neg (by omega)]); simp only [Act.put, xA, xB, xC]; (try simp only [xD]); (try simp only [xE]); (try simp only [id]))
 refine Reg2.pm (fun wz hI hF => ?_) (fun r5 => ?_) (by rfl)
 ·have q0 : wz.cell? ⟨w.heap.size, 0, none⟩ = some (.int .i64 ji) := by simp [World.cell?, (hI.block _ (aG zu.out)).trans zu.out, e0]
  go_wp2_with fail
  first | exact ⟨_, rfl, rfl, Reg2.Ext.refl _⟩ | exact ⟨_, rfl, ⟨(), rfl, trivial⟩, Reg2.Ext.refl _⟩
 simp only [Act.put, xA, xB, xC]; (try simp only [xD]); (try simp only [xE]); (try simp only [id])
 repeat (refine' Reg2.ai _ (by rfl) (fun wz => ?_) ?_; rotate_left; (go_simp; first | rfl | rw [if_neg (by omega)]); simp only [Act.put, xA, xB, xC]; (try simp only [xD]); (try simp only [xE]); (try simp only [id]))
 refine Reg2.pm (fun wz hI hF => ?_) (fun r9 => ?_) (by rfl)
 ·have c0 := (zt.out.kept hI).c2
  go_wp2_with fail
  first | exact ⟨_, rfl, rfl, Reg2.Ext.refl _⟩ | exact ⟨_, rfl, ⟨(), rfl, trivial⟩, Reg2.Ext.refl _⟩
 simp only [Act.put, xA, xB, xC]; (try simp only [xD]); (try simp only [xE]); (try simp only [id])
 refine Reg2.pm (fun wz hI hF => ?_) (fun zn => ?_) (by rfl)
 ·go_wp2_with (go_at_call 25; go_must (refine (gQ (zt.out.kept hI)).mono ?_); rintro e w' ⟨rfl, rfl⟩)
  first | exact ⟨_, rfl, rfl, Reg2.Ext.refl _⟩ | exact ⟨_, rfl, ⟨(), rfl, trivial⟩, Reg2.Ext.refl _⟩
 simp only [Act.put, xA, xB, xC]; (try simp only [xD]); (try simp only [xE]); (try simp only [id])
 repeat (refine' Reg2.ai _ (by rfl) (fun wz => ?_) ?_; rotate_left; (go_simp; first | rfl | rw [if_neg (by omega)]); simp only [Act.put, xA, xB, xC]; (try simp only [xD]); (try simp only [xE]); (try simp only [id]))
 refine Reg2.aC ?_
 intro w8 Vw _ fG
 clear fG
 dsimp only [List.drop]
 have TY := zt.out.kept Vw
 have uE := hbe w8 v7 g7 hL7 TY
 go_wp2_with fail
 go_at_call 179
 refine uE.mono ?_
 clear uE
 rintro e w9 ⟨rfl, v9, g9, Ie, gz⟩
 have hfin := (((CS.of_below bR : CS w wA c t d p v g v g).trans gM).trans (CS.of_below Vw)).trans gz
 go_wp2_with fail
 go_end0
 exact ⟨rfl, v9, g9, Ie, hfin⟩
theorem boxed (wr : World) (x : Jb) : Sem.run Tryz.prog (storeCells ⟨wr.heap.size, 0, none⟩ (ah x) 0) (wr.alloc (.cells #[.int .i64 0, .int .i64 0, .int .i64 0, .int .i64 0, .int .i64 0, .int .i64 0, .int .i64 0, .int .i64 0, .int .i64 0, .int .u64 0] 63)) = .ok () (wr.alloc (.cells (ah x).toArray 63)) :=
 dF wr wr.heap.size (ah x) (ah iA) 63 rfl rfl (dK x)
theorem mP.off {w w1 : World} {gb off : Nat} {l : List Jb} {v1 : Value} {g1 : Nat} (hJ : mP w gb off l) (hs : CS w w1 c t d p v g v1 g1) (hg : ¬ dH c t d p v g gb) : mP w1 gb off l := by
 have hb : w1.heap[gb]? = w.heap[gb]? := hs.heap hJ.1 hg
 exact ⟨Nat.lt_of_lt_of_le hJ.1 hs.off.size, fun i s j u hi hj => by
  have := hJ.2 i s j u hi hj
  simp only [World.cell?, World.frozen?, hb] at this ⊢
  exact this⟩
theorem Ke (f0 : Int → Int) (h : CW w c t d p v g a m { aj M with f := f0 }) (hI : aF M) (h1 : 1 ≤ M.dr.length) (hll : M.L.length ≤ 900) (hf0 : ∀ u, M.now ≤ u → 0 ≤ f0 u ∧ f0 u ≤ 64) :
  Calls Tryz.prog 171 #[.pointer (some ⟨c, 0, none⟩), .int .i64 M.now] w (fB w c t d p v g a m (.tuple #[]) { aj ({ M with L := M.L.map (bg M.now) } : Md) with f := f0 }) := by
 have zE := bL
 obtain ⟨k, hk⟩ : ∃ k, k = 10 := ⟨_, rfl⟩
 rw [← hk] at zE
 have hk0 : ¬ k = 0 := by omega
 replace hk := Lib.hid hk
 obtain ⟨wA, aK⟩ : ∃ wA, wA = w.alloc (.cells #[.int .i64 3] 3) := ⟨_, rfl⟩
 have bR : Below w.heap.size w wA := by rw [aK]; exact (Below.refl _ _).alloc (Nat.le_refl _) _
 have Kg : az enc1 1 wA (.slice (some ⟨w.heap.size, 0, none⟩) 1 1) [3] := by rw [aK]; exact fO w w.heap.size [3] rfl (by decide)
 have iZ := h.kept bR
 have hin := sD iZ.dX (by show M.L.length ≤ 1000; omega) Kg
 rw [show ({ aj M with f := f0 } : Pg).J = M.L from rfl] at hin
 have c0 := h.c0
 have hlt : Hid (∀ k, dH c t d p v g k → k < w.heap.size) := fun k hk => h.lt hk
 have Vx : Hid (∀ {W : World}, CW W c t d p v g a m { aj M with f := f0 } → CW W c t d p v g a m { aj (jy M 0) with f := f0 }) := fun hW => by rw [Np]; exact hW
 generalize hL1 : (M.L.filter fun j : Jb => decide (j.state ∈ [(3 : Int)])) = l at *
 have hn1 : l.length ≤ 900 := by rw [← hL1]; exact Nat.le_trans (List.length_filter_le _ _) hll
 obtain ⟨tn, htn⟩ : ∃ tn, tn = M.now := ⟨_, rfl⟩
 rw [← htn]
 have htb := hI.mb.now
 rw [← htn] at htb
 replace htn := Lib.hid htn
 replace hL1 := Lib.hid hL1
 rw [aK] at hin
 clear h
 go_enter Tryz.func171, Tryz.ntmps171
 go_wp2_with fail
 go_at_call 64
 refine hin.mono ?_
 clear hin c0
 rw [← aK]
 rintro e w0 ⟨u, rfl, ho, hb0⟩
 have hbw0 : Below w.heap.size w w0 := bR.trans (hb0.mono bR.size)
 have hC0 := Vx.out (iZ.kept hb0)
 replace aK := Lib.hid aK
 have hsh : Hid (∀ {ao : Option Addr} {n cap : Nat}, u = .slice ao n cap → 0 < l.length → ∃ g0, ao = some ⟨g0, 0, none⟩ ∧ wA.heap.size ≤ g0) := fun {ao n cap} e hp => by
  obtain ⟨I5, cap', e0, hp'⟩ := gI ho
  obtain ⟨g0, e4⟩ := hp' hp
  subst e4
  rw [e] at e0
  injection e0 with e0 _ _
  exact ⟨g0, e0, (ho.lt g0 (by rw [e, e0]; rfl)).1⟩
 have hr := az.gB ho ax rfl rfl
 obtain ⟨ao, cap, rfl, q1, q2, q3⟩ := hr
 obtain ⟨n, hn⟩ : ∃ n, l.length = n := ⟨_, rfl⟩
 rw [hn] at q1 q3 hn1 ho ⊢
 have HQ : Hid (0 < n → ∃ b, ao = some ⟨b, 0, none⟩ ∧ mP w0 b 0 l ∧ w.heap.size ≤ b) := fun hp => by
  obtain ⟨b, off, e1, e2, e3⟩ := q3 hp
  obtain ⟨g0, e4, e5⟩ := hsh.out rfl (by have := hn; omega)
  rw [e4] at e1
  injection e1 with e1
  injection e1 with e6 e7
  subst e6; subst e7
  exact ⟨g0, e4, ⟨e2, e3⟩, by have := bR.size; omega⟩
 have Ca : cap ≤ 9223372036854775807 := by unfold maxLen at q2; omega
 replace hn := Lib.hid hn
 clear q2 q3 ho hb0 iZ
 go_wp2_with fail
 go_loopw [13] (fun ii wr => ∃ (i kk : Nat) (vr : Value) (gr : Nat), i ≤ n ∧ ii = .int .i64 i ∧ CW wr c t d p vr gr a m { aj (jy M kk) with f := f0 } ∧ CS w0 wr c t d p v g vr gr ∧ Hid (kk ≤ M.L.length ∧ (M.L.drop kk).filter (fun j : Jb => decide (j.state ∈ [(3 : Int)])) = l.drop i)) (fun ii _ => n - (intOf ii).toNat)
 case atStart => exact ⟨0, 0, v, g, Nat.zero_le _, rfl, hC0, CS.refl _, Lib.hid ⟨Nat.zero_le _, by rw [List.drop_zero, List.drop_zero, hL1.out]⟩⟩
 case round =>
  obtain ⟨i, kk, vr, gr, hin, rfl, Fs, hSr, hpos⟩ := hrel
  by_cases hlt2 : i < n
  ·have b2 : (i : Int) < (n : Int) := by omega
   have wi : IntKind.i64.wrap ((i : Int) + 1) = (i : Int) + 1 := by rw [IntKind.wrap_i64]; omega
   obtain ⟨gb, rfl, hJ, hgb⟩ := HQ.out (by omega)
   have hgf : ¬ dH c t d p v g gb := fun hf => absurd (hlt.out gb hf) (by omega)
   have rE := hJ.off hSr hgf
   have iL : i < l.length := by have := hn.out; omega
   have LI := rE.load hk.out iL
   obtain ⟨x, hx⟩ : ∃ x, x = l[i]! := ⟨_, rfl⟩
   rw [← hx, Nat.zero_add] at LI
   replace hx := Lib.hid hx
   have hdrop : l.drop i = x :: l.drop (i + 1) := by rw [hx.out, getElem!_pos l i iL]; exact List.drop_eq_getElem_cons iL
   obtain ⟨hkk, hfil⟩ := hpos.out
   rw [hdrop] at hfil
   obtain ⟨q, a1, a2, a3, a4, a5⟩ := Fp hfil
   have hq : kk + q < M.L.length := by rw [List.length_drop] at a1; omega
   rw [getD_drop] at a2
   have Qj : eU (bg M.now) M.L kk = eU (bg M.now) M.L (kk + q) := yV (by omega) (by omega) fun mm b1 b2 => vE fun hh => by
    have := a3 (mm - kk) (by omega)
    rw [getD_drop, show kk + (mm - kk) = mm by omega] at this
    exact absurd this (by show ¬ (decide ((M.L.getD mm default).state ∈ [(3 : Int)]) = false); rw [show (M.L.getD mm default).state = 3 from hh.1]; decide)
   have hov : jy M kk = jy M (kk + q) := by unfold jy; rw [Qj]
   rw [hov] at Fs
   have hx3 : x.st = 3 := (show x.state = 3 by simpa using a5)
   have Fu : (M.L.drop (kk + q + 1)).filter (fun j : Jb => decide (j.state ∈ [(3 : Int)])) = l.drop (i + 1) := by rw [← a4, List.drop_drop]; rfl
   have Qk := hI.zC (kk + q) (by omega)
   have SG := hI.zC (kk + q + 1) (by omega)
   have yc : (jy M (kk + q)).L.getD (kk + q) default = x := (pY hq).trans a2
   have hxm := bA hq
   rw [a2] at hxm
   have Ig := hI.ids (kk + q) hq
   rw [a2] at Ig
   have K7 := hI.mb.bP x hxm
   have Vy := Lib.hid (Qg Qk h1 (by show (jy M (kk + q)).L.length ≤ 900; rw [wN]; exact hll) hf0)
   have Ud := Lib.hid (Qg SG h1 (by show (jy M (kk + q + 1)).L.length ≤ 900; rw [wN]; exact hll) hf0)
   have Vz := Lib.hid (Hl (M := jy M (kk + q)) Qk h1)
   replace Fu := Lib.hid Fu
   replace yc := Lib.hid yc
   replace a2 := Lib.hid a2
   replace Ig := Lib.hid Ig
   replace Qk := Lib.hid Qk
   clear hfil hdrop a3 a4 a5 a1 Qj hpos hov SG
   have lI := ax x
   rw [← hk.out] at lI
   have e0 : (ah x)[0]? = some (.int .i64 x.id) := rfl
   have e7 : (ah x)[7]? = some (.int .i64 x.fin) := rfl
   have e9 : (ah x)[9]? = some (.int .u64 x.bP) := rfl
   have st := boxed wr x
   obtain ⟨w1, hw1⟩ : ∃ w1, w1 = wr.alloc (.cells (ah x).toArray 63) := ⟨_, rfl⟩
   have hb1 : Below wr.heap.size wr w1 := by rw [hw1]; exact (Below.refl _ _).alloc (Nat.le_refl _) _
   have hz1 : w1.heap[wr.heap.size]? = some (.cells (ah x).toArray 63 (0, 0)) := by rw [hw1]; exact heap_alloc_new wr _
   have hft : ¬ dH c t d p vr gr wr.heap.size := fun hf => absurd (Fs.lt hf) (Nat.lt_irrefl _)
   have c7 : w1.cell? ⟨wr.heap.size, 7, none⟩ = some (.int .i64 x.fin) := by simp [World.cell?, hz1, e7]
   replace hz1 := Lib.hid hz1
   have uC := Lib.hid (Fs.kept hb1)
   have hS1 := hSr.trans (CS.of_below hb1)
   generalize hcI : ah x = cI at *
   replace hcI := Lib.hid hcI
   rw [← hw1] at st
   replace hw1 := Lib.hid hw1
   by_cases hfin : x.fin = tn
   ·have C8 : x.st = 3 ∧ x.fin = M.now := ⟨hx3, hfin.trans htn.out⟩
    have d1 : (x.fin == tn) = true := by simp [hfin]
    have hset : Hid (df (jy M (kk + q)).L (bF 6 tn) x.id (fq 6) (bQ 6 tn) = (jy M (kk + q + 1)).L) := by
     have hle := wN (M := M) (kk + q)
     have EC : bO (jy M (kk + q)).L (bF 6 tn) x.id (fq 6) = 0 := by
      have e1 : bF 6 tn = 0 := by unfold bF; rw [if_neg (by decide), if_neg (by decide), if_neg (by omega), if_neg (by omega)]
      unfold bO
      rw [Ig.out, e1, if_neg (by decide), if_neg (by omega), if_neg (by omega), show ((((kk + q : Nat) : Int)) + 1 - 1).toNat = kk + q by omega, if_pos]
      rw [getElem!_pos _ _ (by omega)]
      have : (jy M (kk + q)).L[kk + q]'(by omega) = x := by rw [← yc.out]; simp [List.getD, show kk + q < (jy M (kk + q)).L.length by omega]
      rw [this]
      unfold fq
      rw [show x.state = 3 from hx3]
      rfl
     show df _ _ _ _ _ = _
     unfold df
     rw [if_pos EC, Ig.out, show ((((kk + q : Nat) : Int)) + 1 - 1).toNat = kk + q by omega, getElem!_pos _ _ (by omega)]
     have e2 : (jy M (kk + q)).L[kk + q]'(by omega) = x := by rw [← yc.out]; simp [List.getD, show kk + q < (jy M (kk + q)).L.length by omega]
     rw [e2]
     have e3 : bQ 6 tn x = bg M.now (M.L.getD (kk + q) default) := by
      rw [a2.out, Bo C8]
      have h8 := hI.rest x hxm (by omega)
      obtain ⟨x1, x2, x3, x4, x5, x6, x7, x8, x9, x0⟩ := x
      obtain rfl : x6 = 3 := hx3
      obtain rfl : x8 = tn := hfin
      obtain rfl : x9 = -1 := h8
      rfl
     rw [e3]
     exact jo hq
    have hfi := fun (W : World) (hW : CW W c t d p vr gr a m { aj (jy M (kk + q)) with f := f0 }) => sP hW Vy.out x.id 6 tn
    rw [show ({ aj (jy M (kk + q)) with f := f0 } : Pg).J = (jy M (kk + q)).L from rfl, hset.out] at hfi
    have hgi := fun (W : World) (v1 : Value) (g1 : Nat) (hW : CW W c t d p v1 g1 a m { ({ aj (jy M (kk + q)) with f := f0 } : Pg) with J := (jy M (kk + q + 1)).L }) => Dt hW (by
     have h9 := Ud.out
     exact ⟨h9.now, h9.few, h9.st, h9.lim, Vz.out, h9.f⟩) x.bP.toNat (by omega)
    rw [show ((x.bP.toNat : Nat) : Int) = x.bP by omega] at hgi
    have hge : Hid (∀ {n1 x1 : Int} {T' : List Int}, AQ (dC (jy M (kk + q))) x.bP.toNat n1 x1 T' → T' = dC (jy M (kk + q + 1))) := fun {n1 x1 T'} hG => by
     have h8 := Du (M := jy M (kk + q)) Qk.out (i := kk + q) (y := bg M.now (M.L.getD (kk + q) default)) (by rw [wN]; exact hq) (by rw [yc.out]; exact hx3) (by rw [a2.out, Bo C8]; show (6 : Int) ≠ 3; decide) (n := n1) (x := x1) (T' := T') (by rw [yc.out]; exact hG)
     rw [h8.2.2]
     have e4 : ({ jy M (kk + q) with L := (jy M (kk + q)).L.set (kk + q) (bg M.now (M.L.getD (kk + q) default)) } : Md) = jy M (kk + q + 1) := by unfold jy; rw [jo hq]
     rw [e4]
    replace hfin := Lib.hid hfin
    go_wp2_with fail
    refine Reg2.rd w1 7 37 [[],[ae],[ae,ae],[ae,ae,ae],[af,af,af,af],[af,af,af,af,ae],[af,af,af,af,af,af]] [0, 0, 0, 1, 0, 1, 0] [.pure, .pure, .pure, .mU (.pointer (some ⟨t, 0, none⟩)), .pure, .mU (.int .i64 x.id), .pure] (by kernel_rfl) (by kernel_rfl) rfl rfl ⟨trivial, trivial, trivial, Reg2.tt, trivial, Reg2.tt, trivial, trivial⟩ ⟨rfl, rfl, rfl, Nat.le_refl _, fun _ _ => rfl⟩ ?_
    dsimp only [Reg2.mk, List.zip, List.zipWith, List.take]
    repeat (refine' Reg2.ai _ (by rfl) (fun wz => ?_) ?_; rotate_left; (go_simp; first | rfl | rw [if_neg (by omega)]); simp only [Act.put, xA, xB, xC]; (try simp only [xD]); (try simp only [xE]); (try simp only [id]))
    refine Reg2.pm (fun wz hI hF => ?_) (fun r3 => ?_) (by rfl)
    ·have c0 := (uC.out.kept hI).c0
     go_wp2_with fail
     first | exact ⟨_, rfl, rfl, Reg2.Ext.refl _⟩ | exact ⟨_, rfl, ⟨(), rfl, trivial⟩, Reg2.Ext.refl _⟩
    simp only [Act.put, xA, xB, xC]; (try simp only [xD]); (try simp only [xE]); (try simp only [id])
    repeat (refine' Reg2.ai _ (by rfl) (fun wz => ?_) ?_; rotate_left; (go_simp; first | rfl | rw [if_neg (by omega)]); simp only [Act.put, xA, xB, xC]; (try simp only [xD]); (try simp only [xE]); (try simp only [id]))
    refine Reg2.pm (fun wz hI hF => ?_) (fun r5 => ?_) (by rfl)
    ·have q0 : wz.cell? ⟨wr.heap.size, 0, none⟩ = some (.int .i64 x.id) := by simp [World.cell?, (hI.block _ (aG hz1.out)).trans hz1.out, e0]
     go_wp2_with fail
     first | exact ⟨_, rfl, rfl, Reg2.Ext.refl _⟩ | exact ⟨_, rfl, ⟨(), rfl, trivial⟩, Reg2.Ext.refl _⟩
    simp only [Act.put, xA, xB, xC]; (try simp only [xD]); (try simp only [xE]); (try simp only [id])
    repeat (refine' Reg2.ai _ (by rfl) (fun wz => ?_) ?_; rotate_left; (go_simp; first | rfl | rw [if_neg (by omega)]); simp only [Act.put, xA, xB, xC]; (try simp only [xD]); (try simp only [xE]); (try simp only [id]))
    refine Reg2.aC ?_
    intro w4 HI4 _ fG
    clear fG
    dsimp only [List.drop]
    have oM := uC.out.kept HI4
    have VA := hfi w4 oM
    have zq : w4.heap[wr.heap.size]? = some (.cells cI.toArray 63 (0, 0)) := (HI4.block _ (aG hz1.out)).trans hz1.out
    go_wp2_with fail
    go_at_call 139
    refine VA.mono ?_
    clear VA
    rintro e w5 ⟨rfl, v5, g5, gL, hS5⟩
    have Gw : Hid (w5.heap[wr.heap.size]? = some (.cells cI.toArray 63 (0, 0))) := (hS5.heap (aG zq) hft).trans zq
    replace gL := Lib.hid gL
    go_wp2_with fail
    refine Reg2.rd w5 6 37 [[],[ae],[ae,ae],[ae,ae,ae],[af,af,af,af],[af,af,af,af,ae]] [0, 0, 0, 1, 0, 1] [.pure, .pure, .pure, .mU (.pointer (some ⟨d, 0, none⟩)), .pure, .mU (.int .u64 x.bP)] (by kernel_rfl) (by kernel_rfl) rfl rfl ⟨trivial, trivial, trivial, Reg2.tt, trivial, Reg2.tt, trivial⟩ ⟨rfl, rfl, rfl, Nat.le_refl _, fun _ _ => rfl⟩ ?_
    dsimp only [Reg2.mk, List.zip, List.zipWith, List.take]
    repeat (refine' Reg2.ai _ (by rfl) (fun wz => ?_) ?_; rotate_left; (go_simp; first | rfl | rw [if_neg (by omega)]); simp only [Act.put, xA, xB, xC]; (try simp only [xD]); (try simp only [xE]); (try simp only [id]))
    refine Reg2.pm (fun wz hI hF => ?_) (fun r3 => ?_) (by rfl)
    ·have c0 := (gL.out.kept hI).c1
     go_wp2_with fail
     first | exact ⟨_, rfl, rfl, Reg2.Ext.refl _⟩ | exact ⟨_, rfl, ⟨(), rfl, trivial⟩, Reg2.Ext.refl _⟩
    simp only [Act.put, xA, xB, xC]; (try simp only [xD]); (try simp only [xE]); (try simp only [id])
    repeat (refine' Reg2.ai _ (by rfl) (fun wz => ?_) ?_; rotate_left; (go_simp; first | rfl | rw [if_neg (by omega)]); simp only [Act.put, xA, xB, xC]; (try simp only [xD]); (try simp only [xE]); (try simp only [id]))
    refine Reg2.pm (fun wz hI hF => ?_) (fun r5 => ?_) (by rfl)
    ·have q0 : wz.cell? ⟨wr.heap.size, 9, none⟩ = some (.int .u64 x.bP) := by simp [World.cell?, (hI.block _ (aG Gw.out)).trans Gw.out, e9]
     go_wp2_with fail
     first | exact ⟨_, rfl, rfl, Reg2.Ext.refl _⟩ | exact ⟨_, rfl, ⟨(), rfl, trivial⟩, Reg2.Ext.refl _⟩
    simp only [Act.put, xA, xB, xC]; (try simp only [xD]); (try simp only [xE]); (try simp only [id])
    refine Reg2.aC ?_
    intro w6 Hz _ fG
    clear fG
    dsimp only [List.drop]
    have HV := gL.out.kept Hz
    have VB := hgi w6 v5 g5 HV
    go_wp2_with fail
    go_at_call 164
    refine VB.mono ?_
    clear VB
    rintro e w7 ⟨n1, x1, T', hG, _, rfl, v7, g7, zt, gM⟩
    obtain rfl := hge.out hG
    have gz := (hS1.trans (CS.of_below HI4)).trans (hS5.trans ((CS.of_below Hz).trans gM))
    go_wp2_with fail
    go_roundw
    case rel => exact ⟨i + 1, kk + q + 1, v7, g7, by omega, by go_num, zt, gz, Lib.hid ⟨by omega, Fu.out⟩⟩
    case measure => simp [intOf]; omega
   ·have d1 : (x.fin == tn) = false := by simp [hfin]
    have hsame : jy M (kk + q) = jy M (kk + q + 1) := by
     unfold jy
     rw [mM hq (vE fun hh => hfin (by rw [← a2.out]; exact hh.2.trans htn.out.symm))]
    have Ie := uC.out
    rw [hsame] at Ie
    go_wp2_with fail
    go_roundw
    case rel => exact ⟨i + 1, kk + q + 1, vr, gr, by omega, by go_num, Ie, hS1, Lib.hid ⟨by omega, Fu.out⟩⟩
    case measure => simp [intOf]; omega
  ·have e : i = n := by omega
   subst e
   obtain ⟨hkk, hfil⟩ := hpos.out
   have hend : l.drop i = [] := List.drop_eq_nil_of_le (by have := hn.out; omega)
   rw [hend] at hfil
   have hall : jy M kk = { M with L := M.L.map (bg M.now) } := by
    rw [← Qf]
    unfold jy
    rw [yV (k' := M.L.length) hkk (Nat.le_refl _) fun mm b1 b2 => vE fun hh => by
     have := filter_none hfil (mm - kk) (by rw [List.length_drop]; omega)
     rw [getD_drop, show kk + (mm - kk) = mm by omega] at this
     exact absurd this (by show ¬ (decide ((M.L.getD mm default).state ∈ [(3 : Int)]) = false); rw [show (M.L.getD mm default).state = 3 from hh.1]; decide)]
   rw [hall] at Fs
   have hfin := (CS.of_below hbw0 : CS w w0 c t d p v g v g).trans hSr
   go_wp2_with fail
   go_end0
   have e9 := htn.out
   clear htn
   subst e9
   exact ⟨rfl, vr, gr, Fs, hfin⟩
end
end Go.Proofs.YtnihdgcfamoplaaGreat

namespace Go.Proofs.YtnihdgcfamoplaaGreat
open Go.RowKit Go.Lib Go.Sort
theorem Nq {w : World} {base base' : Nat} {e : TypeId} {sz n : Nat} {v : Value} {xs : List Value} (h : w.ownsRow base e sz v n xs) (hb : base' ≤ base) : w.ownsRow base' e sz v n xs := by
 obtain ⟨h0, h1⟩ := h
 refine ⟨h0, ?_⟩
 rcases h1 with h1 | ⟨g, cap, cur, e0, h2, h3, h4⟩
 ·exact .inl h1
 ·exact .inr ⟨g, cap, cur, e0, by omega, h3, h4⟩
theorem Nr (v : Value) (l : List Jb) (w : World) (hr : az ah 10 w v l) (hl : l.length ≤ 1000) : Calls Tryz.prog 63 #[v] w fun e w' => ∃ (v' : Value) (r : List Jb), e = .returned v' ∧ w'.ownsRow w.heap.size 63 10 v' r.length (r.flatMap ah) ∧ r.length = l.length ∧ r.Perm l ∧ r.Pairwise (fun x y => aO y x = false) ∧ Below w.heap.size w w' := by
 have hc := xH hr (by omega)
 have hso := fun (v : Value) (w1 : World) (h : w1.ownsRow w.heap.size 63 10 v l.length (l.flatMap ah)) (hb : w.heap.size ≤ w1.heap.size) => Da v l w1 h (by omega) hb
 clear hr
 replace hso := Lib.hid hso
 go_enter Tryz.func63, Tryz.ntmps63
 go_wp2_with fail
 go_at_call 57
 refine hc.mono ?_
 clear hc
 rintro e w1 ⟨v1, rfl, ho, hb⟩
 have hs := hso.out v1 w1 ho hb.size
 clear hso ho
 go_wp2_with fail
 go_at_call 90
 refine hs.mono ?_
 clear hs
 rintro e w2 ⟨rfl, r, ⟨h1, _, h2, h5⟩, h3, h4⟩
 have hfin : Hid (∃ (v' : Value) (r : List Jb), Ending.returned v1 = .returned v' ∧ w2.ownsRow w.heap.size 63 10 v' r.length (r.flatMap ah) ∧ r.length = l.length ∧ r.Perm l ∧ r.Pairwise (fun x y => aO y x = false) ∧ Below w.heap.size w w2) :=
  ⟨v1, r, rfl, h3, h1, h2, h5, hb.trans h4⟩
 clear h1 h2 h3 h4 h5 hb
 go_wp2_with fail
 go_ret
 exact hfin.out
section
variable {w w' : World} {p : Nat} {v : Value} {L : List Jb}
theorem Fv (h : TV w p v L) (hL : L.length ≤ 1000) : Calls Tryz.prog 28 #[.pointer (some ⟨p, 0, none⟩)] w fun e w' => ∃ (v' : Value) (r : List Jb), e = .returned v' ∧ w'.ownsRow w.heap.size 63 10 v' r.length (r.flatMap ah) ∧ r.Perm (L.filter fun j => decide (j.state = 1)) ∧ r.Pairwise (fun x y => aO y x = false) ∧ Below w.heap.size w w' := by
 have hb1 := (Below.refl w.heap.size w).alloc (Nat.le_refl _) (.cells #[.int .i64 1] 3)
 have hr : az enc1 1 (w.alloc (.cells #[.int .i64 1] 3)) (.slice (some ⟨w.heap.size, 0, none⟩) 1 1) [1] := fO w w.heap.size [1] rfl (by decide)
 have hI := sD (h.kept hb1) hL hr
 have ef : (L.filter fun j => decide (j.state ∈ ([1] : List Int))) = L.filter fun j => decide (j.state = 1) := by
  congr 1
  funext j
  simp
 rw [ef] at hI
 have hF : (L.filter fun j => decide (j.state = 1)).length ≤ 1000 := Nat.le_trans (List.length_filter_le _ _) hL
 clear ef h hr
 generalize (L.filter fun j => decide (j.state = 1)) = F at *
 replace hb1 := Lib.hid hb1
 go_enter Tryz.func28, Tryz.ntmps28
 go_wp2_with fail
 go_at_call 64
 refine hI.mono ?_
 clear hI
 rintro e w2 ⟨v2, rfl, ho, hb⟩
 have hs := Nr v2 F w2 (az.gB ho ax rfl rfl) hF
 have hb2 := hb1.out.trans (hb.mono hb1.out.size)
 replace hb2 := Lib.hid hb2
 clear ho hb hb1
 go_wp2_with fail
 go_at_call 63
 refine hs.mono ?_
 clear hs
 rintro e w3 ⟨v3, r, rfl, h1, _, h2, h3, h4⟩
 have hfin : Hid (∃ (v' : Value) (r : List Jb), Ending.returned v3 = .returned v' ∧ w3.ownsRow w.heap.size 63 10 v' r.length (r.flatMap ah) ∧ r.Perm F ∧ r.Pairwise (fun x y => aO y x = false) ∧ Below w.heap.size w w3) := ⟨v3, r, rfl, Nq h1 hb2.out.size, h2, h3, hb2.out.trans (h4.mono hb2.out.size)⟩
 clear h1 h2 h3 h4 hb2
 go_wp2_with fail
 go_ret
 exact hfin.out
end
section
variable {w : World} {c t d p g a : Nat} {v : Value} {m : Int} {M : Md}
theorem Ih (hrun : ∀ j ∈ M.L, j.st = 3 → M.now < j.fin) : aM M M.now M.dr.length = (((List.range M.dr.length).countP fun n : Nat => decide (aU M n = 1) : Nat) : Int) := by
 unfold aM
 congr 1
 refine List.countP_congr fun n hn => ?_
 have hn := List.mem_range.1 hn
 have hs := jL (M := M) hn
 unfold bW
 rcases fH M.L n with g | ⟨q, g, hq, g2⟩
 ·rw [decide_eq_true_iff, hs]
  simp [g]
 ·have hr : (M.L.getD q default).st = 3 := by unfold aI at g2; simp at g2; exact g2.1
  have := hrun _ (bA hq) hr
  rw [decide_eq_true_iff, hs, g, Int.toNat_natCast]
  have e1 : ¬ ((q : Int) < 0) := by omega
  have e2 : decide ((M.L.getD q default).fin ≤ M.now) = false := decide_eq_false (by omega)
  rw [e2, decide_eq_false e1, Bool.or_false, Bool.and_false]
  exact ⟨fun e => (nomatch e), fun e => absurd e.1 e1⟩
theorem Ns (hI : aF M) (hrun : ∀ j ∈ M.L, j.st = 3 → M.now < j.fin) {f : Nat} (hf : f < M.L.length) (hd : dD M.now (M.L.getD f default) = true) : (M.L.getD f default).wid ≤ ((List.range M.dr.length).countP fun n : Nat => decide (aU M n = 1) : Nat) := by
 have hm := bA hf
 have bo := hI.one _ hm
 unfold dD at hd
 rw [Bool.and_eq_true, decide_eq_true_iff, bC] at hd
 have hpl : ak (M.L.getD f default) = true := bC.2 hd.1
 have hid := hI.ids f hf
 have hc := fun t => ma (t := t) (but := 0) hpl (by rw [hid]; omega)
 have h0 := hI.free M.now (Int.le_refl _)
 have hge := uT (L := M.L) (fun j hj => (hI.mb.wid j hj).1) M.now 0 hm
 rw [hc, if_pos (by omega)] at hge
 rw [← Ih hrun]
 unfold ay at h0
 omega
theorem Ii (hI : aF M) {f : Nat} (hf : f < M.L.length) (hs : (M.L.getD f default).st ≠ 3) (hidle : (M.L.getD f default).wid ≤ ((List.range M.dr.length).countP fun n : Nat => decide (aU M n = 1) : Nat)) : pM (dC M) (M.L.getD f default).wid (iN M (M.L.getD f default).wid) 0 (dC (bq M f)) := by
 have hw := (hI.one _ (bA hf)).1
 have hc : (M.L.getD f default).wid ≤ aS (il (dC M)) (dC M).length := by
  rw [qQ, bG]
  have e : il (dC M) = fun n : Nat => decide (aU M n = 1) := funext uj
  rw [e]; exact hidle
 have hT : pM (dC M) (M.L.getD f default).wid (aP (iy (dC M) (M.L.getD f default).wid)) 0 (fw (dC M) (M.L.getD f default).wid) := ⟨fun h => by omega, fun _ h => by omega, fun _ _ => ⟨rfl, rfl, rfl⟩⟩
 obtain ⟨e1, _, e3⟩ := J6 hf hs hI.mb.nn hw hidle hT
 rw [e1, e3] at hT
 exact hT
theorem yX (hI : aF M) {f : Nat} (hf : f < M.L.length) (hs : (M.L.getD f default).st = 1) : df M.L (gG M.now) (M.L.getD f default).id (fun j : Jb => decide (j.state = 1)) (lF M.now (iN M (M.L.getD f default).wid : Int)) = (bq M f).L := by
 have hid := hI.ids f hf
 have kg := hI.mb.now
 have e2 : M.L[f]! = M.L.getD f default := by rw [getElem!_pos M.L f hf]; simp [List.getD, hf]
 have EC : bO M.L (gG M.now) (M.L.getD f default).id (fun j : Jb => decide (j.state = 1)) = 0 := by
  have e1 : gG M.now = 0 := by unfold gG; rw [if_neg (by omega), if_neg (by omega)]
  unfold bO
  rw [hid, e1, if_neg (by decide), if_neg (by omega), if_neg (by omega), show ((f : Int) + 1 - 1).toNat = f by omega, e2]
  exact if_pos (decide_eq_true hs)
 unfold df
 rw [if_pos EC, hid, show ((f : Int) + 1 - 1).toNat = f by omega, e2]
 rfl
theorem Nt (f0 : Int → Int) (h : CW w c t d p v g a m { aj M with f := f0 }) (hI : aF M) (hrun : ∀ j ∈ M.L, j.st = 3 → M.now < j.fin) (n0 : Nat) (Gb : lV M ≤ n0) (h1 : 1 ≤ M.dr.length) (hll : M.L.length ≤ 900) (hf0 : ∀ u, M.now ≤ u → 0 ≤ f0 u ∧ f0 u ≤ 64) :
  Calls Tryz.prog 172 #[.pointer (some ⟨c, 0, none⟩), .int .i64 M.now] w (fB w c t d p v g a m (.tuple #[]) { aj (startGo n0 M) with f := f0 }) := by
 have zE := bL
 obtain ⟨k, hk⟩ : ∃ k, k = 10 := ⟨_, rfl⟩
 rw [← hk] at zE
 have hk0 : ¬ k = 0 := by omega
 replace hk := Lib.hid hk
 have hwt := Fv h.dX (by show M.L.length ≤ 1000; omega)
 rw [show ({ aj M with f := f0 } : Pg).J = M.L from rfl] at hwt
 have c0 := h.c0
 have hlt : Hid (∀ k, dH c t d p v g k → k < w.heap.size) := fun k hk => h.lt hk
 have hC := Lib.hid h
 obtain ⟨tn, htn⟩ : ∃ tn, tn = M.now := ⟨_, rfl⟩
 obtain ⟨F, hF⟩ : ∃ F, F = startGo n0 M := ⟨_, rfl⟩
 rw [← hF]
 have hg0 : Hid (∀ {r : List Jb}, r.Perm (M.L.filter fun j => decide (j.state = 1)) → r.Pairwise (fun x y => aO y x = false) → Going M F r) := fun {r} hp hs => by
  have hin : ∀ x ∈ r, x ∈ M.L := fun x hx => (List.mem_filter.1 (hp.mem_iff.1 hx)).1
  refine ⟨hI, hrun, ⟨n0, hF.symm, Gb⟩, fun x hx => ?_, fun q hq hd => ?_, hs, ?_, fun x hx => by have := (List.mem_filter.1 (hp.mem_iff.1 hx)).2; exact of_decide_eq_true this⟩
  ·obtain ⟨q, hq, e⟩ := List.getElem_of_mem (hin x hx)
   have e2 : M.L.getD q default = x := by simp [List.getD, hq, e]
   have := hI.ids q hq
   rw [e2] at this
   refine ⟨by omega, by omega, ?_⟩
   rw [show (x.id - 1).toNat = q by omega]
   exact e2
  ·refine hp.mem_iff.2 (List.mem_filter.2 ⟨bA hq, ?_⟩)
   unfold dD at hd
   rw [Bool.and_eq_true] at hd
   exact decide_eq_true (bC.1 hd.1).1
  ·refine (hp.pairwise_iff (fun {x y} hxy => Ne.symm hxy)).2 (List.Pairwise.filter _ ?_)
   refine List.pairwise_iff_getElem.2 fun i q hi hq hlt2 e => ?_
   have e1 := hI.ids i hi
   have e2 := hI.ids q hq
   rw [show M.L.getD i default = M.L[i] by simp [List.getD, hi]] at e1
   rw [show M.L.getD q default = M.L[q] by simp [List.getD, hq]] at e2
   omega
 have hM : Hid (∃ N : Md, N = M) := ⟨M, rfl⟩
 have hdl : Hid (1 ≤ M.dr.length ∧ M.dr.length ≤ 64) := ⟨h1, hI.mb.nn⟩
 have hlen : (M.L.filter fun j : Jb => decide (j.state = 1)).length ≤ 900 := Nat.le_trans (List.length_filter_le _ _) hll
 rw [← htn] at hf0 ⊢
 have htb := hI.mb.now
 rw [← htn] at htb
 clear h hrun Gb
 replace hF := Lib.hid hF
 replace htn := Lib.hid htn
 go_enter Tryz.func172, Tryz.ntmps172
 go_wp2_with fail
 go_at_call 28
 refine hwt.mono ?_
 clear hwt c0
 rintro e w0 ⟨u, l, rfl, ho, hp, hs, hb0⟩
 have hG0 := hg0.out hp hs
 have hC0 := hC.out.kept hb0
 have hn1 : l.length ≤ 900 := by rw [hp.length_eq]; exact hlen
 clear hp hs hlen hg0
 have hsh : Hid (∀ {ao : Option Addr} {n cap : Nat}, u = .slice ao n cap → 0 < l.length → ∃ g0, ao = some ⟨g0, 0, none⟩ ∧ w.heap.size ≤ g0) := fun {ao n cap} e hp => by
  obtain ⟨I5, cap', e0, hp'⟩ := gI ho
  obtain ⟨g0, e4⟩ := hp' hp
  subst e4
  rw [e] at e0
  injection e0 with e0 _ _
  exact ⟨g0, e0, (ho.lt g0 (by rw [e, e0]; rfl)).1⟩
 have hr := az.gB ho ax rfl rfl
 obtain ⟨ao, cap, rfl, q1, q2, q3⟩ := hr
 obtain ⟨n, hn⟩ : ∃ n, l.length = n := ⟨_, rfl⟩
 rw [hn] at q1 q3 hn1 ho ⊢
 have HQ : Hid (0 < n → ∃ b, ao = some ⟨b, 0, none⟩ ∧ mP w0 b 0 l ∧ w.heap.size ≤ b) := fun hp => by
  obtain ⟨b, off, e1, e2, e3⟩ := q3 hp
  obtain ⟨g0, e4, e5⟩ := hsh.out rfl (by have := hn; omega)
  rw [e4] at e1
  injection e1 with e1
  injection e1 with e6 e7
  subst e6; subst e7
  exact ⟨g0, e4, ⟨e2, e3⟩, e5⟩
 have Ca : cap ≤ 9223372036854775807 := by unfold maxLen at q2; omega
 replace hn := Lib.hid hn
 clear q2 q3 ho
 go_wp2_with fail
 go_loopw [12] (fun ii wr => ∃ (i : Nat) (N : Md) (vr : Value) (gr : Nat), i ≤ n ∧ ii = .int .i64 i ∧ CW wr c t d p vr gr a m { aj N with f := f0 } ∧ CS w0 wr c t d p v g vr gr ∧ Hid (Going N F (l.drop i) ∧ N.now = tn ∧ N.dr.length = M.dr.length ∧ N.L.length = M.L.length)) (fun ii _ => n - (intOf ii).toNat)
 case atStart => exact ⟨0, M, v, g, Nat.zero_le _, rfl, hC0, CS.refl _, Lib.hid ⟨by rw [List.drop_zero]; exact hG0, htn.out.symm, rfl, rfl⟩⟩
 case round =>
  obtain ⟨i, N, vr, gr, hin, rfl, Fs, hSr, hgo⟩ := hrel
  by_cases hlt2 : i < n
  ·have b2 : (i : Int) < (n : Int) := by omega
   have wi : IntKind.i64.wrap ((i : Int) + 1) = (i : Int) + 1 := by rw [IntKind.wrap_i64]; omega
   obtain ⟨gb, rfl, hJ, hgb⟩ := HQ.out (by omega)
   have hgf : ¬ dH c t d p v g gb := fun hf => absurd (hlt.out gb hf) (by omega)
   have rE := hJ.off hSr hgf
   have iL : i < l.length := by have := hn.out; omega
   have LI := rE.load hk.out iL
   obtain ⟨x, hx⟩ : ∃ x, x = l[i]! := ⟨_, rfl⟩
   rw [← hx, Nat.zero_add] at LI
   replace hx := Lib.hid hx
   have hdrop : l.drop i = x :: l.drop (i + 1) := by rw [hx.out, getElem!_pos l i iL]; exact List.drop_eq_getElem_cons iL
   obtain ⟨sV, kg, hdr, RX⟩ := hgo.out
   rw [hdrop] at sV
   replace sV := Lib.hid sV
   clear hgo
   have lI := ax x
   rw [← hk.out] at lI
   have e8 : (ah x)[8]? = some (.int .i64 x.aL) := rfl
   have st := boxed wr x
   obtain ⟨w1, hw1⟩ : ∃ w1, w1 = wr.alloc (.cells (ah x).toArray 63) := ⟨_, rfl⟩
   have hb1 : Below wr.heap.size wr w1 := by rw [hw1]; exact (Below.refl _ _).alloc (Nat.le_refl _) _
   have hz1 : w1.heap[wr.heap.size]? = some (.cells (ah x).toArray 63 (0, 0)) := by rw [hw1]; exact heap_alloc_new wr _
   have c8 : w1.cell? ⟨wr.heap.size, 8, none⟩ = some (.int .i64 x.aL) := by simp [World.cell?, hz1, e8]
   have ld1 := fQ hz1 lI
   replace hz1 := Lib.hid hz1
   have uC := Fs.kept hb1
   have hS1 := hSr.trans (CS.of_below hb1)
   rw [← hw1] at st
   replace hw1 := Lib.hid hw1
   by_cases hpl : x.aL = tn
   ·have d1 : (x.aL == tn) = true := by simp [hpl]
    have SH := sV.out.pend x (List.mem_cons_self ..)
    have hxd : dD N.now x = true := by
     unfold dD
     rw [bC.2 ⟨SH, by omega⟩, kg, decide_eq_true hpl]
     rfl
    obtain ⟨a1, a2, a3⟩ := sV.out.next hxd
    obtain ⟨f, hf⟩ : ∃ f, f = (x.id - 1).toNat := ⟨_, rfl⟩
    rw [← hf] at a1 a2 a3
    have Nu := sV.out.inv
    have VC := sV.out.run
    have Qi := Ii Nu a1 (by rw [a2]; omega) (Ns Nu VC a1 (by rw [a2]; exact hxd))
    have hbs := yX Nu a1 (by rw [a2]; exact SH)
    rw [a2] at Qi hbs
    have hla := launch_fn uC (Qg Nu (by rw [hdr]; exact h1) (by rw [RX]; exact hll) (by rw [kg]; exact hf0)) x (by have := Nu.mb.wid x (by rw [← a2]; exact bA a1); omega) Qi
    rw [show ({ aj N with f := f0 } : Pg).J = N.L from rfl, show ({ aj N with f := f0 } : Pg).now = N.now from rfl, hbs] at hla
    have Ql : (bq N f).L.length = M.L.length := by unfold bq; rw [List.length_set]; exact RX
    have Qm := Lib.hid (show Going (bq N f) F (l.drop (i + 1)) ∧ (bq N f).now = tn ∧ (bq N f).dr.length = M.dr.length ∧ (bq N f).L.length = M.L.length from ⟨a3, kg, hdr, Ql⟩)
    replace hpl := Lib.hid hpl
    replace hf := Lib.hid hf
    clear a1 a2 a3 Qi hbs Nu VC hxd Ql
    generalize ah x = cI at *
    go_wp2_with fail
    go_at_call 153
    refine hla.mono ?_
    clear hla
    rintro e w5 ⟨rfl, v5, g5, gL, hS5⟩
    have gz := hS1.trans hS5
    go_wp2_with fail
    go_roundw
    case rel => exact ⟨i + 1, bq N f, v5, g5, by omega, by go_num, (show CW _ _ _ _ _ _ _ _ _ { aj (bq N f) with f := f0 } from gL), gz, Qm⟩
    case measure => simp [intOf]; omega
   ·have d1 : (x.aL == tn) = false := by simp [hpl]
    have Qm := Lib.hid (show Going N F (l.drop (i + 1)) ∧ N.now = tn ∧ N.dr.length = M.dr.length ∧ N.L.length = M.L.length from ⟨sV.out.skip (by unfold dD; rw [kg, decide_eq_false hpl, Bool.and_false]), kg, hdr, RX⟩)
    generalize ah x = cI at *
    go_wp2_with fail
    go_roundw
    case rel => exact ⟨i + 1, N, vr, gr, by omega, by go_num, uC, hS1, Qm⟩
    case measure => simp [intOf]; omega
  ·have e : i = n := by omega
   subst e
   obtain ⟨sV, kg, hdr, RX⟩ := hgo.out
   have hend : l.drop i = [] := List.drop_eq_nil_of_le (by have := hn.out; omega)
   rw [hend] at sV
   have Ue := sV.last
   have hfin := (CS.of_below hb0 : CS w w0 c t d p v g v g).trans hSr
   rw [← Ue] at Fs
   replace Ue := Lib.hid Ue
   go_wp2_with fail
   go_end0
   have e9 := htn.out
   clear htn
   exact ⟨rfl, vr, gr, Fs, hfin⟩
end
end Go.Proofs.YtnihdgcfamoplaaGreat

namespace Go.Proofs.YtnihdgcfamoplaaGreat
open Go.RowKit Go.Lib Go.Sort
def Kh (now : Int) (j : Jb) : List Int := [j.fin, j.aL].filter fun t => decide (now < t)
def qV (now : Int) (l : List Jb) : List Int := l.flatMap (Kh now)
theorem Qn (now : Int) (j : Jb) : (Kh now j).length ≤ 2 := Nat.le_trans (List.length_filter_le _ _) (by simp)
theorem Qo (now : Int) (l : List Jb) : (qV now l).length ≤ 2 * l.length := by
 unfold qV
 induction l with
 | nil => simp
 | cons a l ih => rw [List.flatMap_cons, List.length_append, List.length_cons]; have := Qn now a; omega
theorem Qp : (Tryz.prog.info? 2).map (fun i => (i.zero, i.size, i.bytes)) = some (some (.int .i64 0), 1, 8) := by kernel_rfl
theorem Nv (now : Int) {l : List Jb} {i : Nat} (hi : i < l.length) : qV now (l.take (i + 1)) = qV now (l.take i) ++ Kh now l[i]! := by
 unfold qV
 rw [List.take_succ_eq_append_getElem hi, List.flatMap_append, getElem!_pos l i hi]
 simp
theorem Bp (a b : List Int) : nV (a ++ b) = nV a ++ nV b := by simp [nV]
theorem Qq (l : List Int) : nV l = l.flatMap fun x : Int => [Value.int .i64 x] := by
 induction l with
 | nil => rfl
 | cons a l ih => rw [List.flatMap_cons, ← ih]; rfl
theorem Nw {w : World} {base : Nat} {v : Value} {n : Nat} {l : List Int} {e : TypeId} (h : w.ownsRow base e 1 v n (nV l)) (hn : n = l.length) (hf : ∀ z ∈ l, -9223372036854775808 ≤ z ∧ z ≤ 9223372036854775807) : oZ w v l := by
 subst hn
 refine ⟨?_, hf⟩
 obtain ⟨ao, cap, rfl, hg⟩ := gI h
 have hr : az (fun x : Int => [Value.int .i64 x]) 1 w (.slice ao l.length cap) l := az.gB h (fun _ => rfl) (Qq l) rfl
 obtain ⟨I5, cap', e0, q1, q2, q3⟩ := hr
 injection e0 with e1 _ e2
 subst e1; subst e2
 refine ⟨ao, cap, rfl, q1, q2, fun hz => ?_⟩
 obtain ⟨b, off, e3, e4, e5⟩ := q3 (List.length_pos_iff.2 hz)
 refine ⟨b, off, e3, e4, fun i hi => ?_⟩
 have := (e5 i (l.getD i 0) 0 (.int .i64 (l.getD i 0)) (by simp [List.getD, hi]) rfl)
 simpa using this
section
variable {w : World} {c t d p g a : Nat} {v : Value} {m : Int} {P : Pg}
theorem DC (h : CW w c t d p v g a m P) (hk : PK P) (hfn : ∀ j ∈ P.J, -1 ≤ j.fin ∧ j.fin ≤ 1099512676352) (hpn : ∀ j ∈ P.J, -1 ≤ j.aL ∧ j.aL ≤ 1099511627776) :
  Calls Tryz.prog 169 #[.pointer (some ⟨c, 0, none⟩)] w fun e w' => e = .returned (.int .i64 (kJ (qV P.now (P.J.filter fun j : Jb => decide (j.state ∈ [(1 : Int), 3]))))) ∧ Below w.heap.size w w' := by
 have zE := bL
 obtain ⟨k, hk1⟩ : ∃ k, k = 10 := ⟨_, rfl⟩
 rw [← hk1] at zE
 have hk0 : ¬ k = 0 := by omega
 replace hk1 := Lib.hid hk1
 obtain ⟨i0, hi0, hz0, hz1, hz2⟩ := info_parts Qp
 obtain ⟨wA, aK⟩ : ∃ wA, wA = w.alloc (.cells #[.int .i64 1, .int .i64 3] 3) := ⟨_, rfl⟩
 have bR : Below w.heap.size w wA := by rw [aK]; exact (Below.refl _ _).alloc (Nat.le_refl _) _
 have Kg : az enc1 1 wA (.slice (some ⟨w.heap.size, 0, none⟩) 2 2) [1, 3] := by rw [aK]; exact fO w w.heap.size [1, 3] rfl (by decide)
 have hin := sD (h.kept bR).dX (by have := hk.few; omega) Kg
 have c0 := h.c0
 generalize hL1 : (P.J.filter fun j : Jb => decide (j.state ∈ [(1 : Int), 3])) = l at *
 have hn1 : l.length ≤ 900 := by rw [← hL1]; exact Nat.le_trans (List.length_filter_le _ _) hk.few
 have hmem : Hid (∀ i, i < l.length → l[i]! ∈ P.J) := fun i hi => by
  have h1 : l[i]! ∈ l := by rw [getElem!_pos l i hi]; exact List.getElem_mem _
  have h2 : l[i]! ∈ P.J.filter fun j : Jb => decide (j.state ∈ [(1 : Int), 3]) := hL1 ▸ h1
  exact (List.mem_filter.1 h2).1
 have hfit : Hid (∀ z ∈ qV P.now l, -9223372036854775808 ≤ z ∧ z ≤ 9223372036854775807) := fun z hz => by
  unfold qV at hz
  obtain ⟨j, hj, hz⟩ := List.mem_flatMap.1 hz
  rw [← hL1] at hj
  have hj := (List.mem_filter.1 hj).1
  have h1 := hfn j hj
  have h2 := hpn j hj
  have hz := (List.mem_filter.1 hz).1
  simp at hz
  rcases hz with rfl | rfl <;> omega
 have hC := Lib.hid (fun (W : World) (hW : Below w.heap.size w W) => h.kept hW)
 replace hL1 := Lib.hid hL1
 rw [aK] at hin
 clear h
 go_enter Tryz.func169, Tryz.ntmps169
 go_wp2_with fail
 go_at_call 64
 refine hin.mono ?_
 clear hin c0
 rw [← aK]
 rintro e w0 ⟨u, rfl, ho, hb0⟩
 have hbw0 : Below w.heap.size w w0 := bR.trans (hb0.mono bR.size)
 replace aK := Lib.hid aK
 have hr := az.gB ho ax rfl rfl
 obtain ⟨ao, cap, rfl, q1, q2, q3⟩ := hr
 obtain ⟨n, hn⟩ : ∃ n, l.length = n := ⟨_, rfl⟩
 rw [hn] at q1 q3 hn1 ho ⊢
 have HQ : Hid (0 < n → ∃ b off, ao = some ⟨b, off, none⟩ ∧ mP w0 b off l) := fun hp => by
  obtain ⟨b, off, e1, e2, e3⟩ := q3 hp
  exact ⟨b, off, e1, e2, e3⟩
 have Ca : cap ≤ 9223372036854775807 := by unfold maxLen at q2; omega
 replace hn := Lib.hid hn
 clear q2 q3 ho hb0
 go_wp2_with fail
 go_loopw [3, 15] (fun tt ii wr => ∃ (i : Nat), i ≤ n ∧ ii = .int .i64 i ∧ wr.ownsRow w0.heap.size 2 1 tt (qV P.now (l.take i)).length (nV (qV P.now (l.take i))) ∧ Below w0.heap.size w0 wr) (fun _ ii _ => n - (intOf ii).toNat)
 case atStart => exact ⟨0, Nat.zero_le _, rfl, World.ownsRow_nil w0 w0.heap.size 2 1, Below.refl _ _⟩
 case round =>
  obtain ⟨i, hin, rfl, hown, hbr⟩ := hrel
  by_cases hlt2 : i < n
  ·have b2 : (i : Int) < (n : Int) := by omega
   have wi : IntKind.i64.wrap ((i : Int) + 1) = (i : Int) + 1 := by rw [IntKind.wrap_i64]; omega
   obtain ⟨gb, off, rfl, hJ⟩ := HQ.out (by omega)
   have rE := hJ.below hbr
   have iL : i < l.length := by have := hn.out; omega
   have LI := rE.load hk1.out iL
   have hsn := Lib.hid (Nv P.now iL)
   have VD := Qo P.now (l.take i)
   rw [List.length_take] at VD
   have hxm := hmem.out i iL
   obtain ⟨x, hx⟩ : ∃ x, x = l[i]! := ⟨_, rfl⟩
   rw [← hx] at LI hsn hxm
   replace hx := Lib.hid hx
   obtain ⟨T, hT⟩ : ∃ T, T = qV P.now (l.take i) := ⟨_, rfl⟩
   rw [← hT] at hsn hown VD
   replace hT := Lib.hid hT
   have lI := ax x
   rw [← hk1.out] at lI
   have e7 : (ah x)[7]? = some (.int .i64 x.fin) := rfl
   have e8 : (ah x)[8]? = some (.int .i64 x.aL) := rfl
   have st := boxed wr x
   obtain ⟨w1, hw1⟩ : ∃ w1, w1 = wr.alloc (.cells (ah x).toArray 63) := ⟨_, rfl⟩
   have hb1 : Below w0.heap.size w0 w1 := by rw [hw1]; exact hbr.alloc hbr.size _
   have hown1 := hown.alloc (.cells (ah x).toArray 63)
   rw [← hw1] at hown1
   have hz1 : w1.heap[wr.heap.size]? = some (.cells (ah x).toArray 63 (0, 0)) := by rw [hw1]; exact heap_alloc_new wr _
   have c7 : w1.cell? ⟨wr.heap.size, 7, none⟩ = some (.int .i64 x.fin) := by simp [World.cell?, hz1, e7]
   have c8 : w1.cell? ⟨wr.heap.size, 8, none⟩ = some (.int .i64 x.aL) := by simp [World.cell?, hz1, e8]
   clear hz1 hown
   rw [← hw1] at st
   replace hw1 := Lib.hid hw1
   have WT : Hid (Kh P.now x = [x.fin, x.aL].filter fun t => decide (P.now < t)) := rfl
   generalize x.fin = xf at *
   generalize x.aL = xp at *
   generalize ah x = cI at *
   have XE : ∀ W, Sem.run Tryz.prog (Instr.index 203 (.agg #[.int .i64 xf, .int .i64 xp]) (.int .i64 0)) W = .ok (.int .i64 xf) W := fun W => rfl
   have XF : ∀ W, Sem.run Tryz.prog (Instr.index 203 (.agg #[.int .i64 xf, .int .i64 xp]) (.int .i64 1)) W = .ok (.int .i64 xp) W := fun W => rfl
   go_wp2_with fail
   go_loopw [3, 24] (fun tt mm ws => ∃ (q : Nat), q ≤ 2 ∧ mm = .int .i64 q ∧ ws.ownsRow w0.heap.size 2 1 tt (T ++ ([xf, xp].take q).filter fun t => decide (P.now < t)).length (nV (T ++ ([xf, xp].take q).filter fun t => decide (P.now < t))) ∧ Below w0.heap.size w0 ws) (fun _ mm _ => 2 - (intOf mm).toNat)
   case atStart => exact ⟨0, Nat.zero_le _, rfl, by simpa using hown1, hb1⟩
   case round =>
    obtain ⟨q, hq, rfl, hoq, hbq⟩ := hrel
    by_cases hq2 : q < 2
    ·have VE := hC.out wr (hbw0.trans (hbq.mono hbw0.size))
     have c2 := VE.c2
     have kg := gQ VE
     obtain ⟨X, hX⟩ : ∃ X, X = T ++ ([xf, xp].take q).filter fun t => decide (P.now < t) := ⟨_, rfl⟩
     have Rm : X.length ≤ 2000 := by
      rw [hX, List.length_append]
      have := List.length_filter_le (fun t => decide (P.now < t)) ([xf, xp].take q)
      have h9 : ([xf, xp].take q).length ≤ 2 := by rw [List.length_take]; exact Nat.min_le_right _ _
      omega
     obtain ⟨y, hy⟩ : ∃ y, y = if q = 0 then xf else xp := ⟨_, rfl⟩
     have htk : Hid ((T ++ ([xf, xp].take (q + 1)).filter fun t => decide (P.now < t)) = X ++ [y].filter fun t => decide (P.now < t)) := by
      show _ = _
      rw [hX, hy]
      rcases (show q = 0 ∨ q = 1 by omega) with rfl | rfl
      ·rw [if_pos rfl, List.append_assoc, ← List.filter_append]; rfl
      ·rw [if_neg (by decide), List.append_assoc, ← List.filter_append]; rfl
     rw [← hX] at hoq
     replace hX := Lib.hid hX
     have VF : Hid (y = if q = 0 then xf else xp) := hy
     rcases (show q = 0 ∨ q = 1 by omega) with rfl | rfl
     ·clear hy
      have hyv := VF.out
      rw [if_pos rfl] at hyv
      subst hyv
      by_cases hgt : P.now < y
      ·have d1 : decide (y > P.now) = true := decide_eq_true hgt
       have hF : Hid ([y].filter (fun t => decide (P.now < t)) = [y]) := by show _ = _; simp [hgt]
       replace hgt := Lib.hid hgt
       go_wp2_with (first | (go_at_call 25; go_must (refine kg.mono ?_); rintro e w' ⟨rfl, rfl⟩) | (at_builtin; go_must (refine wpList_append_own _ rfl (.tmp 34) (.tmp 36) 133 rfl w0.heap.size 2 i0 (.int .i64 0) 1 8 Tryz.underlying133 hi0 hz0 hz1 hz2 rfl (by decide) u3 X.length (nV X) rfl (hoq.alloc _) ⟨wr.heap.size, 0, none⟩ 1 1 [.int .i64 y] rfl rfl ?_ ?_ ?_ ?_ ?_ ?_)))
       ·exact nO (vs := [.int .i64 y]) rfl
       ·simp [Value.oneCell']
       ·unfold maxLen; omega
       ·omega
       ·have hh : ∀ o, (wr.alloc o).heap.size = wr.heap.size + 1 := fun o => by simp
        have hsz := hbq.size
        first | omega | (rw [hh]; omega)
       ·intro v' w2 hown3 hgrow _
        have hb2 : Below w0.heap.size w0 w2 := (hbq.alloc hbq.size _).grown hgrow (by
         have hh : ∀ o, (wr.alloc o).heap.size = wr.heap.size + 1 := fun o => by simp
         have hsz := hbq.size
         first | omega | (rw [hh]; omega)) (fun z hz => (hoq.lt z hz).1)
        have hfin : Hid (w2.ownsRow w0.heap.size 2 1 v' (T ++ ([y, xp].take (0 + 1)).filter fun t => decide (P.now < t)).length (nV (T ++ ([y, xp].take (0 + 1)).filter fun t => decide (P.now < t)))) := by
         show World.ownsRow _ _ _ _ _ _ _
         rw [htk.out, hF.out, Bp, List.length_append]
         exact hown3
        clear hown3 hgrow hoq hbq
        go_wp2_with fail
        go_roundw
        case rel => exact ⟨1, by omega, by go_num, hfin.out, hb2⟩
        case measure => simp [intOf]
      ·have d1 : decide (y > P.now) = false := decide_eq_false hgt
       have hF : Hid ([y].filter (fun t => decide (P.now < t)) = []) := by show _ = _; simp [hgt]
       have hfin : Hid (wr.ownsRow w0.heap.size 2 1 u3 (T ++ ([y, xp].take (0 + 1)).filter fun t => decide (P.now < t)).length (nV (T ++ ([y, xp].take (0 + 1)).filter fun t => decide (P.now < t)))) := by
        show World.ownsRow _ _ _ _ _ _ _
        rw [htk.out, hF.out, List.append_nil]
        exact hoq
       replace hgt := Lib.hid hgt
       go_wp2_with (first | (go_at_call 25; go_must (refine kg.mono ?_); rintro e w' ⟨rfl, rfl⟩))
       go_roundw
       case rel => exact ⟨1, by omega, by go_num, hfin.out, hbq⟩
       case measure => simp [intOf]
     ·clear hy
      have hyv := VF.out
      rw [if_neg (by decide)] at hyv
      subst hyv
      by_cases hgt : P.now < y
      ·have d1 : decide (y > P.now) = true := decide_eq_true hgt
       have hF : Hid ([y].filter (fun t => decide (P.now < t)) = [y]) := by show _ = _; simp [hgt]
       replace hgt := Lib.hid hgt
       go_wp2_with (first | (go_at_call 25; go_must (refine kg.mono ?_); rintro e w' ⟨rfl, rfl⟩) | (at_builtin; go_must (refine wpList_append_own _ rfl (.tmp 34) (.tmp 36) 133 rfl w0.heap.size 2 i0 (.int .i64 0) 1 8 Tryz.underlying133 hi0 hz0 hz1 hz2 rfl (by decide) u3 X.length (nV X) rfl (hoq.alloc _) ⟨wr.heap.size, 0, none⟩ 1 1 [.int .i64 y] rfl rfl ?_ ?_ ?_ ?_ ?_ ?_)))
       ·exact nO (vs := [.int .i64 y]) rfl
       ·simp [Value.oneCell']
       ·unfold maxLen; omega
       ·omega
       ·have hh : ∀ o, (wr.alloc o).heap.size = wr.heap.size + 1 := fun o => by simp
        have hsz := hbq.size
        first | omega | (rw [hh]; omega)
       ·intro v' w2 hown3 hgrow _
        have hb2 : Below w0.heap.size w0 w2 := (hbq.alloc hbq.size _).grown hgrow (by
         have hh : ∀ o, (wr.alloc o).heap.size = wr.heap.size + 1 := fun o => by simp
         have hsz := hbq.size
         first | omega | (rw [hh]; omega)) (fun z hz => (hoq.lt z hz).1)
        have hfin : Hid (w2.ownsRow w0.heap.size 2 1 v' (T ++ ([xf, y].take (1 + 1)).filter fun t => decide (P.now < t)).length (nV (T ++ ([xf, y].take (1 + 1)).filter fun t => decide (P.now < t)))) := by
         show World.ownsRow _ _ _ _ _ _ _
         rw [htk.out, hF.out, Bp, List.length_append]
         exact hown3
        clear hown3 hgrow hoq hbq
        go_wp2_with fail
        go_roundw
        case rel => exact ⟨2, by omega, by go_num, hfin.out, hb2⟩
        case measure => simp [intOf]
      ·have d1 : decide (y > P.now) = false := decide_eq_false hgt
       have hF : Hid ([y].filter (fun t => decide (P.now < t)) = []) := by show _ = _; simp [hgt]
       have hfin : Hid (wr.ownsRow w0.heap.size 2 1 u3 (T ++ ([xf, y].take (1 + 1)).filter fun t => decide (P.now < t)).length (nV (T ++ ([xf, y].take (1 + 1)).filter fun t => decide (P.now < t)))) := by
        show World.ownsRow _ _ _ _ _ _ _
        rw [htk.out, hF.out, List.append_nil]
        exact hoq
       replace hgt := Lib.hid hgt
       go_wp2_with (first | (go_at_call 25; go_must (refine kg.mono ?_); rintro e w' ⟨rfl, rfl⟩))
       go_roundw
       case rel => exact ⟨2, by omega, by go_num, hfin.out, hbq⟩
       case measure => simp [intOf]
    ·obtain rfl : q = 2 := by omega
     have hfin : Hid (wr.ownsRow w0.heap.size 2 1 u3 (qV P.now (l.take (i + 1))).length (nV (qV P.now (l.take (i + 1))))) := by
      show World.ownsRow _ _ _ _ _ _ _
      rw [hsn.out, WT.out]
      exact hoq
     go_wp2_with fail
     go_roundw
     case rel => exact ⟨i + 1, by omega, by go_num, hfin.out, hbq⟩
     case measure => simp [intOf]; omega
  ·have e : i = n := by omega
   subst e
   have e1 : l.take i = l := List.take_of_length_le (by rw [hn.out]; exact Nat.le_refl _)
   rw [e1] at hown
   have hle := J7 u3 (qV P.now l) wr (Nw hown rfl hfit.out)
   have hfin := hbw0.trans (hbr.mono hbw0.size)
   replace e1 := Lib.hid e1
   go_wp2_with (go_at_call 184; go_must (refine hle.mono ?_); rintro e w' ⟨rfl, rfl⟩)
   go_ret
   exact ⟨rfl, hfin⟩
end
end Go.Proofs.YtnihdgcfamoplaaGreat

namespace Go.Proofs.YtnihdgcfamoplaaGreat
open Go.RowKit Go.Lib Go.Sort
def DD (n : Int) (j : Jb) : Bool := ru j.bP.toNat n
def kK (L : List Jb) (n : Int) : Jb := match L.findIdx? (fun j => decide (j.state ∈ [(3 : Int)]) && DD n j) with | some i => L.getD i default | none => iA
section
variable {w : World} {c t d p g a : Nat} {v : Value} {m : Int} {P : Pg}
theorem Ij (h : CW w c t d p v g a m P) (hll : P.J.length ≤ 900) (hnd : ∀ j ∈ P.J, 0 ≤ j.bP ∧ j.bP ≤ 18446744073709551615) (x : Int) (hx : -9223372036854775808 ≤ x ∧ x ≤ 9223372036854775807) :
  Calls Tryz.prog 182 #[.pointer (some ⟨c, 0, none⟩), .int .i64 x] w fun e w' => e = .returned (.agg (ah (kK P.J x)).toArray) ∧ Below w.heap.size w w' := by
 have zE := bL
 obtain ⟨k, hk⟩ : ∃ k, k = 10 := ⟨_, rfl⟩
 rw [← hk] at zE
 have hk0 : ¬ k = 0 := by omega
 replace hk := Lib.hid hk
 obtain ⟨wA, aK⟩ : ∃ wA, wA = w.alloc (.cells #[.int .i64 0, .int .i64 0, .int .i64 0, .int .i64 0, .int .i64 0, .int .i64 0, .int .i64 0, .int .i64 0, .int .i64 0, .int .u64 0] 63) := ⟨_, rfl⟩
 have bR : Hid (Below w.heap.size w wA) := by show Below _ _ _; rw [aK]; exact (Below.refl _ _).alloc (Nat.le_refl _) _
 have hsA : wA.heap.size = w.heap.size + 1 := by rw [aK]; simp
 have TR : Hid (wA.heap[w.heap.size]? = some (.cells (ah iA).toArray 63 (0, 0))) := by show _ = _; rw [aK]; exact heap_alloc_new w _
 have hA := h.kept bR.out
 have hno := kE hA
 obtain ⟨wB, zo⟩ : ∃ wB, wB = wA.alloc (.cells #[.int .i64 3] 3) := ⟨_, rfl⟩
 have Ny : Below wA.heap.size wA wB := by rw [zo]; exact (Below.refl _ _).alloc (Nat.le_refl _) _
 have WU : az enc1 1 wB (.slice (some ⟨w.heap.size + 1, 0, none⟩) 1 1) [3] := by rw [← hsA, zo]; exact fO wA wA.heap.size [3] rfl (by decide)
 have hin := sD (hA.kept Ny).dX (by omega) WU
 have c0 := hA.c0
 generalize hL1 : (P.J.filter fun j : Jb => decide (j.state ∈ [(3 : Int)])) = l at *
 have hn1 : l.length ≤ 900 := by rw [← hL1]; exact Nat.le_trans (List.length_filter_le _ _) hll
 have hmem : Hid (∀ i, i < l.length → l[i]! ∈ P.J) := fun i hi => by
  have h1 : l[i]! ∈ l := by rw [getElem!_pos l i hi]; exact List.getElem_mem _
  have h2 : l[i]! ∈ P.J.filter fun j : Jb => decide (j.state ∈ [(3 : Int)]) := hL1 ▸ h1
  exact (List.mem_filter.1 h2).1
 replace hL1 := Lib.hid hL1
 rw [aK] at hno c0
 rw [zo, aK] at hin
 clear h
 go_enter Tryz.func182, Tryz.ntmps182
 go_wp2_with (first | (go_at_call 51; go_must (refine hno.mono ?_); rintro e w' ⟨rfl, rfl⟩))
 go_at_call 64
 refine hin.mono ?_
 clear hin hno c0
 rw [← aK, ← zo]
 rintro e w0 ⟨u, rfl, ho, hb0⟩
 have hbw0 : Hid (Below w.heap.size w w0) := bR.out.trans ((Ny.trans (hb0.mono Ny.size)).mono bR.out.size)
 have hx0 : w0.heap[w.heap.size]? = some (.cells (ah iA).toArray 63 (0, 0)) := (hb0.block _ (by have := Ny.size; omega)).trans ((Ny.block _ (by omega)).trans TR.out)
 have hsz0 : w.heap.size < w0.heap.size := aG hx0
 replace aK := Lib.hid aK
 replace zo := Lib.hid zo
 have hr := az.gB ho ax rfl rfl
 obtain ⟨ao, cap, rfl, q1, q2, q3⟩ := hr
 obtain ⟨n, hn⟩ : ∃ n, l.length = n := ⟨_, rfl⟩
 rw [hn] at q1 q3 hn1 ⊢
 have HQ : Hid (0 < n → ∃ b off, ao = some ⟨b, off, none⟩ ∧ mP w0 b off l) := fun hp => by
  obtain ⟨b, off, e1, e2, e3⟩ := q3 hp
  exact ⟨b, off, e1, e2, e3⟩
 have Ca : cap ≤ 9223372036854775807 := by unfold maxLen at q2; omega
 replace hn := Lib.hid hn
 clear q2 q3 ho hb0 Ny
 go_wp2_with fail
 go_loopw [17] (fun ii wr => ∃ (i : Nat), i ≤ n ∧ ii = .int .i64 i ∧ Below w0.heap.size w0 wr ∧ Hid (∀ j, j < i → DD x l[j]! = false)) (fun ii _ => n - (intOf ii).toNat)
 case atStart => exact ⟨0, Nat.zero_le _, rfl, Below.refl _ _, Lib.hid fun j hj => absurd hj (Nat.not_lt_zero _)⟩
 case round =>
  obtain ⟨i, hin, rfl, hbr, hno⟩ := hrel
  have qf : wr.heap[w.heap.size]? = some (.cells (ah iA).toArray 63 (0, 0)) := (hbr.block _ hsz0).trans hx0
  have Qr := hbw0.out.trans (hbr.mono (Nat.le_of_lt hsz0))
  by_cases hlt2 : i < n
  ·have b2 : (i : Int) < (n : Int) := by omega
   have wi : IntKind.i64.wrap ((i : Int) + 1) = (i : Int) + 1 := by rw [IntKind.wrap_i64]; omega
   obtain ⟨gb, off, rfl, hJ⟩ := HQ.out (by omega)
   have rE := hJ.below hbr
   have iL : i < l.length := by have := hn.out; omega
   have LI := rE.load hk.out iL
   have hxm := hmem.out i iL
   obtain ⟨y, hy⟩ : ∃ y, y = l[i]! := ⟨_, rfl⟩
   rw [← hy] at LI hxm
   replace hy := Lib.hid hy
   have lI := ax y
   have hny := hnd y hxm
   rw [← hk.out] at lI
   have st : Sem.run Tryz.prog (storeCells ⟨wr.heap.size, 0, none⟩ (ah y) 0) (wr.alloc (.cells #[.int .i64 0, .int .i64 0, .int .i64 0, .int .i64 0, .int .i64 0, .int .i64 0, .int .i64 0, .int .i64 0, .int .i64 0, .int .u64 0] 63)) = .ok () (wr.alloc (.cells (ah y).toArray 63)) := dF wr wr.heap.size (ah y) (ah iA) 63 rfl rfl (dK y)
   obtain ⟨w1, hw1⟩ : ∃ w1, w1 = wr.alloc (.cells (ah y).toArray 63) := ⟨_, rfl⟩
   have hb1 : Below wr.heap.size wr w1 := by rw [hw1]; exact (Below.refl _ _).alloc (Nat.le_refl _) _
   have hz1 : w1.heap[wr.heap.size]? = some (.cells (ah y).toArray 63 (0, 0)) := by rw [hw1]; exact heap_alloc_new wr _
   have Yi := hbr.size
   have hx1 : w1.heap[w.heap.size]? = some (.cells (ah iA).toArray 63 (0, 0)) := (hb1.block _ (by omega)).trans qf
   have ld1 := fQ hz1 lI
   have c9 : w1.cell? ⟨wr.heap.size, 9, none⟩ = some (.int .u64 y.bP) := by simp [World.cell?, hz1]; rfl
   have hhas := tY y.bP.toNat (by omega) x w1 hx
   rw [show ((y.bP.toNat : Nat) : Int) = y.bP by omega] at hhas
   have JS : Sem.run Tryz.prog (storeCells ⟨w.heap.size, 0, none⟩ (ah y) 0) w1 = .ok () (w1.setRow w.heap.size (ah y).toArray) := nS hx1
   have hx2 := wK hx1 (ah y).toArray
   have TS := Lib.hid (show (ah y).toArray.size = 10 from rfl)
   have hb2 : Below w.heap.size w (w1.setRow w.heap.size (ah y).toArray) := qp (Qr.trans (hb1.mono Qr.size)) (Nat.le_refl _) _
   generalize hcI : ah y = cI at *
   replace hcI := Lib.hid hcI
   rw [← hw1] at st
   replace hw1 := Lib.hid hw1
   replace hz1 := Lib.hid hz1
   cases hP : ru y.bP.toNat x with
   | false =>
    rw [hP] at hhas
    go_wp2_with (go_at_call 86; go_must (refine hhas.mono ?_); rintro e w' ⟨rfl, rfl⟩)
    go_roundw
    case rel => exact ⟨i + 1, by omega, by go_num, hbr.trans (hb1.mono hbr.size), Lib.hid fun j hj => by
     rcases Nat.lt_succ_iff_lt_or_eq.1 hj with h5 | h5
     ·exact hno.out j h5
     ·subst h5; rw [← hy.out]; exact hP⟩
    case measure => simp [intOf]; omega
   | true =>
    rw [hP] at hhas
    obtain ⟨f, hf1, hf2, hf3⟩ := Dw (q := fun j : Jb => decide (j.state ∈ [(3 : Int)])) (p := DD x) (L := P.J) (i := i) (by rw [hL1.out]; exact iL) (fun j hj => by rw [hL1.out]; exact hno.out j hj) (by rw [hL1.out, ← hy.out]; exact hP)
    rw [hL1.out, ← hy.out] at hf3
    have hres : Hid (kK P.J x = y) := by show _ = _; unfold kK; rw [hf1]; exact hf3
    go_wp2_with (go_at_call 86; go_must (refine hhas.mono ?_); rintro e w' ⟨rfl, rfl⟩)
    refine eH rfl rfl rfl hx2 Tryz.underlying63 rfl (by rw [TS.out]; kernel_rfl) ⟨?_, hb2⟩
    rw [hres.out, hcI.out]
  ·have e : i = n := by omega
   subst e
   have hfi := Hw (q := fun j : Jb => decide (j.state ∈ [(3 : Int)])) (p := DD x) (L := P.J) (fun j hj => by rw [hL1.out]; exact hno.out j (by rw [← hn.out]; rw [hL1.out] at hj; exact hj))
   have hres : Hid (kK P.J x = iA) := by show _ = _; unfold kK; rw [hfi]
   obtain ⟨k0, f0, s0⟩ := bK qf 0 (.int .i64 0) rfl
   obtain ⟨k1, f1, s1⟩ := bK qf 1 (.int .i64 0) rfl
   obtain ⟨k2, f2, s2⟩ := bK qf 2 (.int .i64 0) rfl
   obtain ⟨k3, f3, s3⟩ := bK qf 3 (.int .i64 0) rfl
   obtain ⟨k4, f4, s4⟩ := bK qf 4 (.int .i64 0) rfl
   obtain ⟨k5, f5, s5⟩ := bK qf 5 (.int .i64 0) rfl
   obtain ⟨k6, f6, s6⟩ := bK qf 6 (.int .i64 0) rfl
   obtain ⟨k7, f7, s7⟩ := bK qf 7 (.int .i64 0) rfl
   obtain ⟨k8, f8, s8⟩ := bK qf 8 (.int .i64 0) rfl
   obtain ⟨k9, f9, s9⟩ := bK qf 9 (.int .u64 0) rfl
   obtain rfl := hk.out
   replace qf := Lib.hid qf
   go_wp2_with fail
   refine eH rfl rfl rfl qf.out Tryz.underlying63 rfl (by kernel_rfl) ⟨?_, Qr⟩
   rw [hres.out]
end
end Go.Proofs.YtnihdgcfamoplaaGreat

namespace Go.Proofs.YtnihdgcfamoplaaGreat
open Go.RowKit Go.Lib Go.Sort
theorem vG {L : List Jb} {e0 id : Int} {ok : Jb → Bool} {ch : Jb → Jb} (h : bO L e0 id ok ≠ 0) : df L e0 id ok ch = L := by unfold df; rw [if_neg h]
section
variable {w : World} {b c t d p g a : Nat} {v : Value} {m : Int} {P : Pg} {R : Wk}
theorem DF (h : SW w b c t d p v g a m R P) (e1 : Int) (he1 : e1 ≠ 0) (hE : bO P.J 0 R.ag.id (fun j : Jb => decide (j.state = 1)) = e1) :
  Calls Tryz.prog 121 #[.pointer (some ⟨b, 0, none⟩), .pointer (some ⟨c, 0, none⟩)] w (au w b c t d p v g a m .nilFunc { ({ R with aD := bM P.J R.ag.id } : Wk) with rep := ku e1, ok := false } P) := by
 have zJ := bL
 obtain ⟨k, hk1⟩ : ∃ k, k = 10 := ⟨_, rfl⟩
 rw [← hk1] at zJ
 have hk0 : ¬ k = 0 := by omega
 have hS := Lib.hid h
 have hcon := fun (W : World) (v1 : Value) (g1 : Nat) (R1 : Wk) (hW : SW W b c t d p v1 g1 a m R1 P) => Dp hW.cw R.ag.id
 obtain ⟨L1, hL1⟩ : ∃ L1, L1 = df P.J 0 R.ag.id (fun j : Jb => decide (j.state = 1)) pI := ⟨_, rfl⟩
 have hL2 : L1 = P.J := hL1.trans (vG (by rw [hE]; exact he1))
 rw [← hL1, hE, hL2, show ({ P with J := P.J } : Pg) = P from rfl] at hcon
 have d0 : (e1 != 0) = true := by simp [he1]
 replace hL2 := Lib.hid hL2
 replace he1 := Lib.hid he1
 replace hE := Lib.hid hE
 replace hL1 := Lib.hid hL1
 have hget := gK h.drew.cw.dX R.ag.id
 unfold iF at hget
 obtain ⟨x, hx⟩ : ∃ x, x = bM P.J R.ag.id := ⟨_, rfl⟩
 rw [← hx] at hget
 rw [← hx]
 replace hx := Lib.hid hx
 have lJ := ax x
 rw [← hk1] at lJ
 have hj := fun (W : World) (hW : SW W b c t d p v g a m R P) => hW.wk.sU x
 generalize ah x = cJ at *
 have c0 := h.cw.c0
 have q1 := h.wk.at 1 (.int .i64 R.ag.id) rfl
 obtain ⟨W9, kv⟩ : ∃ W9, W9 = gH { R with aD := x } := ⟨_, rfl⟩
 rw [← kv] at hj
 replace kv := Lib.hid kv
 replace hk1 := Lib.hid hk1
 clear h
 go_enter Tryz.func121, Tryz.ntmps121
 go_wp2_with fail
 go_region_with (go_at_call 33; go_must (refine hget.mono ?_); rintro e w' ⟨rfl, hgr⟩; have qW := hS.out.drew.kept hgr.below; obtain ⟨zw, pE⟩ := hj w' qW)
 all_goals
  have gz := qW.work pE (dh w' W9.toArray)
  have hfr : WS w (w'.setRow b W9.toArray) b c t d p v g v g := ((WS.of_below hgr.below : WS w.drew w' b c t d p v g v g).trans (WS.bH (dh w' W9.toArray))).xY
  clear zw pE qW hgr hget c0 q1
  generalize w'.setRow b W9.toArray = w9 at *
  replace gz := Lib.hid gz
  go_wp2_with fail
  refine Reg2.rd w9 9 45 [[],[ae],[ae,ae],[ae,ae,ae],[af,af,af,af],[af,af,af,af,ae],[af,af,af,af,ae,ae],[af,af,af,af,ae,ae,ae],[af,af,af,af,ae,ae,ae,ae]] [0, 0, 0, 1, 0, 0, 0, 0, 1] [.pure, .pure, .pure, .mU (.pointer (some ⟨t, 0, none⟩)), .pure, .pure, .pure, .pure, .mU (.int .i64 R.ag.id)] (by kernel_rfl) (by kernel_rfl) rfl rfl ⟨trivial, trivial, trivial, Reg2.tt, trivial, trivial, trivial, trivial, Reg2.tt, trivial⟩ ⟨rfl, rfl, rfl, Nat.le_refl _, fun _ _ => rfl⟩ ?_
  dsimp only [Reg2.mk, List.zip, List.zipWith, List.take]
  repeat (refine' Reg2.ai _ (by rfl) (fun wz => ?_) ?_; rotate_left; (go_simp; first | rfl | rw [if_neg (by omega)]); simp only [Act.put, xA, xB, xC]; (try simp only [xD]); (try simp only [xE]); (try simp only [id]))
  refine Reg2.pm (fun wz hI hF => ?_) (fun r3 => ?_) (by rfl)
  ·have c0 := (gz.out.cw.kept hI).c0
   go_wp2_with fail
   first | exact ⟨_, rfl, rfl, Reg2.Ext.refl _⟩ | exact ⟨_, rfl, ⟨(), rfl, trivial⟩, Reg2.Ext.refl _⟩
  simp only [Act.put, xA, xB, xC]; (try simp only [xD]); (try simp only [xE]); (try simp only [id])
  repeat (refine' Reg2.ai _ (by rfl) (fun wz => ?_) ?_; rotate_left; (go_simp; first | rfl | rw [if_neg (by omega)]); simp only [Act.put, xA, xB, xC]; (try simp only [xD]); (try simp only [xE]); (try simp only [id]))
  refine Reg2.pm (fun wz hI hF => ?_) (fun r8 => ?_) (by rfl)
  ·have q0 := (gz.out.kept hI).wk.at 1 (.int .i64 R.ag.id) rfl
   go_wp2_with fail
   first | exact ⟨_, rfl, rfl, Reg2.Ext.refl _⟩ | exact ⟨_, rfl, ⟨(), rfl, trivial⟩, Reg2.Ext.refl _⟩
  simp only [Act.put, xA, xB, xC]; (try simp only [xD]); (try simp only [xE]); (try simp only [id])
  refine Reg2.aC ?_
  intro w4 HI4 _ fG
  clear fG
  dsimp only [List.drop]
  have bN := gz.out.kept HI4
  have hc4 := hcon w4 _ _ _ bN
  go_wp2_with fail
  go_at_call 141
  refine hc4.mono ?_
  clear hc4
  rintro e w5 ⟨rfl, v5, g5, gL, hS5⟩
  have dR := bN.core gL hS5
  have sW := (hfr.trans (WS.of_below HI4)).trans (WS.dE hS5)
  have hf := iI dR.wk e1
  go_wp2_with (go_at_call 95; go_must (refine hf.mono ?_); rintro e w8 ⟨rfl, dU, gy⟩)
  go_ret
  exact ⟨rfl, v5, g5, dR.work dU gy, sW.trans (WS.bH gy)⟩
theorem Qs (h : SW w b c t d p v g a m R P) (hE : bO P.J 0 R.ag.id (fun j : Jb => decide (j.state = 1)) = 0) :
  Calls Tryz.prog 121 #[.pointer (some ⟨b, 0, none⟩), .pointer (some ⟨c, 0, none⟩)] w (au w b c t d p v g a m (fP 142) { R with aD := bM P.J R.ag.id, rep := iX (bM (df P.J 0 R.ag.id (fun j : Jb => decide (j.state = 1)) pI) R.ag.id) } { P with J := df P.J 0 R.ag.id (fun j : Jb => decide (j.state = 1)) pI }) := by
 have zJ := bL
 obtain ⟨k, hk1⟩ : ∃ k, k = 10 := ⟨_, rfl⟩
 rw [← hk1] at zJ
 have hk0 : ¬ k = 0 := by omega
 have hS := Lib.hid h
 have hcon := fun (W : World) (v1 : Value) (g1 : Nat) (R1 : Wk) (hW : SW W b c t d p v1 g1 a m R1 P) => Dp hW.cw R.ag.id
 obtain ⟨L1, hL1⟩ : ∃ L1, L1 = df P.J 0 R.ag.id (fun j : Jb => decide (j.state = 1)) pI := ⟨_, rfl⟩
 rw [← hL1]
 rw [← hL1, hE] at hcon
 replace hE := Lib.hid hE
 replace hL1 := Lib.hid hL1
 have hget := gK h.drew.cw.dX R.ag.id
 unfold iF at hget
 obtain ⟨x, hx⟩ : ∃ x, x = bM P.J R.ag.id := ⟨_, rfl⟩
 rw [← hx] at hget
 rw [← hx]
 replace hx := Lib.hid hx
 have lJ := ax x
 rw [← hk1] at lJ
 have hj := fun (W : World) (hW : SW W b c t d p v g a m R P) => hW.wk.sU x
 generalize ah x = cJ at *
 have c0 := h.cw.c0
 have q1 := h.wk.at 1 (.int .i64 R.ag.id) rfl
 obtain ⟨W9, kv⟩ : ∃ W9, W9 = gH { R with aD := x } := ⟨_, rfl⟩
 rw [← kv] at hj
 replace kv := Lib.hid kv
 replace hk1 := Lib.hid hk1
 clear h
 go_enter Tryz.func121, Tryz.ntmps121
 go_wp2_with fail
 go_region_with (go_at_call 33; go_must (refine hget.mono ?_); rintro e w' ⟨rfl, hgr⟩; have qW := hS.out.drew.kept hgr.below; obtain ⟨zw, pE⟩ := hj w' qW)
 all_goals
  have gz := qW.work pE (dh w' W9.toArray)
  have hfr : WS w (w'.setRow b W9.toArray) b c t d p v g v g := ((WS.of_below hgr.below : WS w.drew w' b c t d p v g v g).trans (WS.bH (dh w' W9.toArray))).xY
  clear zw pE qW hgr hget c0 q1
  generalize w'.setRow b W9.toArray = w9 at *
  replace gz := Lib.hid gz
  go_wp2_with fail
  refine Reg2.rd w9 9 45 [[],[ae],[ae,ae],[ae,ae,ae],[af,af,af,af],[af,af,af,af,ae],[af,af,af,af,ae,ae],[af,af,af,af,ae,ae,ae],[af,af,af,af,ae,ae,ae,ae]] [0, 0, 0, 1, 0, 0, 0, 0, 1] [.pure, .pure, .pure, .mU (.pointer (some ⟨t, 0, none⟩)), .pure, .pure, .pure, .pure, .mU (.int .i64 R.ag.id)] (by kernel_rfl) (by kernel_rfl) rfl rfl ⟨trivial, trivial, trivial, Reg2.tt, trivial, trivial, trivial, trivial, Reg2.tt, trivial⟩ ⟨rfl, rfl, rfl, Nat.le_refl _, fun _ _ => rfl⟩ ?_
  dsimp only [Reg2.mk, List.zip, List.zipWith, List.take]
  repeat (refine' Reg2.ai _ (by rfl) (fun wz => ?_) ?_; rotate_left; (go_simp; first | rfl | rw [if_neg (by omega)]); simp only [Act.put, xA, xB, xC]; (try simp only [xD]); (try simp only [xE]); (try simp only [id]))
  refine Reg2.pm (fun wz hI hF => ?_) (fun r3 => ?_) (by rfl)
  ·have c0 := (gz.out.cw.kept hI).c0
   go_wp2_with fail
   first | exact ⟨_, rfl, rfl, Reg2.Ext.refl _⟩ | exact ⟨_, rfl, ⟨(), rfl, trivial⟩, Reg2.Ext.refl _⟩
  simp only [Act.put, xA, xB, xC]; (try simp only [xD]); (try simp only [xE]); (try simp only [id])
  repeat (refine' Reg2.ai _ (by rfl) (fun wz => ?_) ?_; rotate_left; (go_simp; first | rfl | rw [if_neg (by omega)]); simp only [Act.put, xA, xB, xC]; (try simp only [xD]); (try simp only [xE]); (try simp only [id]))
  refine Reg2.pm (fun wz hI hF => ?_) (fun r8 => ?_) (by rfl)
  ·have q0 := (gz.out.kept hI).wk.at 1 (.int .i64 R.ag.id) rfl
   go_wp2_with fail
   first | exact ⟨_, rfl, rfl, Reg2.Ext.refl _⟩ | exact ⟨_, rfl, ⟨(), rfl, trivial⟩, Reg2.Ext.refl _⟩
  simp only [Act.put, xA, xB, xC]; (try simp only [xD]); (try simp only [xE]); (try simp only [id])
  refine Reg2.aC ?_
  intro w4 HI4 _ fG
  clear fG
  dsimp only [List.drop]
  have bN := gz.out.kept HI4
  have hc4 := hcon w4 _ _ _ bN
  go_wp2_with fail
  go_at_call 141
  refine hc4.mono ?_
  clear hc4
  rintro e w5 ⟨rfl, v5, g5, gL, hS5⟩
  have dR := bN.core gL hS5
  have sW := (hfr.trans (WS.of_below HI4)).trans (WS.dE hS5)
  have ky := nN dR R.ag.id
  have q1 := dR.wk.at 1 (.int .i64 R.ag.id) rfl
  go_wp2_with fail
  go_at_call 114
  refine ky.mono ?_
  clear ky
  rintro e w8 ⟨rfl, dU, gy⟩
  have gT := dR.work dU gy
  have Ki := sW.trans (WS.bH gy)
  go_wp2_with fail
  go_ret
  exact ⟨rfl, v5, g5, gT, Ki⟩
theorem wO (h : SW w b c t d p v g a m R P) (e1 : Int) (he1 : e1 ≠ 0) (hE : bO P.J 0 R.ag.id (fun j : Jb => decide (j.state = 2)) = e1) :
  Calls Tryz.prog 122 #[.pointer (some ⟨b, 0, none⟩), .pointer (some ⟨c, 0, none⟩)] w (au w b c t d p v g a m .nilFunc { R with rep := ku e1, ok := false } P) := by
 have zJ := bL
 obtain ⟨k, hk1⟩ : ∃ k, k = 10 := ⟨_, rfl⟩
 rw [← hk1] at zJ
 have hk0 : ¬ k = 0 := by omega
 have hS := Lib.hid h
 have hcon := fun (W : World) (v1 : Value) (g1 : Nat) (R1 : Wk) (hW : SW W b c t d p v1 g1 a m R1 P) => Dq hW.cw R.ag.id
 obtain ⟨L1, hL1⟩ : ∃ L1, L1 = df P.J 0 R.ag.id (fun j : Jb => decide (j.state = 2)) om := ⟨_, rfl⟩
 have hL2 : L1 = P.J := hL1.trans (vG (by rw [hE]; exact he1))
 rw [← hL1, hE, hL2, show ({ P with J := P.J } : Pg) = P from rfl] at hcon
 have d0 : (e1 != 0) = true := by simp [he1]
 replace hL2 := Lib.hid hL2
 replace he1 := Lib.hid he1
 replace hE := Lib.hid hE
 replace hL1 := Lib.hid hL1
 replace hk1 := Lib.hid hk1
 clear h
 go_enter Tryz.func122, Tryz.ntmps122
 go_wp2_with fail
 have gz := Lib.hid hS.out
 have hfr : WS w w b c t d p v g v g := WS.refl _
 refine Reg2.rd w 9 32 [[],[ae],[ae,ae],[ae,ae,ae],[af,af,af,af],[af,af,af,af,ae],[af,af,af,af,ae,ae],[af,af,af,af,ae,ae,ae],[af,af,af,af,ae,ae,ae,ae]] [0, 0, 0, 1, 0, 0, 0, 0, 1] [.pure, .pure, .pure, .mU (.pointer (some ⟨t, 0, none⟩)), .pure, .pure, .pure, .pure, .mU (.int .i64 R.ag.id)] (by kernel_rfl) (by kernel_rfl) rfl rfl ⟨trivial, trivial, trivial, Reg2.tt, trivial, trivial, trivial, trivial, Reg2.tt, trivial⟩ ⟨rfl, rfl, rfl, Nat.le_refl _, fun _ _ => rfl⟩ ?_
 dsimp only [Reg2.mk, List.zip, List.zipWith, List.take]
 repeat (refine' Reg2.ai _ (by rfl) (fun wz => ?_) ?_; rotate_left; (go_simp; first | rfl | rw [if_neg (by omega)]); simp only [Act.put, xA, xB, xC]; (try simp only [xD]); (try simp only [xE]); (try simp only [id]))
 refine Reg2.pm (fun wz hI hF => ?_) (fun r3 => ?_) (by rfl)
 ·have c0 := (gz.out.cw.kept hI).c0
  go_wp2_with fail
  first | exact ⟨_, rfl, rfl, Reg2.Ext.refl _⟩ | exact ⟨_, rfl, ⟨(), rfl, trivial⟩, Reg2.Ext.refl _⟩
 simp only [Act.put, xA, xB, xC]; (try simp only [xD]); (try simp only [xE]); (try simp only [id])
 repeat (refine' Reg2.ai _ (by rfl) (fun wz => ?_) ?_; rotate_left; (go_simp; first | rfl | rw [if_neg (by omega)]); simp only [Act.put, xA, xB, xC]; (try simp only [xD]); (try simp only [xE]); (try simp only [id]))
 refine Reg2.pm (fun wz hI hF => ?_) (fun r8 => ?_) (by rfl)
 ·have q0 := (gz.out.kept hI).wk.at 1 (.int .i64 R.ag.id) rfl
  go_wp2_with fail
  first | exact ⟨_, rfl, rfl, Reg2.Ext.refl _⟩ | exact ⟨_, rfl, ⟨(), rfl, trivial⟩, Reg2.Ext.refl _⟩
 simp only [Act.put, xA, xB, xC]; (try simp only [xD]); (try simp only [xE]); (try simp only [id])
 refine Reg2.aC ?_
 intro w4 HI4 _ fG
 clear fG
 dsimp only [List.drop]
 have bN := gz.out.kept HI4
 have hc4 := hcon w4 _ _ _ bN
 go_wp2_with fail
 go_at_call 143
 refine hc4.mono ?_
 clear hc4
 rintro e w5 ⟨rfl, v5, g5, gL, hS5⟩
 have dR := bN.core gL hS5
 have sW := (hfr.trans (WS.of_below HI4)).trans (WS.dE hS5)
 have hf := iI dR.wk e1
 go_wp2_with (go_at_call 95; go_must (refine hf.mono ?_); rintro e w8 ⟨rfl, dU, gy⟩)
 go_ret
 exact ⟨rfl, v5, g5, dR.work dU gy, sW.trans (WS.bH gy)⟩
theorem Ik (h : SW w b c t d p v g a m R P) (hE : bO P.J 0 R.ag.id (fun j : Jb => decide (j.state = 2)) = 0) :
  Calls Tryz.prog 122 #[.pointer (some ⟨b, 0, none⟩), .pointer (some ⟨c, 0, none⟩)] w (au w b c t d p v g a m (fP 138) { R with aD := bM (df P.J 0 R.ag.id (fun j : Jb => decide (j.state = 2)) om) R.ag.id, rep := iX (bM (df P.J 0 R.ag.id (fun j : Jb => decide (j.state = 2)) om) R.ag.id) } { P with J := df P.J 0 R.ag.id (fun j : Jb => decide (j.state = 2)) om }) := by
 have zJ := bL
 obtain ⟨k, hk1⟩ : ∃ k, k = 10 := ⟨_, rfl⟩
 rw [← hk1] at zJ
 have hk0 : ¬ k = 0 := by omega
 have hS := Lib.hid h
 have hcon := fun (W : World) (v1 : Value) (g1 : Nat) (R1 : Wk) (hW : SW W b c t d p v1 g1 a m R1 P) => Dq hW.cw R.ag.id
 obtain ⟨L1, hL1⟩ : ∃ L1, L1 = df P.J 0 R.ag.id (fun j : Jb => decide (j.state = 2)) om := ⟨_, rfl⟩
 rw [← hL1]
 rw [← hL1, hE] at hcon
 replace hE := Lib.hid hE
 replace hL1 := Lib.hid hL1
 replace hk1 := Lib.hid hk1
 clear h
 go_enter Tryz.func122, Tryz.ntmps122
 go_wp2_with fail
 have gz := Lib.hid hS.out
 have hfr : WS w w b c t d p v g v g := WS.refl _
 refine Reg2.rd w 9 32 [[],[ae],[ae,ae],[ae,ae,ae],[af,af,af,af],[af,af,af,af,ae],[af,af,af,af,ae,ae],[af,af,af,af,ae,ae,ae],[af,af,af,af,ae,ae,ae,ae]] [0, 0, 0, 1, 0, 0, 0, 0, 1] [.pure, .pure, .pure, .mU (.pointer (some ⟨t, 0, none⟩)), .pure, .pure, .pure, .pure, .mU (.int .i64 R.ag.id)] (by kernel_rfl) (by kernel_rfl) rfl rfl ⟨trivial, trivial, trivial, Reg2.tt, trivial, trivial, trivial, trivial, Reg2.tt, trivial⟩ ⟨rfl, rfl, rfl, Nat.le_refl _, fun _ _ => rfl⟩ ?_
 dsimp only [Reg2.mk, List.zip, List.zipWith, List.take]
 repeat (refine' Reg2.ai _ (by rfl) (fun wz => ?_) ?_; rotate_left; (go_simp; first | rfl | rw [if_neg (by omega)]); simp only [Act.put, xA, xB, xC]; (try simp only [xD]); (try simp only [xE]); (try simp only [id]))
 refine Reg2.pm (fun wz hI hF => ?_) (fun r3 => ?_) (by rfl)
 ·have c0 := (gz.out.cw.kept hI).c0
  go_wp2_with fail
  first | exact ⟨_, rfl, rfl, Reg2.Ext.refl _⟩ | exact ⟨_, rfl, ⟨(), rfl, trivial⟩, Reg2.Ext.refl _⟩
 simp only [Act.put, xA, xB, xC]; (try simp only [xD]); (try simp only [xE]); (try simp only [id])
 repeat (refine' Reg2.ai _ (by rfl) (fun wz => ?_) ?_; rotate_left; (go_simp; first | rfl | rw [if_neg (by omega)]); simp only [Act.put, xA, xB, xC]; (try simp only [xD]); (try simp only [xE]); (try simp only [id]))
 refine Reg2.pm (fun wz hI hF => ?_) (fun r8 => ?_) (by rfl)
 ·have q0 := (gz.out.kept hI).wk.at 1 (.int .i64 R.ag.id) rfl
  go_wp2_with fail
  first | exact ⟨_, rfl, rfl, Reg2.Ext.refl _⟩ | exact ⟨_, rfl, ⟨(), rfl, trivial⟩, Reg2.Ext.refl _⟩
 simp only [Act.put, xA, xB, xC]; (try simp only [xD]); (try simp only [xE]); (try simp only [id])
 refine Reg2.aC ?_
 intro w4 HI4 _ fG
 clear fG
 dsimp only [List.drop]
 have bN := gz.out.kept HI4
 have hc4 := hcon w4 _ _ _ bN
 go_wp2_with fail
 go_at_call 143
 refine hc4.mono ?_
 clear hc4
 rintro e w5 ⟨rfl, v5, g5, gL, hS5⟩
 have dR := bN.core gL hS5
 have sW := (hfr.trans (WS.of_below HI4)).trans (WS.dE hS5)
 have ky := nN dR R.ag.id
 have q1 := dR.wk.at 1 (.int .i64 R.ag.id) rfl
 go_wp2_with fail
 go_at_call 114
 refine ky.mono ?_
 clear ky
 rintro e w8 ⟨rfl, dU, gy⟩
 have gT := dR.work dU gy
 have Ki := sW.trans (WS.bH gy)
 obtain ⟨y, hy⟩ : ∃ y, y = bM L1 R.ag.id := ⟨_, rfl⟩
 rw [show bM ({ P with J := L1 } : Pg).J R.ag.id = y from hy.symm] at gT dU ⊢
 replace hy := Lib.hid hy
 obtain ⟨Vu, kv⟩ := dU.sU y
 have lY := ax y
 rw [← hk1.out] at lY
 have Qt := gT.work kv (dh w8 _)
 have hfin := Ki.trans (WS.bH (dh w8 (gH { ({ R with rep := iX y } : Wk) with aD := y }).toArray))
 generalize gH { ({ R with rep := iX y } : Wk) with aD := y } = W9 at *
 generalize ah y = cY at *
 go_wp2_with fail
 go_ret
 have ey := hy.out
 clear hy
 subst ey
 exact ⟨rfl, v5, g5, Qt, hfin⟩
theorem yY (h : SW w b c t d p v g a m R P) (hk : PK P) (s : Int) (e1 : Int) (he1 : e1 ≠ 0) (hE : bO P.J (bF s P.now) R.ag.id (fq s) = e1) :
  Calls Tryz.prog 120 #[.pointer (some ⟨b, 0, none⟩), .pointer (some ⟨c, 0, none⟩), .int .i64 s] w (au w b c t d p v g a m .nilFunc { ({ R with aD := bM P.J R.ag.id } : Wk) with rep := ku e1, ok := false } P) := by
 have zJ := bL
 obtain ⟨k, hk1⟩ : ∃ k, k = 10 := ⟨_, rfl⟩
 rw [← hk1] at zJ
 have hk0 : ¬ k = 0 := by omega
 have hS := Lib.hid h
 have hcon := fun (W : World) (v1 : Value) (g1 : Nat) (R1 : Wk) (hW : SW W b c t d p v1 g1 a m R1 P) => sP hW.cw hk R.ag.id s P.now
 obtain ⟨L1, hL1⟩ : ∃ L1, L1 = df P.J (bF s P.now) R.ag.id (fq s) (bQ s P.now) := ⟨_, rfl⟩
 have hL2 : L1 = P.J := hL1.trans (vG (by rw [hE]; exact he1))
 rw [← hL1, hE, hL2, show ({ P with J := P.J } : Pg) = P from rfl] at hcon
 have d0 : (e1 != 0) = true := by simp [he1]
 replace hL2 := Lib.hid hL2
 replace he1 := Lib.hid he1
 replace hE := Lib.hid hE
 replace hL1 := Lib.hid hL1
 have hget := gK h.drew.cw.dX R.ag.id
 unfold iF at hget
 obtain ⟨x, hx⟩ : ∃ x, x = bM P.J R.ag.id := ⟨_, rfl⟩
 rw [← hx] at hget
 rw [← hx]
 replace hx := Lib.hid hx
 have lJ := ax x
 rw [← hk1] at lJ
 have hj := fun (W : World) (hW : SW W b c t d p v g a m R P) => hW.wk.sU x
 generalize ah x = cJ at *
 have c0 := h.cw.c0
 have q1 := h.wk.at 1 (.int .i64 R.ag.id) rfl
 obtain ⟨W9, kv⟩ : ∃ W9, W9 = gH { R with aD := x } := ⟨_, rfl⟩
 rw [← kv] at hj
 replace kv := Lib.hid kv
 replace hk1 := Lib.hid hk1
 clear h
 go_enter Tryz.func120, Tryz.ntmps120
 go_wp2_with fail
 go_region_with (go_at_call 33; go_must (refine hget.mono ?_); rintro e w' ⟨rfl, hgr⟩; have qW := hS.out.drew.kept hgr.below; obtain ⟨zw, pE⟩ := hj w' qW)
 all_goals
  have gz := qW.work pE (dh w' W9.toArray)
  have hfr : WS w (w'.setRow b W9.toArray) b c t d p v g v g := ((WS.of_below hgr.below : WS w.drew w' b c t d p v g v g).trans (WS.bH (dh w' W9.toArray))).xY
  clear zw pE qW hgr hget c0 q1
  generalize w'.setRow b W9.toArray = w9 at *
  replace gz := Lib.hid gz
  go_wp2_with fail
  refine Reg2.rd w9 15 53 [[],[ae],[ae,ae],[ae,ae,ae],[af,af,af,af],[af,af,af,af,ae],[af,af,af,af,ae,ae],[af,af,af,af,ae,ae,ae],[af,af,af,af,ae,ae,ae,ae],[af,af,af,af,af,af,af,af,af],[af,af,af,af,af,af,af,af,af,af],[af,af,af,af,af,af,af,af,af,af,ae],[af,af,af,af,af,af,af,af,af,af,ae,ae],[af,af,af,af,af,af,af,af,af,af,ae,ae,ae],[af,af,af,af,af,af,af,af,af,af,ae,ae,ae,ae]] [0, 0, 0, 1, 0, 0, 0, 0, 1, 0, 0, 0, 0, 1, 1] [.pure, .pure, .pure, .mU (.pointer (some ⟨t, 0, none⟩)), .pure, .pure, .pure, .pure, .mU (.int .i64 R.ag.id), .pure, .pure, .pure, .pure, .mU (.pointer (some ⟨p, 0, none⟩)), .mU (.int .i64 P.now)] (by kernel_rfl) (by kernel_rfl) rfl rfl ⟨trivial, trivial, trivial, Reg2.tt, trivial, trivial, trivial, trivial, Reg2.tt, trivial, trivial, trivial, trivial, Reg2.tt, Reg2.tt, trivial⟩ ⟨rfl, rfl, rfl, Nat.le_refl _, fun _ _ => rfl⟩ ?_
  dsimp only [Reg2.mk, List.zip, List.zipWith, List.take]
  repeat (refine' Reg2.ai _ (by rfl) (fun wz => ?_) ?_; rotate_left; (go_simp; first | rfl | rw [if_neg (by omega)]); simp only [Act.put, xA, xB, xC]; (try simp only [xD]); (try simp only [xE]); (try simp only [id]))
  refine Reg2.pm (fun wz hI hF => ?_) (fun r3 => ?_) (by rfl)
  ·have c0 := (gz.out.cw.kept hI).c0
   go_wp2_with fail
   first | exact ⟨_, rfl, rfl, Reg2.Ext.refl _⟩ | exact ⟨_, rfl, ⟨(), rfl, trivial⟩, Reg2.Ext.refl _⟩
  simp only [Act.put, xA, xB, xC]; (try simp only [xD]); (try simp only [xE]); (try simp only [id])
  repeat (refine' Reg2.ai _ (by rfl) (fun wz => ?_) ?_; rotate_left; (go_simp; first | rfl | rw [if_neg (by omega)]); simp only [Act.put, xA, xB, xC]; (try simp only [xD]); (try simp only [xE]); (try simp only [id]))
  refine Reg2.pm (fun wz hI hF => ?_) (fun r8 => ?_) (by rfl)
  ·have q0 := (gz.out.kept hI).wk.at 1 (.int .i64 R.ag.id) rfl
   go_wp2_with fail
   first | exact ⟨_, rfl, rfl, Reg2.Ext.refl _⟩ | exact ⟨_, rfl, ⟨(), rfl, trivial⟩, Reg2.Ext.refl _⟩
  simp only [Act.put, xA, xB, xC]; (try simp only [xD]); (try simp only [xE]); (try simp only [id])
  repeat (refine' Reg2.ai _ (by rfl) (fun wz => ?_) ?_; rotate_left; (go_simp; first | rfl | rw [if_neg (by omega)]); simp only [Act.put, xA, xB, xC]; (try simp only [xD]); (try simp only [xE]); (try simp only [id]))
  refine Reg2.pm (fun wz hI hF => ?_) (fun Fh => ?_) (by rfl)
  ·have c0 := (gz.out.cw.kept hI).c2
   go_wp2_with fail
   first | exact ⟨_, rfl, rfl, Reg2.Ext.refl _⟩ | exact ⟨_, rfl, ⟨(), rfl, trivial⟩, Reg2.Ext.refl _⟩
  simp only [Act.put, xA, xB, xC]; (try simp only [xD]); (try simp only [xE]); (try simp only [id])
  refine Reg2.pm (fun wz hI hF => ?_) (fun Ck => ?_) (by rfl)
  ·go_wp2_with (go_at_call 25; go_must (refine (gQ (gz.out.kept hI).cw).mono ?_); rintro e w' ⟨rfl, rfl⟩)
   first | exact ⟨_, rfl, rfl, Reg2.Ext.refl _⟩ | exact ⟨_, rfl, ⟨(), rfl, trivial⟩, Reg2.Ext.refl _⟩
  simp only [Act.put, xA, xB, xC]; (try simp only [xD]); (try simp only [xE]); (try simp only [id])
  refine Reg2.aC ?_
  intro w4 HI4 _ fG
  clear fG
  dsimp only [List.drop]
  have bN := gz.out.kept HI4
  have hc4 := hcon w4 _ _ _ bN
  go_wp2_with fail
  go_at_call 139
  refine hc4.mono ?_
  clear hc4
  rintro e w5 ⟨rfl, v5, g5, gL, hS5⟩
  have dR := bN.core gL hS5
  have sW := (hfr.trans (WS.of_below HI4)).trans (WS.dE hS5)
  have hf := iI dR.wk e1
  go_wp2_with (go_at_call 95; go_must (refine hf.mono ?_); rintro e w8 ⟨rfl, dU, gy⟩)
  go_ret
  exact ⟨rfl, v5, g5, dR.work dU gy, sW.trans (WS.bH gy)⟩
theorem Kj (h : SW w b c t d p v g a m R P) (hk : PK P) (s : Int) (hE : bO P.J (bF s P.now) R.ag.id (fq s) = 0) :
  Calls Tryz.prog 120 #[.pointer (some ⟨b, 0, none⟩), .pointer (some ⟨c, 0, none⟩), .int .i64 s] w (au w b c t d p v g a m (fP 140) { R with aD := bM P.J R.ag.id, rep := iX (bM (df P.J (bF s P.now) R.ag.id (fq s) (bQ s P.now)) R.ag.id) } { P with J := df P.J (bF s P.now) R.ag.id (fq s) (bQ s P.now) }) := by
 have zJ := bL
 obtain ⟨k, hk1⟩ : ∃ k, k = 10 := ⟨_, rfl⟩
 rw [← hk1] at zJ
 have hk0 : ¬ k = 0 := by omega
 have hS := Lib.hid h
 have hcon := fun (W : World) (v1 : Value) (g1 : Nat) (R1 : Wk) (hW : SW W b c t d p v1 g1 a m R1 P) => sP hW.cw hk R.ag.id s P.now
 obtain ⟨L1, hL1⟩ : ∃ L1, L1 = df P.J (bF s P.now) R.ag.id (fq s) (bQ s P.now) := ⟨_, rfl⟩
 rw [← hL1]
 rw [← hL1, hE] at hcon
 replace hE := Lib.hid hE
 replace hL1 := Lib.hid hL1
 have hget := gK h.drew.cw.dX R.ag.id
 unfold iF at hget
 obtain ⟨x, hx⟩ : ∃ x, x = bM P.J R.ag.id := ⟨_, rfl⟩
 rw [← hx] at hget
 rw [← hx]
 replace hx := Lib.hid hx
 have lJ := ax x
 rw [← hk1] at lJ
 have hj := fun (W : World) (hW : SW W b c t d p v g a m R P) => hW.wk.sU x
 generalize ah x = cJ at *
 have c0 := h.cw.c0
 have q1 := h.wk.at 1 (.int .i64 R.ag.id) rfl
 obtain ⟨W9, kv⟩ : ∃ W9, W9 = gH { R with aD := x } := ⟨_, rfl⟩
 rw [← kv] at hj
 replace kv := Lib.hid kv
 replace hk1 := Lib.hid hk1
 clear h
 go_enter Tryz.func120, Tryz.ntmps120
 go_wp2_with fail
 go_region_with (go_at_call 33; go_must (refine hget.mono ?_); rintro e w' ⟨rfl, hgr⟩; have qW := hS.out.drew.kept hgr.below; obtain ⟨zw, pE⟩ := hj w' qW)
 all_goals
  have gz := qW.work pE (dh w' W9.toArray)
  have hfr : WS w (w'.setRow b W9.toArray) b c t d p v g v g := ((WS.of_below hgr.below : WS w.drew w' b c t d p v g v g).trans (WS.bH (dh w' W9.toArray))).xY
  clear zw pE qW hgr hget c0 q1
  generalize w'.setRow b W9.toArray = w9 at *
  replace gz := Lib.hid gz
  go_wp2_with fail
  refine Reg2.rd w9 15 53 [[],[ae],[ae,ae],[ae,ae,ae],[af,af,af,af],[af,af,af,af,ae],[af,af,af,af,ae,ae],[af,af,af,af,ae,ae,ae],[af,af,af,af,ae,ae,ae,ae],[af,af,af,af,af,af,af,af,af],[af,af,af,af,af,af,af,af,af,af],[af,af,af,af,af,af,af,af,af,af,ae],[af,af,af,af,af,af,af,af,af,af,ae,ae],[af,af,af,af,af,af,af,af,af,af,ae,ae,ae],[af,af,af,af,af,af,af,af,af,af,ae,ae,ae,ae]] [0, 0, 0, 1, 0, 0, 0, 0, 1, 0, 0, 0, 0, 1, 1] [.pure, .pure, .pure, .mU (.pointer (some ⟨t, 0, none⟩)), .pure, .pure, .pure, .pure, .mU (.int .i64 R.ag.id), .pure, .pure, .pure, .pure, .mU (.pointer (some ⟨p, 0, none⟩)), .mU (.int .i64 P.now)] (by kernel_rfl) (by kernel_rfl) rfl rfl ⟨trivial, trivial, trivial, Reg2.tt, trivial, trivial, trivial, trivial, Reg2.tt, trivial, trivial, trivial, trivial, Reg2.tt, Reg2.tt, trivial⟩ ⟨rfl, rfl, rfl, Nat.le_refl _, fun _ _ => rfl⟩ ?_
  dsimp only [Reg2.mk, List.zip, List.zipWith, List.take]
  repeat (refine' Reg2.ai _ (by rfl) (fun wz => ?_) ?_; rotate_left; (go_simp; first | rfl | rw [if_neg (by omega)]); simp only [Act.put, xA, xB, xC]; (try simp only [xD]); (try simp only [xE]); (try simp only [id]))
  refine Reg2.pm (fun wz hI hF => ?_) (fun r3 => ?_) (by rfl)
  ·have c0 := (gz.out.cw.kept hI).c0
   go_wp2_with fail
   first | exact ⟨_, rfl, rfl, Reg2.Ext.refl _⟩ | exact ⟨_, rfl, ⟨(), rfl, trivial⟩, Reg2.Ext.refl _⟩
  simp only [Act.put, xA, xB, xC]; (try simp only [xD]); (try simp only [xE]); (try simp only [id])
  repeat (refine' Reg2.ai _ (by rfl) (fun wz => ?_) ?_; rotate_left; (go_simp; first | rfl | rw [if_neg (by omega)]); simp only [Act.put, xA, xB, xC]; (try simp only [xD]); (try simp only [xE]); (try simp only [id]))
  refine Reg2.pm (fun wz hI hF => ?_) (fun r8 => ?_) (by rfl)
  ·have q0 := (gz.out.kept hI).wk.at 1 (.int .i64 R.ag.id) rfl
   go_wp2_with fail
   first | exact ⟨_, rfl, rfl, Reg2.Ext.refl _⟩ | exact ⟨_, rfl, ⟨(), rfl, trivial⟩, Reg2.Ext.refl _⟩
  simp only [Act.put, xA, xB, xC]; (try simp only [xD]); (try simp only [xE]); (try simp only [id])
  repeat (refine' Reg2.ai _ (by rfl) (fun wz => ?_) ?_; rotate_left; (go_simp; first | rfl | rw [if_neg (by omega)]); simp only [Act.put, xA, xB, xC]; (try simp only [xD]); (try simp only [xE]); (try simp only [id]))
  refine Reg2.pm (fun wz hI hF => ?_) (fun Fh => ?_) (by rfl)
  ·have c0 := (gz.out.cw.kept hI).c2
   go_wp2_with fail
   first | exact ⟨_, rfl, rfl, Reg2.Ext.refl _⟩ | exact ⟨_, rfl, ⟨(), rfl, trivial⟩, Reg2.Ext.refl _⟩
  simp only [Act.put, xA, xB, xC]; (try simp only [xD]); (try simp only [xE]); (try simp only [id])
  refine Reg2.pm (fun wz hI hF => ?_) (fun Ck => ?_) (by rfl)
  ·go_wp2_with (go_at_call 25; go_must (refine (gQ (gz.out.kept hI).cw).mono ?_); rintro e w' ⟨rfl, rfl⟩)
   first | exact ⟨_, rfl, rfl, Reg2.Ext.refl _⟩ | exact ⟨_, rfl, ⟨(), rfl, trivial⟩, Reg2.Ext.refl _⟩
  simp only [Act.put, xA, xB, xC]; (try simp only [xD]); (try simp only [xE]); (try simp only [id])
  refine Reg2.aC ?_
  intro w4 HI4 _ fG
  clear fG
  dsimp only [List.drop]
  have bN := gz.out.kept HI4
  have hc4 := hcon w4 _ _ _ bN
  go_wp2_with fail
  go_at_call 139
  refine hc4.mono ?_
  clear hc4
  rintro e w5 ⟨rfl, v5, g5, gL, hS5⟩
  have dR := bN.core gL hS5
  have sW := (hfr.trans (WS.of_below HI4)).trans (WS.dE hS5)
  have ky := nN dR R.ag.id
  have q1 := dR.wk.at 1 (.int .i64 R.ag.id) rfl
  go_wp2_with fail
  go_at_call 114
  refine ky.mono ?_
  clear ky
  rintro e w8 ⟨rfl, dU, gy⟩
  have gT := dR.work dU gy
  have Ki := sW.trans (WS.bH gy)
  go_wp2_with fail
  go_ret
  exact ⟨rfl, v5, g5, gT, Ki⟩
end
end Go.Proofs.YtnihdgcfamoplaaGreat
