/-
 Own words and walks, merged: part 6 of 8.
-/
import Derived.Deep.RegionWith
import Derived.Test.YtkhfejihijdipaaGreatVNobody5
set_option maxRecDepth 1000000
set_option maxHeartbeats 8000000
set_option linter.all false
namespace Go.Proofs.YtkhfejihijdipaaGreat
open Go.RowKit Go.Lib Go.Sort
def lG (n : Int) (r : Rq) : Int := if r.kind = 1 ∧ n < r.width ∧ r.width ≤ 64 ∧ aN r ≠ 1 then 9 else 0
section
variable {w : World} {c t d p g a : Nat} {v : Value} {m : Int} {P : Pg}
theorem Fz (h : CW w c t d p v g a m P) (hl : gJ P.T) (r : Rq) (hk : r.kind ≠ 1) : Calls Tryz.prog 30 #[.pointer (some ⟨c, 0, none⟩), .agg (encR r).toArray] w fun e w' => e = .returned (.int .i64 0) ∧ Below w.heap.size w w' := by
 have zR := jR
 obtain ⟨k9, bV⟩ : ∃ k, k = 9 := ⟨_, rfl⟩
 rw [← bV] at zR
 have hk0 : ¬ k9 = 0 := by omega
 have lR := gL r
 rw [← bV] at lR
 replace bV := Lib.hid bV
 obtain ⟨wA, aM⟩ : ∃ wA, wA = w.alloc (.cells (encR r).toArray 33) := ⟨_, rfl⟩
 have cZ : Hid (Below w.heap.size w wA) := by show Below _ _ _; rw [aM]; exact (Below.refl _ _).alloc (Nat.le_refl _) _
 have iZ : Hid (wA.heap[w.heap.size]? = some (.cells (encR r).toArray 33 (0, 0))) := by show _ = _; rw [aM]; exact heap_alloc_new w _
 have iy := Lib.hid (h.kept cZ.out)
 have hno := fun (W : World) (hW : Below wA.heap.size wA W) => lV (iy.out.kept hW)
 have hsz := fun (W : World) (hW : Below wA.heap.size wA W) => oQ (iy.out.kept hW).nodes hl
 have KN := fun (W : World) => mE r W
 have e0 : (encR r)[0]? = some (.int .i64 r.kind) := rfl
 have e3 : (encR r)[3]? = some (.int .i64 r.width) := rfl
 generalize r.kind = rk at *
 generalize r.width = rw at *
 generalize aN r = rf at *
 generalize encR r = cR at *
 generalize (P.T.length : Int) = nl at *
 have d1 : (rk != 1) = true := by simp [hk]
 clear h
 go_enter Tryz.func30, Tryz.ntmps30
 go_wp2_with fail
 rw [← aM]
 replace aM := Lib.hid aM
 refine Reg2.rd wA 20 30 [[],[ae],[ae,ae],[ae,ae,ae],[ae,ae,ae,ae],[ae,ae,ae,ae,ae],[ae,ae,ae,ae,ae,ae],[ae,ae,ae,ae,ae,ae,ae],[ae,ae,ae,ae,ae,ae,ae,ae],[ae,ae,ae,ae,ae,ae,ae,ae,ae],[ae,ae,ae,ae,ae,ae,ae,ae,ae,ae],[ae,ae,ae,ae,ae,ae,ae,ae,ae,ae,ae],[ae,ae,ae,ae,ae,ae,ae,ae,ae,ae,ae,ae],[ae,ae,ae,ae,ae,ae,ae,ae,ae,ae,ae,ae,ae],[ae,ae,ae,ae,ae,ae,ae,ae,ae,ae,ae,ae,ae,ae],[ae,ae,ae,ae,ae,ae,ae,ae,ae,ae,ae,ae,ae,af,af],[ae,ae,ae,ae,ae,ae,ae,ae,ae,ae,ae,ae,ae,af,af,ae],[ae,ae,ae,ae,ae,ae,ae,ae,ae,ae,ae,ae,ae,af,af,ae,ae],[ae,ae,ae,ae,ae,ae,ae,ae,ae,ae,ae,ae,ae,af,af,ae,ae,ae],[ae,ae,ae,ae,ae,ae,ae,ae,ae,ae,ae,ae,ae,af,af,ae,ae,ae,ae]] [0, 1, 0, 0, 1, 0, 0, 0, 0, 1, 0, 0, 0, 0, 1, 0, 0, 0, 1, 1] [.pure, .mU (.bool false), .pure, .pure, .mU (.int .i64 rk), .pure, .pure, .pure, .pure, .mU (.int .i64 rw), .pure, .pure, .pure, .pure, .mU (.int .i64 rw), .pure, .pure, .pure, .mU (.pointer (some ⟨d, 0, none⟩)), .mU (.int .i64 nl)] (by kernel_rfl) (by kernel_rfl) rfl rfl ⟨trivial, Reg2.tt, trivial, trivial, Reg2.tt, trivial, trivial, trivial, trivial, Reg2.tt, trivial, trivial, trivial, trivial, Reg2.tt, trivial, trivial, trivial, Reg2.tt, Reg2.tt, trivial⟩ ⟨rfl, rfl, rfl, Nat.le_refl _, fun _ _ => rfl⟩ ?_
 dsimp only [Reg2.mk, List.zip, List.zipWith, List.take]
 repeat (refine' Reg2.ai _ (by rfl) (fun wz => ?_) ?_; rotate_left; (go_simp; first | rfl | rw [if_neg (by omega)]); simp only [Act.put, xA, xB, xC]; (try simp only [xD]); (try simp only [xE]); (try simp only [id]))
 refine Reg2.pm (fun wz hI hF => ?_) (fun r1 => ?_) (by rfl)
 ·go_wp2_with (go_at_call 34; go_must (refine (hno wz hI).mono ?_); rintro e w' ⟨rfl, rfl⟩)
  first | exact ⟨_, rfl, rfl, Reg2.Ext.refl _⟩ | exact ⟨_, rfl, ⟨(), rfl, trivial⟩, Reg2.Ext.refl _⟩
 simp only [Act.put, xA, xB, xC]; (try simp only [xD]); (try simp only [xE]); (try simp only [id])
 repeat (refine' Reg2.ai _ (by rfl) (fun wz => ?_) ?_; rotate_left; (go_simp; first | rfl | rw [if_neg (by omega)]); simp only [Act.put, xA, xB, xC]; (try simp only [xD]); (try simp only [xE]); (try simp only [id]))
 refine Reg2.pm (fun wz hI hF => ?_) (fun r4 => ?_) (by rfl)
 ·have q0 : wz.cell? ⟨w.heap.size, 0, none⟩ = some (.int .i64 rk) := by simp [World.cell?, (hI.block _ (aB iZ.out)).trans iZ.out, e0]
  go_wp2_with fail
  first | exact ⟨_, rfl, rfl, Reg2.Ext.refl _⟩ | exact ⟨_, rfl, ⟨(), rfl, trivial⟩, Reg2.Ext.refl _⟩
 simp only [Act.put, xA, xB, xC]; (try simp only [xD]); (try simp only [xE]); (try simp only [id])
 repeat (refine' Reg2.ai _ (by rfl) (fun wz => ?_) ?_; rotate_left; (go_simp; first | rfl | rw [if_neg (by omega)]); simp only [Act.put, xA, xB, xC]; (try simp only [xD]); (try simp only [xE]); (try simp only [id]))
 refine Reg2.bP (by rfl) ?_
 simp only [Act.put, xA, xB, xC]; (try simp only [xD]); (try simp only [xE]); (try simp only [id])
 refine Reg2.bB (by rfl) ?_
 simp only [Act.put, xA, xB, xC]; (try simp only [xD]); (try simp only [xE]); (try simp only [id])
 refine Reg2.bP (by rfl) ?_
 simp only [Act.put, xA, xB, xC]; (try simp only [xD]); (try simp only [xE]); (try simp only [id])
 repeat (refine' Reg2.ai _ (by rfl) (fun wz => ?_) ?_; rotate_left; (go_simp; first | rfl | rw [if_neg (by omega)]); simp only [Act.put, xA, xB, xC]; (try simp only [xD]); (try simp only [xE]); (try simp only [id]))
 refine Reg2.bP (by rfl) ?_
 simp only [Act.put, xA, xB, xC]; (try simp only [xD]); (try simp only [xE]); (try simp only [id])
 refine Reg2.bB (by rfl) ?_
 simp only [Act.put, xA, xB, xC]; (try simp only [xD]); (try simp only [xE]); (try simp only [id])
 refine Reg2.bP (by rfl) ?_
 simp only [Act.put, xA, xB, xC]; (try simp only [xD]); (try simp only [xE]); (try simp only [id])
 refine Reg2.bP (by rfl) ?_
 simp only [Act.put, xA, xB, xC]; (try simp only [xD]); (try simp only [xE]); (try simp only [id])
 refine Reg2.bP (by rfl) ?_
 simp only [Act.put, xA, xB, xC]; (try simp only [xD]); (try simp only [xE]); (try simp only [id])
 refine Reg2.bB (by rfl) ?_
 simp only [Act.put, xA, xB, xC]; (try simp only [xD]); (try simp only [xE]); (try simp only [id])
 refine Reg2.bB (by rfl) ?_
 simp only [Act.put, xA, xB, xC]; (try simp only [xD]); (try simp only [xE]); (try simp only [id])
 refine Reg2.aA ?_
 intro w7 jF _ jP
 clear jP
 dsimp only [List.drop]
 have iX := cZ.out.trans (jF.mono cZ.out.size)
 go_wp2_with fail
 go_ret
 exact ⟨rfl, iX⟩
theorem FB (h : CW w c t d p v g a m P) (hl : gJ P.T) (r : Rq) (hk : r.kind = 1) (hw : 64 < r.width) : Calls Tryz.prog 30 #[.pointer (some ⟨c, 0, none⟩), .agg (encR r).toArray] w fun e w' => e = .returned (.int .i64 0) ∧ Below w.heap.size w w' := by
 have zR := jR
 obtain ⟨k9, bV⟩ : ∃ k, k = 9 := ⟨_, rfl⟩
 rw [← bV] at zR
 have hk0 : ¬ k9 = 0 := by omega
 have lR := gL r
 rw [← bV] at lR
 replace bV := Lib.hid bV
 obtain ⟨wA, aM⟩ : ∃ wA, wA = w.alloc (.cells (encR r).toArray 33) := ⟨_, rfl⟩
 have cZ : Hid (Below w.heap.size w wA) := by show Below _ _ _; rw [aM]; exact (Below.refl _ _).alloc (Nat.le_refl _) _
 have iZ : Hid (wA.heap[w.heap.size]? = some (.cells (encR r).toArray 33 (0, 0))) := by show _ = _; rw [aM]; exact heap_alloc_new w _
 have iy := Lib.hid (h.kept cZ.out)
 have hno := fun (W : World) (hW : Below wA.heap.size wA W) => lV (iy.out.kept hW)
 have hsz := fun (W : World) (hW : Below wA.heap.size wA W) => oQ (iy.out.kept hW).nodes hl
 have KN := fun (W : World) => mE r W
 have e0 : (encR r)[0]? = some (.int .i64 r.kind) := rfl
 have e3 : (encR r)[3]? = some (.int .i64 r.width) := rfl
 generalize r.kind = rk at *
 generalize r.width = rw at *
 generalize aN r = rf at *
 generalize encR r = cR at *
 generalize (P.T.length : Int) = nl at *
 have d1 : (rk != 1) = false := by simp [hk]
 replace hk := Lib.hid hk
 have d2 : decide (rw > 64) = true := decide_eq_true hw
 clear h
 go_enter Tryz.func30, Tryz.ntmps30
 go_wp2_with fail
 rw [← aM]
 replace aM := Lib.hid aM
 refine Reg2.rd wA 20 30 [[],[ae],[ae,ae],[ae,ae,ae],[ae,ae,ae,ae],[ae,ae,ae,ae,ae],[ae,ae,ae,ae,ae,ae],[ae,ae,ae,ae,ae,ae,ae],[ae,ae,ae,ae,ae,ae,ae,ae],[ae,ae,ae,ae,ae,ae,ae,ae,ae],[ae,ae,ae,ae,ae,ae,ae,ae,ae,ae],[ae,ae,ae,ae,ae,ae,ae,ae,ae,ae,ae],[ae,ae,ae,ae,ae,ae,ae,ae,ae,ae,ae,ae],[ae,ae,ae,ae,ae,ae,ae,ae,ae,ae,ae,ae,ae],[ae,ae,ae,ae,ae,ae,ae,ae,ae,ae,ae,ae,ae,ae],[ae,ae,ae,ae,ae,ae,ae,ae,ae,ae,ae,ae,ae,af,af],[ae,ae,ae,ae,ae,ae,ae,ae,ae,ae,ae,ae,ae,af,af,ae],[ae,ae,ae,ae,ae,ae,ae,ae,ae,ae,ae,ae,ae,af,af,ae,ae],[ae,ae,ae,ae,ae,ae,ae,ae,ae,ae,ae,ae,ae,af,af,ae,ae,ae],[ae,ae,ae,ae,ae,ae,ae,ae,ae,ae,ae,ae,ae,af,af,ae,ae,ae,ae]] [0, 1, 0, 0, 1, 0, 0, 0, 0, 1, 0, 0, 0, 0, 1, 0, 0, 0, 1, 1] [.pure, .mU (.bool false), .pure, .pure, .mU (.int .i64 rk), .pure, .pure, .pure, .pure, .mU (.int .i64 rw), .pure, .pure, .pure, .pure, .mU (.int .i64 rw), .pure, .pure, .pure, .mU (.pointer (some ⟨d, 0, none⟩)), .mU (.int .i64 nl)] (by kernel_rfl) (by kernel_rfl) rfl rfl ⟨trivial, Reg2.tt, trivial, trivial, Reg2.tt, trivial, trivial, trivial, trivial, Reg2.tt, trivial, trivial, trivial, trivial, Reg2.tt, trivial, trivial, trivial, Reg2.tt, Reg2.tt, trivial⟩ ⟨rfl, rfl, rfl, Nat.le_refl _, fun _ _ => rfl⟩ ?_
 dsimp only [Reg2.mk, List.zip, List.zipWith, List.take]
 repeat (refine' Reg2.ai _ (by rfl) (fun wz => ?_) ?_; rotate_left; (go_simp; first | rfl | rw [if_neg (by omega)]); simp only [Act.put, xA, xB, xC]; (try simp only [xD]); (try simp only [xE]); (try simp only [id]))
 refine Reg2.pm (fun wz hI hF => ?_) (fun r1 => ?_) (by rfl)
 ·go_wp2_with (go_at_call 34; go_must (refine (hno wz hI).mono ?_); rintro e w' ⟨rfl, rfl⟩)
  first | exact ⟨_, rfl, rfl, Reg2.Ext.refl _⟩ | exact ⟨_, rfl, ⟨(), rfl, trivial⟩, Reg2.Ext.refl _⟩
 simp only [Act.put, xA, xB, xC]; (try simp only [xD]); (try simp only [xE]); (try simp only [id])
 repeat (refine' Reg2.ai _ (by rfl) (fun wz => ?_) ?_; rotate_left; (go_simp; first | rfl | rw [if_neg (by omega)]); simp only [Act.put, xA, xB, xC]; (try simp only [xD]); (try simp only [xE]); (try simp only [id]))
 refine Reg2.pm (fun wz hI hF => ?_) (fun r4 => ?_) (by rfl)
 ·have q0 : wz.cell? ⟨w.heap.size, 0, none⟩ = some (.int .i64 rk) := by simp [World.cell?, (hI.block _ (aB iZ.out)).trans iZ.out, e0]
  go_wp2_with fail
  first | exact ⟨_, rfl, rfl, Reg2.Ext.refl _⟩ | exact ⟨_, rfl, ⟨(), rfl, trivial⟩, Reg2.Ext.refl _⟩
 simp only [Act.put, xA, xB, xC]; (try simp only [xD]); (try simp only [xE]); (try simp only [id])
 repeat (refine' Reg2.ai _ (by rfl) (fun wz => ?_) ?_; rotate_left; (go_simp; first | rfl | rw [if_neg (by omega)]); simp only [Act.put, xA, xB, xC]; (try simp only [xD]); (try simp only [xE]); (try simp only [id]))
 refine Reg2.pm (fun wz hI hF => ?_) (fun r9 => ?_) (by rfl)
 ·have q0 : wz.cell? ⟨w.heap.size, 3, none⟩ = some (.int .i64 rw) := by simp [World.cell?, (hI.block _ (aB iZ.out)).trans iZ.out, e3]
  go_wp2_with fail
  first | exact ⟨_, rfl, rfl, Reg2.Ext.refl _⟩ | exact ⟨_, rfl, ⟨(), rfl, trivial⟩, Reg2.Ext.refl _⟩
 simp only [Act.put, xA, xB, xC]; (try simp only [xD]); (try simp only [xE]); (try simp only [id])
 repeat (refine' Reg2.ai _ (by rfl) (fun wz => ?_) ?_; rotate_left; (go_simp; first | rfl | rw [if_neg (by omega)]); simp only [Act.put, xA, xB, xC]; (try simp only [xD]); (try simp only [xE]); (try simp only [id]))
 refine Reg2.bP (by rfl) ?_
 simp only [Act.put, xA, xB, xC]; (try simp only [xD]); (try simp only [xE]); (try simp only [id])
 refine Reg2.bB (by rfl) ?_
 simp only [Act.put, xA, xB, xC]; (try simp only [xD]); (try simp only [xE]); (try simp only [id])
 refine Reg2.bP (by rfl) ?_
 simp only [Act.put, xA, xB, xC]; (try simp only [xD]); (try simp only [xE]); (try simp only [id])
 refine Reg2.bP (by rfl) ?_
 simp only [Act.put, xA, xB, xC]; (try simp only [xD]); (try simp only [xE]); (try simp only [id])
 refine Reg2.bP (by rfl) ?_
 simp only [Act.put, xA, xB, xC]; (try simp only [xD]); (try simp only [xE]); (try simp only [id])
 refine Reg2.bB (by rfl) ?_
 simp only [Act.put, xA, xB, xC]; (try simp only [xD]); (try simp only [xE]); (try simp only [id])
 refine Reg2.bB (by rfl) ?_
 simp only [Act.put, xA, xB, xC]; (try simp only [xD]); (try simp only [xE]); (try simp only [id])
 refine Reg2.aA ?_
 intro w7 jF _ jP
 clear jP
 dsimp only [List.drop]
 have iX := cZ.out.trans (jF.mono cZ.out.size)
 go_wp2_with fail
 go_ret
 exact ⟨rfl, iX⟩
theorem FC (h : CW w c t d p v g a m P) (hl : gJ P.T) (r : Rq) (hk : r.kind = 1) (hw : r.width ≤ 64) (hn : r.width ≤ P.T.length) : Calls Tryz.prog 30 #[.pointer (some ⟨c, 0, none⟩), .agg (encR r).toArray] w fun e w' => e = .returned (.int .i64 0) ∧ Below w.heap.size w w' := by
 have zR := jR
 obtain ⟨k9, bV⟩ : ∃ k, k = 9 := ⟨_, rfl⟩
 rw [← bV] at zR
 have hk0 : ¬ k9 = 0 := by omega
 have lR := gL r
 rw [← bV] at lR
 replace bV := Lib.hid bV
 obtain ⟨wA, aM⟩ : ∃ wA, wA = w.alloc (.cells (encR r).toArray 33) := ⟨_, rfl⟩
 have cZ : Hid (Below w.heap.size w wA) := by show Below _ _ _; rw [aM]; exact (Below.refl _ _).alloc (Nat.le_refl _) _
 have iZ : Hid (wA.heap[w.heap.size]? = some (.cells (encR r).toArray 33 (0, 0))) := by show _ = _; rw [aM]; exact heap_alloc_new w _
 have iy := Lib.hid (h.kept cZ.out)
 have hno := fun (W : World) (hW : Below wA.heap.size wA W) => lV (iy.out.kept hW)
 have hsz := fun (W : World) (hW : Below wA.heap.size wA W) => oQ (iy.out.kept hW).nodes hl
 have KN := fun (W : World) => mE r W
 have e0 : (encR r)[0]? = some (.int .i64 r.kind) := rfl
 have e3 : (encR r)[3]? = some (.int .i64 r.width) := rfl
 generalize r.kind = rk at *
 generalize r.width = rw at *
 generalize aN r = rf at *
 generalize encR r = cR at *
 generalize (P.T.length : Int) = nl at *
 have d1 : (rk != 1) = false := by simp [hk]
 replace hk := Lib.hid hk
 have d2 : decide (rw > 64) = false := decide_eq_false (by omega)
 have d3 : decide (rw ≤ nl) = true := decide_eq_true hn
 clear h
 go_enter Tryz.func30, Tryz.ntmps30
 go_wp2_with fail
 rw [← aM]
 replace aM := Lib.hid aM
 refine Reg2.rd wA 20 30 [[],[ae],[ae,ae],[ae,ae,ae],[ae,ae,ae,ae],[ae,ae,ae,ae,ae],[ae,ae,ae,ae,ae,ae],[ae,ae,ae,ae,ae,ae,ae],[ae,ae,ae,ae,ae,ae,ae,ae],[ae,ae,ae,ae,ae,ae,ae,ae,ae],[ae,ae,ae,ae,ae,ae,ae,ae,ae,ae],[ae,ae,ae,ae,ae,ae,ae,ae,ae,ae,ae],[ae,ae,ae,ae,ae,ae,ae,ae,ae,ae,ae,ae],[ae,ae,ae,ae,ae,ae,ae,ae,ae,ae,ae,ae,ae],[ae,ae,ae,ae,ae,ae,ae,ae,ae,ae,ae,ae,ae,ae],[ae,ae,ae,ae,ae,ae,ae,ae,ae,ae,ae,ae,ae,af,af],[ae,ae,ae,ae,ae,ae,ae,ae,ae,ae,ae,ae,ae,af,af,ae],[ae,ae,ae,ae,ae,ae,ae,ae,ae,ae,ae,ae,ae,af,af,ae,ae],[ae,ae,ae,ae,ae,ae,ae,ae,ae,ae,ae,ae,ae,af,af,ae,ae,ae],[ae,ae,ae,ae,ae,ae,ae,ae,ae,ae,ae,ae,ae,af,af,ae,ae,ae,ae]] [0, 1, 0, 0, 1, 0, 0, 0, 0, 1, 0, 0, 0, 0, 1, 0, 0, 0, 1, 1] [.pure, .mU (.bool false), .pure, .pure, .mU (.int .i64 rk), .pure, .pure, .pure, .pure, .mU (.int .i64 rw), .pure, .pure, .pure, .pure, .mU (.int .i64 rw), .pure, .pure, .pure, .mU (.pointer (some ⟨d, 0, none⟩)), .mU (.int .i64 nl)] (by kernel_rfl) (by kernel_rfl) rfl rfl ⟨trivial, Reg2.tt, trivial, trivial, Reg2.tt, trivial, trivial, trivial, trivial, Reg2.tt, trivial, trivial, trivial, trivial, Reg2.tt, trivial, trivial, trivial, Reg2.tt, Reg2.tt, trivial⟩ ⟨rfl, rfl, rfl, Nat.le_refl _, fun _ _ => rfl⟩ ?_
 dsimp only [Reg2.mk, List.zip, List.zipWith, List.take]
 repeat (refine' Reg2.ai _ (by rfl) (fun wz => ?_) ?_; rotate_left; (go_simp; first | rfl | rw [if_neg (by omega)]); simp only [Act.put, xA, xB, xC]; (try simp only [xD]); (try simp only [xE]); (try simp only [id]))
 refine Reg2.pm (fun wz hI hF => ?_) (fun r1 => ?_) (by rfl)
 ·go_wp2_with (go_at_call 34; go_must (refine (hno wz hI).mono ?_); rintro e w' ⟨rfl, rfl⟩)
  first | exact ⟨_, rfl, rfl, Reg2.Ext.refl _⟩ | exact ⟨_, rfl, ⟨(), rfl, trivial⟩, Reg2.Ext.refl _⟩
 simp only [Act.put, xA, xB, xC]; (try simp only [xD]); (try simp only [xE]); (try simp only [id])
 repeat (refine' Reg2.ai _ (by rfl) (fun wz => ?_) ?_; rotate_left; (go_simp; first | rfl | rw [if_neg (by omega)]); simp only [Act.put, xA, xB, xC]; (try simp only [xD]); (try simp only [xE]); (try simp only [id]))
 refine Reg2.pm (fun wz hI hF => ?_) (fun r4 => ?_) (by rfl)
 ·have q0 : wz.cell? ⟨w.heap.size, 0, none⟩ = some (.int .i64 rk) := by simp [World.cell?, (hI.block _ (aB iZ.out)).trans iZ.out, e0]
  go_wp2_with fail
  first | exact ⟨_, rfl, rfl, Reg2.Ext.refl _⟩ | exact ⟨_, rfl, ⟨(), rfl, trivial⟩, Reg2.Ext.refl _⟩
 simp only [Act.put, xA, xB, xC]; (try simp only [xD]); (try simp only [xE]); (try simp only [id])
 repeat (refine' Reg2.ai _ (by rfl) (fun wz => ?_) ?_; rotate_left; (go_simp; first | rfl | rw [if_neg (by omega)]); simp only [Act.put, xA, xB, xC]; (try simp only [xD]); (try simp only [xE]); (try simp only [id]))
 refine Reg2.pm (fun wz hI hF => ?_) (fun r9 => ?_) (by rfl)
 ·have q0 : wz.cell? ⟨w.heap.size, 3, none⟩ = some (.int .i64 rw) := by simp [World.cell?, (hI.block _ (aB iZ.out)).trans iZ.out, e3]
  go_wp2_with fail
  first | exact ⟨_, rfl, rfl, Reg2.Ext.refl _⟩ | exact ⟨_, rfl, ⟨(), rfl, trivial⟩, Reg2.Ext.refl _⟩
 simp only [Act.put, xA, xB, xC]; (try simp only [xD]); (try simp only [xE]); (try simp only [id])
 repeat (refine' Reg2.ai _ (by rfl) (fun wz => ?_) ?_; rotate_left; (go_simp; first | rfl | rw [if_neg (by omega)]); simp only [Act.put, xA, xB, xC]; (try simp only [xD]); (try simp only [xE]); (try simp only [id]))
 refine Reg2.pm (fun wz hI hF => ?_) (fun Ig => ?_) (by rfl)
 ·have q0 : wz.cell? ⟨w.heap.size, 3, none⟩ = some (.int .i64 rw) := by simp [World.cell?, (hI.block _ (aB iZ.out)).trans iZ.out, e3]
  go_wp2_with fail
  first | exact ⟨_, rfl, rfl, Reg2.Ext.refl _⟩ | exact ⟨_, rfl, ⟨(), rfl, trivial⟩, Reg2.Ext.refl _⟩
 simp only [Act.put, xA, xB, xC]; (try simp only [xD]); (try simp only [xE]); (try simp only [id])
 repeat (refine' Reg2.ai _ (by rfl) (fun wz => ?_) ?_; rotate_left; (go_simp; first | rfl | rw [if_neg (by omega)]); simp only [Act.put, xA, xB, xC]; (try simp only [xD]); (try simp only [xE]); (try simp only [id]))
 refine Reg2.pm (fun wz hI hF => ?_) (fun R7 => ?_) (by rfl)
 ·have c0 := (iy.out.kept hI).c1
  go_wp2_with fail
  first | exact ⟨_, rfl, rfl, Reg2.Ext.refl _⟩ | exact ⟨_, rfl, ⟨(), rfl, trivial⟩, Reg2.Ext.refl _⟩
 simp only [Act.put, xA, xB, xC]; (try simp only [xD]); (try simp only [xE]); (try simp only [id])
 refine Reg2.pm (fun wz hI hF => ?_) (fun R8 => ?_) (by rfl)
 ·go_wp2_with (go_at_call 44; go_must (refine (hsz wz hI).mono ?_); rintro e w' ⟨rfl, rfl⟩)
  first | exact ⟨_, rfl, rfl, Reg2.Ext.refl _⟩ | exact ⟨_, rfl, ⟨(), rfl, trivial⟩, Reg2.Ext.refl _⟩
 simp only [Act.put, xA, xB, xC]; (try simp only [xD]); (try simp only [xE]); (try simp only [id])
 refine Reg2.aA ?_
 intro w7 jF _ jP
 clear jP
 dsimp only [List.drop]
 have iX := cZ.out.trans (jF.mono cZ.out.size)
 go_wp2_with fail
 go_ret
 exact ⟨rfl, iX⟩
theorem Ih (h : CW w c t d p v g a m P) (hl : gJ P.T) (r : Rq) (hk : r.kind = 1) (hw : r.width ≤ 64) (hn : ¬ r.width ≤ P.T.length) (hrf : aN r = 1) : Calls Tryz.prog 30 #[.pointer (some ⟨c, 0, none⟩), .agg (encR r).toArray] w fun e w' => e = .returned (.int .i64 0) ∧ Below w.heap.size w w' := by
 have zR := jR
 obtain ⟨k9, bV⟩ : ∃ k, k = 9 := ⟨_, rfl⟩
 rw [← bV] at zR
 have hk0 : ¬ k9 = 0 := by omega
 have lR := gL r
 rw [← bV] at lR
 replace bV := Lib.hid bV
 obtain ⟨wA, aM⟩ : ∃ wA, wA = w.alloc (.cells (encR r).toArray 33) := ⟨_, rfl⟩
 have cZ : Hid (Below w.heap.size w wA) := by show Below _ _ _; rw [aM]; exact (Below.refl _ _).alloc (Nat.le_refl _) _
 have iZ : Hid (wA.heap[w.heap.size]? = some (.cells (encR r).toArray 33 (0, 0))) := by show _ = _; rw [aM]; exact heap_alloc_new w _
 have iy := Lib.hid (h.kept cZ.out)
 have hno := fun (W : World) (hW : Below wA.heap.size wA W) => lV (iy.out.kept hW)
 have hsz := fun (W : World) (hW : Below wA.heap.size wA W) => oQ (iy.out.kept hW).nodes hl
 have KN := fun (W : World) => mE r W
 have e0 : (encR r)[0]? = some (.int .i64 r.kind) := rfl
 have e3 : (encR r)[3]? = some (.int .i64 r.width) := rfl
 generalize r.kind = rk at *
 generalize r.width = rw at *
 generalize aN r = rf at *
 generalize encR r = cR at *
 generalize (P.T.length : Int) = nl at *
 have d1 : (rk != 1) = false := by simp [hk]
 replace hk := Lib.hid hk
 have d2 : decide (rw > 64) = false := decide_eq_false (by omega)
 have d3 : decide (rw ≤ nl) = false := decide_eq_false hn
 subst hrf
 clear h
 go_enter Tryz.func30, Tryz.ntmps30
 go_wp2_with fail
 rw [← aM]
 replace aM := Lib.hid aM
 refine Reg2.rd wA 20 30 [[],[ae],[ae,ae],[ae,ae,ae],[ae,ae,ae,ae],[ae,ae,ae,ae,ae],[ae,ae,ae,ae,ae,ae],[ae,ae,ae,ae,ae,ae,ae],[ae,ae,ae,ae,ae,ae,ae,ae],[ae,ae,ae,ae,ae,ae,ae,ae,ae],[ae,ae,ae,ae,ae,ae,ae,ae,ae,ae],[ae,ae,ae,ae,ae,ae,ae,ae,ae,ae,ae],[ae,ae,ae,ae,ae,ae,ae,ae,ae,ae,ae,ae],[ae,ae,ae,ae,ae,ae,ae,ae,ae,ae,ae,ae,ae],[ae,ae,ae,ae,ae,ae,ae,ae,ae,ae,ae,ae,ae,ae],[ae,ae,ae,ae,ae,ae,ae,ae,ae,ae,ae,ae,ae,af,af],[ae,ae,ae,ae,ae,ae,ae,ae,ae,ae,ae,ae,ae,af,af,ae],[ae,ae,ae,ae,ae,ae,ae,ae,ae,ae,ae,ae,ae,af,af,ae,ae],[ae,ae,ae,ae,ae,ae,ae,ae,ae,ae,ae,ae,ae,af,af,ae,ae,ae],[ae,ae,ae,ae,ae,ae,ae,ae,ae,ae,ae,ae,ae,af,af,ae,ae,ae,ae]] [0, 1, 0, 0, 1, 0, 0, 0, 0, 1, 0, 0, 0, 0, 1, 0, 0, 0, 1, 1] [.pure, .mU (.bool false), .pure, .pure, .mU (.int .i64 rk), .pure, .pure, .pure, .pure, .mU (.int .i64 rw), .pure, .pure, .pure, .pure, .mU (.int .i64 rw), .pure, .pure, .pure, .mU (.pointer (some ⟨d, 0, none⟩)), .mU (.int .i64 nl)] (by kernel_rfl) (by kernel_rfl) rfl rfl ⟨trivial, Reg2.tt, trivial, trivial, Reg2.tt, trivial, trivial, trivial, trivial, Reg2.tt, trivial, trivial, trivial, trivial, Reg2.tt, trivial, trivial, trivial, Reg2.tt, Reg2.tt, trivial⟩ ⟨rfl, rfl, rfl, Nat.le_refl _, fun _ _ => rfl⟩ ?_
 dsimp only [Reg2.mk, List.zip, List.zipWith, List.take]
 repeat (refine' Reg2.ai _ (by rfl) (fun wz => ?_) ?_; rotate_left; (go_simp; first | rfl | rw [if_neg (by omega)]); simp only [Act.put, xA, xB, xC]; (try simp only [xD]); (try simp only [xE]); (try simp only [id]))
 refine Reg2.pm (fun wz hI hF => ?_) (fun r1 => ?_) (by rfl)
 ·go_wp2_with (go_at_call 34; go_must (refine (hno wz hI).mono ?_); rintro e w' ⟨rfl, rfl⟩)
  first | exact ⟨_, rfl, rfl, Reg2.Ext.refl _⟩ | exact ⟨_, rfl, ⟨(), rfl, trivial⟩, Reg2.Ext.refl _⟩
 simp only [Act.put, xA, xB, xC]; (try simp only [xD]); (try simp only [xE]); (try simp only [id])
 repeat (refine' Reg2.ai _ (by rfl) (fun wz => ?_) ?_; rotate_left; (go_simp; first | rfl | rw [if_neg (by omega)]); simp only [Act.put, xA, xB, xC]; (try simp only [xD]); (try simp only [xE]); (try simp only [id]))
 refine Reg2.pm (fun wz hI hF => ?_) (fun r4 => ?_) (by rfl)
 ·have q0 : wz.cell? ⟨w.heap.size, 0, none⟩ = some (.int .i64 rk) := by simp [World.cell?, (hI.block _ (aB iZ.out)).trans iZ.out, e0]
  go_wp2_with fail
  first | exact ⟨_, rfl, rfl, Reg2.Ext.refl _⟩ | exact ⟨_, rfl, ⟨(), rfl, trivial⟩, Reg2.Ext.refl _⟩
 simp only [Act.put, xA, xB, xC]; (try simp only [xD]); (try simp only [xE]); (try simp only [id])
 repeat (refine' Reg2.ai _ (by rfl) (fun wz => ?_) ?_; rotate_left; (go_simp; first | rfl | rw [if_neg (by omega)]); simp only [Act.put, xA, xB, xC]; (try simp only [xD]); (try simp only [xE]); (try simp only [id]))
 refine Reg2.pm (fun wz hI hF => ?_) (fun r9 => ?_) (by rfl)
 ·have q0 : wz.cell? ⟨w.heap.size, 3, none⟩ = some (.int .i64 rw) := by simp [World.cell?, (hI.block _ (aB iZ.out)).trans iZ.out, e3]
  go_wp2_with fail
  first | exact ⟨_, rfl, rfl, Reg2.Ext.refl _⟩ | exact ⟨_, rfl, ⟨(), rfl, trivial⟩, Reg2.Ext.refl _⟩
 simp only [Act.put, xA, xB, xC]; (try simp only [xD]); (try simp only [xE]); (try simp only [id])
 repeat (refine' Reg2.ai _ (by rfl) (fun wz => ?_) ?_; rotate_left; (go_simp; first | rfl | rw [if_neg (by omega)]); simp only [Act.put, xA, xB, xC]; (try simp only [xD]); (try simp only [xE]); (try simp only [id]))
 refine Reg2.pm (fun wz hI hF => ?_) (fun Ig => ?_) (by rfl)
 ·have q0 : wz.cell? ⟨w.heap.size, 3, none⟩ = some (.int .i64 rw) := by simp [World.cell?, (hI.block _ (aB iZ.out)).trans iZ.out, e3]
  go_wp2_with fail
  first | exact ⟨_, rfl, rfl, Reg2.Ext.refl _⟩ | exact ⟨_, rfl, ⟨(), rfl, trivial⟩, Reg2.Ext.refl _⟩
 simp only [Act.put, xA, xB, xC]; (try simp only [xD]); (try simp only [xE]); (try simp only [id])
 repeat (refine' Reg2.ai _ (by rfl) (fun wz => ?_) ?_; rotate_left; (go_simp; first | rfl | rw [if_neg (by omega)]); simp only [Act.put, xA, xB, xC]; (try simp only [xD]); (try simp only [xE]); (try simp only [id]))
 refine Reg2.pm (fun wz hI hF => ?_) (fun R7 => ?_) (by rfl)
 ·have c0 := (iy.out.kept hI).c1
  go_wp2_with fail
  first | exact ⟨_, rfl, rfl, Reg2.Ext.refl _⟩ | exact ⟨_, rfl, ⟨(), rfl, trivial⟩, Reg2.Ext.refl _⟩
 simp only [Act.put, xA, xB, xC]; (try simp only [xD]); (try simp only [xE]); (try simp only [id])
 refine Reg2.pm (fun wz hI hF => ?_) (fun R8 => ?_) (by rfl)
 ·go_wp2_with (go_at_call 44; go_must (refine (hsz wz hI).mono ?_); rintro e w' ⟨rfl, rfl⟩)
  first | exact ⟨_, rfl, rfl, Reg2.Ext.refl _⟩ | exact ⟨_, rfl, ⟨(), rfl, trivial⟩, Reg2.Ext.refl _⟩
 simp only [Act.put, xA, xB, xC]; (try simp only [xD]); (try simp only [xE]); (try simp only [id])
 refine Reg2.aA ?_
 intro w7 jF _ jP
 clear jP
 dsimp only [List.drop]
 have iX := cZ.out.trans (jF.mono cZ.out.size)
 have xZ : w7.heap[w.heap.size]? = some (.cells cR.toArray 33 (0, 0)) := (jF.block _ (aB iZ.out)).trans iZ.out
 have Pf := eu xZ lR
 have QI := KN w7
 go_wp2_with (go_at_call 66; go_must (refine QI.mono ?_); rintro e w8 ⟨rfl, ob, rfl⟩)
 go_ret
 exact ⟨rfl, iX.alloc iX.size _⟩
theorem FD (h : CW w c t d p v g a m P) (hl : gJ P.T) (r : Rq) (hk : r.kind = 1) (hw : r.width ≤ 64) (hn : ¬ r.width ≤ P.T.length) (hrf : ¬ aN r = 1) : Calls Tryz.prog 30 #[.pointer (some ⟨c, 0, none⟩), .agg (encR r).toArray] w fun e w' => e = .returned (.int .i64 9) ∧ Below w.heap.size w w' := by
 have zR := jR
 obtain ⟨k9, bV⟩ : ∃ k, k = 9 := ⟨_, rfl⟩
 rw [← bV] at zR
 have hk0 : ¬ k9 = 0 := by omega
 have lR := gL r
 rw [← bV] at lR
 replace bV := Lib.hid bV
 obtain ⟨wA, aM⟩ : ∃ wA, wA = w.alloc (.cells (encR r).toArray 33) := ⟨_, rfl⟩
 have cZ : Hid (Below w.heap.size w wA) := by show Below _ _ _; rw [aM]; exact (Below.refl _ _).alloc (Nat.le_refl _) _
 have iZ : Hid (wA.heap[w.heap.size]? = some (.cells (encR r).toArray 33 (0, 0))) := by show _ = _; rw [aM]; exact heap_alloc_new w _
 have iy := Lib.hid (h.kept cZ.out)
 have hno := fun (W : World) (hW : Below wA.heap.size wA W) => lV (iy.out.kept hW)
 have hsz := fun (W : World) (hW : Below wA.heap.size wA W) => oQ (iy.out.kept hW).nodes hl
 have KN := fun (W : World) => mE r W
 have e0 : (encR r)[0]? = some (.int .i64 r.kind) := rfl
 have e3 : (encR r)[3]? = some (.int .i64 r.width) := rfl
 generalize r.kind = rk at *
 generalize r.width = rw at *
 generalize aN r = rf at *
 generalize encR r = cR at *
 generalize (P.T.length : Int) = nl at *
 have d1 : (rk != 1) = false := by simp [hk]
 replace hk := Lib.hid hk
 have d2 : decide (rw > 64) = false := decide_eq_false (by omega)
 have d3 : decide (rw ≤ nl) = false := decide_eq_false hn
 have d5 : (rf == 1) = false := by simp [hrf]
 clear h
 go_enter Tryz.func30, Tryz.ntmps30
 go_wp2_with fail
 rw [← aM]
 replace aM := Lib.hid aM
 refine Reg2.rd wA 20 30 [[],[ae],[ae,ae],[ae,ae,ae],[ae,ae,ae,ae],[ae,ae,ae,ae,ae],[ae,ae,ae,ae,ae,ae],[ae,ae,ae,ae,ae,ae,ae],[ae,ae,ae,ae,ae,ae,ae,ae],[ae,ae,ae,ae,ae,ae,ae,ae,ae],[ae,ae,ae,ae,ae,ae,ae,ae,ae,ae],[ae,ae,ae,ae,ae,ae,ae,ae,ae,ae,ae],[ae,ae,ae,ae,ae,ae,ae,ae,ae,ae,ae,ae],[ae,ae,ae,ae,ae,ae,ae,ae,ae,ae,ae,ae,ae],[ae,ae,ae,ae,ae,ae,ae,ae,ae,ae,ae,ae,ae,ae],[ae,ae,ae,ae,ae,ae,ae,ae,ae,ae,ae,ae,ae,af,af],[ae,ae,ae,ae,ae,ae,ae,ae,ae,ae,ae,ae,ae,af,af,ae],[ae,ae,ae,ae,ae,ae,ae,ae,ae,ae,ae,ae,ae,af,af,ae,ae],[ae,ae,ae,ae,ae,ae,ae,ae,ae,ae,ae,ae,ae,af,af,ae,ae,ae],[ae,ae,ae,ae,ae,ae,ae,ae,ae,ae,ae,ae,ae,af,af,ae,ae,ae,ae]] [0, 1, 0, 0, 1, 0, 0, 0, 0, 1, 0, 0, 0, 0, 1, 0, 0, 0, 1, 1] [.pure, .mU (.bool false), .pure, .pure, .mU (.int .i64 rk), .pure, .pure, .pure, .pure, .mU (.int .i64 rw), .pure, .pure, .pure, .pure, .mU (.int .i64 rw), .pure, .pure, .pure, .mU (.pointer (some ⟨d, 0, none⟩)), .mU (.int .i64 nl)] (by kernel_rfl) (by kernel_rfl) rfl rfl ⟨trivial, Reg2.tt, trivial, trivial, Reg2.tt, trivial, trivial, trivial, trivial, Reg2.tt, trivial, trivial, trivial, trivial, Reg2.tt, trivial, trivial, trivial, Reg2.tt, Reg2.tt, trivial⟩ ⟨rfl, rfl, rfl, Nat.le_refl _, fun _ _ => rfl⟩ ?_
 dsimp only [Reg2.mk, List.zip, List.zipWith, List.take]
 repeat (refine' Reg2.ai _ (by rfl) (fun wz => ?_) ?_; rotate_left; (go_simp; first | rfl | rw [if_neg (by omega)]); simp only [Act.put, xA, xB, xC]; (try simp only [xD]); (try simp only [xE]); (try simp only [id]))
 refine Reg2.pm (fun wz hI hF => ?_) (fun r1 => ?_) (by rfl)
 ·go_wp2_with (go_at_call 34; go_must (refine (hno wz hI).mono ?_); rintro e w' ⟨rfl, rfl⟩)
  first | exact ⟨_, rfl, rfl, Reg2.Ext.refl _⟩ | exact ⟨_, rfl, ⟨(), rfl, trivial⟩, Reg2.Ext.refl _⟩
 simp only [Act.put, xA, xB, xC]; (try simp only [xD]); (try simp only [xE]); (try simp only [id])
 repeat (refine' Reg2.ai _ (by rfl) (fun wz => ?_) ?_; rotate_left; (go_simp; first | rfl | rw [if_neg (by omega)]); simp only [Act.put, xA, xB, xC]; (try simp only [xD]); (try simp only [xE]); (try simp only [id]))
 refine Reg2.pm (fun wz hI hF => ?_) (fun r4 => ?_) (by rfl)
 ·have q0 : wz.cell? ⟨w.heap.size, 0, none⟩ = some (.int .i64 rk) := by simp [World.cell?, (hI.block _ (aB iZ.out)).trans iZ.out, e0]
  go_wp2_with fail
  first | exact ⟨_, rfl, rfl, Reg2.Ext.refl _⟩ | exact ⟨_, rfl, ⟨(), rfl, trivial⟩, Reg2.Ext.refl _⟩
 simp only [Act.put, xA, xB, xC]; (try simp only [xD]); (try simp only [xE]); (try simp only [id])
 repeat (refine' Reg2.ai _ (by rfl) (fun wz => ?_) ?_; rotate_left; (go_simp; first | rfl | rw [if_neg (by omega)]); simp only [Act.put, xA, xB, xC]; (try simp only [xD]); (try simp only [xE]); (try simp only [id]))
 refine Reg2.pm (fun wz hI hF => ?_) (fun r9 => ?_) (by rfl)
 ·have q0 : wz.cell? ⟨w.heap.size, 3, none⟩ = some (.int .i64 rw) := by simp [World.cell?, (hI.block _ (aB iZ.out)).trans iZ.out, e3]
  go_wp2_with fail
  first | exact ⟨_, rfl, rfl, Reg2.Ext.refl _⟩ | exact ⟨_, rfl, ⟨(), rfl, trivial⟩, Reg2.Ext.refl _⟩
 simp only [Act.put, xA, xB, xC]; (try simp only [xD]); (try simp only [xE]); (try simp only [id])
 repeat (refine' Reg2.ai _ (by rfl) (fun wz => ?_) ?_; rotate_left; (go_simp; first | rfl | rw [if_neg (by omega)]); simp only [Act.put, xA, xB, xC]; (try simp only [xD]); (try simp only [xE]); (try simp only [id]))
 refine Reg2.pm (fun wz hI hF => ?_) (fun Ig => ?_) (by rfl)
 ·have q0 : wz.cell? ⟨w.heap.size, 3, none⟩ = some (.int .i64 rw) := by simp [World.cell?, (hI.block _ (aB iZ.out)).trans iZ.out, e3]
  go_wp2_with fail
  first | exact ⟨_, rfl, rfl, Reg2.Ext.refl _⟩ | exact ⟨_, rfl, ⟨(), rfl, trivial⟩, Reg2.Ext.refl _⟩
 simp only [Act.put, xA, xB, xC]; (try simp only [xD]); (try simp only [xE]); (try simp only [id])
 repeat (refine' Reg2.ai _ (by rfl) (fun wz => ?_) ?_; rotate_left; (go_simp; first | rfl | rw [if_neg (by omega)]); simp only [Act.put, xA, xB, xC]; (try simp only [xD]); (try simp only [xE]); (try simp only [id]))
 refine Reg2.pm (fun wz hI hF => ?_) (fun R7 => ?_) (by rfl)
 ·have c0 := (iy.out.kept hI).c1
  go_wp2_with fail
  first | exact ⟨_, rfl, rfl, Reg2.Ext.refl _⟩ | exact ⟨_, rfl, ⟨(), rfl, trivial⟩, Reg2.Ext.refl _⟩
 simp only [Act.put, xA, xB, xC]; (try simp only [xD]); (try simp only [xE]); (try simp only [id])
 refine Reg2.pm (fun wz hI hF => ?_) (fun R8 => ?_) (by rfl)
 ·go_wp2_with (go_at_call 44; go_must (refine (hsz wz hI).mono ?_); rintro e w' ⟨rfl, rfl⟩)
  first | exact ⟨_, rfl, rfl, Reg2.Ext.refl _⟩ | exact ⟨_, rfl, ⟨(), rfl, trivial⟩, Reg2.Ext.refl _⟩
 simp only [Act.put, xA, xB, xC]; (try simp only [xD]); (try simp only [xE]); (try simp only [id])
 refine Reg2.aA ?_
 intro w7 jF _ jP
 clear jP
 dsimp only [List.drop]
 have iX := cZ.out.trans (jF.mono cZ.out.size)
 have xZ : w7.heap[w.heap.size]? = some (.cells cR.toArray 33 (0, 0)) := (jF.block _ (aB iZ.out)).trans iZ.out
 have Pf := eu xZ lR
 have QI := KN w7
 go_wp2_with (go_at_call 66; go_must (refine QI.mono ?_); rintro e w8 ⟨rfl, ob, rfl⟩)
 go_ret
 exact ⟨rfl, iX.alloc iX.size _⟩
theorem su (h : CW w c t d p v g a m P) (hl : gJ P.T) (r : Rq) : Calls Tryz.prog 30 #[.pointer (some ⟨c, 0, none⟩), .agg (encR r).toArray] w fun e w' => e = .returned (.int .i64 (lG P.T.length r)) ∧ Below w.heap.size w w' := by
 unfold lG
 by_cases h1 : r.kind = 1
 ·by_cases h2 : r.width ≤ 64
  ·by_cases h3 : r.width ≤ P.T.length
   ·rw [if_neg (by omega)]; exact FC h hl r h1 h2 h3
   ·by_cases h4 : aN r = 1
    ·rw [if_neg (by simp [h4])]; exact Ih h hl r h1 h2 h3 h4
    ·rw [if_pos ⟨h1, by omega, h2, h4⟩]; exact FD h hl r h1 h2 h3 h4
  ·rw [if_neg (by omega)]; exact FB h hl r h1 (by omega)
 ·rw [if_neg (by simp [h1])]; exact Fz h hl r h1
end
end Go.Proofs.YtkhfejihijdipaaGreat

namespace Go.Proofs.YtkhfejihijdipaaGreat
open Go.RowKit Go.Lib Go.Sort
def gG (w : World) (b c t d p : Nat) (v : Value) (g a : Nat) (m : Int) (R : Wk) (P : Pg) (W : World) : Prop := ∃ v' g', SW W b c t d p v' g' a m R P ∧ WS w W b c t d p v g v' g'
theorem gG.ext {w : World} {b c t d p g a : Nat} {v : Value} {m : Int} {R : Wk} {P : Pg} : ∀ (x y : World), Reg2.Ext x y → gG w b c t d p v g a m R P x → gG w b c t d p v g a m R P y := by
 rintro x y h ⟨v', g', h1, h2⟩
 exact ⟨v', g', h1.kept h, h2.trans (WS.of_below h)⟩
def jJ (e : Int) : Ry := ⟨e, 0, 0, 0, 0, 0, 0, 0, 0⟩
def toW (r : Rq) : Rw := ⟨r.kind, r.id, r.user, r.width, r.limit, r.prio, r.held, r.node, r.till⟩
theorem BK {M : Md} (x : Jb) (h1 : x.st ≠ 3) (h2 : ak x = false) : aj { M with L := M.L ++ [x] } = { aj M with J := M.L ++ [x] } := by
 have e1 : bX { M with L := M.L ++ [x] } = bX M := by
  refine nG (by rw [bq, bq]) fun n hn => ?_
  rw [bW, bW]
  unfold aO
  rw [show ({ M with L := M.L ++ [x] } : Md).L = M.L ++ [x] from rfl, uQ M.L x _ (by unfold aF; simp [h1])]
 have e2 : (fun t => ax { M with L := M.L ++ [x] } t 0) = fun t => ax M t 0 := funext fun t => yK x h1 h2 t 0
 unfold aj
 rw [e1, e2]
section
variable {w : World} {b c t d p g a : Nat} {v : Value} {m : Int} {M : Md} {R : Wk}
theorem AA (h : SW w b c t d p v g a m R (aj M)) (hk : PK (aj M)) (hw : lG M.dr.length R.ag = 9) :
  Calls Tryz.prog 117 #[.pointer (some ⟨b, 0, none⟩), .pointer (some ⟨c, 0, none⟩)] w (au w b c t d p v g a m .nilFunc { R with rep := jJ 9, ok := false } (aj M)) := by
 have zR := jR
 have zJ := bC
 obtain ⟨k9, bV⟩ : ∃ k, k = 9 := ⟨_, rfl⟩
 obtain ⟨k, hkk⟩ : ∃ k, k = 10 := ⟨_, rfl⟩
 rw [← bV] at zR
 rw [← hkk] at zJ
 have hk0 : ¬ k9 = 0 := by omega
 have hk1 : ¬ k = 0 := by omega
 have lR := gL R.ag
 rw [← bV] at lR
 replace bV := Lib.hid bV
 replace hkk := Lib.hid hkk
 have hS := Lib.hid h
 have oZ := h.wk.lT lR
 have KO : Hid (∀ W, Below w.heap.size w W → Sem.run Tryz.prog (loadCellsFrom ⟨b, 0, none⟩ 0 k9 #[]) W = .ok (encR R.ag).toArray W) := fun W hW => (h.kept hW).wk.lT lR
 have qd := su h.cw hk.p9 R.ag
 have hsub := fun (W : World) (hW : Below w.heap.size w W) => nU (h.kept hW).cw hk R.ag
 have hn : (aj M).T.length = M.dr.length := bq
 rw [hn] at qd
 replace hn := Lib.hid hn
 generalize encR R.ag = cR at *
 rw [hw] at qd
 clear h hsub
 go_enter Tryz.func117, Tryz.ntmps117
 go_wp2_with fail
 go_at_call 30
 refine qd.mono ?_
 clear qd oZ
 rintro e w1 ⟨rfl, hb1⟩
 have hS1 := hS.out.kept hb1
 have hf := gF hS1.wk 9
 go_wp2_with (go_at_call 67; go_must (refine hf.mono ?_); rintro e w9 ⟨rfl, jK, Nz⟩)
 go_ret
 exact ⟨rfl, v, g, hS1.work jK Nz, (WS.of_below hb1).trans (WS.bu Nz)⟩
theorem submit_bad (h : SW w b c t d p v g a m R (aj M)) (hk : PK (aj M)) (hw : lG M.dr.length R.ag = 0) (e0 : Int) (he0 : e0 ≠ 0) (hE : iC M.L R.ag = e0) :
  Calls Tryz.prog 117 #[.pointer (some ⟨b, 0, none⟩), .pointer (some ⟨c, 0, none⟩)] w (au w b c t d p v g a m .nilFunc { R with rep := jJ e0, ok := false } (aj M)) := by
 have zR := jR
 have zJ := bC
 obtain ⟨k9, bV⟩ : ∃ k, k = 9 := ⟨_, rfl⟩
 obtain ⟨k, hkk⟩ : ∃ k, k = 10 := ⟨_, rfl⟩
 rw [← bV] at zR
 rw [← hkk] at zJ
 have hk0 : ¬ k9 = 0 := by omega
 have hk1 : ¬ k = 0 := by omega
 have lR := gL R.ag
 rw [← bV] at lR
 replace bV := Lib.hid bV
 replace hkk := Lib.hid hkk
 have hS := Lib.hid h
 have oZ := h.wk.lT lR
 have KO : Hid (∀ W, Below w.heap.size w W → Sem.run Tryz.prog (loadCellsFrom ⟨b, 0, none⟩ 0 k9 #[]) W = .ok (encR R.ag).toArray W) := fun W hW => (h.kept hW).wk.lT lR
 have qd := su h.cw hk.p9 R.ag
 have hsub := fun (W : World) (hW : Below w.heap.size w W) => nU (h.kept hW).cw hk R.ag
 have hn : (aj M).T.length = M.dr.length := bq
 rw [hn] at qd
 replace hn := Lib.hid hn
 generalize encR R.ag = cR at *
 rw [hw] at qd
 unfold dS at hsub
 obtain ⟨NA, pq⟩ : ∃ x, x = kC (aj M).J R.ag := ⟨_, rfl⟩
 obtain ⟨se, hse⟩ : ∃ x, x = iC (aj M).J R.ag := ⟨_, rfl⟩
 rw [← pq, ← hse] at hsub
 have hL : nR (aj M).J R.ag = M.L := by
  have hE2 := hE
  unfold iC at hE2
  show nR M.L R.ag = M.L
  unfold nR
  split
  ·rfl
  ·rename_i h1
   rw [if_neg h1] at hE2
   split
   ·rfl
   ·rename_i h2
    rw [if_neg h2] at hE2
    omega
 rw [hL, show ({ aj M with J := M.L } : Pg) = aj M from rfl] at hsub
 have FE : se = e0 := hse.trans hE
 subst FE
 replace pq := Lib.hid pq
 replace hse := Lib.hid hse
 replace hL := Lib.hid hL
 have d0 : (se != 0) = true := by simp [he0]
 clear h
 go_enter Tryz.func117, Tryz.ntmps117
 go_wp2_with fail
 go_at_call 30
 refine qd.mono ?_
 clear qd oZ
 rintro e w1 ⟨rfl, hb1⟩
 have hS1 := Lib.hid (hS.out.kept hb1)
 go_wp2_with fail
 refine Reg2.sI 13 49 [[],[ae],[ae,ae],[ae,ae,ae],[af,af,af,af],[af,af,af,af,ae],[af,af,af,af,ae,ae],[af,af,af,af,ae,ae,ae],[ae,ae,ae,ae,ae,ae,ae,ae],[ae,ae,ae,ae,ae,ae,ae,ae,ae],[ae,ae,ae,ae,ae,ae,ae,ae,ae,ae],[ae,ae,ae,ae,ae,ae,ae,ae,ae,ae,af],[ae,ae,ae,ae,ae,ae,ae,ae,ae,ae,ae,af]] [0, 0, 0, 2, 0, 0, 0, 2, 3, 0, 0, 0, 0]
  [.pure, .pure, .pure, .pinned Unit () (fun _ => .pointer (some ⟨t, 0, none⟩)) (fun _ _ => True), .pure, .pure, .pure, .pinned Unit () (fun _ => .agg cR.toArray) (fun _ _ => True), .major Unit () (fun _ => .tuple #[.int .i64 NA, .int .i64 se]), .pure, .pure, .pure, .pure]
  (fun _ => True) (fun vs W => match vs with | [] => Below w1.heap.size w1 W | _ :: _ => (gG w b c t d p v g a m R (aj M)) W) (fun _ _ => True) (by kernel_rfl) (by kernel_rfl) rfl rfl (fun vs a b h hs => by cases vs with | nil => exact Below.trans hs (h.mono (Below.size hs)) | cons v vs => exact gG.ext a b h hs) ?_ ?_ ?_ ?_ ?_ ?_
 ·intro a b he hb; trivial
 ·intro a b he hb; trivial
 ·exact ⟨trivial, trivial, trivial, ⟨fun _ _ _ _ _ => trivial, fun _ _ _ _ _ => trivial⟩, trivial, trivial, trivial, ⟨fun _ _ _ _ _ => trivial, fun _ _ _ _ _ => trivial⟩, trivial, trivial, trivial, trivial, trivial, trivial⟩
 ·trivial
 ·exact ⟨rfl, rfl, rfl, Nat.le_refl _, fun _ _ => rfl⟩
 dsimp only [Reg2.mk, List.zip, List.zipWith, List.take]
 repeat (refine' Reg2.ai _ (by rfl) (fun wz => ?_) ?_; rotate_left; (go_simp; first | rfl | rw [if_neg (by omega)]); simp only [Act.put, xA, xB, xC]; (try simp only [xD]); (try simp only [xE]); (try simp only [id]))
 refine Reg2.pp (fun wz _ hI hF => ?_) (fun r3 => ?_) (by rfl)
 ·have c0 := (hS1.out.cw.kept hI).c0
  go_wp2_with fail
  first | exact ⟨_, rfl, rfl, Reg2.Ext.refl _⟩ | exact ⟨_, rfl, ⟨(), rfl, trivial⟩, Reg2.Ext.refl _⟩
 simp only [Act.put, xA, xB, xC]; (try simp only [xD]); (try simp only [xE]); (try simp only [id])
 repeat (refine' Reg2.ai _ (by rfl) (fun wz => ?_) ?_; rotate_left; (go_simp; first | rfl | rw [if_neg (by omega)]); simp only [Act.put, xA, xB, xC]; (try simp only [xD]); (try simp only [xE]); (try simp only [id]))
 refine Reg2.pp (fun wz _ hI hF => ?_) (fun r7 => ?_) (by rfl)
 ·have d0 := KO.out wz (hb1.trans (Below.mono hI hb1.size))
  go_wp2_with fail
  first | exact ⟨_, rfl, rfl, Reg2.Ext.refl _⟩ | exact ⟨_, rfl, ⟨(), rfl, trivial⟩, Reg2.Ext.refl _⟩
 simp only [Act.put, xA, xB, xC]; (try simp only [xD]); (try simp only [xE]); (try simp only [id])
 refine Reg2.pj (fun wz _ hI hF => ?_) (fun r8 => ?_) (by rfl)
 ·go_wp2_with (go_at_call 134; go_must (refine (hsub wz (hb1.trans (Below.mono hI hb1.size))).mono ?_); rintro e w' ⟨rfl, v4, g4, nK, bD⟩)
  have hpost : gG w b c t d p v g a m R (aj M) w' := ⟨v4, g4, (hS1.out.kept hI).core nK bD, (WS.of_below (hb1.trans (Below.mono hI hb1.size))).trans (WS.bZ bD)⟩
  exact ⟨_, rfl, ⟨⟨(), rfl⟩, hpost⟩, trivial⟩
 simp only [Act.put, xA, xB, xC]; (try simp only [xD]); (try simp only [xE]); (try simp only [id])
 repeat (refine' Reg2.ai _ (by rfl) (fun wz => ?_) ?_; rotate_left; (go_simp; first | rfl | rw [if_neg (by omega)]); simp only [Act.put, xA, xB, xC]; (try simp only [xD]); (try simp only [xE]); (try simp only [id]))
 refine Reg2.aA ?_
 intro w7 _ qD jP
 clear jP
 dsimp only [List.drop]
 obtain ⟨v7, g7, fQ, wH⟩ : gG w b c t d p v g a m R (aj M) w7 := qD
 have hf := gF fQ.wk se
 go_wp2_with (go_at_call 67; go_must (refine hf.mono ?_); rintro e w9 ⟨rfl, jK, Nz⟩)
 go_ret
 exact ⟨rfl, v7, g7, fQ.work jK Nz, wH.trans (WS.bu Nz)⟩
theorem zO (h : SW w b c t d p v g a m R (aj M)) (hk : PK (aj M)) (hw : lG M.dr.length R.ag = 0) (hE : iC M.L R.ag = 0) (hh : R.ag.held = true) :
  Calls Tryz.prog 117 #[.pointer (some ⟨b, 0, none⟩), .pointer (some ⟨c, 0, none⟩)] w (au w b c t d p v g a m .nilFunc { R with rep := iq (bR M (toW R.ag)), az := bR M (toW R.ag) } (aj { M with L := M.L ++ [bR M (toW R.ag)] })) := by
 have zR := jR
 have zJ := bC
 obtain ⟨k9, bV⟩ : ∃ k, k = 9 := ⟨_, rfl⟩
 obtain ⟨k, hkk⟩ : ∃ k, k = 10 := ⟨_, rfl⟩
 rw [← bV] at zR
 rw [← hkk] at zJ
 have hk0 : ¬ k9 = 0 := by omega
 have hk1 : ¬ k = 0 := by omega
 have lR := gL R.ag
 rw [← bV] at lR
 replace bV := Lib.hid bV
 replace hkk := Lib.hid hkk
 have hS := Lib.hid h
 have oZ := h.wk.lT lR
 have KO : Hid (∀ W, Below w.heap.size w W → Sem.run Tryz.prog (loadCellsFrom ⟨b, 0, none⟩ 0 k9 #[]) W = .ok (encR R.ag).toArray W) := fun W hW => (h.kept hW).wk.lT lR
 have qd := su h.cw hk.p9 R.ag
 have hsub := fun (W : World) (hW : Below w.heap.size w W) => nU (h.kept hW).cw hk R.ag
 have hn : (aj M).T.length = M.dr.length := bq
 rw [hn] at qd
 replace hn := Lib.hid hn
 generalize encR R.ag = cR at *
 rw [hw] at qd
 unfold dS at hsub
 obtain ⟨NA, pq⟩ : ∃ x, x = kC (aj M).J R.ag := ⟨_, rfl⟩
 obtain ⟨se, hse⟩ : ∃ x, x = iC (aj M).J R.ag := ⟨_, rfl⟩
 rw [← pq, ← hse] at hsub
 have hL : nR (aj M).J R.ag = M.L ++ [bR M (toW R.ag)] := by
  have hE2 := hE
  unfold iC at hE2
  show nR M.L R.ag = _
  unfold nR
  split
  ·rename_i h1; rw [if_pos h1] at hE2; omega
  ·rename_i h1
   rw [if_neg h1] at hE2
   split
   ·rename_i h2; rw [if_pos h2] at hE2; omega
   ·rfl
 have hI0 : kC (aj M).J R.ag = (M.L.length : Int) + 1 := by
  have hE2 := hE
  unfold iC at hE2
  show kC M.L R.ag = _
  unfold kC
  split
  ·rename_i h1; rw [if_pos h1] at hE2; omega
  ·rename_i h1
   rw [if_neg h1] at hE2
   split
   ·rename_i h2; rw [if_pos h2] at hE2; omega
   ·rfl
 obtain ⟨x, hx⟩ : ∃ x, x = bR M (toW R.ag) := ⟨_, rfl⟩
 have hxs : x.st = if R.ag.held then 2 else 1 := by rw [hx]; rfl
 have hxp : x.aJ = -1 := by rw [hx]; rfl
 have hcore := BK (M := M) x (by rw [hxs]; split <;> decide) (by unfold ak; rw [hxp]; simp)
 rw [hL, ← hx, show ({ aj M with J := M.L ++ [x] } : Pg) = aj { M with L := M.L ++ [x] } from hcore.symm] at hsub
 rw [← hx]
 have hget : bF (M.L ++ [x]) ((M.L.length : Int) + 1) = x := by
  unfold bF
  rw [if_neg (by omega), if_neg (by simp), show ((M.L.length : Int) + 1 - 1).toNat = M.L.length by omega]
  simp
 have FE : se = 0 := hse.trans hE
 have Ii : NA = (M.L.length : Int) + 1 := pq.trans hI0
 subst FE
 subst Ii
 replace pq := Lib.hid pq
 replace hse := Lib.hid hse
 replace hL := Lib.hid hL
 replace hx := Lib.hid hx
 replace hcore := Lib.hid hcore
 replace hI0 := Lib.hid hI0
 clear h
 rw [hh] at hxs
 replace hxs : x.st = 2 := hxs
 go_enter Tryz.func117, Tryz.ntmps117
 go_wp2_with fail
 go_at_call 30
 refine qd.mono ?_
 clear qd oZ
 rintro e w1 ⟨rfl, hb1⟩
 have hS1 := Lib.hid (hS.out.kept hb1)
 go_wp2_with fail
 refine Reg2.sI 13 49 [[],[ae],[ae,ae],[ae,ae,ae],[af,af,af,af],[af,af,af,af,ae],[af,af,af,af,ae,ae],[af,af,af,af,ae,ae,ae],[ae,ae,ae,ae,ae,ae,ae,ae],[ae,ae,ae,ae,ae,ae,ae,ae,ae],[ae,ae,ae,ae,ae,ae,ae,ae,ae,ae],[ae,ae,ae,ae,ae,ae,ae,ae,ae,ae,af],[ae,ae,ae,ae,ae,ae,ae,ae,ae,ae,ae,af]] [0, 0, 0, 2, 0, 0, 0, 2, 3, 0, 0, 0, 0]
  [.pure, .pure, .pure, .pinned Unit () (fun _ => .pointer (some ⟨t, 0, none⟩)) (fun _ _ => True), .pure, .pure, .pure, .pinned Unit () (fun _ => .agg cR.toArray) (fun _ _ => True), .major Unit () (fun _ => .tuple #[.int .i64 ((M.L.length : Int) + 1), .int .i64 0]), .pure, .pure, .pure, .pure]
  (fun _ => True) (fun vs W => match vs with | [] => Below w1.heap.size w1 W | _ :: _ => (gG w b c t d p v g a m R (aj { M with L := M.L ++ [x] })) W) (fun _ _ => True) (by kernel_rfl) (by kernel_rfl) rfl rfl (fun vs a b h hs => by cases vs with | nil => exact Below.trans hs (h.mono (Below.size hs)) | cons v vs => exact gG.ext a b h hs) ?_ ?_ ?_ ?_ ?_ ?_
 ·intro a b he hb; trivial
 ·intro a b he hb; trivial
 ·exact ⟨trivial, trivial, trivial, ⟨fun _ _ _ _ _ => trivial, fun _ _ _ _ _ => trivial⟩, trivial, trivial, trivial, ⟨fun _ _ _ _ _ => trivial, fun _ _ _ _ _ => trivial⟩, trivial, trivial, trivial, trivial, trivial, trivial⟩
 ·trivial
 ·exact ⟨rfl, rfl, rfl, Nat.le_refl _, fun _ _ => rfl⟩
 dsimp only [Reg2.mk, List.zip, List.zipWith, List.take]
 repeat (refine' Reg2.ai _ (by rfl) (fun wz => ?_) ?_; rotate_left; (go_simp; first | rfl | rw [if_neg (by omega)]); simp only [Act.put, xA, xB, xC]; (try simp only [xD]); (try simp only [xE]); (try simp only [id]))
 refine Reg2.pp (fun wz _ hI hF => ?_) (fun r3 => ?_) (by rfl)
 ·have c0 := (hS1.out.cw.kept hI).c0
  go_wp2_with fail
  first | exact ⟨_, rfl, rfl, Reg2.Ext.refl _⟩ | exact ⟨_, rfl, ⟨(), rfl, trivial⟩, Reg2.Ext.refl _⟩
 simp only [Act.put, xA, xB, xC]; (try simp only [xD]); (try simp only [xE]); (try simp only [id])
 repeat (refine' Reg2.ai _ (by rfl) (fun wz => ?_) ?_; rotate_left; (go_simp; first | rfl | rw [if_neg (by omega)]); simp only [Act.put, xA, xB, xC]; (try simp only [xD]); (try simp only [xE]); (try simp only [id]))
 refine Reg2.pp (fun wz _ hI hF => ?_) (fun r7 => ?_) (by rfl)
 ·have d0 := KO.out wz (hb1.trans (Below.mono hI hb1.size))
  go_wp2_with fail
  first | exact ⟨_, rfl, rfl, Reg2.Ext.refl _⟩ | exact ⟨_, rfl, ⟨(), rfl, trivial⟩, Reg2.Ext.refl _⟩
 simp only [Act.put, xA, xB, xC]; (try simp only [xD]); (try simp only [xE]); (try simp only [id])
 refine Reg2.pj (fun wz _ hI hF => ?_) (fun r8 => ?_) (by rfl)
 ·go_wp2_with (go_at_call 134; go_must (refine (hsub wz (hb1.trans (Below.mono hI hb1.size))).mono ?_); rintro e w' ⟨rfl, v4, g4, nK, bD⟩)
  have hpost : gG w b c t d p v g a m R (aj { M with L := M.L ++ [x] }) w' := ⟨v4, g4, (hS1.out.kept hI).core nK bD, (WS.of_below (hb1.trans (Below.mono hI hb1.size))).trans (WS.bZ bD)⟩
  exact ⟨_, rfl, ⟨⟨(), rfl⟩, hpost⟩, trivial⟩
 simp only [Act.put, xA, xB, xC]; (try simp only [xD]); (try simp only [xE]); (try simp only [id])
 repeat (refine' Reg2.ai _ (by rfl) (fun wz => ?_) ?_; rotate_left; (go_simp; first | rfl | rw [if_neg (by omega)]); simp only [Act.put, xA, xB, xC]; (try simp only [xD]); (try simp only [xE]); (try simp only [id]))
 refine Reg2.aA ?_
 intro w7 _ qD jP
 clear jP
 dsimp only [List.drop]
 obtain ⟨v7, g7, fQ, wH⟩ : gG w b c t d p v g a m R (aj { M with L := M.L ++ [x] }) w7 := qD
 have jL := mI fQ ((M.L.length : Int) + 1)
 rw [show (aj { M with L := M.L ++ [x] }).J = M.L ++ [x] from rfl, hget] at jL
 go_wp2_with fail
 go_at_call 112
 refine jL.mono ?_
 clear jL
 rintro e w8 ⟨rfl, dE, fA⟩
 have fP := fQ.work dE fA
 have NB := wH.trans (WS.bu fA)
 obtain ⟨R9, jK⟩ := dE.rA x
 have lJ := ay x
 rw [← hkk.out] at lJ
 have fB := fP.work jK (cu w8 _)
 have hfin := NB.trans (WS.bu (cu w8 (fH { ({ R with rep := iq x } : Wk) with az := x }).toArray))
 have c17 := jK.at 17 (.int .i64 2) (by rw [← hxs]; rfl)
 generalize fH { ({ R with rep := iq x } : Wk) with az := x } = W9 at *
 generalize ah x = cJ at *
 go_wp2_with fail
 go_ret
 exact ⟨rfl, v7, g7, fB, hfin⟩
theorem FH (h : SW w b c t d p v g a m R (aj M)) (hk : PK (aj M)) (hw : lG M.dr.length R.ag = 0) (hE : iC M.L R.ag = 0) (hh : R.ag.held = false) :
  Calls Tryz.prog 117 #[.pointer (some ⟨b, 0, none⟩), .pointer (some ⟨c, 0, none⟩)] w (au w b c t d p v g a m (eH 135) { R with rep := iq (bR M (toW R.ag)), az := bR M (toW R.ag) } (aj { M with L := M.L ++ [bR M (toW R.ag)] })) := by
 have zR := jR
 have zJ := bC
 obtain ⟨k9, bV⟩ : ∃ k, k = 9 := ⟨_, rfl⟩
 obtain ⟨k, hkk⟩ : ∃ k, k = 10 := ⟨_, rfl⟩
 rw [← bV] at zR
 rw [← hkk] at zJ
 have hk0 : ¬ k9 = 0 := by omega
 have hk1 : ¬ k = 0 := by omega
 have lR := gL R.ag
 rw [← bV] at lR
 replace bV := Lib.hid bV
 replace hkk := Lib.hid hkk
 have hS := Lib.hid h
 have oZ := h.wk.lT lR
 have KO : Hid (∀ W, Below w.heap.size w W → Sem.run Tryz.prog (loadCellsFrom ⟨b, 0, none⟩ 0 k9 #[]) W = .ok (encR R.ag).toArray W) := fun W hW => (h.kept hW).wk.lT lR
 have qd := su h.cw hk.p9 R.ag
 have hsub := fun (W : World) (hW : Below w.heap.size w W) => nU (h.kept hW).cw hk R.ag
 have hn : (aj M).T.length = M.dr.length := bq
 rw [hn] at qd
 replace hn := Lib.hid hn
 generalize encR R.ag = cR at *
 rw [hw] at qd
 unfold dS at hsub
 obtain ⟨NA, pq⟩ : ∃ x, x = kC (aj M).J R.ag := ⟨_, rfl⟩
 obtain ⟨se, hse⟩ : ∃ x, x = iC (aj M).J R.ag := ⟨_, rfl⟩
 rw [← pq, ← hse] at hsub
 have hL : nR (aj M).J R.ag = M.L ++ [bR M (toW R.ag)] := by
  have hE2 := hE
  unfold iC at hE2
  show nR M.L R.ag = _
  unfold nR
  split
  ·rename_i h1; rw [if_pos h1] at hE2; omega
  ·rename_i h1
   rw [if_neg h1] at hE2
   split
   ·rename_i h2; rw [if_pos h2] at hE2; omega
   ·rfl
 have hI0 : kC (aj M).J R.ag = (M.L.length : Int) + 1 := by
  have hE2 := hE
  unfold iC at hE2
  show kC M.L R.ag = _
  unfold kC
  split
  ·rename_i h1; rw [if_pos h1] at hE2; omega
  ·rename_i h1
   rw [if_neg h1] at hE2
   split
   ·rename_i h2; rw [if_pos h2] at hE2; omega
   ·rfl
 obtain ⟨x, hx⟩ : ∃ x, x = bR M (toW R.ag) := ⟨_, rfl⟩
 have hxs : x.st = if R.ag.held then 2 else 1 := by rw [hx]; rfl
 have hxp : x.aJ = -1 := by rw [hx]; rfl
 have hcore := BK (M := M) x (by rw [hxs]; split <;> decide) (by unfold ak; rw [hxp]; simp)
 rw [hL, ← hx, show ({ aj M with J := M.L ++ [x] } : Pg) = aj { M with L := M.L ++ [x] } from hcore.symm] at hsub
 rw [← hx]
 have hget : bF (M.L ++ [x]) ((M.L.length : Int) + 1) = x := by
  unfold bF
  rw [if_neg (by omega), if_neg (by simp), show ((M.L.length : Int) + 1 - 1).toNat = M.L.length by omega]
  simp
 have FE : se = 0 := hse.trans hE
 have Ii : NA = (M.L.length : Int) + 1 := pq.trans hI0
 subst FE
 subst Ii
 replace pq := Lib.hid pq
 replace hse := Lib.hid hse
 replace hL := Lib.hid hL
 replace hx := Lib.hid hx
 replace hcore := Lib.hid hcore
 replace hI0 := Lib.hid hI0
 clear h
 rw [hh] at hxs
 replace hxs : x.st = 1 := hxs
 go_enter Tryz.func117, Tryz.ntmps117
 go_wp2_with fail
 go_at_call 30
 refine qd.mono ?_
 clear qd oZ
 rintro e w1 ⟨rfl, hb1⟩
 have hS1 := Lib.hid (hS.out.kept hb1)
 go_wp2_with fail
 refine Reg2.sI 13 49 [[],[ae],[ae,ae],[ae,ae,ae],[af,af,af,af],[af,af,af,af,ae],[af,af,af,af,ae,ae],[af,af,af,af,ae,ae,ae],[ae,ae,ae,ae,ae,ae,ae,ae],[ae,ae,ae,ae,ae,ae,ae,ae,ae],[ae,ae,ae,ae,ae,ae,ae,ae,ae,ae],[ae,ae,ae,ae,ae,ae,ae,ae,ae,ae,af],[ae,ae,ae,ae,ae,ae,ae,ae,ae,ae,ae,af]] [0, 0, 0, 2, 0, 0, 0, 2, 3, 0, 0, 0, 0]
  [.pure, .pure, .pure, .pinned Unit () (fun _ => .pointer (some ⟨t, 0, none⟩)) (fun _ _ => True), .pure, .pure, .pure, .pinned Unit () (fun _ => .agg cR.toArray) (fun _ _ => True), .major Unit () (fun _ => .tuple #[.int .i64 ((M.L.length : Int) + 1), .int .i64 0]), .pure, .pure, .pure, .pure]
  (fun _ => True) (fun vs W => match vs with | [] => Below w1.heap.size w1 W | _ :: _ => (gG w b c t d p v g a m R (aj { M with L := M.L ++ [x] })) W) (fun _ _ => True) (by kernel_rfl) (by kernel_rfl) rfl rfl (fun vs a b h hs => by cases vs with | nil => exact Below.trans hs (h.mono (Below.size hs)) | cons v vs => exact gG.ext a b h hs) ?_ ?_ ?_ ?_ ?_ ?_
 ·intro a b he hb; trivial
 ·intro a b he hb; trivial
 ·exact ⟨trivial, trivial, trivial, ⟨fun _ _ _ _ _ => trivial, fun _ _ _ _ _ => trivial⟩, trivial, trivial, trivial, ⟨fun _ _ _ _ _ => trivial, fun _ _ _ _ _ => trivial⟩, trivial, trivial, trivial, trivial, trivial, trivial⟩
 ·trivial
 ·exact ⟨rfl, rfl, rfl, Nat.le_refl _, fun _ _ => rfl⟩
 dsimp only [Reg2.mk, List.zip, List.zipWith, List.take]
 repeat (refine' Reg2.ai _ (by rfl) (fun wz => ?_) ?_; rotate_left; (go_simp; first | rfl | rw [if_neg (by omega)]); simp only [Act.put, xA, xB, xC]; (try simp only [xD]); (try simp only [xE]); (try simp only [id]))
 refine Reg2.pp (fun wz _ hI hF => ?_) (fun r3 => ?_) (by rfl)
 ·have c0 := (hS1.out.cw.kept hI).c0
  go_wp2_with fail
  first | exact ⟨_, rfl, rfl, Reg2.Ext.refl _⟩ | exact ⟨_, rfl, ⟨(), rfl, trivial⟩, Reg2.Ext.refl _⟩
 simp only [Act.put, xA, xB, xC]; (try simp only [xD]); (try simp only [xE]); (try simp only [id])
 repeat (refine' Reg2.ai _ (by rfl) (fun wz => ?_) ?_; rotate_left; (go_simp; first | rfl | rw [if_neg (by omega)]); simp only [Act.put, xA, xB, xC]; (try simp only [xD]); (try simp only [xE]); (try simp only [id]))
 refine Reg2.pp (fun wz _ hI hF => ?_) (fun r7 => ?_) (by rfl)
 ·have d0 := KO.out wz (hb1.trans (Below.mono hI hb1.size))
  go_wp2_with fail
  first | exact ⟨_, rfl, rfl, Reg2.Ext.refl _⟩ | exact ⟨_, rfl, ⟨(), rfl, trivial⟩, Reg2.Ext.refl _⟩
 simp only [Act.put, xA, xB, xC]; (try simp only [xD]); (try simp only [xE]); (try simp only [id])
 refine Reg2.pj (fun wz _ hI hF => ?_) (fun r8 => ?_) (by rfl)
 ·go_wp2_with (go_at_call 134; go_must (refine (hsub wz (hb1.trans (Below.mono hI hb1.size))).mono ?_); rintro e w' ⟨rfl, v4, g4, nK, bD⟩)
  have hpost : gG w b c t d p v g a m R (aj { M with L := M.L ++ [x] }) w' := ⟨v4, g4, (hS1.out.kept hI).core nK bD, (WS.of_below (hb1.trans (Below.mono hI hb1.size))).trans (WS.bZ bD)⟩
  exact ⟨_, rfl, ⟨⟨(), rfl⟩, hpost⟩, trivial⟩
 simp only [Act.put, xA, xB, xC]; (try simp only [xD]); (try simp only [xE]); (try simp only [id])
 repeat (refine' Reg2.ai _ (by rfl) (fun wz => ?_) ?_; rotate_left; (go_simp; first | rfl | rw [if_neg (by omega)]); simp only [Act.put, xA, xB, xC]; (try simp only [xD]); (try simp only [xE]); (try simp only [id]))
 refine Reg2.aA ?_
 intro w7 _ qD jP
 clear jP
 dsimp only [List.drop]
 obtain ⟨v7, g7, fQ, wH⟩ : gG w b c t d p v g a m R (aj { M with L := M.L ++ [x] }) w7 := qD
 have jL := mI fQ ((M.L.length : Int) + 1)
 rw [show (aj { M with L := M.L ++ [x] }).J = M.L ++ [x] from rfl, hget] at jL
 go_wp2_with fail
 go_at_call 112
 refine jL.mono ?_
 clear jL
 rintro e w8 ⟨rfl, dE, fA⟩
 have fP := fQ.work dE fA
 have NB := wH.trans (WS.bu fA)
 obtain ⟨R9, jK⟩ := dE.rA x
 have lJ := ay x
 rw [← hkk.out] at lJ
 have fB := fP.work jK (cu w8 _)
 have hfin := NB.trans (WS.bu (cu w8 (fH { ({ R with rep := iq x } : Wk) with az := x }).toArray))
 have c17 := jK.at 17 (.int .i64 1) (by rw [← hxs]; rfl)
 generalize fH { ({ R with rep := iq x } : Wk) with az := x } = W9 at *
 generalize ah x = cJ at *
 go_wp2_with fail
 go_ret
 exact ⟨rfl, v7, g7, fB, hfin⟩
end
end Go.Proofs.YtkhfejihijdipaaGreat

namespace Go.Proofs.YtkhfejihijdipaaGreat
open Go.RowKit Go.Lib Go.Sort
section
variable {w : World} {b c t d p g a : Nat} {v : Value} {m : Int} {P : Pg} {R : Wk}
theorem SW.drew (h : SW w b c t d p v g a m R P) : SW w.drew b c t d p v g a m R P := h.kept (Below.refl _ _).drew
theorem WS.wI {w1 : World} {v1 : Value} {g1 : Nat} (h : WS w.drew w1 b c t d p v g v1 g1) : WS w w1 b c t d p v g v1 g1 := (WS.of_below (Below.refl _ _).drew).trans h
theorem CW.QJ (h : CW w c t d p v g a m P) (F : Int → Int) (hf : ∀ t, P.now ≤ t → P.f t = F t) : CW w c t d p v g a m { P with f := F } := by
 obtain ⟨S, aG, hp, hC, hrest⟩ := h.kQ
 exact ⟨h.cell, h.dZ, h.nodes, S, aG, hp, hC.congr hf, hrest⟩
theorem KP (h : SW w b c t d p v g a m R P) (hk : PK P) (hr : R.az.st = 3) (hn : 0 ≤ R.az.bG ∧ R.az.bG ≤ 18446744073709551615) :
  Calls Tryz.prog 137 #[.pointer (some ⟨b, 0, none⟩), .pointer (some ⟨c, 0, none⟩)] w fun e w' => ∃ (n x : Int) (T' : List Int), zt P.T R.az.bG.toNat n x T' ∧ au w b c t d p v g a m (eH 139) { R with idle := n } { P with T := T' } e w' := by
 have hS := Lib.hid h
 have hg := BC h.drew.cw hk R.az.bG.toNat (by omega)
 rw [show ((R.az.bG.toNat : Nat) : Int) = R.az.bG by omega] at hg
 have c17 := h.wk.at 17 (.int .i64 R.az.st) rfl
 have c21 := h.wk.at 21 (.int .u64 R.az.bG) rfl
 have c1 := h.cw.c1
 rw [hr] at c17
 replace hn := Lib.hid hn
 clear h
 go_enter Tryz.func137, Tryz.ntmps137
 go_wp2_with fail
 go_region_with (go_at_call 169; go_must (refine hg.mono ?_); rintro e w' ⟨n, x, T', hG, hL, rfl, v4, g4, nK, bD⟩; have fP := hS.out.drew.core nK bD; have a22 := fP.wk.at 22 (.int .i64 R.idle) rfl; have f22 := fP.wk.free 22)
 all_goals
  have jK := fP.wk.idle n
  have fB := fP.work jK (bT w' 22 (.int .i64 n))
  have hfin := ((WS.bZ bD : WS w.drew w' b c t d p v g v4 g4).trans (WS.bu (bT w' 22 (.int .i64 n)))).wI
  go_wp2_with fail
  go_ret
  exact ⟨n, x, T', hG, rfl, v4, g4, fB, hfin⟩
theorem NC (h : SW w b c t d p v g a m R P) (hr : R.az.st ≠ 3) :
  Calls Tryz.prog 137 #[.pointer (some ⟨b, 0, none⟩), .pointer (some ⟨c, 0, none⟩)] w (au w b c t d p v g a m (eH 139) R P) := by
 have c17 := h.wk.at 17 (.int .i64 R.az.st) rfl
 have d0 : (R.az.st == 3) = false := by simp [hr]
 generalize R.az.st = s at *
 go_enter Tryz.func137, Tryz.ntmps137
 go_wp2_with fail
 go_ret
 exact ⟨rfl, v, g, h, WS.refl _⟩
theorem Dx (h : SW w b c t d p v g a m R P) (hk : PK P) (ha : a ≤ 800) (hm : m ≤ 1000000) (hP : ak R.az = true) (hb1 : R.az.aJ ≤ 1099511627776) (hb2 : 0 ≤ R.az.lim ∧ R.az.lim ≤ 1048576) (hb3 : 1 ≤ R.az.lim) (hb4 : 0 ≤ R.az.wid ∧ R.az.wid ≤ 64) (F : Int → Int)
  (hF : ∀ t, P.now ≤ t → F t = P.f t + had (max R.az.aJ P.now) (R.az.aJ + R.az.lim) R.az.wid t) (hr : ∀ t, P.now ≤ t → 0 ≤ F t ∧ F t ≤ 64) :
  Calls Tryz.prog 139 #[.pointer (some ⟨b, 0, none⟩), .pointer (some ⟨c, 0, none⟩)] w (au w b c t d p v g (a + 2) (m + 1) .nilFunc R { P with f := F }) := by
 have zJ := bC
 have zS := jO
 obtain ⟨k, hk1⟩ : ∃ k, k = 10 := ⟨_, rfl⟩
 obtain ⟨k3, hk3⟩ : ∃ k, k = 3 := ⟨_, rfl⟩
 rw [← hk1] at zJ
 rw [← hk3] at zS
 have hk0 : ¬ k = 0 := by omega
 have xG : ¬ k3 = 0 := by omega
 have lJ := ay R.az
 rw [← hk1] at lJ
 replace hk1 := Lib.hid hk1
 have hS := Lib.hid h
 have oZ := h.wk.lU lJ
 have hpl := kg (w := w) R.az hb1 hb2
 have lS : (aI R.az).length = 3 := by unfold aI; split <;> rfl
 have oS : ∀ u ∈ aI R.az, u.oneCell' = true := by unfold aI; split <;> (intro u hu; simp at hu; rcases hu with rfl | rfl | rfl <;> rfl)
 have ST : Hid (∀ W : World, Sem.run Tryz.prog (storeCells ⟨W.heap.size, 0, none⟩ (aI R.az) 0) (W.alloc (.cells #[.int .i64 0, .int .i64 0, .int .i64 0] 97)) = .ok () (W.alloc (.cells (aI R.az).toArray 97))) := fun W => cz W W.heap.size (aI R.az) [.int .i64 0, .int .i64 0, .int .i64 0] 97 rfl lS oS
 rw [← hk3] at lS
 replace hk3 := Lib.hid hk3
 have hst : ∀ W, SW W b c t d p v g a m R P → W.cell? ⟨b, 17, none⟩ = some (.int .i64 R.az.st) := fun W hW => hW.wk.at 17 (.int .i64 R.az.st) rfl
 generalize kr : aI R.az = cS at *
 replace kr := Lib.hid kr
 generalize ah R.az = cJ at *
 clear h
 have Bb : R.az.st = 1 := (aY.1 hP).1
 rw [Bb] at hst
 have kR : cS = [.int .i64 R.az.aJ, .int .i64 (R.az.aJ + R.az.lim), .int .i64 R.az.wid] := by rw [← kr.out]; unfold aI; rw [if_pos hP]
 rw [hP] at hpl
 replace hP := Lib.hid hP
 replace Bb := Lib.hid Bb
 replace kR := Lib.hid kR
 replace hst := Lib.hid hst
 go_enter Tryz.func139, Tryz.ntmps139
 go_wp2_with fail
 go_at_call 68
 refine hpl.mono ?_
 clear hpl oZ
 rintro e w1 ⟨rfl, hb⟩
 have st1 := ST.out w1
 obtain ⟨w2, hw2⟩ : ∃ w2, w2 = w1.alloc (.cells cS.toArray 97) := ⟨_, rfl⟩
 rw [← hw2] at st1
 have hb2' : Below w.heap.size w w2 := by rw [hw2]; exact hb.alloc hb.size _
 have hy2 : Hid (w2.heap[w1.heap.size]? = some (.cells cS.toArray 97 (0, 0))) := by show _ = _; rw [hw2]; exact heap_alloc_new w1 _
 have hs2 : w2.heap.size = w1.heap.size + 1 := by rw [hw2]; simp
 replace hw2 := Lib.hid hw2
 have hS2 := Lib.hid (hS.out.kept hb2')
 go_wp2_with fail
 refine Reg2.rd w2 5 47 [[],[ae],[ae,ae],[ae,ae,ae],[af,af,af,af]] [0, 0, 0, 1, 1] [.pure, .pure, .pure, .mU (.pointer (some ⟨p, 0, none⟩)), .mU (.agg cS.toArray)] (by kernel_rfl) (by kernel_rfl) rfl rfl ⟨trivial, trivial, trivial, Reg2.tt, Reg2.tt, trivial⟩ ⟨rfl, rfl, rfl, Nat.le_refl _, fun _ _ => rfl⟩ ?_
 dsimp only [Reg2.mk, List.zip, List.zipWith, List.take]
 repeat (refine' Reg2.ai _ (by rfl) (fun wz => ?_) ?_; rotate_left; (go_simp; first | rfl | rw [if_neg (by omega)]); simp only [Act.put, xA, xB, xC]; (try simp only [xD]); (try simp only [xE]); (try simp only [id]))
 refine Reg2.pm (fun wz hI hF => ?_) (fun r3 => ?_) (by rfl)
 ·have c0 := (hS2.out.cw.kept hI).c2
  go_wp2_with fail
  first | exact ⟨_, rfl, rfl, Reg2.Ext.refl _⟩ | exact ⟨_, rfl, ⟨(), rfl, trivial⟩, Reg2.Ext.refl _⟩
 simp only [Act.put, xA, xB, xC]; (try simp only [xD]); (try simp only [xE]); (try simp only [id])
 refine Reg2.pm (fun wz hI hF => ?_) (fun r4 => ?_) (by rfl)
 ·have d0 := eu ((hI.block _ (aB hy2.out)).trans hy2.out) lS
  go_wp2_with fail
  first | exact ⟨_, rfl, rfl, Reg2.Ext.refl _⟩ | exact ⟨_, rfl, ⟨(), rfl, trivial⟩, Reg2.Ext.refl _⟩
 simp only [Act.put, xA, xB, xC]; (try simp only [xD]); (try simp only [xE]); (try simp only [id])
 refine Reg2.aA ?_
 intro w4 HI4 _ dU
 clear dU
 dsimp only [List.drop]
 have bD := hS2.out.kept HI4
 have hrel := ru bD.cw hk ha hm R.az.aJ (R.az.aJ + R.az.lim) R.az.wid F (by omega) (by omega) hb4 hF hr
 have FI := kR.out
 clear kr kR
 subst FI
 go_wp2_with fail
 go_at_call 124
 refine hrel.mono ?_
 clear hrel
 rintro e w5 ⟨rfl, v5, g5, fV, hS5⟩
 have dM := bD.core fV hS5
 have hfin := (WS.of_below (hb2'.trans (HI4.mono hb2'.size)) : WS w w4 b c t d p v g v g).trans (WS.bZ hS5)
 have c17 := dM.wk.at 17 (.int .i64 R.az.st) rfl
 rw [Bb.out] at c17
 go_wp2_with fail
 go_ret
 exact ⟨rfl, v5, g5, dM, hfin⟩
theorem FJ (h : SW w b c t d p v g a m R P) (hk : PK P) (ha : a ≤ 800) (hm : m ≤ 1000000) (hP : R.az.st = 3) (hb1 : R.az.aJ ≤ 1099511627776) (hb2 : 0 ≤ R.az.lim ∧ R.az.lim ≤ 1048576) (hb3 : P.now < R.az.fin ∧ R.az.fin ≤ 1099512676352) (hb4 : -64 ≤ R.idle ∧ R.idle ≤ 64) (F : Int → Int)
  (hF : ∀ t, P.now ≤ t → F t = P.f t + had (max P.now P.now) R.az.fin R.idle t) (hr : ∀ t, P.now ≤ t → 0 ≤ F t ∧ F t ≤ 64) :
  Calls Tryz.prog 139 #[.pointer (some ⟨b, 0, none⟩), .pointer (some ⟨c, 0, none⟩)] w (au w b c t d p v g (a + 2) (m + 1) .nilFunc R { P with f := F }) := by
 have zJ := bC
 have zS := jO
 obtain ⟨k, hk1⟩ : ∃ k, k = 10 := ⟨_, rfl⟩
 obtain ⟨k3, hk3⟩ : ∃ k, k = 3 := ⟨_, rfl⟩
 rw [← hk1] at zJ
 rw [← hk3] at zS
 have hk0 : ¬ k = 0 := by omega
 have xG : ¬ k3 = 0 := by omega
 have lJ := ay R.az
 rw [← hk1] at lJ
 replace hk1 := Lib.hid hk1
 have hS := Lib.hid h
 have oZ := h.wk.lU lJ
 have hpl := kg (w := w) R.az hb1 hb2
 have lS : (aI R.az).length = 3 := by unfold aI; split <;> rfl
 have oS : ∀ u ∈ aI R.az, u.oneCell' = true := by unfold aI; split <;> (intro u hu; simp at hu; rcases hu with rfl | rfl | rfl <;> rfl)
 have ST : Hid (∀ W : World, Sem.run Tryz.prog (storeCells ⟨W.heap.size, 0, none⟩ (aI R.az) 0) (W.alloc (.cells #[.int .i64 0, .int .i64 0, .int .i64 0] 97)) = .ok () (W.alloc (.cells (aI R.az).toArray 97))) := fun W => cz W W.heap.size (aI R.az) [.int .i64 0, .int .i64 0, .int .i64 0] 97 rfl lS oS
 rw [← hk3] at lS
 replace hk3 := Lib.hid hk3
 have hst : ∀ W, SW W b c t d p v g a m R P → W.cell? ⟨b, 17, none⟩ = some (.int .i64 R.az.st) := fun W hW => hW.wk.at 17 (.int .i64 R.az.st) rfl
 generalize kr : aI R.az = cS at *
 replace kr := Lib.hid kr
 generalize ah R.az = cJ at *
 clear h
 have hno : ak R.az = false := by unfold ak; rw [hP]; rfl
 rw [hP] at hst
 rw [hno] at hpl
 replace hP := Lib.hid hP
 replace hno := Lib.hid hno
 go_enter Tryz.func139, Tryz.ntmps139
 go_wp2_with fail
 go_at_call 68
 refine hpl.mono ?_
 clear hpl oZ
 rintro e w1 ⟨rfl, hb⟩
 have st1 := ST.out w1
 obtain ⟨w2, hw2⟩ : ∃ w2, w2 = w1.alloc (.cells cS.toArray 97) := ⟨_, rfl⟩
 rw [← hw2] at st1
 have hb2' : Below w.heap.size w w2 := by rw [hw2]; exact hb.alloc hb.size _
 have hy2 : Hid (w2.heap[w1.heap.size]? = some (.cells cS.toArray 97 (0, 0))) := by show _ = _; rw [hw2]; exact heap_alloc_new w1 _
 have hs2 : w2.heap.size = w1.heap.size + 1 := by rw [hw2]; simp
 replace hw2 := Lib.hid hw2
 have hS2 := Lib.hid (hS.out.kept hb2')
 have c17 := hst w2 hS2.out
 replace hst := Lib.hid hst
 go_wp2_with fail
 refine Reg2.rd w2 18 47 [[],[ae],[ae,ae],[ae,ae,ae],[af,af,af,af],[af,af,af,af,ae],[af,af,af,af,ae,ae],[af,af,af,af,ae,ae,ae],[af,af,af,af,ae,ae,ae,ae],[af,af,af,af,af,af,af,af,af],[af,af,af,af,af,af,af,af,af,ae],[af,af,af,af,af,af,af,af,af,ae,ae],[af,af,af,af,af,af,af,af,af,ae,ae,ae],[af,af,af,af,af,af,af,af,af,ae,ae,ae,ae],[af,af,af,af,af,af,af,af,af,af,af,af,af,af],[af,af,af,af,af,af,af,af,af,af,af,af,af,af,ae],[af,af,af,af,af,af,af,af,af,af,af,af,af,af,ae,ae],[af,af,af,af,af,af,af,af,af,af,af,af,af,af,ae,ae,ae]] [0, 0, 0, 1, 0, 0, 0, 1, 1, 0, 0, 0, 0, 1, 0, 0, 0, 1] [.pure, .pure, .pure, .mU (.pointer (some ⟨p, 0, none⟩)), .pure, .pure, .pure, .mU (.pointer (some ⟨p, 0, none⟩)), .mU (.int .i64 P.now), .pure, .pure, .pure, .pure, .mU (.int .i64 R.az.fin), .pure, .pure, .pure, .mU (.int .i64 R.idle)] (by kernel_rfl) (by kernel_rfl) rfl rfl ⟨trivial, trivial, trivial, Reg2.tt, trivial, trivial, trivial, Reg2.tt, Reg2.tt, trivial, trivial, trivial, trivial, Reg2.tt, trivial, trivial, trivial, Reg2.tt, trivial⟩ ⟨rfl, rfl, rfl, Nat.le_refl _, fun _ _ => rfl⟩ ?_
 dsimp only [Reg2.mk, List.zip, List.zipWith, List.take]
 repeat (refine' Reg2.ai _ (by rfl) (fun wz => ?_) ?_; rotate_left; (go_simp; first | rfl | rw [if_neg (by omega)]); simp only [Act.put, xA, xB, xC]; (try simp only [xD]); (try simp only [xE]); (try simp only [id]))
 refine Reg2.pm (fun wz hI hF => ?_) (fun r3 => ?_) (by rfl)
 ·have c0 := (hS2.out.cw.kept hI).c2
  go_wp2_with fail
  first | exact ⟨_, rfl, rfl, Reg2.Ext.refl _⟩ | exact ⟨_, rfl, ⟨(), rfl, trivial⟩, Reg2.Ext.refl _⟩
 simp only [Act.put, xA, xB, xC]; (try simp only [xD]); (try simp only [xE]); (try simp only [id])
 repeat (refine' Reg2.ai _ (by rfl) (fun wz => ?_) ?_; rotate_left; (go_simp; first | rfl | rw [if_neg (by omega)]); simp only [Act.put, xA, xB, xC]; (try simp only [xD]); (try simp only [xE]); (try simp only [id]))
 refine Reg2.pm (fun wz hI hF => ?_) (fun r7 => ?_) (by rfl)
 ·have c0 := (hS2.out.cw.kept hI).c2
  go_wp2_with fail
  first | exact ⟨_, rfl, rfl, Reg2.Ext.refl _⟩ | exact ⟨_, rfl, ⟨(), rfl, trivial⟩, Reg2.Ext.refl _⟩
 simp only [Act.put, xA, xB, xC]; (try simp only [xD]); (try simp only [xE]); (try simp only [id])
 refine Reg2.pm (fun wz hI hF => ?_) (fun r8 => ?_) (by rfl)
 ·go_wp2_with (go_at_call 43; go_must (refine (fO (hS2.out.kept hI).cw).mono ?_); rintro e w' ⟨rfl, rfl⟩)
  first | exact ⟨_, rfl, rfl, Reg2.Ext.refl _⟩ | exact ⟨_, rfl, ⟨(), rfl, trivial⟩, Reg2.Ext.refl _⟩
 simp only [Act.put, xA, xB, xC]; (try simp only [xD]); (try simp only [xE]); (try simp only [id])
 repeat (refine' Reg2.ai _ (by rfl) (fun wz => ?_) ?_; rotate_left; (go_simp; first | rfl | rw [if_neg (by omega)]); simp only [Act.put, xA, xB, xC]; (try simp only [xD]); (try simp only [xE]); (try simp only [id]))
 refine Reg2.pm (fun wz hI hF => ?_) (fun FK => ?_) (by rfl)
 ·have q0 := (hS2.out.kept hI).wk.at 19 (.int .i64 R.az.fin) rfl
  go_wp2_with fail
  first | exact ⟨_, rfl, rfl, Reg2.Ext.refl _⟩ | exact ⟨_, rfl, ⟨(), rfl, trivial⟩, Reg2.Ext.refl _⟩
 simp only [Act.put, xA, xB, xC]; (try simp only [xD]); (try simp only [xE]); (try simp only [id])
 repeat (refine' Reg2.ai _ (by rfl) (fun wz => ?_) ?_; rotate_left; (go_simp; first | rfl | rw [if_neg (by omega)]); simp only [Act.put, xA, xB, xC]; (try simp only [xD]); (try simp only [xE]); (try simp only [id]))
 refine Reg2.pm (fun wz hI hF => ?_) (fun Sa => ?_) (by rfl)
 ·have q0 := (hS2.out.kept hI).wk.at 22 (.int .i64 R.idle) rfl
  go_wp2_with fail
  first | exact ⟨_, rfl, rfl, Reg2.Ext.refl _⟩ | exact ⟨_, rfl, ⟨(), rfl, trivial⟩, Reg2.Ext.refl _⟩
 simp only [Act.put, xA, xB, xC]; (try simp only [xD]); (try simp only [xE]); (try simp only [id])
 refine Reg2.aA ?_
 intro w4 HI4 _ dU
 clear dU
 dsimp only [List.drop]
 have bD := hS2.out.kept HI4
 have hadd := Jw bD.cw hk ha hm P.now R.az.fin R.idle F hb3.1 (by omega) hb4 hF hr
 go_wp2_with fail
 go_at_call 170
 refine hadd.mono ?_
 clear hadd
 rintro e w5 ⟨rfl, v5, g5, fV, hS5⟩
 have dM := bD.core fV hS5
 have hfin := (WS.of_below (hb2'.trans (HI4.mono hb2'.size)) : WS w w4 b c t d p v g v g).trans (WS.bZ hS5)
 go_wp2_with fail
 go_ret
 exact ⟨rfl, v5, g5, dM, hfin⟩
theorem Dy (h : SW w b c t d p v g a m R P) (hk : PK P) (ha : a ≤ 800) (hm : m ≤ 1000000) (hP : ak R.az = false) (hP2 : R.az.st ≠ 3) (hb1 : R.az.aJ ≤ 1099511627776) (hb2 : 0 ≤ R.az.lim ∧ R.az.lim ≤ 1048576) :
  Calls Tryz.prog 139 #[.pointer (some ⟨b, 0, none⟩), .pointer (some ⟨c, 0, none⟩)] w (au w b c t d p v g a m .nilFunc R P) := by
 have zJ := bC
 have zS := jO
 obtain ⟨k, hk1⟩ : ∃ k, k = 10 := ⟨_, rfl⟩
 obtain ⟨k3, hk3⟩ : ∃ k, k = 3 := ⟨_, rfl⟩
 rw [← hk1] at zJ
 rw [← hk3] at zS
 have hk0 : ¬ k = 0 := by omega
 have xG : ¬ k3 = 0 := by omega
 have lJ := ay R.az
 rw [← hk1] at lJ
 replace hk1 := Lib.hid hk1
 have hS := Lib.hid h
 have oZ := h.wk.lU lJ
 have hpl := kg (w := w) R.az hb1 hb2
 have lS : (aI R.az).length = 3 := by unfold aI; split <;> rfl
 have oS : ∀ u ∈ aI R.az, u.oneCell' = true := by unfold aI; split <;> (intro u hu; simp at hu; rcases hu with rfl | rfl | rfl <;> rfl)
 have ST : Hid (∀ W : World, Sem.run Tryz.prog (storeCells ⟨W.heap.size, 0, none⟩ (aI R.az) 0) (W.alloc (.cells #[.int .i64 0, .int .i64 0, .int .i64 0] 97)) = .ok () (W.alloc (.cells (aI R.az).toArray 97))) := fun W => cz W W.heap.size (aI R.az) [.int .i64 0, .int .i64 0, .int .i64 0] 97 rfl lS oS
 rw [← hk3] at lS
 replace hk3 := Lib.hid hk3
 have hst : ∀ W, SW W b c t d p v g a m R P → W.cell? ⟨b, 17, none⟩ = some (.int .i64 R.az.st) := fun W hW => hW.wk.at 17 (.int .i64 R.az.st) rfl
 generalize kr : aI R.az = cS at *
 replace kr := Lib.hid kr
 generalize ah R.az = cJ at *
 clear h
 have d0 : (R.az.st == 3) = false := by simp [hP2]
 rw [hP] at hpl
 generalize R.az.st = s at *
 go_enter Tryz.func139, Tryz.ntmps139
 go_wp2_with fail
 go_at_call 68
 refine hpl.mono ?_
 clear hpl oZ
 rintro e w1 ⟨rfl, hb⟩
 have st1 := ST.out w1
 obtain ⟨w2, hw2⟩ : ∃ w2, w2 = w1.alloc (.cells cS.toArray 97) := ⟨_, rfl⟩
 rw [← hw2] at st1
 have hb2' : Below w.heap.size w w2 := by rw [hw2]; exact hb.alloc hb.size _
 have hy2 : Hid (w2.heap[w1.heap.size]? = some (.cells cS.toArray 97 (0, 0))) := by show _ = _; rw [hw2]; exact heap_alloc_new w1 _
 have hs2 : w2.heap.size = w1.heap.size + 1 := by rw [hw2]; simp
 replace hw2 := Lib.hid hw2
 have hS2 := Lib.hid (hS.out.kept hb2')
 have c17 := hst w2 hS2.out
 replace hst := Lib.hid hst
 go_wp2_with fail
 go_ret
 exact ⟨rfl, v, g, hS2.out, WS.of_below hb2'⟩
end
end Go.Proofs.YtkhfejihijdipaaGreat

namespace Go.Proofs.YtkhfejihijdipaaGreat
open Go.RowKit Go.Lib
theorem Dz {p : Jb → Bool} : ∀ {X : List Jb} {x : Jb} {r : List Jb}, X.filter p = x :: r → ∃ q, q < X.length ∧ X.getD q default = x ∧ (∀ k, k < q → p (X.getD k default) = false) ∧ (X.drop (q + 1)).filter p = r ∧ p x = true := by
 intro X
 induction X with
 | nil => intro x r h; cases h
 | cons y X ih =>
  intro x r h
  cases hp : p y with
  | true =>
   rw [List.filter_cons_of_pos hp] at h
   obtain ⟨rfl, rfl⟩ := List.cons.inj h
   exact ⟨0, by simp, rfl, fun k hk => absurd hk (Nat.not_lt_zero _), rfl, hp⟩
  | false =>
   rw [List.filter_cons_of_neg (by simp [hp])] at h
   obtain ⟨q, h1, h2, h3, h4, h5⟩ := ih h
   refine ⟨q + 1, by simp; omega, by simpa using h2, fun k hk => ?_, by simpa using h4, h5⟩
   cases k with
   | zero => simpa using hp
   | succ k => simpa using h3 k (by omega)
theorem filter_none {p : Jb → Bool} {X : List Jb} (h : X.filter p = []) (k : Nat) (hk : k < X.length) : p (X.getD k default) = false := by
 have h1 := List.filter_eq_nil_iff.1 h (X.getD k default) (aV hk)
 simpa using h1
theorem getD_drop {L : List Jb} {k q : Nat} : (L.drop k).getD q default = L.getD (k + q) default := by simp [List.getD]
theorem xH {f : Jb → Jb} {L : List Jb} {k : Nat} : ∀ {k' : Nat}, k ≤ k' → k' ≤ L.length → (∀ m, k ≤ m → m < k' → f (L.getD m default) = L.getD m default) → dL f L k = dL f L k' := by
 intro k'
 induction k' with
 | zero =>
  intro h _ _
  obtain rfl : k = 0 := by omega
  rfl
 | succ k' ih =>
  intro h1 h2 h3
  rcases Nat.lt_or_ge k' k with h4 | h4
  ·obtain rfl : k = k' + 1 := by omega
   rfl
  ·rw [ih h4 (by omega) fun m a b => h3 m a (by omega)]
   exact lL (by omega) (h3 k' h4 (by omega))
theorem uu {t : Int} {j : Jb} (h : ¬ (j.st = 3 ∧ j.fin = t)) : aQ t j = j := if_neg h
theorem zP {t : Int} {j : Jb} (h : j.st = 3 ∧ j.fin = t) : aQ t j = j.setSt 6 := if_pos h
def iM (M : Md) (k : Nat) : Md := { M with L := dL (aQ M.now) M.L k }
section
variable {M : Md}
theorem vw (k : Nat) : (iM M k).L.length = M.L.length := mP M.L k
theorem ND : iM M M.L.length = { M with L := M.L.map (aQ M.now) } := by unfold iM; rw [pG]
theorem KQ : iM M 0 = M := by unfold iM dL; simp
theorem NF (h : aC M) (h1 : 1 ≤ M.dr.length) (h2 : M.L.length ≤ 900) {f0 : Int → Int} (hf : ∀ t, M.now ≤ t → 0 ≤ f0 t ∧ f0 t ≤ 64) : PK { aj M with f := f0 } := by
 have := ed h h1 h2
 exact ⟨this.now, this.few, this.st, this.lim, this.p9, hf⟩
theorem DC {x y : Jb} (h : x.id ≠ y.id) (hn : aS y x = false) : aS x y = true := by
 unfold aS at *
 simp only [Bool.or_eq_false_iff, Bool.and_eq_false_iff, decide_eq_false_iff_not, Bool.or_eq_true, Bool.and_eq_true, decide_eq_true_eq] at *
 omega
theorem FL {L : List Jb} {now : Int} {f : Nat} (hd : bY now (L.getD f default) = true) (hf : ∀ q, q < L.length → q ≠ f → bY now (L.getD q default) = true → aS (L.getD f default) (L.getD q default) = true) :
  ∀ k, k ≤ L.length → f < k → gM L now k = f := by
 have sp : ∀ q, bY now (L.getD q default) = true ↔ (ak (L.getD q default) = true ∧ (L.getD q default).aJ = now) := fun q => by unfold bY; simp
 intro k
 induction k with
 | zero => intro _ h; omega
 | succ k ih =>
  intro hk UW
  unfold gM
  rcases Nat.lt_or_ge f k with h1 | h1
  ·rw [ih (by omega) h1, if_neg]
   rintro ⟨h2, h3, h4⟩
   have h5 := hf k (by omega) (by omega) ((sp k).2 ⟨h2, h3⟩)
   rcases h4 with h4 | h4
   ·omega
   ·rw [Int.toNat_natCast] at h4
    have := DW h5
    rw [this] at h4
    cases h4
  ·obtain rfl : f = k := by omega
   obtain ⟨h2, h3⟩ := (sp f).1 hd
   rw [if_pos]
   refine ⟨h2, h3, ?_⟩
   rcases lF L now f with ⟨h4, _⟩ | ⟨q, h4, h5, h6⟩
   ·exact .inl h4
   ·refine .inr ?_
    rw [h4, Int.toNat_natCast]
    exact hf q (by omega) (by omega) h6
theorem Ij {f : Nat} (hfl : f < M.L.length) (hd : bY M.now (M.L.getD f default) = true) (hf : ∀ q, q < M.L.length → q ≠ f → bY M.now (M.L.getD q default) = true → aS (M.L.getD f default) (M.L.getD q default) = true) : firstM M = f :=
 FL hd hf _ (Nat.le_refl _) hfl
theorem AB (n : Nat) (h : ∀ q, q < M.L.length → bY M.now (M.L.getD q default) = false) : startGo n M = M := by
 have hf : ¬ 0 ≤ firstM M := by
  unfold firstM
  rcases lF M.L M.now M.L.length with ⟨h4, _⟩ | ⟨q, h4, h5, h6⟩
  ·omega
  ·rw [h q h5] at h6; cases h6
 induction n with
 | zero => rfl
 | succ n ih => unfold startGo; rw [if_neg hf]; exact ih
structure Going (M F : Md) (r : List Jb) : Prop where
 inv : aC M
 run : ∀ j ∈ M.L, j.st = 3 → M.now < j.fin
 goes : ∃ n, startGo n M = F ∧ kN M ≤ n
 still : ∀ x ∈ r, 1 ≤ x.id ∧ x.id ≤ M.L.length ∧ M.L.getD (x.id - 1).toNat default = x
 due : ∀ q, q < M.L.length → bY M.now (M.L.getD q default) = true → M.L.getD q default ∈ r
 sorted : r.Pairwise (fun x y => aS y x = false)
 nodup : r.Pairwise (fun x y => x.id ≠ y.id)
 pend : ∀ x ∈ r, x.st = 1
theorem Going.skip {F : Md} {x : Jb} {r : List Jb} (h : Going M F (x :: r)) (hx : bY M.now x = false) : Going M F r :=
 ⟨h.inv, h.run, h.goes, fun y hy => h.still y (List.mem_cons_of_mem _ hy), fun q hq hd => by
  rcases List.mem_cons.1 (h.due q hq hd) with e | e
  ·rw [e, hx] at hd; cases hd
  ·exact e, (List.pairwise_cons.1 h.sorted).2, (List.pairwise_cons.1 h.nodup).2, fun y hy => h.pend y (List.mem_cons_of_mem _ hy)⟩
theorem Going.last {F : Md} (h : Going M F []) : F = M := by
 obtain ⟨n, h1, _⟩ := h.goes
 rw [← h1]
 refine AB n fun q hq => ?_
 cases hd : bY M.now (M.L.getD q default) with
 | false => rfl
 | true => exact absurd (h.due q hq hd) (by simp)
theorem Going.next {F : Md} {x : Jb} {r : List Jb} (h : Going M F (x :: r)) (hx : bY M.now x = true) : (x.id - 1).toNat < M.L.length ∧ M.L.getD (x.id - 1).toNat default = x ∧ Going (aT M (x.id - 1).toNat) F r := by
 obtain ⟨i1, i2, i3⟩ := h.still x (List.mem_cons_self ..)
 obtain ⟨f, hf⟩ : ∃ f, f = (x.id - 1).toNat := ⟨_, rfl⟩
 have hfl : f < M.L.length := by omega
 rw [← hf] at i3 ⊢
 have hs := List.pairwise_cons.1 h.sorted
 have hn := List.pairwise_cons.1 h.nodup
 have hdf : bY M.now (M.L.getD f default) = true := by rw [i3]; exact hx
 have Ph : firstM M = f := Ij hfl hdf fun q hq hne hd => by
  have hmem := h.due q hq hd
  have NG := h.inv.ids q hq
  have Fv := h.inv.ids f hfl
  rcases List.mem_cons.1 hmem with e | e
  ·rw [e] at NG; rw [i3] at Fv; omega
  ·rw [i3]
   exact DC (hn.1 _ e) (hs.1 _ e)
 obtain ⟨n, h1, h2⟩ := h.goes
 obtain ⟨s1, s2, s3, _⟩ := h.inv.start h.run hfl hdf
 have hpos : 1 ≤ kN M := by
  have h5 := yL (fun j => if bY M.now j = true then (1 : Int) else 0) M.L (fun j _ => by split <;> omega) (aV hfl)
  rw [if_pos hdf] at h5
  exact h5
 have hlen : (aT M f).L.length = M.L.length := by unfold aT; exact List.length_set
 have hget : ∀ q, (aT M f).L.getD q default = if f = q ∧ f < M.L.length then eX M (M.L.getD f default) else M.L.getD q default := fun q => fD
 refine ⟨hfl, i3, s1, s2, ?_, ?_, ?_, hs.2, hn.2, fun y hy => h.pend y (List.mem_cons_of_mem _ hy)⟩
 ·cases n with
  | zero => omega
  | succ n =>
   refine ⟨n, ?_, by omega⟩
   unfold startGo at h1
   rw [Ph, if_pos (by omega), Int.toNat_natCast] at h1
   exact h1
 ·intro y hy
  obtain ⟨a1, a2, a3⟩ := h.still y (List.mem_cons_of_mem _ hy)
  refine ⟨a1, by rw [hlen]; exact a2, ?_⟩
  rw [hget, if_neg, a3]
  rintro ⟨e, _⟩
  exact hn.1 y hy (by omega)
 ·intro q hq hd
  rw [hlen] at hq
  rw [hget] at hd ⊢
  by_cases e : f = q ∧ f < M.L.length
  ·rw [if_pos e] at hd
   have : bY (aT M f).now (eX M (M.L.getD f default)) = false := by unfold bY ak; rfl
   rw [this] at hd; cases hd
  ·rw [if_neg e] at hd ⊢
   rcases List.mem_cons.1 (h.due q hq hd) with e2 | e2
   ·exfalso
    have NG := h.inv.ids q hq
    rw [e2] at NG
    exact e ⟨by omega, hfl⟩
   ·exact e2
end
end Go.Proofs.YtkhfejihijdipaaGreat

namespace Go.Proofs.YtkhfejihijdipaaGreat
open Go.RowKit Go.Lib Go.Sort
def wJ (w : World) (c t d p : Nat) (v : Value) (g a : Nat) (m : Int) (P : Pg) (W : World) : Prop := ∃ v' g', CW W c t d p v' g' a m P ∧ CS w W c t d p v g v' g'
theorem wJ.ext {w : World} {c t d p g a : Nat} {v : Value} {m : Int} {P : Pg} : ∀ (x y : World), Reg2.Ext x y → wJ w c t d p v g a m P x → wJ w c t d p v g a m P y := by
 rintro x y h ⟨v', g', h1, h2⟩
 exact ⟨v', g', h1.kept h, h2.trans (CS.of_below h)⟩
def sD (w : World) (c t d p : Nat) (v : Value) (g a : Nat) (m : Int) (P : Pg) (T : List Int) (W : World) : Prop := wJ w c t d p v g a m P W ∧ gJ T
theorem sD.ext {w : World} {c t d p g a : Nat} {v : Value} {m : Int} {P : Pg} {T : List Int} : ∀ (x y : World), Reg2.Ext x y → sD w c t d p v g a m P T x → sD w c t d p v g a m P T y := fun x y h hs => ⟨wJ.ext x y h hs.1, hs.2⟩
section
variable {w : World} {c t d p g a : Nat} {v : Value} {m : Int} {P : Pg} {M : Md}
theorem launch_fn (h : CW w c t d p v g a m P) (hk : PK P) (j : Jb) (hj : -9223372036854775808 ≤ j.wid ∧ j.wid ≤ 9223372036854775807) {s : Nat} {T0 : List Int} (hT0 : om P.T j.wid s 0 T0) :
  Calls Tryz.prog 179 #[.pointer (some ⟨c, 0, none⟩), .agg (ah j).toArray] w (dS w c t d p v g a m (.tuple #[]) { P with T := T0, J := bS P.J (fF P.now) j.id (fun j : Jb => decide (j.state = 1)) (kD P.now s) }) := by
 obtain ⟨wA, aM⟩ : ∃ wA, wA = w.alloc (.cells (ah j).toArray 55) := ⟨_, rfl⟩
 have cZ : Below w.heap.size w wA := by rw [aM]; exact (Below.refl _ _).alloc (Nat.le_refl _) _
 have hsA : wA.heap.size = w.heap.size + 1 := by rw [aM]; simp
 have sM : Hid (wA.heap[w.heap.size]? = some (.cells (ah j).toArray 55 (0, 0))) := by show _ = _; rw [aM]; exact heap_alloc_new w _
 have iy := Lib.hid (h.kept cZ)
 have hft : Hid (¬ fw c t d p v g w.heap.size) := fun hf => absurd (h.lt hf) (Nat.lt_irrefl _)
 have e0 : (ah j)[0]? = some (.int .i64 j.id) := rfl
 have e2 : (ah j)[2]? = some (.int .i64 j.wid) := rfl
 have zE := bC
 obtain ⟨k, hk1⟩ : ∃ k, k = 10 := ⟨_, rfl⟩
 rw [← hk1] at zE
 have hk0 : ¬ k = 0 := by omega
 replace hk1 := Lib.hid hk1
 have NH := fun (W : World) (hW : CW W c t d p v g a m P) => KF hW hk j.wid hj
 have hbe := fun (W : World) (v1 : Value) (g1 : Nat) (hL : gJ T0) (hW : CW W c t d p v1 g1 a m { P with T := T0 }) => H6 hW ⟨hk.now, hk.few, hk.st, hk.lim, hL, hk.f⟩ j.id P.now s
 rw [show ({ P with T := T0 } : Pg).J = P.J from rfl] at hbe
 have UX : Hid (∀ {T' : List Int}, gJ T' → T0 = T' → gJ T0) := fun h1 h2 => h2 ▸ h1
 generalize ah j = cJ at *
 generalize j.wid = jw at *
 generalize j.id = ji at *
 replace hT0 := Lib.hid hT0
 clear h
 go_enter Tryz.func179, Tryz.ntmps179
 go_wp2_with fail
 rw [← aM]
 replace aM := Lib.hid aM
 refine Reg2.sI 11 31 [[],[ae],[ae,ae],[ae,ae,ae],[af,af,af,af],[af,af,af,af,ae],[ae,ae,ae,ae,ae,ae],[ae,ae,ae,ae,ae,ae,ae],[ae,ae,ae,ae,ae,ae,ae,ae],[ae,ae,ae,ae,ae,ae,ae,ae,af],[ae,ae,ae,ae,ae,ae,ae,ae,ae,af]] [0, 0, 0, 2, 0, 2, 3, 0, 0, 0, 0]
  [.pure, .pure, .pure, .pinned Unit () (fun _ => .pointer (some ⟨d, 0, none⟩)) (fun _ _ => True), .pure, .pinned Unit () (fun _ => .int .i64 jw) (fun _ _ => True), .major Unit () (fun _ => .tuple #[.int .u64 s, .int .i64 0]), .pure, .pure, .pure, .pure]
  (fun _ => True) (fun vs W => match vs with | [] => Below wA.heap.size wA W | _ :: _ => (sD wA c t d p v g a m { P with T := T0 } T0) W) (fun _ _ => True) (by kernel_rfl) (by kernel_rfl) rfl rfl (fun vs a b h hs => by cases vs with | nil => exact Below.trans hs (h.mono (Below.size hs)) | cons v vs => exact sD.ext a b h hs) ?_ ?_ ?_ ?_ ?_ ?_
 ·intro a b he hb; trivial
 ·intro a b he hb; trivial
 ·exact ⟨trivial, trivial, trivial, ⟨fun _ _ _ _ _ => trivial, fun _ _ _ _ _ => trivial⟩, trivial, ⟨fun _ _ _ _ _ => trivial, fun _ _ _ _ _ => trivial⟩, trivial, trivial, trivial, trivial, trivial, trivial⟩
 ·trivial
 ·exact ⟨rfl, rfl, rfl, Nat.le_refl _, fun _ _ => rfl⟩
 dsimp only [Reg2.mk, List.zip, List.zipWith, List.take]
 repeat (refine' Reg2.ai _ (by rfl) (fun wz => ?_) ?_; rotate_left; (go_simp; first | rfl | rw [if_neg (by omega)]); simp only [Act.put, xA, xB, xC]; (try simp only [xD]); (try simp only [xE]); (try simp only [id]))
 refine Reg2.pp (fun wz _ hI hF => ?_) (fun r3 => ?_) (by rfl)
 ·have c0 := (iy.out.kept hI).c1
  go_wp2_with fail
  first | exact ⟨_, rfl, rfl, Reg2.Ext.refl _⟩ | exact ⟨_, rfl, ⟨(), rfl, trivial⟩, Reg2.Ext.refl _⟩
 simp only [Act.put, xA, xB, xC]; (try simp only [xD]); (try simp only [xE]); (try simp only [id])
 repeat (refine' Reg2.ai _ (by rfl) (fun wz => ?_) ?_; rotate_left; (go_simp; first | rfl | rw [if_neg (by omega)]); simp only [Act.put, xA, xB, xC]; (try simp only [xD]); (try simp only [xE]); (try simp only [id]))
 refine Reg2.pp (fun wz _ hI hF => ?_) (fun r5 => ?_) (by rfl)
 ·have q0 : wz.cell? ⟨w.heap.size, 2, none⟩ = some (.int .i64 jw) := by simp [World.cell?, (hI.block _ (aB sM.out)).trans sM.out, e2]
  go_wp2_with fail
  first | exact ⟨_, rfl, rfl, Reg2.Ext.refl _⟩ | exact ⟨_, rfl, ⟨(), rfl, trivial⟩, Reg2.Ext.refl _⟩
 simp only [Act.put, xA, xB, xC]; (try simp only [xD]); (try simp only [xE]); (try simp only [id])
 refine Reg2.pj (fun wz _ hI hF => ?_) (fun r6 => ?_) (by rfl)
 ·go_wp2_with (go_at_call 192; go_must (refine (NH wz (iy.out.kept hI)).mono ?_); rintro e w' ⟨s1, x1, T', hT, hL, rfl, v4, g4, nK, bD⟩)
  obtain ⟨rfl, rfl, rfl⟩ := hT0.out.uniq hT
  have hpost : sD wA c t d p v g a m { P with T := T0 } T0 w' := ⟨⟨v4, g4, nK, (CS.of_below hI).trans bD⟩, hL⟩
  exact ⟨_, rfl, ⟨⟨(), rfl⟩, hpost⟩, trivial⟩
 simp only [Act.put, xA, xB, xC]; (try simp only [xD]); (try simp only [xE]); (try simp only [id])
 repeat (refine' Reg2.ai _ (by rfl) (fun wz => ?_) ?_; rotate_left; (go_simp; first | rfl | rw [if_neg (by omega)]); simp only [Act.put, xA, xB, xC]; (try simp only [xD]); (try simp only [xE]); (try simp only [id]))
 refine Reg2.aA ?_
 intro w7 _ qD jP
 clear jP
 dsimp only [List.drop]
 obtain ⟨⟨v7, g7, xY, fQ⟩, hL7⟩ : wJ wA c t d p v g a m { P with T := T0 } w7 ∧ gJ T0 := qD
 have xZ : Hid (w7.heap[w.heap.size]? = some (.cells cJ.toArray 55 (0, 0))) := (fQ.heap (aB sM.out) hft.out).trans sM.out
 replace xY := Lib.hid xY
 go_wp2_with fail
 refine Reg2.rd w7 12 31 [[],[ae],[ae,ae],[ae,ae,ae],[af,af,af,af],[af,af,af,af,ae],[af,af,af,af,af,af],[af,af,af,af,af,af,ae],[af,af,af,af,af,af,ae,ae],[af,af,af,af,af,af,ae,ae,ae],[af,af,af,af,af,af,ae,ae,ae,ae],[af,af,af,af,af,af,af,af,af,af,af]] [0, 0, 0, 1, 0, 1, 0, 0, 0, 1, 1, 0] [.pure, .pure, .pure, .mU (.pointer (some ⟨t, 0, none⟩)), .pure, .mU (.int .i64 ji), .pure, .pure, .pure, .mU (.pointer (some ⟨p, 0, none⟩)), .mU (.int .i64 P.now), .pure] (by kernel_rfl) (by kernel_rfl) rfl rfl ⟨trivial, trivial, trivial, Reg2.tt, trivial, Reg2.tt, trivial, trivial, trivial, Reg2.tt, Reg2.tt, trivial, trivial⟩ ⟨rfl, rfl, rfl, Nat.le_refl _, fun _ _ => rfl⟩ ?_
 dsimp only [Reg2.mk, List.zip, List.zipWith, List.take]
 repeat (refine' Reg2.ai _ (by rfl) (fun wz => ?_) ?_; rotate_left; (go_simp; first | rfl | rw [if_neg (by omega)]); simp only [Act.put, xA, xB, xC]; (try simp only [xD]); (try simp only [xE]); (try simp only [id]))
 refine Reg2.pm (fun wz hI hF => ?_) (fun r3 => ?_) (by rfl)
 ·have c0 := (xY.out.kept hI).c0
  go_wp2_with fail
  first | exact ⟨_, rfl, rfl, Reg2.Ext.refl _⟩ | exact ⟨_, rfl, ⟨(), rfl, trivial⟩, Reg2.Ext.refl _⟩
 simp only [Act.put, xA, xB, xC]; (try simp only [xD]); (try simp only [xE]); (try simp only [id])
 repeat (refine' Reg2.ai _ (by rfl) (fun wz => ?_) ?_; rotate_left; (go_simp; first | rfl | rw [if_neg (by omega)]); simp only [Act.put, xA, xB, xC]; (try simp only [xD]); (try simp only [xE]); (try simp only [id]))
 refine Reg2.pm (fun wz hI hF => ?_) (fun r5 => ?_) (by rfl)
 ·have q0 : wz.cell? ⟨w.heap.size, 0, none⟩ = some (.int .i64 ji) := by simp [World.cell?, (hI.block _ (aB xZ.out)).trans xZ.out, e0]
  go_wp2_with fail
  first | exact ⟨_, rfl, rfl, Reg2.Ext.refl _⟩ | exact ⟨_, rfl, ⟨(), rfl, trivial⟩, Reg2.Ext.refl _⟩
 simp only [Act.put, xA, xB, xC]; (try simp only [xD]); (try simp only [xE]); (try simp only [id])
 repeat (refine' Reg2.ai _ (by rfl) (fun wz => ?_) ?_; rotate_left; (go_simp; first | rfl | rw [if_neg (by omega)]); simp only [Act.put, xA, xB, xC]; (try simp only [xD]); (try simp only [xE]); (try simp only [id]))
 refine Reg2.pm (fun wz hI hF => ?_) (fun r9 => ?_) (by rfl)
 ·have c0 := (xY.out.kept hI).c2
  go_wp2_with fail
  first | exact ⟨_, rfl, rfl, Reg2.Ext.refl _⟩ | exact ⟨_, rfl, ⟨(), rfl, trivial⟩, Reg2.Ext.refl _⟩
 simp only [Act.put, xA, xB, xC]; (try simp only [xD]); (try simp only [xE]); (try simp only [id])
 refine Reg2.pm (fun wz hI hF => ?_) (fun xU => ?_) (by rfl)
 ·go_wp2_with (go_at_call 43; go_must (refine (fO (xY.out.kept hI)).mono ?_); rintro e w' ⟨rfl, rfl⟩)
  first | exact ⟨_, rfl, rfl, Reg2.Ext.refl _⟩ | exact ⟨_, rfl, ⟨(), rfl, trivial⟩, Reg2.Ext.refl _⟩
 simp only [Act.put, xA, xB, xC]; (try simp only [xD]); (try simp only [xE]); (try simp only [id])
 repeat (refine' Reg2.ai _ (by rfl) (fun wz => ?_) ?_; rotate_left; (go_simp; first | rfl | rw [if_neg (by omega)]); simp only [Act.put, xA, xB, xC]; (try simp only [xD]); (try simp only [xE]); (try simp only [id]))
 refine Reg2.aA ?_
 intro w8 Sc _ dU
 clear dU
 dsimp only [List.drop]
 have QH := xY.out.kept Sc
 have qB := hbe w8 v7 g7 hL7 QH
 go_wp2_with fail
 go_at_call 193
 refine qB.mono ?_
 clear qB
 rintro e w9 ⟨rfl, v9, g9, FM, fB⟩
 have hfin := (((CS.of_below cZ : CS w wA c t d p v g v g).trans fQ).trans (CS.of_below Sc)).trans fB
 go_wp2_with fail
 go_end0
 exact ⟨rfl, v9, g9, FM, hfin⟩
theorem boxed (wr : World) (x : Jb) : Sem.run Tryz.prog (storeCells ⟨wr.heap.size, 0, none⟩ (ah x) 0) (wr.alloc (.cells #[.int .i64 0, .int .i64 0, .int .i64 0, .int .i64 0, .int .i64 0, .int .i64 0, .int .i64 0, .int .i64 0, .int .i64 0, .int .u64 0] 55)) = .ok () (wr.alloc (.cells (ah x).toArray 55)) :=
 cz wr wr.heap.size (ah x) (ah gB) 55 rfl rfl (df x)
theorem lN.off {w w1 : World} {gb off : Nat} {l : List Jb} {v1 : Value} {g1 : Nat} (hJ : lN w gb off l) (hs : CS w w1 c t d p v g v1 g1) (hg : ¬ fw c t d p v g gb) : lN w1 gb off l := by
 have hb : w1.heap[gb]? = w.heap[gb]? := hs.heap hJ.1 hg
 exact ⟨Nat.lt_of_lt_of_le hJ.1 hs.off.size, fun i s j u hi hj => by
  have := hJ.2 i s j u hi hj
  simp only [World.cell?, World.frozen?, hb] at this ⊢
  exact this⟩
theorem Ik (f0 : Int → Int) (h : CW w c t d p v g a m { aj M with f := f0 }) (hI : aC M) (h1 : 1 ≤ M.dr.length) (hll : M.L.length ≤ 900) (hf0 : ∀ u, M.now ≤ u → 0 ≤ f0 u ∧ f0 u ≤ 64) :
  Calls Tryz.prog 177 #[.pointer (some ⟨c, 0, none⟩), .int .i64 M.now] w (dS w c t d p v g a m (.tuple #[]) { aj ({ M with L := M.L.map (aQ M.now) } : Md) with f := f0 }) := by
 have zE := bC
 obtain ⟨k, hk⟩ : ∃ k, k = 10 := ⟨_, rfl⟩
 rw [← hk] at zE
 have hk0 : ¬ k = 0 := by omega
 replace hk := Lib.hid hk
 obtain ⟨wA, aM⟩ : ∃ wA, wA = w.alloc (.cells #[.int .i64 3] 3) := ⟨_, rfl⟩
 have cZ : Below w.heap.size w wA := by rw [aM]; exact (Below.refl _ _).alloc (Nat.le_refl _) _
 have Il : aW enc1 1 wA (.slice (some ⟨w.heap.size, 0, none⟩) 1 1) [3] := by rw [aM]; exact fE w w.heap.size [3] rfl (by decide)
 have iy := h.kept cZ
 have hin := ug iy.dZ (by show M.L.length ≤ 1000; omega) Il
 rw [show ({ aj M with f := f0 } : Pg).J = M.L from rfl] at hin
 have c0 := h.c0
 have hlt : Hid (∀ k, fw c t d p v g k → k < w.heap.size) := fun k hk => h.lt hk
 have Sd : Hid (∀ {W : World}, CW W c t d p v g a m { aj M with f := f0 } → CW W c t d p v g a m { aj (iM M 0) with f := f0 }) := fun hW => by rw [KQ]; exact hW
 generalize hL1 : (M.L.filter fun j : Jb => decide (j.state ∈ [(3 : Int)])) = l at *
 have hn1 : l.length ≤ 900 := by rw [← hL1]; exact Nat.le_trans (List.length_filter_le _ _) hll
 obtain ⟨tn, htn⟩ : ∃ tn, tn = M.now := ⟨_, rfl⟩
 rw [← htn]
 have htb := hI.mb.now
 rw [← htn] at htb
 replace htn := Lib.hid htn
 replace hL1 := Lib.hid hL1
 rw [aM] at hin
 clear h
 go_enter Tryz.func177, Tryz.ntmps177
 go_wp2_with fail
 go_at_call 18
 refine hin.mono ?_
 clear hin c0
 rw [← aM]
 rintro e w0 ⟨u, rfl, ho, hb0⟩
 have hbw0 : Below w.heap.size w w0 := cZ.trans (hb0.mono cZ.size)
 have hC0 := Sd.out (iy.kept hb0)
 replace aM := Lib.hid aM
 have hsh : Hid (∀ {ao : Option Addr} {n cap : Nat}, u = .slice ao n cap → 0 < l.length → ∃ g0, ao = some ⟨g0, 0, none⟩ ∧ wA.heap.size ≤ g0) := fun {ao n cap} e hp => by
  obtain ⟨OJ, cap', e0, hp'⟩ := gU ho
  obtain ⟨g0, e4⟩ := hp' hp
  subst e4
  rw [e] at e0
  injection e0 with e0 _ _
  exact ⟨g0, e0, (ho.lt g0 (by rw [e, e0]; rfl)).1⟩
 have hr := aW.jq ho ay rfl rfl
 obtain ⟨ao, cap, rfl, q1, q2, q3⟩ := hr
 obtain ⟨n, hn⟩ : ∃ n, l.length = n := ⟨_, rfl⟩
 rw [hn] at q1 q3 hn1 ho ⊢
 have HQ : Hid (0 < n → ∃ b, ao = some ⟨b, 0, none⟩ ∧ lN w0 b 0 l ∧ w.heap.size ≤ b) := fun hp => by
  obtain ⟨b, off, e1, e2, e3⟩ := q3 hp
  obtain ⟨g0, e4, e5⟩ := hsh.out rfl (by have := hn; omega)
  rw [e4] at e1
  injection e1 with e1
  injection e1 with e6 e7
  subst e6; subst e7
  exact ⟨g0, e4, ⟨e2, e3⟩, by have := cZ.size; omega⟩
 have EC : cap ≤ 9223372036854775807 := by unfold maxLen at q2; omega
 replace hn := Lib.hid hn
 clear q2 q3 ho hb0 iy
 go_wp2_with fail
 go_loopw [13] (fun ii wr => ∃ (i kk : Nat) (vr : Value) (gr : Nat), i ≤ n ∧ ii = .int .i64 i ∧ CW wr c t d p vr gr a m { aj (iM M kk) with f := f0 } ∧ CS w0 wr c t d p v g vr gr ∧ Hid (kk ≤ M.L.length ∧ (M.L.drop kk).filter (fun j : Jb => decide (j.state ∈ [(3 : Int)])) = l.drop i)) (fun ii _ => n - (intOf ii).toNat)
 case atStart => exact ⟨0, 0, v, g, Nat.zero_le _, rfl, hC0, CS.refl _, Lib.hid ⟨Nat.zero_le _, by rw [List.drop_zero, List.drop_zero, hL1.out]⟩⟩
 case round =>
  obtain ⟨i, kk, vr, gr, hin, rfl, DD, hSr, hpos⟩ := hrel
  by_cases hlt2 : i < n
  ·have b2 : (i : Int) < (n : Int) := by omega
   have wi : IntKind.i64.wrap ((i : Int) + 1) = (i : Int) + 1 := by rw [IntKind.wrap_i64]; omega
   obtain ⟨gb, rfl, hJ, hgb⟩ := HQ.out (by omega)
   have hgf : ¬ fw c t d p v g gb := fun hf => absurd (hlt.out gb hf) (by omega)
   have qA := hJ.off hSr hgf
   have iF : i < l.length := by have := hn.out; omega
   have LI := qA.load hk.out iF
   obtain ⟨x, hx⟩ : ∃ x, x = l[i]! := ⟨_, rfl⟩
   rw [← hx, Nat.zero_add] at LI
   replace hx := Lib.hid hx
   have hdrop : l.drop i = x :: l.drop (i + 1) := by rw [hx.out, getElem!_pos l i iF]; exact List.drop_eq_getElem_cons iF
   obtain ⟨hkk, hfil⟩ := hpos.out
   rw [hdrop] at hfil
   obtain ⟨q, a1, a2, a3, a4, a5⟩ := Dz hfil
   have hq : kk + q < M.L.length := by rw [List.length_drop] at a1; omega
   rw [getD_drop] at a2
   have NI : dL (aQ M.now) M.L kk = dL (aQ M.now) M.L (kk + q) := xH (by omega) (by omega) fun mm b1 b2 => uu fun hh => by
    have := a3 (mm - kk) (by omega)
    rw [getD_drop, show kk + (mm - kk) = mm by omega] at this
    exact absurd this (by show ¬ (decide ((M.L.getD mm default).state ∈ [(3 : Int)]) = false); rw [show (M.L.getD mm default).state = 3 from hh.1]; decide)
   have hov : iM M kk = iM M (kk + q) := by unfold iM; rw [NI]
   rw [hov] at DD
   have hx3 : x.st = 3 := (show x.state = 3 by simpa using a5)
   have DF : (M.L.drop (kk + q + 1)).filter (fun j : Jb => decide (j.state ∈ [(3 : Int)])) = l.drop (i + 1) := by rw [← a4, List.drop_drop]; rfl
   have NJ := hI.ym (kk + q) (by omega)
   have PM := hI.ym (kk + q + 1) (by omega)
   have wK : (iM M (kk + q)).L.getD (kk + q) default = x := (oG hq).trans a2
   have hxm := aV hq
   rw [a2] at hxm
   have FN := hI.ids (kk + q) hq
   rw [a2] at FN
   have Jg := hI.mb.bG x hxm
   have Sg := Lib.hid (NF NJ h1 (by show (iM M (kk + q)).L.length ≤ 900; rw [vw]; exact hll) hf0)
   have QK := Lib.hid (NF PM h1 (by show (iM M (kk + q + 1)).L.length ≤ 900; rw [vw]; exact hll) hf0)
   have Si := Lib.hid (Fh (M := iM M (kk + q)) NJ h1)
   replace DF := Lib.hid DF
   replace wK := Lib.hid wK
   replace a2 := Lib.hid a2
   replace FN := Lib.hid FN
   replace NJ := Lib.hid NJ
   clear hfil hdrop a3 a4 a5 a1 NI hpos hov PM
   have lI := ay x
   rw [← hk.out] at lI
   have e0 : (ah x)[0]? = some (.int .i64 x.id) := rfl
   have e7 : (ah x)[7]? = some (.int .i64 x.fin) := rfl
   have e9 : (ah x)[9]? = some (.int .u64 x.bG) := rfl
   have st := boxed wr x
   obtain ⟨w1, hw1⟩ : ∃ w1, w1 = wr.alloc (.cells (ah x).toArray 55) := ⟨_, rfl⟩
   have hb1 : Below wr.heap.size wr w1 := by rw [hw1]; exact (Below.refl _ _).alloc (Nat.le_refl _) _
   have hz1 : w1.heap[wr.heap.size]? = some (.cells (ah x).toArray 55 (0, 0)) := by rw [hw1]; exact heap_alloc_new wr _
   have hft : ¬ fw c t d p vr gr wr.heap.size := fun hf => absurd (DD.lt hf) (Nat.lt_irrefl _)
   have c7 : w1.cell? ⟨wr.heap.size, 7, none⟩ = some (.int .i64 x.fin) := by simp [World.cell?, hz1, e7]
   replace hz1 := Lib.hid hz1
   have uZ := Lib.hid (DD.kept hb1)
   have hS1 := hSr.trans (CS.of_below hb1)
   generalize hcI : ah x = cI at *
   replace hcI := Lib.hid hcI
   rw [← hw1] at st
   replace hw1 := Lib.hid hw1
   by_cases hfin : x.fin = tn
   ·have Bj : x.st = 3 ∧ x.fin = M.now := ⟨hx3, hfin.trans htn.out⟩
    have d1 : (x.fin == tn) = true := by simp [hfin]
    have hset : Hid (bS (iM M (kk + q)).L (bg 6 tn) x.id (dP 6) (bH 6 tn) = (iM M (kk + q + 1)).L) := by
     have hle := vw (M := M) (kk + q)
     have CU : bE (iM M (kk + q)).L (bg 6 tn) x.id (dP 6) = 0 := by
      have e1 : bg 6 tn = 0 := by unfold bg; rw [if_neg (by decide), if_neg (by decide), if_neg (by omega), if_neg (by omega)]
      unfold bE
      rw [FN.out, e1, if_neg (by decide), if_neg (by omega), if_neg (by omega), show ((((kk + q : Nat) : Int)) + 1 - 1).toNat = kk + q by omega, if_pos]
      rw [getElem!_pos _ _ (by omega)]
      have : (iM M (kk + q)).L[kk + q]'(by omega) = x := by rw [← wK.out]; simp [List.getD, show kk + q < (iM M (kk + q)).L.length by omega]
      rw [this]
      unfold dP
      rw [show x.state = 3 from hx3]
      rfl
     show bS _ _ _ _ _ = _
     unfold bS
     rw [if_pos CU, FN.out, show ((((kk + q : Nat) : Int)) + 1 - 1).toNat = kk + q by omega, getElem!_pos _ _ (by omega)]
     have e2 : (iM M (kk + q)).L[kk + q]'(by omega) = x := by rw [← wK.out]; simp [List.getD, show kk + q < (iM M (kk + q)).L.length by omega]
     rw [e2]
     have e3 : bH 6 tn x = aQ M.now (M.L.getD (kk + q) default) := by
      rw [a2.out, zP Bj]
      have h8 := hI.rest x hxm (by omega)
      obtain ⟨x1, x2, x3, x4, x5, x6, x7, x8, x9, x0⟩ := x
      obtain rfl : x6 = 3 := hx3
      obtain rfl : x8 = tn := hfin
      obtain rfl : x9 = -1 := h8
      rfl
     rw [e3]
     exact iE hq
    have hfi := fun (W : World) (hW : CW W c t d p vr gr a m { aj (iM M (kk + q)) with f := f0 }) => ry hW Sg.out x.id 6 tn
    rw [show ({ aj (iM M (kk + q)) with f := f0 } : Pg).J = (iM M (kk + q)).L from rfl, hset.out] at hfi
    have hgi := fun (W : World) (v1 : Value) (g1 : Nat) (hW : CW W c t d p v1 g1 a m { ({ aj (iM M (kk + q)) with f := f0 } : Pg) with J := (iM M (kk + q + 1)).L }) => BC hW (by
     have h9 := QK.out
     exact ⟨h9.now, h9.few, h9.st, h9.lim, Si.out, h9.f⟩) x.bG.toNat (by omega)
    rw [show ((x.bG.toNat : Nat) : Int) = x.bG by omega] at hgi
    have hge : Hid (∀ {n1 x1 : Int} {T' : List Int}, zt (bX (iM M (kk + q))) x.bG.toNat n1 x1 T' → T' = bX (iM M (kk + q + 1))) := fun {n1 x1 T'} hG => by
     have h8 := BD (M := iM M (kk + q)) NJ.out (i := kk + q) (y := aQ M.now (M.L.getD (kk + q) default)) (by rw [vw]; exact hq) (by rw [wK.out]; exact hx3) (by rw [a2.out, zP Bj]; show (6 : Int) ≠ 3; decide) (n := n1) (x := x1) (T' := T') (by rw [wK.out]; exact hG)
     rw [h8.2.2]
     have e4 : ({ iM M (kk + q) with L := (iM M (kk + q)).L.set (kk + q) (aQ M.now (M.L.getD (kk + q) default)) } : Md) = iM M (kk + q + 1) := by unfold iM; rw [iE hq]
     rw [e4]
    replace hfin := Lib.hid hfin
    go_wp2_with fail
    refine Reg2.rd w1 7 37 [[],[ae],[ae,ae],[ae,ae,ae],[af,af,af,af],[af,af,af,af,ae],[af,af,af,af,af,af]] [0, 0, 0, 1, 0, 1, 0] [.pure, .pure, .pure, .mU (.pointer (some ⟨t, 0, none⟩)), .pure, .mU (.int .i64 x.id), .pure] (by kernel_rfl) (by kernel_rfl) rfl rfl ⟨trivial, trivial, trivial, Reg2.tt, trivial, Reg2.tt, trivial, trivial⟩ ⟨rfl, rfl, rfl, Nat.le_refl _, fun _ _ => rfl⟩ ?_
    dsimp only [Reg2.mk, List.zip, List.zipWith, List.take]
    repeat (refine' Reg2.ai _ (by rfl) (fun wz => ?_) ?_; rotate_left; (go_simp; first | rfl | rw [if_neg (by omega)]); simp only [Act.put, xA, xB, xC]; (try simp only [xD]); (try simp only [xE]); (try simp only [id]))
    refine Reg2.pm (fun wz hI hF => ?_) (fun r3 => ?_) (by rfl)
    ·have c0 := (uZ.out.kept hI).c0
     go_wp2_with fail
     first | exact ⟨_, rfl, rfl, Reg2.Ext.refl _⟩ | exact ⟨_, rfl, ⟨(), rfl, trivial⟩, Reg2.Ext.refl _⟩
    simp only [Act.put, xA, xB, xC]; (try simp only [xD]); (try simp only [xE]); (try simp only [id])
    repeat (refine' Reg2.ai _ (by rfl) (fun wz => ?_) ?_; rotate_left; (go_simp; first | rfl | rw [if_neg (by omega)]); simp only [Act.put, xA, xB, xC]; (try simp only [xD]); (try simp only [xE]); (try simp only [id]))
    refine Reg2.pm (fun wz hI hF => ?_) (fun r5 => ?_) (by rfl)
    ·have q0 : wz.cell? ⟨wr.heap.size, 0, none⟩ = some (.int .i64 x.id) := by simp [World.cell?, (hI.block _ (aB hz1.out)).trans hz1.out, e0]
     go_wp2_with fail
     first | exact ⟨_, rfl, rfl, Reg2.Ext.refl _⟩ | exact ⟨_, rfl, ⟨(), rfl, trivial⟩, Reg2.Ext.refl _⟩
    simp only [Act.put, xA, xB, xC]; (try simp only [xD]); (try simp only [xE]); (try simp only [id])
    repeat (refine' Reg2.ai _ (by rfl) (fun wz => ?_) ?_; rotate_left; (go_simp; first | rfl | rw [if_neg (by omega)]); simp only [Act.put, xA, xB, xC]; (try simp only [xD]); (try simp only [xE]); (try simp only [id]))
    refine Reg2.aA ?_
    intro w4 HI4 _ dU
    clear dU
    dsimp only [List.drop]
    have nK := uZ.out.kept HI4
    have Sj := hfi w4 nK
    have vk : w4.heap[wr.heap.size]? = some (.cells cI.toArray 55 (0, 0)) := (HI4.block _ (aB hz1.out)).trans hz1.out
    go_wp2_with fail
    go_at_call 136
    refine Sj.mono ?_
    clear Sj
    rintro e w5 ⟨rfl, v5, g5, fV, hS5⟩
    have xV : Hid (w5.heap[wr.heap.size]? = some (.cells cI.toArray 55 (0, 0))) := (hS5.heap (aB vk) hft).trans vk
    replace fV := Lib.hid fV
    go_wp2_with fail
    refine Reg2.rd w5 6 37 [[],[ae],[ae,ae],[ae,ae,ae],[af,af,af,af],[af,af,af,af,ae]] [0, 0, 0, 1, 0, 1] [.pure, .pure, .pure, .mU (.pointer (some ⟨d, 0, none⟩)), .pure, .mU (.int .u64 x.bG)] (by kernel_rfl) (by kernel_rfl) rfl rfl ⟨trivial, trivial, trivial, Reg2.tt, trivial, Reg2.tt, trivial⟩ ⟨rfl, rfl, rfl, Nat.le_refl _, fun _ _ => rfl⟩ ?_
    dsimp only [Reg2.mk, List.zip, List.zipWith, List.take]
    repeat (refine' Reg2.ai _ (by rfl) (fun wz => ?_) ?_; rotate_left; (go_simp; first | rfl | rw [if_neg (by omega)]); simp only [Act.put, xA, xB, xC]; (try simp only [xD]); (try simp only [xE]); (try simp only [id]))
    refine Reg2.pm (fun wz hI hF => ?_) (fun r3 => ?_) (by rfl)
    ·have c0 := (fV.out.kept hI).c1
     go_wp2_with fail
     first | exact ⟨_, rfl, rfl, Reg2.Ext.refl _⟩ | exact ⟨_, rfl, ⟨(), rfl, trivial⟩, Reg2.Ext.refl _⟩
    simp only [Act.put, xA, xB, xC]; (try simp only [xD]); (try simp only [xE]); (try simp only [id])
    repeat (refine' Reg2.ai _ (by rfl) (fun wz => ?_) ?_; rotate_left; (go_simp; first | rfl | rw [if_neg (by omega)]); simp only [Act.put, xA, xB, xC]; (try simp only [xD]); (try simp only [xE]); (try simp only [id]))
    refine Reg2.pm (fun wz hI hF => ?_) (fun r5 => ?_) (by rfl)
    ·have q0 : wz.cell? ⟨wr.heap.size, 9, none⟩ = some (.int .u64 x.bG) := by simp [World.cell?, (hI.block _ (aB xV.out)).trans xV.out, e9]
     go_wp2_with fail
     first | exact ⟨_, rfl, rfl, Reg2.Ext.refl _⟩ | exact ⟨_, rfl, ⟨(), rfl, trivial⟩, Reg2.Ext.refl _⟩
    simp only [Act.put, xA, xB, xC]; (try simp only [xD]); (try simp only [xE]); (try simp only [id])
    refine Reg2.aA ?_
    intro w6 Fw _ dU
    clear dU
    dsimp only [List.drop]
    have Fx := fV.out.kept Fw
    have Sk := hgi w6 v5 g5 Fx
    go_wp2_with fail
    go_at_call 169
    refine Sk.mono ?_
    clear Sk
    rintro e w7 ⟨n1, x1, T', hG, _, rfl, v7, g7, xY, fQ⟩
    obtain rfl := hge.out hG
    have fB := (hS1.trans (CS.of_below HI4)).trans (hS5.trans ((CS.of_below Fw).trans fQ))
    go_wp2_with fail
    go_roundw
    case rel => exact ⟨i + 1, kk + q + 1, v7, g7, by omega, by go_num, xY, fB, Lib.hid ⟨by omega, DF.out⟩⟩
    case measure => simp [intOf]; omega
   ·have d1 : (x.fin == tn) = false := by simp [hfin]
    have hsame : iM M (kk + q) = iM M (kk + q + 1) := by
     unfold iM
     rw [lL hq (uu fun hh => hfin (by rw [← a2.out]; exact hh.2.trans htn.out.symm))]
    have FM := uZ.out
    rw [hsame] at FM
    go_wp2_with fail
    go_roundw
    case rel => exact ⟨i + 1, kk + q + 1, vr, gr, by omega, by go_num, FM, hS1, Lib.hid ⟨by omega, DF.out⟩⟩
    case measure => simp [intOf]; omega
  ·have e : i = n := by omega
   subst e
   obtain ⟨hkk, hfil⟩ := hpos.out
   have hend : l.drop i = [] := List.drop_eq_nil_of_le (by have := hn.out; omega)
   rw [hend] at hfil
   have hall : iM M kk = { M with L := M.L.map (aQ M.now) } := by
    rw [← ND]
    unfold iM
    rw [xH (k' := M.L.length) hkk (Nat.le_refl _) fun mm b1 b2 => uu fun hh => by
     have := filter_none hfil (mm - kk) (by rw [List.length_drop]; omega)
     rw [getD_drop, show kk + (mm - kk) = mm by omega] at this
     exact absurd this (by show ¬ (decide ((M.L.getD mm default).state ∈ [(3 : Int)]) = false); rw [show (M.L.getD mm default).state = 3 from hh.1]; decide)]
   rw [hall] at DD
   have hfin := (CS.of_below hbw0 : CS w w0 c t d p v g v g).trans hSr
   go_wp2_with fail
   go_end0
   have e9 := htn.out
   clear htn
   subst e9
   exact ⟨rfl, vr, gr, DD, hfin⟩
end
end Go.Proofs.YtkhfejihijdipaaGreat

namespace Go.Proofs.YtkhfejihijdipaaGreat
open Go.RowKit Go.Lib Go.Sort
theorem KR {w : World} {base base' : Nat} {e : TypeId} {sz n : Nat} {v : Value} {xs : List Value} (h : w.ownsRow base e sz v n xs) (hb : base' ≤ base) : w.ownsRow base' e sz v n xs := by
 obtain ⟨h0, h1⟩ := h
 refine ⟨h0, ?_⟩
 rcases h1 with h1 | ⟨g, cap, cur, e0, h2, h3, h4⟩
 ·exact .inl h1
 ·exact .inr ⟨g, cap, cur, e0, by omega, h3, h4⟩
theorem KS (v : Value) (l : List Jb) (w : World) (hr : aW ah 10 w v l) (hl : l.length ≤ 1000) : Calls Tryz.prog 198 #[v] w fun e w' => ∃ (v' : Value) (r : List Jb), e = .returned v' ∧ w'.ownsRow w.heap.size 55 10 v' r.length (r.flatMap ah) ∧ r.length = l.length ∧ r.Perm l ∧ r.Pairwise (fun x y => aS y x = false) ∧ Below w.heap.size w w' := by
 have hc := JY hr (by omega)
 have hso := fun (v : Value) (w1 : World) (h : w1.ownsRow w.heap.size 55 10 v l.length (l.flatMap ah)) (hb : w.heap.size ≤ w1.heap.size) => J3 v l w1 h (by omega) hb
 clear hr
 replace hso := Lib.hid hso
 go_enter Tryz.func198, Tryz.ntmps198
 go_wp2_with fail
 go_at_call 59
 refine hc.mono ?_
 clear hc
 rintro e w1 ⟨v1, rfl, ho, hb⟩
 have hs := hso.out v1 w1 ho hb.size
 clear hso ho
 go_wp2_with fail
 go_at_call 203
 refine hs.mono ?_
 clear hs
 rintro e w2 ⟨rfl, r, ⟨h1, _, h2, h5⟩, h3, h4⟩
 have hfin : Hid (∃ (v' : Value) (r : List Jb), Ending.returned v1 = .returned v' ∧ w2.ownsRow w.heap.size 55 10 v' r.length (r.flatMap ah) ∧ r.length = l.length ∧ r.Perm l ∧ r.Pairwise (fun x y => aS y x = false) ∧ Below w.heap.size w w2) :=
  ⟨v1, r, rfl, h3, h1, h2, h5, hb.trans h4⟩
 clear h1 h2 h3 h4 h5 hb
 go_wp2_with fail
 go_ret
 exact hfin.out
section
variable {w w' : World} {p : Nat} {v : Value} {L : List Jb}
theorem DI (h : TV w p v L) (hL : L.length ≤ 1000) : Calls Tryz.prog 191 #[.pointer (some ⟨p, 0, none⟩)] w fun e w' => ∃ (v' : Value) (r : List Jb), e = .returned v' ∧ w'.ownsRow w.heap.size 55 10 v' r.length (r.flatMap ah) ∧ r.Perm (L.filter fun j => decide (j.state = 1)) ∧ r.Pairwise (fun x y => aS y x = false) ∧ Below w.heap.size w w' := by
 have hb1 := (Below.refl w.heap.size w).alloc (Nat.le_refl _) (.cells #[.int .i64 1] 3)
 have hr : aW enc1 1 (w.alloc (.cells #[.int .i64 1] 3)) (.slice (some ⟨w.heap.size, 0, none⟩) 1 1) [1] := fE w w.heap.size [1] rfl (by decide)
 have hI := ug (h.kept hb1) hL hr
 have ef : (L.filter fun j => decide (j.state ∈ ([1] : List Int))) = L.filter fun j => decide (j.state = 1) := by
  congr 1
  funext j
  simp
 rw [ef] at hI
 have hF : (L.filter fun j => decide (j.state = 1)).length ≤ 1000 := Nat.le_trans (List.length_filter_le _ _) hL
 clear ef h hr
 generalize (L.filter fun j => decide (j.state = 1)) = F at *
 replace hb1 := Lib.hid hb1
 go_enter Tryz.func191, Tryz.ntmps191
 go_wp2_with fail
 go_at_call 18
 refine hI.mono ?_
 clear hI
 rintro e w2 ⟨v2, rfl, ho, hb⟩
 have hs := KS v2 F w2 (aW.jq ho ay rfl rfl) hF
 have hb2 := hb1.out.trans (hb.mono hb1.out.size)
 replace hb2 := Lib.hid hb2
 clear ho hb hb1
 go_wp2_with fail
 go_at_call 198
 refine hs.mono ?_
 clear hs
 rintro e w3 ⟨v3, r, rfl, h1, _, h2, h3, h4⟩
 have hfin : Hid (∃ (v' : Value) (r : List Jb), Ending.returned v3 = .returned v' ∧ w3.ownsRow w.heap.size 55 10 v' r.length (r.flatMap ah) ∧ r.Perm F ∧ r.Pairwise (fun x y => aS y x = false) ∧ Below w.heap.size w w3) := ⟨v3, r, rfl, KR h1 hb2.out.size, h2, h3, hb2.out.trans (h4.mono hb2.out.size)⟩
 clear h1 h2 h3 h4 hb2
 go_wp2_with fail
 go_ret
 exact hfin.out
end
section
variable {w : World} {c t d p g a : Nat} {v : Value} {m : Int} {M : Md}
theorem FO (hrun : ∀ j ∈ M.L, j.st = 3 → M.now < j.fin) : aH M M.now M.dr.length = (((List.range M.dr.length).countP fun n : Nat => decide (aO M n = 1) : Nat) : Int) := by
 unfold aH
 congr 1
 refine List.countP_congr fun n hn => ?_
 have hn := List.mem_range.1 hn
 have hs := jg (M := M) hn
 unfold bN
 rcases eB M.L n with g | ⟨q, g, hq, g2⟩
 ·rw [decide_eq_true_iff, hs]
  simp [g]
 ·have hr : (M.L.getD q default).st = 3 := by unfold aF at g2; simp at g2; exact g2.1
  have := hrun _ (aV hq) hr
  rw [decide_eq_true_iff, hs, g, Int.toNat_natCast]
  have e1 : ¬ ((q : Int) < 0) := by omega
  have e2 : decide ((M.L.getD q default).fin ≤ M.now) = false := decide_eq_false (by omega)
  rw [e2, decide_eq_false e1, Bool.or_false, Bool.and_false]
  exact ⟨fun e => (nomatch e), fun e => absurd e.1 e1⟩
theorem KT (hI : aC M) (hrun : ∀ j ∈ M.L, j.st = 3 → M.now < j.fin) {f : Nat} (hf : f < M.L.length) (hd : bY M.now (M.L.getD f default) = true) : (M.L.getD f default).wid ≤ ((List.range M.dr.length).countP fun n : Nat => decide (aO M n = 1) : Nat) := by
 have hm := aV hf
 have bo := hI.one _ hm
 unfold bY at hd
 rw [Bool.and_eq_true, decide_eq_true_iff, aY] at hd
 have hpl : ak (M.L.getD f default) = true := aY.2 hd.1
 have hid := hI.ids f hf
 have hc := fun t => kS (t := t) (but := 0) hpl (by rw [hid]; omega)
 have h0 := hI.free M.now (Int.le_refl _)
 have hge := tN (L := M.L) (fun j hj => (hI.mb.wid j hj).1) M.now 0 hm
 rw [hc, if_pos (by omega)] at hge
 rw [← FO hrun]
 unfold ax at h0
 omega
theorem FP (hI : aC M) {f : Nat} (hf : f < M.L.length) (hs : (M.L.getD f default).st ≠ 3) (hidle : (M.L.getD f default).wid ≤ ((List.range M.dr.length).countP fun n : Nat => decide (aO M n = 1) : Nat)) : om (bX M) (M.L.getD f default).wid (gX M (M.L.getD f default).wid) 0 (bX (aT M f)) := by
 have hw := (hI.one _ (aV hf)).1
 have hc : (M.L.getD f default).wid ≤ aL (gI (bX M)) (bX M).length := by
  rw [qa, bq]
  have e : gI (bX M) = fun n : Nat => decide (aO M n = 1) := funext si
  rw [e]; exact hidle
 have hT : om (bX M) (M.L.getD f default).wid (aK (gK (bX M) (M.L.getD f default).wid)) 0 (dR (bX M) (M.L.getD f default).wid) := ⟨fun h => by omega, fun _ h => by omega, fun _ _ => ⟨rfl, rfl, rfl⟩⟩
 obtain ⟨e1, _, e3⟩ := H9 hf hs hI.mb.nn hw hidle hT
 rw [e1, e3] at hT
 exact hT
theorem xI (hI : aC M) {f : Nat} (hf : f < M.L.length) (hs : (M.L.getD f default).st = 1) : bS M.L (fF M.now) (M.L.getD f default).id (fun j : Jb => decide (j.state = 1)) (kD M.now (gX M (M.L.getD f default).wid : Int)) = (aT M f).L := by
 have hid := hI.ids f hf
 have jG := hI.mb.now
 have e2 : M.L[f]! = M.L.getD f default := by rw [getElem!_pos M.L f hf]; simp [List.getD, hf]
 have CU : bE M.L (fF M.now) (M.L.getD f default).id (fun j : Jb => decide (j.state = 1)) = 0 := by
  have e1 : fF M.now = 0 := by unfold fF; rw [if_neg (by omega), if_neg (by omega)]
  unfold bE
  rw [hid, e1, if_neg (by decide), if_neg (by omega), if_neg (by omega), show ((f : Int) + 1 - 1).toNat = f by omega, e2]
  exact if_pos (decide_eq_true hs)
 unfold bS
 rw [if_pos CU, hid, show ((f : Int) + 1 - 1).toNat = f by omega, e2]
 rfl
theorem KU (f0 : Int → Int) (h : CW w c t d p v g a m { aj M with f := f0 }) (hI : aC M) (hrun : ∀ j ∈ M.L, j.st = 3 → M.now < j.fin) (n0 : Nat) (En : kN M ≤ n0) (h1 : 1 ≤ M.dr.length) (hll : M.L.length ≤ 900) (hf0 : ∀ u, M.now ≤ u → 0 ≤ f0 u ∧ f0 u ≤ 64) :
  Calls Tryz.prog 178 #[.pointer (some ⟨c, 0, none⟩), .int .i64 M.now] w (dS w c t d p v g a m (.tuple #[]) { aj (startGo n0 M) with f := f0 }) := by
 have zE := bC
 obtain ⟨k, hk⟩ : ∃ k, k = 10 := ⟨_, rfl⟩
 rw [← hk] at zE
 have hk0 : ¬ k = 0 := by omega
 replace hk := Lib.hid hk
 have hwt := DI h.dZ (by show M.L.length ≤ 1000; omega)
 rw [show ({ aj M with f := f0 } : Pg).J = M.L from rfl] at hwt
 have c0 := h.c0
 have hlt : Hid (∀ k, fw c t d p v g k → k < w.heap.size) := fun k hk => h.lt hk
 have hC := Lib.hid h
 obtain ⟨tn, htn⟩ : ∃ tn, tn = M.now := ⟨_, rfl⟩
 obtain ⟨F, hF⟩ : ∃ F, F = startGo n0 M := ⟨_, rfl⟩
 rw [← hF]
 have hg0 : Hid (∀ {r : List Jb}, r.Perm (M.L.filter fun j => decide (j.state = 1)) → r.Pairwise (fun x y => aS y x = false) → Going M F r) := fun {r} hp hs => by
  have hin : ∀ x ∈ r, x ∈ M.L := fun x hx => (List.mem_filter.1 (hp.mem_iff.1 hx)).1
  refine ⟨hI, hrun, ⟨n0, hF.symm, En⟩, fun x hx => ?_, fun q hq hd => ?_, hs, ?_, fun x hx => by have := (List.mem_filter.1 (hp.mem_iff.1 hx)).2; exact of_decide_eq_true this⟩
  ·obtain ⟨q, hq, e⟩ := List.getElem_of_mem (hin x hx)
   have e2 : M.L.getD q default = x := by simp [List.getD, hq, e]
   have := hI.ids q hq
   rw [e2] at this
   refine ⟨by omega, by omega, ?_⟩
   rw [show (x.id - 1).toNat = q by omega]
   exact e2
  ·refine hp.mem_iff.2 (List.mem_filter.2 ⟨aV hq, ?_⟩)
   unfold bY at hd
   rw [Bool.and_eq_true] at hd
   exact decide_eq_true (aY.1 hd.1).1
  ·refine (hp.pairwise_iff (fun {x y} hxy => Ne.symm hxy)).2 (List.Pairwise.filter _ ?_)
   refine List.pairwise_iff_getElem.2 fun i q hi hq hlt2 e => ?_
   have e1 := hI.ids i hi
   have e2 := hI.ids q hq
   rw [show M.L.getD i default = M.L[i] by simp [List.getD, hi]] at e1
   rw [show M.L.getD q default = M.L[q] by simp [List.getD, hq]] at e2
   omega
 have hM : Hid (∃ N : Md, N = M) := ⟨M, rfl⟩
 have hdl : Hid (1 ≤ M.dr.length ∧ M.dr.length ≤ 64) := ⟨h1, hI.mb.nn⟩
 have hlen : (M.L.filter fun j : Jb => decide (j.state = 1)).length ≤ 900 := Nat.le_trans (List.length_filter_le _ _) hll
 rw [← htn] at hf0 ⊢
 have htb := hI.mb.now
 rw [← htn] at htb
 clear h hrun En
 replace hF := Lib.hid hF
 replace htn := Lib.hid htn
 go_enter Tryz.func178, Tryz.ntmps178
 go_wp2_with fail
 go_at_call 191
 refine hwt.mono ?_
 clear hwt c0
 rintro e w0 ⟨u, l, rfl, ho, hp, hs, hb0⟩
 have hG0 := hg0.out hp hs
 have hC0 := hC.out.kept hb0
 have hn1 : l.length ≤ 900 := by rw [hp.length_eq]; exact hlen
 clear hp hs hlen hg0
 have hsh : Hid (∀ {ao : Option Addr} {n cap : Nat}, u = .slice ao n cap → 0 < l.length → ∃ g0, ao = some ⟨g0, 0, none⟩ ∧ w.heap.size ≤ g0) := fun {ao n cap} e hp => by
  obtain ⟨OJ, cap', e0, hp'⟩ := gU ho
  obtain ⟨g0, e4⟩ := hp' hp
  subst e4
  rw [e] at e0
  injection e0 with e0 _ _
  exact ⟨g0, e0, (ho.lt g0 (by rw [e, e0]; rfl)).1⟩
 have hr := aW.jq ho ay rfl rfl
 obtain ⟨ao, cap, rfl, q1, q2, q3⟩ := hr
 obtain ⟨n, hn⟩ : ∃ n, l.length = n := ⟨_, rfl⟩
 rw [hn] at q1 q3 hn1 ho ⊢
 have HQ : Hid (0 < n → ∃ b, ao = some ⟨b, 0, none⟩ ∧ lN w0 b 0 l ∧ w.heap.size ≤ b) := fun hp => by
  obtain ⟨b, off, e1, e2, e3⟩ := q3 hp
  obtain ⟨g0, e4, e5⟩ := hsh.out rfl (by have := hn; omega)
  rw [e4] at e1
  injection e1 with e1
  injection e1 with e6 e7
  subst e6; subst e7
  exact ⟨g0, e4, ⟨e2, e3⟩, e5⟩
 have EC : cap ≤ 9223372036854775807 := by unfold maxLen at q2; omega
 replace hn := Lib.hid hn
 clear q2 q3 ho
 go_wp2_with fail
 go_loopw [12] (fun ii wr => ∃ (i : Nat) (N : Md) (vr : Value) (gr : Nat), i ≤ n ∧ ii = .int .i64 i ∧ CW wr c t d p vr gr a m { aj N with f := f0 } ∧ CS w0 wr c t d p v g vr gr ∧ Hid (Going N F (l.drop i) ∧ N.now = tn ∧ N.dr.length = M.dr.length ∧ N.L.length = M.L.length)) (fun ii _ => n - (intOf ii).toNat)
 case atStart => exact ⟨0, M, v, g, Nat.zero_le _, rfl, hC0, CS.refl _, Lib.hid ⟨by rw [List.drop_zero]; exact hG0, htn.out.symm, rfl, rfl⟩⟩
 case round =>
  obtain ⟨i, N, vr, gr, hin, rfl, DD, hSr, hgo⟩ := hrel
  by_cases hlt2 : i < n
  ·have b2 : (i : Int) < (n : Int) := by omega
   have wi : IntKind.i64.wrap ((i : Int) + 1) = (i : Int) + 1 := by rw [IntKind.wrap_i64]; omega
   obtain ⟨gb, rfl, hJ, hgb⟩ := HQ.out (by omega)
   have hgf : ¬ fw c t d p v g gb := fun hf => absurd (hlt.out gb hf) (by omega)
   have qA := hJ.off hSr hgf
   have iF : i < l.length := by have := hn.out; omega
   have LI := qA.load hk.out iF
   obtain ⟨x, hx⟩ : ∃ x, x = l[i]! := ⟨_, rfl⟩
   rw [← hx, Nat.zero_add] at LI
   replace hx := Lib.hid hx
   have hdrop : l.drop i = x :: l.drop (i + 1) := by rw [hx.out, getElem!_pos l i iF]; exact List.drop_eq_getElem_cons iF
   obtain ⟨rD, jG, hdr, Pj⟩ := hgo.out
   rw [hdrop] at rD
   replace rD := Lib.hid rD
   clear hgo
   have lI := ay x
   rw [← hk.out] at lI
   have e8 : (ah x)[8]? = some (.int .i64 x.aJ) := rfl
   have st := boxed wr x
   obtain ⟨w1, hw1⟩ : ∃ w1, w1 = wr.alloc (.cells (ah x).toArray 55) := ⟨_, rfl⟩
   have hb1 : Below wr.heap.size wr w1 := by rw [hw1]; exact (Below.refl _ _).alloc (Nat.le_refl _) _
   have hz1 : w1.heap[wr.heap.size]? = some (.cells (ah x).toArray 55 (0, 0)) := by rw [hw1]; exact heap_alloc_new wr _
   have c8 : w1.cell? ⟨wr.heap.size, 8, none⟩ = some (.int .i64 x.aJ) := by simp [World.cell?, hz1, e8]
   have ld1 := eu hz1 lI
   replace hz1 := Lib.hid hz1
   have uZ := DD.kept hb1
   have hS1 := hSr.trans (CS.of_below hb1)
   rw [← hw1] at st
   replace hw1 := Lib.hid hw1
   by_cases hpl : x.aJ = tn
   ·have d1 : (x.aJ == tn) = true := by simp [hpl]
    have PN := rD.out.pend x (List.mem_cons_self ..)
    have hxd : bY N.now x = true := by
     unfold bY
     rw [aY.2 ⟨PN, by omega⟩, jG, decide_eq_true hpl]
     rfl
    obtain ⟨a1, a2, a3⟩ := rD.out.next hxd
    obtain ⟨f, hf⟩ : ∃ f, f = (x.id - 1).toNat := ⟨_, rfl⟩
    rw [← hf] at a1 a2 a3
    have KV := rD.out.inv
    have Sl := rD.out.run
    have NH := FP KV a1 (by rw [a2]; omega) (KT KV Sl a1 (by rw [a2]; exact hxd))
    have hbs := xI KV a1 (by rw [a2]; exact PN)
    rw [a2] at NH hbs
    have hla := launch_fn uZ (NF KV (by rw [hdr]; exact h1) (by rw [Pj]; exact hll) (by rw [jG]; exact hf0)) x (by have := KV.mb.wid x (by rw [← a2]; exact aV a1); omega) NH
    rw [show ({ aj N with f := f0 } : Pg).J = N.L from rfl, show ({ aj N with f := f0 } : Pg).now = N.now from rfl, hbs] at hla
    have NK : (aT N f).L.length = M.L.length := by unfold aT; rw [List.length_set]; exact Pj
    have NL := Lib.hid (show Going (aT N f) F (l.drop (i + 1)) ∧ (aT N f).now = tn ∧ (aT N f).dr.length = M.dr.length ∧ (aT N f).L.length = M.L.length from ⟨a3, jG, hdr, NK⟩)
    replace hpl := Lib.hid hpl
    replace hf := Lib.hid hf
    clear a1 a2 a3 NH hbs KV Sl hxd NK
    generalize ah x = cI at *
    go_wp2_with fail
    go_at_call 179
    refine hla.mono ?_
    clear hla
    rintro e w5 ⟨rfl, v5, g5, fV, hS5⟩
    have fB := hS1.trans hS5
    go_wp2_with fail
    go_roundw
    case rel => exact ⟨i + 1, aT N f, v5, g5, by omega, by go_num, (show CW _ _ _ _ _ _ _ _ _ { aj (aT N f) with f := f0 } from fV), fB, NL⟩
    case measure => simp [intOf]; omega
   ·have d1 : (x.aJ == tn) = false := by simp [hpl]
    have NL := Lib.hid (show Going N F (l.drop (i + 1)) ∧ N.now = tn ∧ N.dr.length = M.dr.length ∧ N.L.length = M.L.length from ⟨rD.out.skip (by unfold bY; rw [jG, decide_eq_false hpl, Bool.and_false]), jG, hdr, Pj⟩)
    generalize ah x = cI at *
    go_wp2_with fail
    go_roundw
    case rel => exact ⟨i + 1, N, vr, gr, by omega, by go_num, uZ, hS1, NL⟩
    case measure => simp [intOf]; omega
  ·have e : i = n := by omega
   subst e
   obtain ⟨rD, jG, hdr, Pj⟩ := hgo.out
   have hend : l.drop i = [] := List.drop_eq_nil_of_le (by have := hn.out; omega)
   rw [hend] at rD
   have QL := rD.last
   have hfin := (CS.of_below hb0 : CS w w0 c t d p v g v g).trans hSr
   rw [← QL] at DD
   replace QL := Lib.hid QL
   go_wp2_with fail
   go_end0
   have e9 := htn.out
   clear htn
   exact ⟨rfl, vr, gr, DD, hfin⟩
end
end Go.Proofs.YtkhfejihijdipaaGreat

namespace Go.Proofs.YtkhfejihijdipaaGreat
open Go.RowKit Go.Lib Go.Sort
def Im (now : Int) (j : Jb) : List Int := [j.fin, j.aJ].filter fun t => decide (now < t)
def qf (now : Int) (l : List Jb) : List Int := l.flatMap (Im now)
theorem NM (now : Int) (j : Jb) : (Im now j).length ≤ 2 := Nat.le_trans (List.length_filter_le _ _) (by simp)
theorem NN (now : Int) (l : List Jb) : (qf now l).length ≤ 2 * l.length := by
 unfold qf
 induction l with
 | nil => simp
 | cons a l ih => rw [List.flatMap_cons, List.length_append, List.length_cons]; have := NM now a; omega
theorem NP : (Tryz.prog.info? 2).map (fun i => (i.zero, i.size, i.bytes)) = some (some (.int .i64 0), 1, 8) := by kernel_rfl
theorem KW (now : Int) {l : List Jb} {i : Nat} (hi : i < l.length) : qf now (l.take (i + 1)) = qf now (l.take i) ++ Im now l[i]! := by
 unfold qf
 rw [List.take_succ_eq_append_getElem hi, List.flatMap_append, getElem!_pos l i hi]
 simp
theorem zQ (a b : List Int) : nV (a ++ b) = nV a ++ nV b := by simp [nV]
theorem NQ (l : List Int) : nV l = l.flatMap fun x : Int => [Value.int .i64 x] := by
 induction l with
 | nil => rfl
 | cons a l ih => rw [List.flatMap_cons, ← ih]; rfl
theorem KX {w : World} {base : Nat} {v : Value} {n : Nat} {l : List Int} {e : TypeId} (h : w.ownsRow base e 1 v n (nV l)) (hn : n = l.length) (hf : ∀ z ∈ l, -9223372036854775808 ≤ z ∧ z ≤ 9223372036854775807) : nS w v l := by
 subst hn
 refine ⟨?_, hf⟩
 obtain ⟨ao, cap, rfl, hg⟩ := gU h
 have hr : aW (fun x : Int => [Value.int .i64 x]) 1 w (.slice ao l.length cap) l := aW.jq h (fun _ => rfl) (NQ l) rfl
 obtain ⟨OJ, cap', e0, q1, q2, q3⟩ := hr
 injection e0 with e1 _ e2
 subst e1; subst e2
 refine ⟨ao, cap, rfl, q1, q2, fun hz => ?_⟩
 obtain ⟨b, off, e3, e4, e5⟩ := q3 (List.length_pos_iff.2 hz)
 refine ⟨b, off, e3, e4, fun i hi => ?_⟩
 have := (e5 i (l.getD i 0) 0 (.int .i64 (l.getD i 0)) (by simp [List.getD, hi]) rfl)
 simpa using this
section
variable {w : World} {c t d p g a : Nat} {v : Value} {m : Int} {P : Pg}
theorem BM (h : CW w c t d p v g a m P) (hk : PK P) (hfn : ∀ j ∈ P.J, -1 ≤ j.fin ∧ j.fin ≤ 1099512676352) (hpn : ∀ j ∈ P.J, -1 ≤ j.aJ ∧ j.aJ ≤ 1099511627776) :
  Calls Tryz.prog 175 #[.pointer (some ⟨c, 0, none⟩)] w fun e w' => e = .returned (.int .i64 (jT (qf P.now (P.J.filter fun j : Jb => decide (j.state ∈ [(1 : Int), 3]))))) ∧ Below w.heap.size w w' := by
 have zE := bC
 obtain ⟨k, hk1⟩ : ∃ k, k = 10 := ⟨_, rfl⟩
 rw [← hk1] at zE
 have hk0 : ¬ k = 0 := by omega
 replace hk1 := Lib.hid hk1
 obtain ⟨i0, hi0, hz0, hz1, hz2⟩ := info_parts NP
 obtain ⟨wA, aM⟩ : ∃ wA, wA = w.alloc (.cells #[.int .i64 1, .int .i64 3] 3) := ⟨_, rfl⟩
 have cZ : Below w.heap.size w wA := by rw [aM]; exact (Below.refl _ _).alloc (Nat.le_refl _) _
 have Il : aW enc1 1 wA (.slice (some ⟨w.heap.size, 0, none⟩) 2 2) [1, 3] := by rw [aM]; exact fE w w.heap.size [1, 3] rfl (by decide)
 have hin := ug (h.kept cZ).dZ (by have := hk.few; omega) Il
 have c0 := h.c0
 generalize hL1 : (P.J.filter fun j : Jb => decide (j.state ∈ [(1 : Int), 3])) = l at *
 have hn1 : l.length ≤ 900 := by rw [← hL1]; exact Nat.le_trans (List.length_filter_le _ _) hk.few
 have hmem : Hid (∀ i, i < l.length → l[i]! ∈ P.J) := fun i hi => by
  have h1 : l[i]! ∈ l := by rw [getElem!_pos l i hi]; exact List.getElem_mem _
  have h2 : l[i]! ∈ P.J.filter fun j : Jb => decide (j.state ∈ [(1 : Int), 3]) := hL1 ▸ h1
  exact (List.mem_filter.1 h2).1
 have hfit : Hid (∀ z ∈ qf P.now l, -9223372036854775808 ≤ z ∧ z ≤ 9223372036854775807) := fun z hz => by
  unfold qf at hz
  obtain ⟨j, hj, hz⟩ := List.mem_flatMap.1 hz
  rw [← hL1] at hj
  have hj := (List.mem_filter.1 hj).1
  have h1 := hfn j hj
  have h2 := hpn j hj
  have hz := (List.mem_filter.1 hz).1
  simp at hz
  rcases hz with rfl | rfl <;> omega
 have hC := Lib.hid (fun (W : World) (hW : Below w.heap.size w W) => h.kept hW)
 replace hL1 := Lib.hid hL1
 rw [aM] at hin
 clear h
 go_enter Tryz.func175, Tryz.ntmps175
 go_wp2_with fail
 go_at_call 18
 refine hin.mono ?_
 clear hin c0
 rw [← aM]
 rintro e w0 ⟨u, rfl, ho, hb0⟩
 have hbw0 : Below w.heap.size w w0 := cZ.trans (hb0.mono cZ.size)
 replace aM := Lib.hid aM
 have hr := aW.jq ho ay rfl rfl
 obtain ⟨ao, cap, rfl, q1, q2, q3⟩ := hr
 obtain ⟨n, hn⟩ : ∃ n, l.length = n := ⟨_, rfl⟩
 rw [hn] at q1 q3 hn1 ho ⊢
 have HQ : Hid (0 < n → ∃ b off, ao = some ⟨b, off, none⟩ ∧ lN w0 b off l) := fun hp => by
  obtain ⟨b, off, e1, e2, e3⟩ := q3 hp
  exact ⟨b, off, e1, e2, e3⟩
 have EC : cap ≤ 9223372036854775807 := by unfold maxLen at q2; omega
 replace hn := Lib.hid hn
 clear q2 q3 ho hb0
 go_wp2_with fail
 go_loopw [3, 15] (fun tt ii wr => ∃ (i : Nat), i ≤ n ∧ ii = .int .i64 i ∧ wr.ownsRow w0.heap.size 2 1 tt (qf P.now (l.take i)).length (nV (qf P.now (l.take i))) ∧ Below w0.heap.size w0 wr) (fun _ ii _ => n - (intOf ii).toNat)
 case atStart => exact ⟨0, Nat.zero_le _, rfl, World.ownsRow_nil w0 w0.heap.size 2 1, Below.refl _ _⟩
 case round =>
  obtain ⟨i, hin, rfl, hown, hbr⟩ := hrel
  by_cases hlt2 : i < n
  ·have b2 : (i : Int) < (n : Int) := by omega
   have wi : IntKind.i64.wrap ((i : Int) + 1) = (i : Int) + 1 := by rw [IntKind.wrap_i64]; omega
   obtain ⟨gb, off, rfl, hJ⟩ := HQ.out (by omega)
   have qA := hJ.below hbr
   have iF : i < l.length := by have := hn.out; omega
   have LI := qA.load hk1.out iF
   have hsn := Lib.hid (KW P.now iF)
   have Sn := NN P.now (l.take i)
   rw [List.length_take] at Sn
   have hxm := hmem.out i iF
   obtain ⟨x, hx⟩ : ∃ x, x = l[i]! := ⟨_, rfl⟩
   rw [← hx] at LI hsn hxm
   replace hx := Lib.hid hx
   obtain ⟨T, hT⟩ : ∃ T, T = qf P.now (l.take i) := ⟨_, rfl⟩
   rw [← hT] at hsn hown Sn
   replace hT := Lib.hid hT
   have lI := ay x
   rw [← hk1.out] at lI
   have e7 : (ah x)[7]? = some (.int .i64 x.fin) := rfl
   have e8 : (ah x)[8]? = some (.int .i64 x.aJ) := rfl
   have st := boxed wr x
   obtain ⟨w1, hw1⟩ : ∃ w1, w1 = wr.alloc (.cells (ah x).toArray 55) := ⟨_, rfl⟩
   have hb1 : Below w0.heap.size w0 w1 := by rw [hw1]; exact hbr.alloc hbr.size _
   have hown1 := hown.alloc (.cells (ah x).toArray 55)
   rw [← hw1] at hown1
   have hz1 : w1.heap[wr.heap.size]? = some (.cells (ah x).toArray 55 (0, 0)) := by rw [hw1]; exact heap_alloc_new wr _
   have c7 : w1.cell? ⟨wr.heap.size, 7, none⟩ = some (.int .i64 x.fin) := by simp [World.cell?, hz1, e7]
   have c8 : w1.cell? ⟨wr.heap.size, 8, none⟩ = some (.int .i64 x.aJ) := by simp [World.cell?, hz1, e8]
   clear hz1 hown
   rw [← hw1] at st
   replace hw1 := Lib.hid hw1
   have TK : Hid (Im P.now x = [x.fin, x.aJ].filter fun t => decide (P.now < t)) := rfl
   generalize x.fin = xf at *
   generalize x.aJ = xp at *
   generalize ah x = cI at *
   have Ul : ∀ W, Sem.run Tryz.prog (Instr.index 207 (.agg #[.int .i64 xf, .int .i64 xp]) (.int .i64 0)) W = .ok (.int .i64 xf) W := fun W => rfl
   have Um : ∀ W, Sem.run Tryz.prog (Instr.index 207 (.agg #[.int .i64 xf, .int .i64 xp]) (.int .i64 1)) W = .ok (.int .i64 xp) W := fun W => rfl
   go_wp2_with fail
   go_loopw [3, 24] (fun tt mm ws => ∃ (q : Nat), q ≤ 2 ∧ mm = .int .i64 q ∧ ws.ownsRow w0.heap.size 2 1 tt (T ++ ([xf, xp].take q).filter fun t => decide (P.now < t)).length (nV (T ++ ([xf, xp].take q).filter fun t => decide (P.now < t))) ∧ Below w0.heap.size w0 ws) (fun _ mm _ => 2 - (intOf mm).toNat)
   case atStart => exact ⟨0, Nat.zero_le _, rfl, by simpa using hown1, hb1⟩
   case round =>
    obtain ⟨q, hq, rfl, hoq, hbq⟩ := hrel
    by_cases hq2 : q < 2
    ·have Sq := hC.out wr (hbw0.trans (hbq.mono hbw0.size))
     have c2 := Sq.c2
     have jG := fO Sq
     obtain ⟨X, hX⟩ : ∃ X, X = T ++ ([xf, xp].take q).filter fun t => decide (P.now < t) := ⟨_, rfl⟩
     have Rk : X.length ≤ 2000 := by
      rw [hX, List.length_append]
      have := List.length_filter_le (fun t => decide (P.now < t)) ([xf, xp].take q)
      have h9 : ([xf, xp].take q).length ≤ 2 := by rw [List.length_take]; exact Nat.min_le_right _ _
      omega
     obtain ⟨y, hy⟩ : ∃ y, y = if q = 0 then xf else xp := ⟨_, rfl⟩
     have htk : Hid ((T ++ ([xf, xp].take (q + 1)).filter fun t => decide (P.now < t)) = X ++ [y].filter fun t => decide (P.now < t)) := by
      show _ = _
      rw [hX, hy]
      rcases (show q = 0 ∨ q = 1 by omega) with rfl | rfl
      ·rw [if_pos rfl, List.append_assoc, ← List.filter_append]; rfl
      ·rw [if_neg (by decide), List.append_assoc, ← List.filter_append]; rfl
     rw [← hX] at hoq
     replace hX := Lib.hid hX
     have Su : Hid (y = if q = 0 then xf else xp) := hy
     rcases (show q = 0 ∨ q = 1 by omega) with rfl | rfl
     ·clear hy
      have hyv := Su.out
      rw [if_pos rfl] at hyv
      subst hyv
      by_cases hgt : P.now < y
      ·have d1 : decide (y > P.now) = true := decide_eq_true hgt
       have hF : Hid ([y].filter (fun t => decide (P.now < t)) = [y]) := by show _ = _; simp [hgt]
       replace hgt := Lib.hid hgt
       go_wp2_with (first | (go_at_call 43; go_must (refine jG.mono ?_); rintro e w' ⟨rfl, rfl⟩) | (at_builtin; go_must (refine wpList_append_own _ rfl (.tmp 34) (.tmp 36) 130 rfl w0.heap.size 2 i0 (.int .i64 0) 1 8 Tryz.underlying130 hi0 hz0 hz1 hz2 rfl (by decide) u3 X.length (nV X) rfl (hoq.alloc _) ⟨wr.heap.size, 0, none⟩ 1 1 [.int .i64 y] rfl rfl ?_ ?_ ?_ ?_ ?_ ?_)))
       ·exact tu (vs := [.int .i64 y]) rfl
       ·simp [Value.oneCell']
       ·unfold maxLen; omega
       ·omega
       ·have hh : ∀ o, (wr.alloc o).heap.size = wr.heap.size + 1 := fun o => by simp
        have hsz := hbq.size
        first | omega | (rw [hh]; omega)
       ·intro v' w2 hown3 hgrow _
        have hb2 : Below w0.heap.size w0 w2 := (hbq.alloc hbq.size _).grown hgrow (by
         have hh : ∀ o, (wr.alloc o).heap.size = wr.heap.size + 1 := fun o => by simp
         have hsz := hbq.size
         first | omega | (rw [hh]; omega)) (fun z hz => (hoq.lt z hz).1)
        have hfin : Hid (w2.ownsRow w0.heap.size 2 1 v' (T ++ ([y, xp].take (0 + 1)).filter fun t => decide (P.now < t)).length (nV (T ++ ([y, xp].take (0 + 1)).filter fun t => decide (P.now < t)))) := by
         show World.ownsRow _ _ _ _ _ _ _
         rw [htk.out, hF.out, zQ, List.length_append]
         exact hown3
        clear hown3 hgrow hoq hbq
        go_wp2_with fail
        go_roundw
        case rel => exact ⟨1, by omega, by go_num, hfin.out, hb2⟩
        case measure => simp [intOf]
      ·have d1 : decide (y > P.now) = false := decide_eq_false hgt
       have hF : Hid ([y].filter (fun t => decide (P.now < t)) = []) := by show _ = _; simp [hgt]
       have hfin : Hid (wr.ownsRow w0.heap.size 2 1 u3 (T ++ ([y, xp].take (0 + 1)).filter fun t => decide (P.now < t)).length (nV (T ++ ([y, xp].take (0 + 1)).filter fun t => decide (P.now < t)))) := by
        show World.ownsRow _ _ _ _ _ _ _
        rw [htk.out, hF.out, List.append_nil]
        exact hoq
       replace hgt := Lib.hid hgt
       go_wp2_with (first | (go_at_call 43; go_must (refine jG.mono ?_); rintro e w' ⟨rfl, rfl⟩))
       go_roundw
       case rel => exact ⟨1, by omega, by go_num, hfin.out, hbq⟩
       case measure => simp [intOf]
     ·clear hy
      have hyv := Su.out
      rw [if_neg (by decide)] at hyv
      subst hyv
      by_cases hgt : P.now < y
      ·have d1 : decide (y > P.now) = true := decide_eq_true hgt
       have hF : Hid ([y].filter (fun t => decide (P.now < t)) = [y]) := by show _ = _; simp [hgt]
       replace hgt := Lib.hid hgt
       go_wp2_with (first | (go_at_call 43; go_must (refine jG.mono ?_); rintro e w' ⟨rfl, rfl⟩) | (at_builtin; go_must (refine wpList_append_own _ rfl (.tmp 34) (.tmp 36) 130 rfl w0.heap.size 2 i0 (.int .i64 0) 1 8 Tryz.underlying130 hi0 hz0 hz1 hz2 rfl (by decide) u3 X.length (nV X) rfl (hoq.alloc _) ⟨wr.heap.size, 0, none⟩ 1 1 [.int .i64 y] rfl rfl ?_ ?_ ?_ ?_ ?_ ?_)))
       ·exact tu (vs := [.int .i64 y]) rfl
       ·simp [Value.oneCell']
       ·unfold maxLen; omega
       ·omega
       ·have hh : ∀ o, (wr.alloc o).heap.size = wr.heap.size + 1 := fun o => by simp
        have hsz := hbq.size
        first | omega | (rw [hh]; omega)
       ·intro v' w2 hown3 hgrow _
        have hb2 : Below w0.heap.size w0 w2 := (hbq.alloc hbq.size _).grown hgrow (by
         have hh : ∀ o, (wr.alloc o).heap.size = wr.heap.size + 1 := fun o => by simp
         have hsz := hbq.size
         first | omega | (rw [hh]; omega)) (fun z hz => (hoq.lt z hz).1)
        have hfin : Hid (w2.ownsRow w0.heap.size 2 1 v' (T ++ ([xf, y].take (1 + 1)).filter fun t => decide (P.now < t)).length (nV (T ++ ([xf, y].take (1 + 1)).filter fun t => decide (P.now < t)))) := by
         show World.ownsRow _ _ _ _ _ _ _
         rw [htk.out, hF.out, zQ, List.length_append]
         exact hown3
        clear hown3 hgrow hoq hbq
        go_wp2_with fail
        go_roundw
        case rel => exact ⟨2, by omega, by go_num, hfin.out, hb2⟩
        case measure => simp [intOf]
      ·have d1 : decide (y > P.now) = false := decide_eq_false hgt
       have hF : Hid ([y].filter (fun t => decide (P.now < t)) = []) := by show _ = _; simp [hgt]
       have hfin : Hid (wr.ownsRow w0.heap.size 2 1 u3 (T ++ ([xf, y].take (1 + 1)).filter fun t => decide (P.now < t)).length (nV (T ++ ([xf, y].take (1 + 1)).filter fun t => decide (P.now < t)))) := by
        show World.ownsRow _ _ _ _ _ _ _
        rw [htk.out, hF.out, List.append_nil]
        exact hoq
       replace hgt := Lib.hid hgt
       go_wp2_with (first | (go_at_call 43; go_must (refine jG.mono ?_); rintro e w' ⟨rfl, rfl⟩))
       go_roundw
       case rel => exact ⟨2, by omega, by go_num, hfin.out, hbq⟩
       case measure => simp [intOf]
    ·obtain rfl : q = 2 := by omega
     have hfin : Hid (wr.ownsRow w0.heap.size 2 1 u3 (qf P.now (l.take (i + 1))).length (nV (qf P.now (l.take (i + 1))))) := by
      show World.ownsRow _ _ _ _ _ _ _
      rw [hsn.out, TK.out]
      exact hoq
     go_wp2_with fail
     go_roundw
     case rel => exact ⟨i + 1, by omega, by go_num, hfin.out, hbq⟩
     case measure => simp [intOf]; omega
  ·have e : i = n := by omega
   subst e
   have e1 : l.take i = l := List.take_of_length_le (by rw [hn.out]; exact Nat.le_refl _)
   rw [e1] at hown
   have hle := Ia u3 (qf P.now l) wr (KX hown rfl hfit.out)
   have hfin := hbw0.trans (hbr.mono hbw0.size)
   replace e1 := Lib.hid e1
   go_wp2_with (go_at_call 189; go_must (refine hle.mono ?_); rintro e w' ⟨rfl, rfl⟩)
   go_ret
   exact ⟨rfl, hfin⟩
end
end Go.Proofs.YtkhfejihijdipaaGreat

namespace Go.Proofs.YtkhfejihijdipaaGreat
open Go.RowKit Go.Lib Go.Sort
def BN (n : Int) (j : Jb) : Bool := qo j.bG.toNat n
def jU (L : List Jb) (n : Int) : Jb := match L.findIdx? (fun j => decide (j.state ∈ [(3 : Int)]) && BN n j) with | some i => L.getD i default | none => gB
section
variable {w : World} {c t d p g a : Nat} {v : Value} {m : Int} {P : Pg}
theorem FQ (h : CW w c t d p v g a m P) (hll : P.J.length ≤ 900) (hnd : ∀ j ∈ P.J, 0 ≤ j.bG ∧ j.bG ≤ 18446744073709551615) (x : Int) (hx : -9223372036854775808 ≤ x ∧ x ≤ 9223372036854775807) :
  Calls Tryz.prog 20 #[.pointer (some ⟨c, 0, none⟩), .int .i64 x] w fun e w' => e = .returned (.agg (ah (jU P.J x)).toArray) ∧ Below w.heap.size w w' := by
 have zE := bC
 obtain ⟨k, hk⟩ : ∃ k, k = 10 := ⟨_, rfl⟩
 rw [← hk] at zE
 have hk0 : ¬ k = 0 := by omega
 replace hk := Lib.hid hk
 obtain ⟨wA, aM⟩ : ∃ wA, wA = w.alloc (.cells #[.int .i64 0, .int .i64 0, .int .i64 0, .int .i64 0, .int .i64 0, .int .i64 0, .int .i64 0, .int .i64 0, .int .i64 0, .int .u64 0] 55) := ⟨_, rfl⟩
 have cZ : Hid (Below w.heap.size w wA) := by show Below _ _ _; rw [aM]; exact (Below.refl _ _).alloc (Nat.le_refl _) _
 have hsA : wA.heap.size = w.heap.size + 1 := by rw [aM]; simp
 have Nk : Hid (wA.heap[w.heap.size]? = some (.cells (ah gB).toArray 55 (0, 0))) := by show _ = _; rw [aM]; exact heap_alloc_new w _
 have hA := h.kept cZ.out
 have hno := lV hA
 obtain ⟨wB, xX⟩ : ∃ wB, wB = wA.alloc (.cells #[.int .i64 3] 3) := ⟨_, rfl⟩
 have KY : Below wA.heap.size wA wB := by rw [xX]; exact (Below.refl _ _).alloc (Nat.le_refl _) _
 have TL : aW enc1 1 wB (.slice (some ⟨w.heap.size + 1, 0, none⟩) 1 1) [3] := by rw [← hsA, xX]; exact fE wA wA.heap.size [3] rfl (by decide)
 have hin := ug (hA.kept KY).dZ (by omega) TL
 have c0 := hA.c0
 generalize hL1 : (P.J.filter fun j : Jb => decide (j.state ∈ [(3 : Int)])) = l at *
 have hn1 : l.length ≤ 900 := by rw [← hL1]; exact Nat.le_trans (List.length_filter_le _ _) hll
 have hmem : Hid (∀ i, i < l.length → l[i]! ∈ P.J) := fun i hi => by
  have h1 : l[i]! ∈ l := by rw [getElem!_pos l i hi]; exact List.getElem_mem _
  have h2 : l[i]! ∈ P.J.filter fun j : Jb => decide (j.state ∈ [(3 : Int)]) := hL1 ▸ h1
  exact (List.mem_filter.1 h2).1
 replace hL1 := Lib.hid hL1
 rw [aM] at hno c0
 rw [xX, aM] at hin
 clear h
 go_enter Tryz.func20, Tryz.ntmps20
 go_wp2_with (first | (go_at_call 34; go_must (refine hno.mono ?_); rintro e w' ⟨rfl, rfl⟩))
 go_at_call 18
 refine hin.mono ?_
 clear hin hno c0
 rw [← aM, ← xX]
 rintro e w0 ⟨u, rfl, ho, hb0⟩
 have hbw0 : Hid (Below w.heap.size w w0) := cZ.out.trans ((KY.trans (hb0.mono KY.size)).mono cZ.out.size)
 have hx0 : w0.heap[w.heap.size]? = some (.cells (ah gB).toArray 55 (0, 0)) := (hb0.block _ (by have := KY.size; omega)).trans ((KY.block _ (by omega)).trans Nk.out)
 have hsz0 : w.heap.size < w0.heap.size := aB hx0
 replace aM := Lib.hid aM
 replace xX := Lib.hid xX
 have hr := aW.jq ho ay rfl rfl
 obtain ⟨ao, cap, rfl, q1, q2, q3⟩ := hr
 obtain ⟨n, hn⟩ : ∃ n, l.length = n := ⟨_, rfl⟩
 rw [hn] at q1 q3 hn1 ⊢
 have HQ : Hid (0 < n → ∃ b off, ao = some ⟨b, off, none⟩ ∧ lN w0 b off l) := fun hp => by
  obtain ⟨b, off, e1, e2, e3⟩ := q3 hp
  exact ⟨b, off, e1, e2, e3⟩
 have EC : cap ≤ 9223372036854775807 := by unfold maxLen at q2; omega
 replace hn := Lib.hid hn
 clear q2 q3 ho hb0 KY
 go_wp2_with fail
 go_loopw [17] (fun ii wr => ∃ (i : Nat), i ≤ n ∧ ii = .int .i64 i ∧ Below w0.heap.size w0 wr ∧ Hid (∀ j, j < i → BN x l[j]! = false)) (fun ii _ => n - (intOf ii).toNat)
 case atStart => exact ⟨0, Nat.zero_le _, rfl, Below.refl _ _, Lib.hid fun j hj => absurd hj (Nat.not_lt_zero _)⟩
 case round =>
  obtain ⟨i, hin, rfl, hbr, hno⟩ := hrel
  have oN : wr.heap[w.heap.size]? = some (.cells (ah gB).toArray 55 (0, 0)) := (hbr.block _ hsz0).trans hx0
  have NR := hbw0.out.trans (hbr.mono (Nat.le_of_lt hsz0))
  by_cases hlt2 : i < n
  ·have b2 : (i : Int) < (n : Int) := by omega
   have wi : IntKind.i64.wrap ((i : Int) + 1) = (i : Int) + 1 := by rw [IntKind.wrap_i64]; omega
   obtain ⟨gb, off, rfl, hJ⟩ := HQ.out (by omega)
   have qA := hJ.below hbr
   have iF : i < l.length := by have := hn.out; omega
   have LI := qA.load hk.out iF
   have hxm := hmem.out i iF
   obtain ⟨y, hy⟩ : ∃ y, y = l[i]! := ⟨_, rfl⟩
   rw [← hy] at LI hxm
   replace hy := Lib.hid hy
   have lI := ay y
   have hny := hnd y hxm
   rw [← hk.out] at lI
   have st : Sem.run Tryz.prog (storeCells ⟨wr.heap.size, 0, none⟩ (ah y) 0) (wr.alloc (.cells #[.int .i64 0, .int .i64 0, .int .i64 0, .int .i64 0, .int .i64 0, .int .i64 0, .int .i64 0, .int .i64 0, .int .i64 0, .int .u64 0] 55)) = .ok () (wr.alloc (.cells (ah y).toArray 55)) := cz wr wr.heap.size (ah y) (ah gB) 55 rfl rfl (df y)
   obtain ⟨w1, hw1⟩ : ∃ w1, w1 = wr.alloc (.cells (ah y).toArray 55) := ⟨_, rfl⟩
   have hb1 : Below wr.heap.size wr w1 := by rw [hw1]; exact (Below.refl _ _).alloc (Nat.le_refl _) _
   have hz1 : w1.heap[wr.heap.size]? = some (.cells (ah y).toArray 55 (0, 0)) := by rw [hw1]; exact heap_alloc_new wr _
   have UY := hbr.size
   have hx1 : w1.heap[w.heap.size]? = some (.cells (ah gB).toArray 55 (0, 0)) := (hb1.block _ (by omega)).trans oN
   have ld1 := eu hz1 lI
   have c9 : w1.cell? ⟨wr.heap.size, 9, none⟩ = some (.int .u64 y.bG) := by simp [World.cell?, hz1]; rfl
   have hhas := rU y.bG.toNat (by omega) x w1 hx
   rw [show ((y.bG.toNat : Nat) : Int) = y.bG by omega] at hhas
   have JS : Sem.run Tryz.prog (storeCells ⟨w.heap.size, 0, none⟩ (ah y) 0) w1 = .ok () (w1.setRow w.heap.size (ah y).toArray) := mO hx1
   have hx2 := u7 hx1 (ah y).toArray
   have QE := Lib.hid (show (ah y).toArray.size = 10 from rfl)
   have hb2 : Below w.heap.size w (w1.setRow w.heap.size (ah y).toArray) := oV (NR.trans (hb1.mono NR.size)) (Nat.le_refl _) _
   generalize hcI : ah y = cI at *
   replace hcI := Lib.hid hcI
   rw [← hw1] at st
   replace hw1 := Lib.hid hw1
   replace hz1 := Lib.hid hz1
   cases hP : qo y.bG.toNat x with
   | false =>
    rw [hP] at hhas
    go_wp2_with (go_at_call 56; go_must (refine hhas.mono ?_); rintro e w' ⟨rfl, rfl⟩)
    go_roundw
    case rel => exact ⟨i + 1, by omega, by go_num, hbr.trans (hb1.mono hbr.size), Lib.hid fun j hj => by
     rcases Nat.lt_succ_iff_lt_or_eq.1 hj with h5 | h5
     ·exact hno.out j h5
     ·subst h5; rw [← hy.out]; exact hP⟩
    case measure => simp [intOf]; omega
   | true =>
    rw [hP] at hhas
    obtain ⟨f, hf1, hf2, hf3⟩ := BH (q := fun j : Jb => decide (j.state ∈ [(3 : Int)])) (p := BN x) (L := P.J) (i := i) (by rw [hL1.out]; exact iF) (fun j hj => by rw [hL1.out]; exact hno.out j hj) (by rw [hL1.out, ← hy.out]; exact hP)
    rw [hL1.out, ← hy.out] at hf3
    have hres : Hid (jU P.J x = y) := by show _ = _; unfold jU; rw [hf1]; exact hf3
    go_wp2_with (go_at_call 56; go_must (refine hhas.mono ?_); rintro e w' ⟨rfl, rfl⟩)
    refine dX rfl rfl rfl hx2 Tryz.underlying55 rfl (by rw [QE.out]; kernel_rfl) ⟨?_, hb2⟩
    rw [hres.out, hcI.out]
  ·have e : i = n := by omega
   subst e
   have hfi := Fu (q := fun j : Jb => decide (j.state ∈ [(3 : Int)])) (p := BN x) (L := P.J) (fun j hj => by rw [hL1.out]; exact hno.out j (by rw [← hn.out]; rw [hL1.out] at hj; exact hj))
   have hres : Hid (jU P.J x = gB) := by show _ = _; unfold jU; rw [hfi]
   obtain ⟨k0, f0, s0⟩ := bA oN 0 (.int .i64 0) rfl
   obtain ⟨k1, f1, s1⟩ := bA oN 1 (.int .i64 0) rfl
   obtain ⟨k2, f2, s2⟩ := bA oN 2 (.int .i64 0) rfl
   obtain ⟨k3, f3, s3⟩ := bA oN 3 (.int .i64 0) rfl
   obtain ⟨k4, f4, s4⟩ := bA oN 4 (.int .i64 0) rfl
   obtain ⟨k5, f5, s5⟩ := bA oN 5 (.int .i64 0) rfl
   obtain ⟨k6, f6, s6⟩ := bA oN 6 (.int .i64 0) rfl
   obtain ⟨k7, f7, s7⟩ := bA oN 7 (.int .i64 0) rfl
   obtain ⟨k8, f8, s8⟩ := bA oN 8 (.int .i64 0) rfl
   obtain ⟨k9, f9, s9⟩ := bA oN 9 (.int .u64 0) rfl
   obtain rfl := hk.out
   replace oN := Lib.hid oN
   go_wp2_with fail
   refine dX rfl rfl rfl oN.out Tryz.underlying55 rfl (by kernel_rfl) ⟨?_, NR⟩
   rw [hres.out]
end
end Go.Proofs.YtkhfejihijdipaaGreat

namespace Go.Proofs.YtkhfejihijdipaaGreat
open Go.RowKit Go.Lib Go.Sort
theorem uw {L : List Jb} {e0 id : Int} {ok : Jb → Bool} {ch : Jb → Jb} (h : bE L e0 id ok ≠ 0) : bS L e0 id ok ch = L := by unfold bS; rw [if_neg h]
section
variable {w : World} {b c t d p g a : Nat} {v : Value} {m : Int} {P : Pg} {R : Wk}
theorem BO (h : SW w b c t d p v g a m R P) (e1 : Int) (he1 : e1 ≠ 0) (hE : bE P.J 0 R.ag.id (fun j : Jb => decide (j.state = 1)) = e1) :
  Calls Tryz.prog 119 #[.pointer (some ⟨b, 0, none⟩), .pointer (some ⟨c, 0, none⟩)] w (au w b c t d p v g a m .nilFunc { ({ R with az := bF P.J R.ag.id } : Wk) with rep := jJ e1, ok := false } P) := by
 have zJ := bC
 obtain ⟨k, hk1⟩ : ∃ k, k = 10 := ⟨_, rfl⟩
 rw [← hk1] at zJ
 have hk0 : ¬ k = 0 := by omega
 have hS := Lib.hid h
 have hcon := fun (W : World) (v1 : Value) (g1 : Nat) (R1 : Wk) (hW : SW W b c t d p v1 g1 a m R1 P) => Bz hW.cw R.ag.id
 obtain ⟨L1, hL1⟩ : ∃ L1, L1 = bS P.J 0 R.ag.id (fun j : Jb => decide (j.state = 1)) og := ⟨_, rfl⟩
 have hL2 : L1 = P.J := hL1.trans (uw (by rw [hE]; exact he1))
 rw [← hL1, hE, hL2, show ({ P with J := P.J } : Pg) = P from rfl] at hcon
 have d0 : (e1 != 0) = true := by simp [he1]
 replace hL2 := Lib.hid hL2
 replace he1 := Lib.hid he1
 replace hE := Lib.hid hE
 replace hL1 := Lib.hid hL1
 have hget := gu h.drew.cw.dZ R.ag.id
 unfold ik at hget
 obtain ⟨x, hx⟩ : ∃ x, x = bF P.J R.ag.id := ⟨_, rfl⟩
 rw [← hx] at hget
 rw [← hx]
 replace hx := Lib.hid hx
 have lJ := ay x
 rw [← hk1] at lJ
 have hj := fun (W : World) (hW : SW W b c t d p v g a m R P) => hW.wk.rA x
 generalize ah x = cJ at *
 have c0 := h.cw.c0
 have q1 := h.wk.at 1 (.int .i64 R.ag.id) rfl
 obtain ⟨W9, jK⟩ : ∃ W9, W9 = fH { R with az := x } := ⟨_, rfl⟩
 rw [← jK] at hj
 replace jK := Lib.hid jK
 replace hk1 := Lib.hid hk1
 clear h
 go_enter Tryz.func119, Tryz.ntmps119
 go_wp2_with fail
 go_region_with (go_at_call 70; go_must (refine hget.mono ?_); rintro e w' ⟨rfl, hgr⟩; have qg := hS.out.drew.kept hgr.below; obtain ⟨yc, nW⟩ := hj w' qg)
 all_goals
  have fB := qg.work nW (cu w' W9.toArray)
  have hfr : WS w (w'.setRow b W9.toArray) b c t d p v g v g := ((WS.of_below hgr.below : WS w.drew w' b c t d p v g v g).trans (WS.bu (cu w' W9.toArray))).wI
  clear yc nW qg hgr hget c0 q1
  generalize w'.setRow b W9.toArray = w9 at *
  replace fB := Lib.hid fB
  go_wp2_with fail
  refine Reg2.rd w9 9 45 [[],[ae],[ae,ae],[ae,ae,ae],[af,af,af,af],[af,af,af,af,ae],[af,af,af,af,ae,ae],[af,af,af,af,ae,ae,ae],[af,af,af,af,ae,ae,ae,ae]] [0, 0, 0, 1, 0, 0, 0, 0, 1] [.pure, .pure, .pure, .mU (.pointer (some ⟨t, 0, none⟩)), .pure, .pure, .pure, .pure, .mU (.int .i64 R.ag.id)] (by kernel_rfl) (by kernel_rfl) rfl rfl ⟨trivial, trivial, trivial, Reg2.tt, trivial, trivial, trivial, trivial, Reg2.tt, trivial⟩ ⟨rfl, rfl, rfl, Nat.le_refl _, fun _ _ => rfl⟩ ?_
  dsimp only [Reg2.mk, List.zip, List.zipWith, List.take]
  repeat (refine' Reg2.ai _ (by rfl) (fun wz => ?_) ?_; rotate_left; (go_simp; first | rfl | rw [if_neg (by omega)]); simp only [Act.put, xA, xB, xC]; (try simp only [xD]); (try simp only [xE]); (try simp only [id]))
  refine Reg2.pm (fun wz hI hF => ?_) (fun r3 => ?_) (by rfl)
  ·have c0 := (fB.out.cw.kept hI).c0
   go_wp2_with fail
   first | exact ⟨_, rfl, rfl, Reg2.Ext.refl _⟩ | exact ⟨_, rfl, ⟨(), rfl, trivial⟩, Reg2.Ext.refl _⟩
  simp only [Act.put, xA, xB, xC]; (try simp only [xD]); (try simp only [xE]); (try simp only [id])
  repeat (refine' Reg2.ai _ (by rfl) (fun wz => ?_) ?_; rotate_left; (go_simp; first | rfl | rw [if_neg (by omega)]); simp only [Act.put, xA, xB, xC]; (try simp only [xD]); (try simp only [xE]); (try simp only [id]))
  refine Reg2.pm (fun wz hI hF => ?_) (fun r8 => ?_) (by rfl)
  ·have q0 := (fB.out.kept hI).wk.at 1 (.int .i64 R.ag.id) rfl
   go_wp2_with fail
   first | exact ⟨_, rfl, rfl, Reg2.Ext.refl _⟩ | exact ⟨_, rfl, ⟨(), rfl, trivial⟩, Reg2.Ext.refl _⟩
  simp only [Act.put, xA, xB, xC]; (try simp only [xD]); (try simp only [xE]); (try simp only [id])
  refine Reg2.aA ?_
  intro w4 HI4 _ dU
  clear dU
  dsimp only [List.drop]
  have bD := fB.out.kept HI4
  have hc4 := hcon w4 _ _ _ bD
  go_wp2_with fail
  go_at_call 138
  refine hc4.mono ?_
  clear hc4
  rintro e w5 ⟨rfl, v5, g5, fV, hS5⟩
  have dM := bD.core fV hS5
  have rE := (hfr.trans (WS.of_below HI4)).trans (WS.bZ hS5)
  have hf := gF dM.wk e1
  go_wp2_with (go_at_call 67; go_must (refine hf.mono ?_); rintro e w8 ⟨rfl, dE, fA⟩)
  go_ret
  exact ⟨rfl, v5, g5, dM.work dE fA, rE.trans (WS.bu fA)⟩
theorem NS (h : SW w b c t d p v g a m R P) (hE : bE P.J 0 R.ag.id (fun j : Jb => decide (j.state = 1)) = 0) :
  Calls Tryz.prog 119 #[.pointer (some ⟨b, 0, none⟩), .pointer (some ⟨c, 0, none⟩)] w (au w b c t d p v g a m (eH 139) { R with az := bF P.J R.ag.id, rep := iq (bF (bS P.J 0 R.ag.id (fun j : Jb => decide (j.state = 1)) og) R.ag.id) } { P with J := bS P.J 0 R.ag.id (fun j : Jb => decide (j.state = 1)) og }) := by
 have zJ := bC
 obtain ⟨k, hk1⟩ : ∃ k, k = 10 := ⟨_, rfl⟩
 rw [← hk1] at zJ
 have hk0 : ¬ k = 0 := by omega
 have hS := Lib.hid h
 have hcon := fun (W : World) (v1 : Value) (g1 : Nat) (R1 : Wk) (hW : SW W b c t d p v1 g1 a m R1 P) => Bz hW.cw R.ag.id
 obtain ⟨L1, hL1⟩ : ∃ L1, L1 = bS P.J 0 R.ag.id (fun j : Jb => decide (j.state = 1)) og := ⟨_, rfl⟩
 rw [← hL1]
 rw [← hL1, hE] at hcon
 replace hE := Lib.hid hE
 replace hL1 := Lib.hid hL1
 have hget := gu h.drew.cw.dZ R.ag.id
 unfold ik at hget
 obtain ⟨x, hx⟩ : ∃ x, x = bF P.J R.ag.id := ⟨_, rfl⟩
 rw [← hx] at hget
 rw [← hx]
 replace hx := Lib.hid hx
 have lJ := ay x
 rw [← hk1] at lJ
 have hj := fun (W : World) (hW : SW W b c t d p v g a m R P) => hW.wk.rA x
 generalize ah x = cJ at *
 have c0 := h.cw.c0
 have q1 := h.wk.at 1 (.int .i64 R.ag.id) rfl
 obtain ⟨W9, jK⟩ : ∃ W9, W9 = fH { R with az := x } := ⟨_, rfl⟩
 rw [← jK] at hj
 replace jK := Lib.hid jK
 replace hk1 := Lib.hid hk1
 clear h
 go_enter Tryz.func119, Tryz.ntmps119
 go_wp2_with fail
 go_region_with (go_at_call 70; go_must (refine hget.mono ?_); rintro e w' ⟨rfl, hgr⟩; have qg := hS.out.drew.kept hgr.below; obtain ⟨yc, nW⟩ := hj w' qg)
 all_goals
  have fB := qg.work nW (cu w' W9.toArray)
  have hfr : WS w (w'.setRow b W9.toArray) b c t d p v g v g := ((WS.of_below hgr.below : WS w.drew w' b c t d p v g v g).trans (WS.bu (cu w' W9.toArray))).wI
  clear yc nW qg hgr hget c0 q1
  generalize w'.setRow b W9.toArray = w9 at *
  replace fB := Lib.hid fB
  go_wp2_with fail
  refine Reg2.rd w9 9 45 [[],[ae],[ae,ae],[ae,ae,ae],[af,af,af,af],[af,af,af,af,ae],[af,af,af,af,ae,ae],[af,af,af,af,ae,ae,ae],[af,af,af,af,ae,ae,ae,ae]] [0, 0, 0, 1, 0, 0, 0, 0, 1] [.pure, .pure, .pure, .mU (.pointer (some ⟨t, 0, none⟩)), .pure, .pure, .pure, .pure, .mU (.int .i64 R.ag.id)] (by kernel_rfl) (by kernel_rfl) rfl rfl ⟨trivial, trivial, trivial, Reg2.tt, trivial, trivial, trivial, trivial, Reg2.tt, trivial⟩ ⟨rfl, rfl, rfl, Nat.le_refl _, fun _ _ => rfl⟩ ?_
  dsimp only [Reg2.mk, List.zip, List.zipWith, List.take]
  repeat (refine' Reg2.ai _ (by rfl) (fun wz => ?_) ?_; rotate_left; (go_simp; first | rfl | rw [if_neg (by omega)]); simp only [Act.put, xA, xB, xC]; (try simp only [xD]); (try simp only [xE]); (try simp only [id]))
  refine Reg2.pm (fun wz hI hF => ?_) (fun r3 => ?_) (by rfl)
  ·have c0 := (fB.out.cw.kept hI).c0
   go_wp2_with fail
   first | exact ⟨_, rfl, rfl, Reg2.Ext.refl _⟩ | exact ⟨_, rfl, ⟨(), rfl, trivial⟩, Reg2.Ext.refl _⟩
  simp only [Act.put, xA, xB, xC]; (try simp only [xD]); (try simp only [xE]); (try simp only [id])
  repeat (refine' Reg2.ai _ (by rfl) (fun wz => ?_) ?_; rotate_left; (go_simp; first | rfl | rw [if_neg (by omega)]); simp only [Act.put, xA, xB, xC]; (try simp only [xD]); (try simp only [xE]); (try simp only [id]))
  refine Reg2.pm (fun wz hI hF => ?_) (fun r8 => ?_) (by rfl)
  ·have q0 := (fB.out.kept hI).wk.at 1 (.int .i64 R.ag.id) rfl
   go_wp2_with fail
   first | exact ⟨_, rfl, rfl, Reg2.Ext.refl _⟩ | exact ⟨_, rfl, ⟨(), rfl, trivial⟩, Reg2.Ext.refl _⟩
  simp only [Act.put, xA, xB, xC]; (try simp only [xD]); (try simp only [xE]); (try simp only [id])
  refine Reg2.aA ?_
  intro w4 HI4 _ dU
  clear dU
  dsimp only [List.drop]
  have bD := fB.out.kept HI4
  have hc4 := hcon w4 _ _ _ bD
  go_wp2_with fail
  go_at_call 138
  refine hc4.mono ?_
  clear hc4
  rintro e w5 ⟨rfl, v5, g5, fV, hS5⟩
  have dM := bD.core fV hS5
  have rE := (hfr.trans (WS.of_below HI4)).trans (WS.bZ hS5)
  have jL := mI dM R.ag.id
  have q1 := dM.wk.at 1 (.int .i64 R.ag.id) rfl
  go_wp2_with fail
  go_at_call 112
  refine jL.mono ?_
  clear jL
  rintro e w8 ⟨rfl, dE, fA⟩
  have fP := dM.work dE fA
  have Io := rE.trans (WS.bu fA)
  go_wp2_with fail
  go_ret
  exact ⟨rfl, v5, g5, fP, Io⟩
theorem vz (h : SW w b c t d p v g a m R P) (e1 : Int) (he1 : e1 ≠ 0) (hE : bE P.J 0 R.ag.id (fun j : Jb => decide (j.state = 2)) = e1) :
  Calls Tryz.prog 120 #[.pointer (some ⟨b, 0, none⟩), .pointer (some ⟨c, 0, none⟩)] w (au w b c t d p v g a m .nilFunc { R with rep := jJ e1, ok := false } P) := by
 have zJ := bC
 obtain ⟨k, hk1⟩ : ∃ k, k = 10 := ⟨_, rfl⟩
 rw [← hk1] at zJ
 have hk0 : ¬ k = 0 := by omega
 have hS := Lib.hid h
 have hcon := fun (W : World) (v1 : Value) (g1 : Nat) (R1 : Wk) (hW : SW W b c t d p v1 g1 a m R1 P) => BA hW.cw R.ag.id
 obtain ⟨L1, hL1⟩ : ∃ L1, L1 = bS P.J 0 R.ag.id (fun j : Jb => decide (j.state = 2)) ni := ⟨_, rfl⟩
 have hL2 : L1 = P.J := hL1.trans (uw (by rw [hE]; exact he1))
 rw [← hL1, hE, hL2, show ({ P with J := P.J } : Pg) = P from rfl] at hcon
 have d0 : (e1 != 0) = true := by simp [he1]
 replace hL2 := Lib.hid hL2
 replace he1 := Lib.hid he1
 replace hE := Lib.hid hE
 replace hL1 := Lib.hid hL1
 replace hk1 := Lib.hid hk1
 clear h
 go_enter Tryz.func120, Tryz.ntmps120
 go_wp2_with fail
 have fB := Lib.hid hS.out
 have hfr : WS w w b c t d p v g v g := WS.refl _
 refine Reg2.rd w 9 32 [[],[ae],[ae,ae],[ae,ae,ae],[af,af,af,af],[af,af,af,af,ae],[af,af,af,af,ae,ae],[af,af,af,af,ae,ae,ae],[af,af,af,af,ae,ae,ae,ae]] [0, 0, 0, 1, 0, 0, 0, 0, 1] [.pure, .pure, .pure, .mU (.pointer (some ⟨t, 0, none⟩)), .pure, .pure, .pure, .pure, .mU (.int .i64 R.ag.id)] (by kernel_rfl) (by kernel_rfl) rfl rfl ⟨trivial, trivial, trivial, Reg2.tt, trivial, trivial, trivial, trivial, Reg2.tt, trivial⟩ ⟨rfl, rfl, rfl, Nat.le_refl _, fun _ _ => rfl⟩ ?_
 dsimp only [Reg2.mk, List.zip, List.zipWith, List.take]
 repeat (refine' Reg2.ai _ (by rfl) (fun wz => ?_) ?_; rotate_left; (go_simp; first | rfl | rw [if_neg (by omega)]); simp only [Act.put, xA, xB, xC]; (try simp only [xD]); (try simp only [xE]); (try simp only [id]))
 refine Reg2.pm (fun wz hI hF => ?_) (fun r3 => ?_) (by rfl)
 ·have c0 := (fB.out.cw.kept hI).c0
  go_wp2_with fail
  first | exact ⟨_, rfl, rfl, Reg2.Ext.refl _⟩ | exact ⟨_, rfl, ⟨(), rfl, trivial⟩, Reg2.Ext.refl _⟩
 simp only [Act.put, xA, xB, xC]; (try simp only [xD]); (try simp only [xE]); (try simp only [id])
 repeat (refine' Reg2.ai _ (by rfl) (fun wz => ?_) ?_; rotate_left; (go_simp; first | rfl | rw [if_neg (by omega)]); simp only [Act.put, xA, xB, xC]; (try simp only [xD]); (try simp only [xE]); (try simp only [id]))
 refine Reg2.pm (fun wz hI hF => ?_) (fun r8 => ?_) (by rfl)
 ·have q0 := (fB.out.kept hI).wk.at 1 (.int .i64 R.ag.id) rfl
  go_wp2_with fail
  first | exact ⟨_, rfl, rfl, Reg2.Ext.refl _⟩ | exact ⟨_, rfl, ⟨(), rfl, trivial⟩, Reg2.Ext.refl _⟩
 simp only [Act.put, xA, xB, xC]; (try simp only [xD]); (try simp only [xE]); (try simp only [id])
 refine Reg2.aA ?_
 intro w4 HI4 _ dU
 clear dU
 dsimp only [List.drop]
 have bD := fB.out.kept HI4
 have hc4 := hcon w4 _ _ _ bD
 go_wp2_with fail
 go_at_call 140
 refine hc4.mono ?_
 clear hc4
 rintro e w5 ⟨rfl, v5, g5, fV, hS5⟩
 have dM := bD.core fV hS5
 have rE := (hfr.trans (WS.of_below HI4)).trans (WS.bZ hS5)
 have hf := gF dM.wk e1
 go_wp2_with (go_at_call 67; go_must (refine hf.mono ?_); rintro e w8 ⟨rfl, dE, fA⟩)
 go_ret
 exact ⟨rfl, v5, g5, dM.work dE fA, rE.trans (WS.bu fA)⟩
theorem FR (h : SW w b c t d p v g a m R P) (hE : bE P.J 0 R.ag.id (fun j : Jb => decide (j.state = 2)) = 0) :
  Calls Tryz.prog 120 #[.pointer (some ⟨b, 0, none⟩), .pointer (some ⟨c, 0, none⟩)] w (au w b c t d p v g a m (eH 135) { R with az := bF (bS P.J 0 R.ag.id (fun j : Jb => decide (j.state = 2)) ni) R.ag.id, rep := iq (bF (bS P.J 0 R.ag.id (fun j : Jb => decide (j.state = 2)) ni) R.ag.id) } { P with J := bS P.J 0 R.ag.id (fun j : Jb => decide (j.state = 2)) ni }) := by
 have zJ := bC
 obtain ⟨k, hk1⟩ : ∃ k, k = 10 := ⟨_, rfl⟩
 rw [← hk1] at zJ
 have hk0 : ¬ k = 0 := by omega
 have hS := Lib.hid h
 have hcon := fun (W : World) (v1 : Value) (g1 : Nat) (R1 : Wk) (hW : SW W b c t d p v1 g1 a m R1 P) => BA hW.cw R.ag.id
 obtain ⟨L1, hL1⟩ : ∃ L1, L1 = bS P.J 0 R.ag.id (fun j : Jb => decide (j.state = 2)) ni := ⟨_, rfl⟩
 rw [← hL1]
 rw [← hL1, hE] at hcon
 replace hE := Lib.hid hE
 replace hL1 := Lib.hid hL1
 replace hk1 := Lib.hid hk1
 clear h
 go_enter Tryz.func120, Tryz.ntmps120
 go_wp2_with fail
 have fB := Lib.hid hS.out
 have hfr : WS w w b c t d p v g v g := WS.refl _
 refine Reg2.rd w 9 32 [[],[ae],[ae,ae],[ae,ae,ae],[af,af,af,af],[af,af,af,af,ae],[af,af,af,af,ae,ae],[af,af,af,af,ae,ae,ae],[af,af,af,af,ae,ae,ae,ae]] [0, 0, 0, 1, 0, 0, 0, 0, 1] [.pure, .pure, .pure, .mU (.pointer (some ⟨t, 0, none⟩)), .pure, .pure, .pure, .pure, .mU (.int .i64 R.ag.id)] (by kernel_rfl) (by kernel_rfl) rfl rfl ⟨trivial, trivial, trivial, Reg2.tt, trivial, trivial, trivial, trivial, Reg2.tt, trivial⟩ ⟨rfl, rfl, rfl, Nat.le_refl _, fun _ _ => rfl⟩ ?_
 dsimp only [Reg2.mk, List.zip, List.zipWith, List.take]
 repeat (refine' Reg2.ai _ (by rfl) (fun wz => ?_) ?_; rotate_left; (go_simp; first | rfl | rw [if_neg (by omega)]); simp only [Act.put, xA, xB, xC]; (try simp only [xD]); (try simp only [xE]); (try simp only [id]))
 refine Reg2.pm (fun wz hI hF => ?_) (fun r3 => ?_) (by rfl)
 ·have c0 := (fB.out.cw.kept hI).c0
  go_wp2_with fail
  first | exact ⟨_, rfl, rfl, Reg2.Ext.refl _⟩ | exact ⟨_, rfl, ⟨(), rfl, trivial⟩, Reg2.Ext.refl _⟩
 simp only [Act.put, xA, xB, xC]; (try simp only [xD]); (try simp only [xE]); (try simp only [id])
 repeat (refine' Reg2.ai _ (by rfl) (fun wz => ?_) ?_; rotate_left; (go_simp; first | rfl | rw [if_neg (by omega)]); simp only [Act.put, xA, xB, xC]; (try simp only [xD]); (try simp only [xE]); (try simp only [id]))
 refine Reg2.pm (fun wz hI hF => ?_) (fun r8 => ?_) (by rfl)
 ·have q0 := (fB.out.kept hI).wk.at 1 (.int .i64 R.ag.id) rfl
  go_wp2_with fail
  first | exact ⟨_, rfl, rfl, Reg2.Ext.refl _⟩ | exact ⟨_, rfl, ⟨(), rfl, trivial⟩, Reg2.Ext.refl _⟩
 simp only [Act.put, xA, xB, xC]; (try simp only [xD]); (try simp only [xE]); (try simp only [id])
 refine Reg2.aA ?_
 intro w4 HI4 _ dU
 clear dU
 dsimp only [List.drop]
 have bD := fB.out.kept HI4
 have hc4 := hcon w4 _ _ _ bD
 go_wp2_with fail
 go_at_call 140
 refine hc4.mono ?_
 clear hc4
 rintro e w5 ⟨rfl, v5, g5, fV, hS5⟩
 have dM := bD.core fV hS5
 have rE := (hfr.trans (WS.of_below HI4)).trans (WS.bZ hS5)
 have jL := mI dM R.ag.id
 have q1 := dM.wk.at 1 (.int .i64 R.ag.id) rfl
 go_wp2_with fail
 go_at_call 112
 refine jL.mono ?_
 clear jL
 rintro e w8 ⟨rfl, dE, fA⟩
 have fP := dM.work dE fA
 have Io := rE.trans (WS.bu fA)
 obtain ⟨y, hy⟩ : ∃ y, y = bF L1 R.ag.id := ⟨_, rfl⟩
 rw [show bF ({ P with J := L1 } : Pg).J R.ag.id = y from hy.symm] at fP dE ⊢
 replace hy := Lib.hid hy
 obtain ⟨R9, jK⟩ := dE.rA y
 have lY := ay y
 rw [← hk1.out] at lY
 have NT := fP.work jK (cu w8 _)
 have hfin := Io.trans (WS.bu (cu w8 (fH { ({ R with rep := iq y } : Wk) with az := y }).toArray))
 generalize fH { ({ R with rep := iq y } : Wk) with az := y } = W9 at *
 generalize ah y = cY at *
 go_wp2_with fail
 go_ret
 have ey := hy.out
 clear hy
 subst ey
 exact ⟨rfl, v5, g5, NT, hfin⟩
theorem xJ (h : SW w b c t d p v g a m R P) (hk : PK P) (s : Int) (e1 : Int) (he1 : e1 ≠ 0) (hE : bE P.J (bg s P.now) R.ag.id (dP s) = e1) :
  Calls Tryz.prog 118 #[.pointer (some ⟨b, 0, none⟩), .pointer (some ⟨c, 0, none⟩), .int .i64 s] w (au w b c t d p v g a m .nilFunc { ({ R with az := bF P.J R.ag.id } : Wk) with rep := jJ e1, ok := false } P) := by
 have zJ := bC
 obtain ⟨k, hk1⟩ : ∃ k, k = 10 := ⟨_, rfl⟩
 rw [← hk1] at zJ
 have hk0 : ¬ k = 0 := by omega
 have hS := Lib.hid h
 have hcon := fun (W : World) (v1 : Value) (g1 : Nat) (R1 : Wk) (hW : SW W b c t d p v1 g1 a m R1 P) => ry hW.cw hk R.ag.id s P.now
 obtain ⟨L1, hL1⟩ : ∃ L1, L1 = bS P.J (bg s P.now) R.ag.id (dP s) (bH s P.now) := ⟨_, rfl⟩
 have hL2 : L1 = P.J := hL1.trans (uw (by rw [hE]; exact he1))
 rw [← hL1, hE, hL2, show ({ P with J := P.J } : Pg) = P from rfl] at hcon
 have d0 : (e1 != 0) = true := by simp [he1]
 replace hL2 := Lib.hid hL2
 replace he1 := Lib.hid he1
 replace hE := Lib.hid hE
 replace hL1 := Lib.hid hL1
 have hget := gu h.drew.cw.dZ R.ag.id
 unfold ik at hget
 obtain ⟨x, hx⟩ : ∃ x, x = bF P.J R.ag.id := ⟨_, rfl⟩
 rw [← hx] at hget
 rw [← hx]
 replace hx := Lib.hid hx
 have lJ := ay x
 rw [← hk1] at lJ
 have hj := fun (W : World) (hW : SW W b c t d p v g a m R P) => hW.wk.rA x
 generalize ah x = cJ at *
 have c0 := h.cw.c0
 have q1 := h.wk.at 1 (.int .i64 R.ag.id) rfl
 obtain ⟨W9, jK⟩ : ∃ W9, W9 = fH { R with az := x } := ⟨_, rfl⟩
 rw [← jK] at hj
 replace jK := Lib.hid jK
 replace hk1 := Lib.hid hk1
 clear h
 go_enter Tryz.func118, Tryz.ntmps118
 go_wp2_with fail
 go_region_with (go_at_call 70; go_must (refine hget.mono ?_); rintro e w' ⟨rfl, hgr⟩; have qg := hS.out.drew.kept hgr.below; obtain ⟨yc, nW⟩ := hj w' qg)
 all_goals
  have fB := qg.work nW (cu w' W9.toArray)
  have hfr : WS w (w'.setRow b W9.toArray) b c t d p v g v g := ((WS.of_below hgr.below : WS w.drew w' b c t d p v g v g).trans (WS.bu (cu w' W9.toArray))).wI
  clear yc nW qg hgr hget c0 q1
  generalize w'.setRow b W9.toArray = w9 at *
  replace fB := Lib.hid fB
  go_wp2_with fail
  refine Reg2.rd w9 15 53 [[],[ae],[ae,ae],[ae,ae,ae],[af,af,af,af],[af,af,af,af,ae],[af,af,af,af,ae,ae],[af,af,af,af,ae,ae,ae],[af,af,af,af,ae,ae,ae,ae],[af,af,af,af,af,af,af,af,af],[af,af,af,af,af,af,af,af,af,af],[af,af,af,af,af,af,af,af,af,af,ae],[af,af,af,af,af,af,af,af,af,af,ae,ae],[af,af,af,af,af,af,af,af,af,af,ae,ae,ae],[af,af,af,af,af,af,af,af,af,af,ae,ae,ae,ae]] [0, 0, 0, 1, 0, 0, 0, 0, 1, 0, 0, 0, 0, 1, 1] [.pure, .pure, .pure, .mU (.pointer (some ⟨t, 0, none⟩)), .pure, .pure, .pure, .pure, .mU (.int .i64 R.ag.id), .pure, .pure, .pure, .pure, .mU (.pointer (some ⟨p, 0, none⟩)), .mU (.int .i64 P.now)] (by kernel_rfl) (by kernel_rfl) rfl rfl ⟨trivial, trivial, trivial, Reg2.tt, trivial, trivial, trivial, trivial, Reg2.tt, trivial, trivial, trivial, trivial, Reg2.tt, Reg2.tt, trivial⟩ ⟨rfl, rfl, rfl, Nat.le_refl _, fun _ _ => rfl⟩ ?_
  dsimp only [Reg2.mk, List.zip, List.zipWith, List.take]
  repeat (refine' Reg2.ai _ (by rfl) (fun wz => ?_) ?_; rotate_left; (go_simp; first | rfl | rw [if_neg (by omega)]); simp only [Act.put, xA, xB, xC]; (try simp only [xD]); (try simp only [xE]); (try simp only [id]))
  refine Reg2.pm (fun wz hI hF => ?_) (fun r3 => ?_) (by rfl)
  ·have c0 := (fB.out.cw.kept hI).c0
   go_wp2_with fail
   first | exact ⟨_, rfl, rfl, Reg2.Ext.refl _⟩ | exact ⟨_, rfl, ⟨(), rfl, trivial⟩, Reg2.Ext.refl _⟩
  simp only [Act.put, xA, xB, xC]; (try simp only [xD]); (try simp only [xE]); (try simp only [id])
  repeat (refine' Reg2.ai _ (by rfl) (fun wz => ?_) ?_; rotate_left; (go_simp; first | rfl | rw [if_neg (by omega)]); simp only [Act.put, xA, xB, xC]; (try simp only [xD]); (try simp only [xE]); (try simp only [id]))
  refine Reg2.pm (fun wz hI hF => ?_) (fun r8 => ?_) (by rfl)
  ·have q0 := (fB.out.kept hI).wk.at 1 (.int .i64 R.ag.id) rfl
   go_wp2_with fail
   first | exact ⟨_, rfl, rfl, Reg2.Ext.refl _⟩ | exact ⟨_, rfl, ⟨(), rfl, trivial⟩, Reg2.Ext.refl _⟩
  simp only [Act.put, xA, xB, xC]; (try simp only [xD]); (try simp only [xE]); (try simp only [id])
  repeat (refine' Reg2.ai _ (by rfl) (fun wz => ?_) ?_; rotate_left; (go_simp; first | rfl | rw [if_neg (by omega)]); simp only [Act.put, xA, xB, xC]; (try simp only [xD]); (try simp only [xE]); (try simp only [id]))
  refine Reg2.pm (fun wz hI hF => ?_) (fun FK => ?_) (by rfl)
  ·have c0 := (fB.out.cw.kept hI).c2
   go_wp2_with fail
   first | exact ⟨_, rfl, rfl, Reg2.Ext.refl _⟩ | exact ⟨_, rfl, ⟨(), rfl, trivial⟩, Reg2.Ext.refl _⟩
  simp only [Act.put, xA, xB, xC]; (try simp only [xD]); (try simp only [xE]); (try simp only [id])
  refine Reg2.pm (fun wz hI hF => ?_) (fun Ig => ?_) (by rfl)
  ·go_wp2_with (go_at_call 43; go_must (refine (fO (fB.out.kept hI).cw).mono ?_); rintro e w' ⟨rfl, rfl⟩)
   first | exact ⟨_, rfl, rfl, Reg2.Ext.refl _⟩ | exact ⟨_, rfl, ⟨(), rfl, trivial⟩, Reg2.Ext.refl _⟩
  simp only [Act.put, xA, xB, xC]; (try simp only [xD]); (try simp only [xE]); (try simp only [id])
  refine Reg2.aA ?_
  intro w4 HI4 _ dU
  clear dU
  dsimp only [List.drop]
  have bD := fB.out.kept HI4
  have hc4 := hcon w4 _ _ _ bD
  go_wp2_with fail
  go_at_call 136
  refine hc4.mono ?_
  clear hc4
  rintro e w5 ⟨rfl, v5, g5, fV, hS5⟩
  have dM := bD.core fV hS5
  have rE := (hfr.trans (WS.of_below HI4)).trans (WS.bZ hS5)
  have hf := gF dM.wk e1
  go_wp2_with (go_at_call 67; go_must (refine hf.mono ?_); rintro e w8 ⟨rfl, dE, fA⟩)
  go_ret
  exact ⟨rfl, v5, g5, dM.work dE fA, rE.trans (WS.bu fA)⟩
theorem Ip (h : SW w b c t d p v g a m R P) (hk : PK P) (s : Int) (hE : bE P.J (bg s P.now) R.ag.id (dP s) = 0) :
  Calls Tryz.prog 118 #[.pointer (some ⟨b, 0, none⟩), .pointer (some ⟨c, 0, none⟩), .int .i64 s] w (au w b c t d p v g a m (eH 137) { R with az := bF P.J R.ag.id, rep := iq (bF (bS P.J (bg s P.now) R.ag.id (dP s) (bH s P.now)) R.ag.id) } { P with J := bS P.J (bg s P.now) R.ag.id (dP s) (bH s P.now) }) := by
 have zJ := bC
 obtain ⟨k, hk1⟩ : ∃ k, k = 10 := ⟨_, rfl⟩
 rw [← hk1] at zJ
 have hk0 : ¬ k = 0 := by omega
 have hS := Lib.hid h
 have hcon := fun (W : World) (v1 : Value) (g1 : Nat) (R1 : Wk) (hW : SW W b c t d p v1 g1 a m R1 P) => ry hW.cw hk R.ag.id s P.now
 obtain ⟨L1, hL1⟩ : ∃ L1, L1 = bS P.J (bg s P.now) R.ag.id (dP s) (bH s P.now) := ⟨_, rfl⟩
 rw [← hL1]
 rw [← hL1, hE] at hcon
 replace hE := Lib.hid hE
 replace hL1 := Lib.hid hL1
 have hget := gu h.drew.cw.dZ R.ag.id
 unfold ik at hget
 obtain ⟨x, hx⟩ : ∃ x, x = bF P.J R.ag.id := ⟨_, rfl⟩
 rw [← hx] at hget
 rw [← hx]
 replace hx := Lib.hid hx
 have lJ := ay x
 rw [← hk1] at lJ
 have hj := fun (W : World) (hW : SW W b c t d p v g a m R P) => hW.wk.rA x
 generalize ah x = cJ at *
 have c0 := h.cw.c0
 have q1 := h.wk.at 1 (.int .i64 R.ag.id) rfl
 obtain ⟨W9, jK⟩ : ∃ W9, W9 = fH { R with az := x } := ⟨_, rfl⟩
 rw [← jK] at hj
 replace jK := Lib.hid jK
 replace hk1 := Lib.hid hk1
 clear h
 go_enter Tryz.func118, Tryz.ntmps118
 go_wp2_with fail
 go_region_with (go_at_call 70; go_must (refine hget.mono ?_); rintro e w' ⟨rfl, hgr⟩; have qg := hS.out.drew.kept hgr.below; obtain ⟨yc, nW⟩ := hj w' qg)
 all_goals
  have fB := qg.work nW (cu w' W9.toArray)
  have hfr : WS w (w'.setRow b W9.toArray) b c t d p v g v g := ((WS.of_below hgr.below : WS w.drew w' b c t d p v g v g).trans (WS.bu (cu w' W9.toArray))).wI
  clear yc nW qg hgr hget c0 q1
  generalize w'.setRow b W9.toArray = w9 at *
  replace fB := Lib.hid fB
  go_wp2_with fail
  refine Reg2.rd w9 15 53 [[],[ae],[ae,ae],[ae,ae,ae],[af,af,af,af],[af,af,af,af,ae],[af,af,af,af,ae,ae],[af,af,af,af,ae,ae,ae],[af,af,af,af,ae,ae,ae,ae],[af,af,af,af,af,af,af,af,af],[af,af,af,af,af,af,af,af,af,af],[af,af,af,af,af,af,af,af,af,af,ae],[af,af,af,af,af,af,af,af,af,af,ae,ae],[af,af,af,af,af,af,af,af,af,af,ae,ae,ae],[af,af,af,af,af,af,af,af,af,af,ae,ae,ae,ae]] [0, 0, 0, 1, 0, 0, 0, 0, 1, 0, 0, 0, 0, 1, 1] [.pure, .pure, .pure, .mU (.pointer (some ⟨t, 0, none⟩)), .pure, .pure, .pure, .pure, .mU (.int .i64 R.ag.id), .pure, .pure, .pure, .pure, .mU (.pointer (some ⟨p, 0, none⟩)), .mU (.int .i64 P.now)] (by kernel_rfl) (by kernel_rfl) rfl rfl ⟨trivial, trivial, trivial, Reg2.tt, trivial, trivial, trivial, trivial, Reg2.tt, trivial, trivial, trivial, trivial, Reg2.tt, Reg2.tt, trivial⟩ ⟨rfl, rfl, rfl, Nat.le_refl _, fun _ _ => rfl⟩ ?_
  dsimp only [Reg2.mk, List.zip, List.zipWith, List.take]
  repeat (refine' Reg2.ai _ (by rfl) (fun wz => ?_) ?_; rotate_left; (go_simp; first | rfl | rw [if_neg (by omega)]); simp only [Act.put, xA, xB, xC]; (try simp only [xD]); (try simp only [xE]); (try simp only [id]))
  refine Reg2.pm (fun wz hI hF => ?_) (fun r3 => ?_) (by rfl)
  ·have c0 := (fB.out.cw.kept hI).c0
   go_wp2_with fail
   first | exact ⟨_, rfl, rfl, Reg2.Ext.refl _⟩ | exact ⟨_, rfl, ⟨(), rfl, trivial⟩, Reg2.Ext.refl _⟩
  simp only [Act.put, xA, xB, xC]; (try simp only [xD]); (try simp only [xE]); (try simp only [id])
  repeat (refine' Reg2.ai _ (by rfl) (fun wz => ?_) ?_; rotate_left; (go_simp; first | rfl | rw [if_neg (by omega)]); simp only [Act.put, xA, xB, xC]; (try simp only [xD]); (try simp only [xE]); (try simp only [id]))
  refine Reg2.pm (fun wz hI hF => ?_) (fun r8 => ?_) (by rfl)
  ·have q0 := (fB.out.kept hI).wk.at 1 (.int .i64 R.ag.id) rfl
   go_wp2_with fail
   first | exact ⟨_, rfl, rfl, Reg2.Ext.refl _⟩ | exact ⟨_, rfl, ⟨(), rfl, trivial⟩, Reg2.Ext.refl _⟩
  simp only [Act.put, xA, xB, xC]; (try simp only [xD]); (try simp only [xE]); (try simp only [id])
  repeat (refine' Reg2.ai _ (by rfl) (fun wz => ?_) ?_; rotate_left; (go_simp; first | rfl | rw [if_neg (by omega)]); simp only [Act.put, xA, xB, xC]; (try simp only [xD]); (try simp only [xE]); (try simp only [id]))
  refine Reg2.pm (fun wz hI hF => ?_) (fun FK => ?_) (by rfl)
  ·have c0 := (fB.out.cw.kept hI).c2
   go_wp2_with fail
   first | exact ⟨_, rfl, rfl, Reg2.Ext.refl _⟩ | exact ⟨_, rfl, ⟨(), rfl, trivial⟩, Reg2.Ext.refl _⟩
  simp only [Act.put, xA, xB, xC]; (try simp only [xD]); (try simp only [xE]); (try simp only [id])
  refine Reg2.pm (fun wz hI hF => ?_) (fun Ig => ?_) (by rfl)
  ·go_wp2_with (go_at_call 43; go_must (refine (fO (fB.out.kept hI).cw).mono ?_); rintro e w' ⟨rfl, rfl⟩)
   first | exact ⟨_, rfl, rfl, Reg2.Ext.refl _⟩ | exact ⟨_, rfl, ⟨(), rfl, trivial⟩, Reg2.Ext.refl _⟩
  simp only [Act.put, xA, xB, xC]; (try simp only [xD]); (try simp only [xE]); (try simp only [id])
  refine Reg2.aA ?_
  intro w4 HI4 _ dU
  clear dU
  dsimp only [List.drop]
  have bD := fB.out.kept HI4
  have hc4 := hcon w4 _ _ _ bD
  go_wp2_with fail
  go_at_call 136
  refine hc4.mono ?_
  clear hc4
  rintro e w5 ⟨rfl, v5, g5, fV, hS5⟩
  have dM := bD.core fV hS5
  have rE := (hfr.trans (WS.of_below HI4)).trans (WS.bZ hS5)
  have jL := mI dM R.ag.id
  have q1 := dM.wk.at 1 (.int .i64 R.ag.id) rfl
  go_wp2_with fail
  go_at_call 112
  refine jL.mono ?_
  clear jL
  rintro e w8 ⟨rfl, dE, fA⟩
  have fP := dM.work dE fA
  have Io := rE.trans (WS.bu fA)
  go_wp2_with fail
  go_ret
  exact ⟨rfl, v5, g5, fP, Io⟩
end
end Go.Proofs.YtkhfejihijdipaaGreat
