/-
 Own words and walks, merged: part 6 of 8.
-/
import Derived.Deep.RegionWith
import Derived.Test.YtkhfejihijdipaaGreatVTwins5
set_option maxRecDepth 1000000
set_option maxHeartbeats 8000000
set_option linter.all false
namespace Go.Proofs.YtkhfejihijdipaaGreat
open Go.RowKit Go.Lib Go.Sort
def lT (n : Int) (r : Rq) : Int := if r.kind = 1 ∧ n < r.width ∧ r.width ≤ 64 ∧ aN r ≠ 1 then 9 else 0
section
variable {w : World} {c t d p g a : Nat} {v : Value} {m : Int} {P : Pg}
theorem Gi (h : CW w c t d p v g a m P) (hl : gG P.T) (r : Rq) (hk : r.kind ≠ 1) : Calls Tryz.prog 30 #[.pointer (some ⟨c, 0, none⟩), .agg (encR r).toArray] w fun e w' => e = .returned (.int .i64 0) ∧ Below w.heap.size w w' := by
 have zR := kE
 obtain ⟨k9, bY⟩ : ∃ k, k = 9 := ⟨_, rfl⟩
 rw [← bY] at zR
 have hk0 : ¬ k9 = 0 := by omega
 have lR := iq r
 rw [← bY] at lR
 replace bY := Lib.hid bY
 obtain ⟨wA, aT⟩ : ∃ wA, wA = w.alloc (.cells (encR r).toArray 33) := ⟨_, rfl⟩
 have dE : Hid (Below w.heap.size w wA) := by show Below _ _ _; rw [aT]; exact (Below.refl _ _).alloc (Nat.le_refl _) _
 have je : Hid (wA.heap[w.heap.size]? = some (.cells (encR r).toArray 33 (0, 0))) := by show _ = _; rw [aT]; exact heap_alloc_new w _
 have iE := Lib.hid (h.kept dE.out)
 have hno := fun (W : World) (hW : Below wA.heap.size wA W) => kP (iE.out.kept hW)
 have hsz := fun (W : World) (hW : Below wA.heap.size wA W) => pU (iE.out.kept hW).nodes hl
 have LF := fun (W : World) => mQ r W
 have e0 : (encR r)[0]? = some (.int .i64 r.kind) := rfl
 have e3 : (encR r)[3]? = some (.int .i64 r.width) := rfl
 generalize r.kind = rk at *
 generalize r.width = rw at *
 generalize aN r = rf at *
 generalize encR r = cR at *
 generalize (P.T.length : Int) = nl at *
 have d1 : (rk != 1) = true := by simp [hk]
 clear h
 go_enter Tryz.func30, Tryz.ntmps30
 go_wp2_with fail
 rw [← aT]
 replace aT := Lib.hid aT
 refine Reg2.rd wA 20 30 [[],[ae],[ae,ae],[ae,ae,ae],[ae,ae,ae,ae],[ae,ae,ae,ae,ae],[ae,ae,ae,ae,ae,ae],[ae,ae,ae,ae,ae,ae,ae],[ae,ae,ae,ae,ae,ae,ae,ae],[ae,ae,ae,ae,ae,ae,ae,ae,ae],[ae,ae,ae,ae,ae,ae,ae,ae,ae,ae],[ae,ae,ae,ae,ae,ae,ae,ae,ae,ae,ae],[ae,ae,ae,ae,ae,ae,ae,ae,ae,ae,ae,ae],[ae,ae,ae,ae,ae,ae,ae,ae,ae,ae,ae,ae,ae],[ae,ae,ae,ae,ae,ae,ae,ae,ae,ae,ae,ae,ae,ae],[ae,ae,ae,ae,ae,ae,ae,ae,ae,ae,ae,ae,ae,af,af],[ae,ae,ae,ae,ae,ae,ae,ae,ae,ae,ae,ae,ae,af,af,ae],[ae,ae,ae,ae,ae,ae,ae,ae,ae,ae,ae,ae,ae,af,af,ae,ae],[ae,ae,ae,ae,ae,ae,ae,ae,ae,ae,ae,ae,ae,af,af,ae,ae,ae],[ae,ae,ae,ae,ae,ae,ae,ae,ae,ae,ae,ae,ae,af,af,ae,ae,ae,ae]] [0, 1, 0, 0, 1, 0, 0, 0, 0, 1, 0, 0, 0, 0, 1, 0, 0, 0, 1, 1] [.pure, .mU (.bool false), .pure, .pure, .mU (.int .i64 rk), .pure, .pure, .pure, .pure, .mU (.int .i64 rw), .pure, .pure, .pure, .pure, .mU (.int .i64 rw), .pure, .pure, .pure, .mU (.pointer (some ⟨d, 0, none⟩)), .mU (.int .i64 nl)] (by kernel_rfl) (by kernel_rfl) rfl rfl ⟨trivial, Reg2.tt, trivial, trivial, Reg2.tt, trivial, trivial, trivial, trivial, Reg2.tt, trivial, trivial, trivial, trivial, Reg2.tt, trivial, trivial, trivial, Reg2.tt, Reg2.tt, trivial⟩ ⟨rfl, rfl, rfl, Nat.le_refl _, fun _ _ => rfl⟩ ?_
 dsimp only [Reg2.mk, List.zip, List.zipWith, List.take]
 repeat (refine' Reg2.ai _ (by rfl) (fun wz => ?_) ?_; rotate_left; (go_simp; first | rfl | rw [if_neg (by omega)]); simp only [Act.put, xA, xB, xC]; (try simp only [xD]); (try simp only [xE]); (try simp only [id]))
 refine Reg2.pm (fun wz hI hF => ?_) (fun r1 => ?_) (by rfl)
 ·go_wp2_with (go_at_call 34; go_must (refine (hno wz hI).mono ?_); rintro e w' ⟨rfl, rfl⟩)
  first | exact ⟨_, rfl, rfl, Reg2.Ext.refl _⟩ | exact ⟨_, rfl, ⟨(), rfl, trivial⟩, Reg2.Ext.refl _⟩
 simp only [Act.put, xA, xB, xC]; (try simp only [xD]); (try simp only [xE]); (try simp only [id])
 repeat (refine' Reg2.ai _ (by rfl) (fun wz => ?_) ?_; rotate_left; (go_simp; first | rfl | rw [if_neg (by omega)]); simp only [Act.put, xA, xB, xC]; (try simp only [xD]); (try simp only [xE]); (try simp only [id]))
 refine Reg2.pm (fun wz hI hF => ?_) (fun r4 => ?_) (by rfl)
 ·have q0 : wz.cell? ⟨w.heap.size, 0, none⟩ = some (.int .i64 rk) := by simp [World.cell?, (hI.block _ (aG je.out)).trans je.out, e0]
  go_wp2_with fail
  first | exact ⟨_, rfl, rfl, Reg2.Ext.refl _⟩ | exact ⟨_, rfl, ⟨(), rfl, trivial⟩, Reg2.Ext.refl _⟩
 simp only [Act.put, xA, xB, xC]; (try simp only [xD]); (try simp only [xE]); (try simp only [id])
 repeat (refine' Reg2.ai _ (by rfl) (fun wz => ?_) ?_; rotate_left; (go_simp; first | rfl | rw [if_neg (by omega)]); simp only [Act.put, xA, xB, xC]; (try simp only [xD]); (try simp only [xE]); (try simp only [id]))
 refine Reg2.cZ (by rfl) ?_
 simp only [Act.put, xA, xB, xC]; (try simp only [xD]); (try simp only [xE]); (try simp only [id])
 refine Reg2.bN (by rfl) ?_
 simp only [Act.put, xA, xB, xC]; (try simp only [xD]); (try simp only [xE]); (try simp only [id])
 refine Reg2.cZ (by rfl) ?_
 simp only [Act.put, xA, xB, xC]; (try simp only [xD]); (try simp only [xE]); (try simp only [id])
 repeat (refine' Reg2.ai _ (by rfl) (fun wz => ?_) ?_; rotate_left; (go_simp; first | rfl | rw [if_neg (by omega)]); simp only [Act.put, xA, xB, xC]; (try simp only [xD]); (try simp only [xE]); (try simp only [id]))
 refine Reg2.cZ (by rfl) ?_
 simp only [Act.put, xA, xB, xC]; (try simp only [xD]); (try simp only [xE]); (try simp only [id])
 refine Reg2.bN (by rfl) ?_
 simp only [Act.put, xA, xB, xC]; (try simp only [xD]); (try simp only [xE]); (try simp only [id])
 refine Reg2.cZ (by rfl) ?_
 simp only [Act.put, xA, xB, xC]; (try simp only [xD]); (try simp only [xE]); (try simp only [id])
 refine Reg2.cZ (by rfl) ?_
 simp only [Act.put, xA, xB, xC]; (try simp only [xD]); (try simp only [xE]); (try simp only [id])
 refine Reg2.cZ (by rfl) ?_
 simp only [Act.put, xA, xB, xC]; (try simp only [xD]); (try simp only [xE]); (try simp only [id])
 refine Reg2.bN (by rfl) ?_
 simp only [Act.put, xA, xB, xC]; (try simp only [xD]); (try simp only [xE]); (try simp only [id])
 refine Reg2.bN (by rfl) ?_
 simp only [Act.put, xA, xB, xC]; (try simp only [xD]); (try simp only [xE]); (try simp only [id])
 refine Reg2.az ?_
 intro w7 jH _ jR
 clear jR
 dsimp only [List.drop]
 have iP := dE.out.trans (jH.mono dE.out.size)
 go_wp2_with fail
 go_ret
 exact ⟨rfl, iP⟩
theorem Gj (h : CW w c t d p v g a m P) (hl : gG P.T) (r : Rq) (hk : r.kind = 1) (hw : 64 < r.width) : Calls Tryz.prog 30 #[.pointer (some ⟨c, 0, none⟩), .agg (encR r).toArray] w fun e w' => e = .returned (.int .i64 0) ∧ Below w.heap.size w w' := by
 have zR := kE
 obtain ⟨k9, bY⟩ : ∃ k, k = 9 := ⟨_, rfl⟩
 rw [← bY] at zR
 have hk0 : ¬ k9 = 0 := by omega
 have lR := iq r
 rw [← bY] at lR
 replace bY := Lib.hid bY
 obtain ⟨wA, aT⟩ : ∃ wA, wA = w.alloc (.cells (encR r).toArray 33) := ⟨_, rfl⟩
 have dE : Hid (Below w.heap.size w wA) := by show Below _ _ _; rw [aT]; exact (Below.refl _ _).alloc (Nat.le_refl _) _
 have je : Hid (wA.heap[w.heap.size]? = some (.cells (encR r).toArray 33 (0, 0))) := by show _ = _; rw [aT]; exact heap_alloc_new w _
 have iE := Lib.hid (h.kept dE.out)
 have hno := fun (W : World) (hW : Below wA.heap.size wA W) => kP (iE.out.kept hW)
 have hsz := fun (W : World) (hW : Below wA.heap.size wA W) => pU (iE.out.kept hW).nodes hl
 have LF := fun (W : World) => mQ r W
 have e0 : (encR r)[0]? = some (.int .i64 r.kind) := rfl
 have e3 : (encR r)[3]? = some (.int .i64 r.width) := rfl
 generalize r.kind = rk at *
 generalize r.width = rw at *
 generalize aN r = rf at *
 generalize encR r = cR at *
 generalize (P.T.length : Int) = nl at *
 have d1 : (rk != 1) = false := by simp [hk]
 replace hk := Lib.hid hk
 have d2 : decide (rw > 64) = true := decide_eq_true hw
 clear h
 go_enter Tryz.func30, Tryz.ntmps30
 go_wp2_with fail
 rw [← aT]
 replace aT := Lib.hid aT
 refine Reg2.rd wA 20 30 [[],[ae],[ae,ae],[ae,ae,ae],[ae,ae,ae,ae],[ae,ae,ae,ae,ae],[ae,ae,ae,ae,ae,ae],[ae,ae,ae,ae,ae,ae,ae],[ae,ae,ae,ae,ae,ae,ae,ae],[ae,ae,ae,ae,ae,ae,ae,ae,ae],[ae,ae,ae,ae,ae,ae,ae,ae,ae,ae],[ae,ae,ae,ae,ae,ae,ae,ae,ae,ae,ae],[ae,ae,ae,ae,ae,ae,ae,ae,ae,ae,ae,ae],[ae,ae,ae,ae,ae,ae,ae,ae,ae,ae,ae,ae,ae],[ae,ae,ae,ae,ae,ae,ae,ae,ae,ae,ae,ae,ae,ae],[ae,ae,ae,ae,ae,ae,ae,ae,ae,ae,ae,ae,ae,af,af],[ae,ae,ae,ae,ae,ae,ae,ae,ae,ae,ae,ae,ae,af,af,ae],[ae,ae,ae,ae,ae,ae,ae,ae,ae,ae,ae,ae,ae,af,af,ae,ae],[ae,ae,ae,ae,ae,ae,ae,ae,ae,ae,ae,ae,ae,af,af,ae,ae,ae],[ae,ae,ae,ae,ae,ae,ae,ae,ae,ae,ae,ae,ae,af,af,ae,ae,ae,ae]] [0, 1, 0, 0, 1, 0, 0, 0, 0, 1, 0, 0, 0, 0, 1, 0, 0, 0, 1, 1] [.pure, .mU (.bool false), .pure, .pure, .mU (.int .i64 rk), .pure, .pure, .pure, .pure, .mU (.int .i64 rw), .pure, .pure, .pure, .pure, .mU (.int .i64 rw), .pure, .pure, .pure, .mU (.pointer (some ⟨d, 0, none⟩)), .mU (.int .i64 nl)] (by kernel_rfl) (by kernel_rfl) rfl rfl ⟨trivial, Reg2.tt, trivial, trivial, Reg2.tt, trivial, trivial, trivial, trivial, Reg2.tt, trivial, trivial, trivial, trivial, Reg2.tt, trivial, trivial, trivial, Reg2.tt, Reg2.tt, trivial⟩ ⟨rfl, rfl, rfl, Nat.le_refl _, fun _ _ => rfl⟩ ?_
 dsimp only [Reg2.mk, List.zip, List.zipWith, List.take]
 repeat (refine' Reg2.ai _ (by rfl) (fun wz => ?_) ?_; rotate_left; (go_simp; first | rfl | rw [if_neg (by omega)]); simp only [Act.put, xA, xB, xC]; (try simp only [xD]); (try simp only [xE]); (try simp only [id]))
 refine Reg2.pm (fun wz hI hF => ?_) (fun r1 => ?_) (by rfl)
 ·go_wp2_with (go_at_call 34; go_must (refine (hno wz hI).mono ?_); rintro e w' ⟨rfl, rfl⟩)
  first | exact ⟨_, rfl, rfl, Reg2.Ext.refl _⟩ | exact ⟨_, rfl, ⟨(), rfl, trivial⟩, Reg2.Ext.refl _⟩
 simp only [Act.put, xA, xB, xC]; (try simp only [xD]); (try simp only [xE]); (try simp only [id])
 repeat (refine' Reg2.ai _ (by rfl) (fun wz => ?_) ?_; rotate_left; (go_simp; first | rfl | rw [if_neg (by omega)]); simp only [Act.put, xA, xB, xC]; (try simp only [xD]); (try simp only [xE]); (try simp only [id]))
 refine Reg2.pm (fun wz hI hF => ?_) (fun r4 => ?_) (by rfl)
 ·have q0 : wz.cell? ⟨w.heap.size, 0, none⟩ = some (.int .i64 rk) := by simp [World.cell?, (hI.block _ (aG je.out)).trans je.out, e0]
  go_wp2_with fail
  first | exact ⟨_, rfl, rfl, Reg2.Ext.refl _⟩ | exact ⟨_, rfl, ⟨(), rfl, trivial⟩, Reg2.Ext.refl _⟩
 simp only [Act.put, xA, xB, xC]; (try simp only [xD]); (try simp only [xE]); (try simp only [id])
 repeat (refine' Reg2.ai _ (by rfl) (fun wz => ?_) ?_; rotate_left; (go_simp; first | rfl | rw [if_neg (by omega)]); simp only [Act.put, xA, xB, xC]; (try simp only [xD]); (try simp only [xE]); (try simp only [id]))
 refine Reg2.pm (fun wz hI hF => ?_) (fun r9 => ?_) (by rfl)
 ·have q0 : wz.cell? ⟨w.heap.size, 3, none⟩ = some (.int .i64 rw) := by simp [World.cell?, (hI.block _ (aG je.out)).trans je.out, e3]
  go_wp2_with fail
  first | exact ⟨_, rfl, rfl, Reg2.Ext.refl _⟩ | exact ⟨_, rfl, ⟨(), rfl, trivial⟩, Reg2.Ext.refl _⟩
 simp only [Act.put, xA, xB, xC]; (try simp only [xD]); (try simp only [xE]); (try simp only [id])
 repeat (refine' Reg2.ai _ (by rfl) (fun wz => ?_) ?_; rotate_left; (go_simp; first | rfl | rw [if_neg (by omega)]); simp only [Act.put, xA, xB, xC]; (try simp only [xD]); (try simp only [xE]); (try simp only [id]))
 refine Reg2.cZ (by rfl) ?_
 simp only [Act.put, xA, xB, xC]; (try simp only [xD]); (try simp only [xE]); (try simp only [id])
 refine Reg2.bN (by rfl) ?_
 simp only [Act.put, xA, xB, xC]; (try simp only [xD]); (try simp only [xE]); (try simp only [id])
 refine Reg2.cZ (by rfl) ?_
 simp only [Act.put, xA, xB, xC]; (try simp only [xD]); (try simp only [xE]); (try simp only [id])
 refine Reg2.cZ (by rfl) ?_
 simp only [Act.put, xA, xB, xC]; (try simp only [xD]); (try simp only [xE]); (try simp only [id])
 refine Reg2.cZ (by rfl) ?_
 simp only [Act.put, xA, xB, xC]; (try simp only [xD]); (try simp only [xE]); (try simp only [id])
 refine Reg2.bN (by rfl) ?_
 simp only [Act.put, xA, xB, xC]; (try simp only [xD]); (try simp only [xE]); (try simp only [id])
 refine Reg2.bN (by rfl) ?_
 simp only [Act.put, xA, xB, xC]; (try simp only [xD]); (try simp only [xE]); (try simp only [id])
 refine Reg2.az ?_
 intro w7 jH _ jR
 clear jR
 dsimp only [List.drop]
 have iP := dE.out.trans (jH.mono dE.out.size)
 go_wp2_with fail
 go_ret
 exact ⟨rfl, iP⟩
theorem Gl (h : CW w c t d p v g a m P) (hl : gG P.T) (r : Rq) (hk : r.kind = 1) (hw : r.width ≤ 64) (hn : r.width ≤ P.T.length) : Calls Tryz.prog 30 #[.pointer (some ⟨c, 0, none⟩), .agg (encR r).toArray] w fun e w' => e = .returned (.int .i64 0) ∧ Below w.heap.size w w' := by
 have zR := kE
 obtain ⟨k9, bY⟩ : ∃ k, k = 9 := ⟨_, rfl⟩
 rw [← bY] at zR
 have hk0 : ¬ k9 = 0 := by omega
 have lR := iq r
 rw [← bY] at lR
 replace bY := Lib.hid bY
 obtain ⟨wA, aT⟩ : ∃ wA, wA = w.alloc (.cells (encR r).toArray 33) := ⟨_, rfl⟩
 have dE : Hid (Below w.heap.size w wA) := by show Below _ _ _; rw [aT]; exact (Below.refl _ _).alloc (Nat.le_refl _) _
 have je : Hid (wA.heap[w.heap.size]? = some (.cells (encR r).toArray 33 (0, 0))) := by show _ = _; rw [aT]; exact heap_alloc_new w _
 have iE := Lib.hid (h.kept dE.out)
 have hno := fun (W : World) (hW : Below wA.heap.size wA W) => kP (iE.out.kept hW)
 have hsz := fun (W : World) (hW : Below wA.heap.size wA W) => pU (iE.out.kept hW).nodes hl
 have LF := fun (W : World) => mQ r W
 have e0 : (encR r)[0]? = some (.int .i64 r.kind) := rfl
 have e3 : (encR r)[3]? = some (.int .i64 r.width) := rfl
 generalize r.kind = rk at *
 generalize r.width = rw at *
 generalize aN r = rf at *
 generalize encR r = cR at *
 generalize (P.T.length : Int) = nl at *
 have d1 : (rk != 1) = false := by simp [hk]
 replace hk := Lib.hid hk
 have d2 : decide (rw > 64) = false := decide_eq_false (by omega)
 have d3 : decide (rw ≤ nl) = true := decide_eq_true hn
 clear h
 go_enter Tryz.func30, Tryz.ntmps30
 go_wp2_with fail
 rw [← aT]
 replace aT := Lib.hid aT
 refine Reg2.rd wA 20 30 [[],[ae],[ae,ae],[ae,ae,ae],[ae,ae,ae,ae],[ae,ae,ae,ae,ae],[ae,ae,ae,ae,ae,ae],[ae,ae,ae,ae,ae,ae,ae],[ae,ae,ae,ae,ae,ae,ae,ae],[ae,ae,ae,ae,ae,ae,ae,ae,ae],[ae,ae,ae,ae,ae,ae,ae,ae,ae,ae],[ae,ae,ae,ae,ae,ae,ae,ae,ae,ae,ae],[ae,ae,ae,ae,ae,ae,ae,ae,ae,ae,ae,ae],[ae,ae,ae,ae,ae,ae,ae,ae,ae,ae,ae,ae,ae],[ae,ae,ae,ae,ae,ae,ae,ae,ae,ae,ae,ae,ae,ae],[ae,ae,ae,ae,ae,ae,ae,ae,ae,ae,ae,ae,ae,af,af],[ae,ae,ae,ae,ae,ae,ae,ae,ae,ae,ae,ae,ae,af,af,ae],[ae,ae,ae,ae,ae,ae,ae,ae,ae,ae,ae,ae,ae,af,af,ae,ae],[ae,ae,ae,ae,ae,ae,ae,ae,ae,ae,ae,ae,ae,af,af,ae,ae,ae],[ae,ae,ae,ae,ae,ae,ae,ae,ae,ae,ae,ae,ae,af,af,ae,ae,ae,ae]] [0, 1, 0, 0, 1, 0, 0, 0, 0, 1, 0, 0, 0, 0, 1, 0, 0, 0, 1, 1] [.pure, .mU (.bool false), .pure, .pure, .mU (.int .i64 rk), .pure, .pure, .pure, .pure, .mU (.int .i64 rw), .pure, .pure, .pure, .pure, .mU (.int .i64 rw), .pure, .pure, .pure, .mU (.pointer (some ⟨d, 0, none⟩)), .mU (.int .i64 nl)] (by kernel_rfl) (by kernel_rfl) rfl rfl ⟨trivial, Reg2.tt, trivial, trivial, Reg2.tt, trivial, trivial, trivial, trivial, Reg2.tt, trivial, trivial, trivial, trivial, Reg2.tt, trivial, trivial, trivial, Reg2.tt, Reg2.tt, trivial⟩ ⟨rfl, rfl, rfl, Nat.le_refl _, fun _ _ => rfl⟩ ?_
 dsimp only [Reg2.mk, List.zip, List.zipWith, List.take]
 repeat (refine' Reg2.ai _ (by rfl) (fun wz => ?_) ?_; rotate_left; (go_simp; first | rfl | rw [if_neg (by omega)]); simp only [Act.put, xA, xB, xC]; (try simp only [xD]); (try simp only [xE]); (try simp only [id]))
 refine Reg2.pm (fun wz hI hF => ?_) (fun r1 => ?_) (by rfl)
 ·go_wp2_with (go_at_call 34; go_must (refine (hno wz hI).mono ?_); rintro e w' ⟨rfl, rfl⟩)
  first | exact ⟨_, rfl, rfl, Reg2.Ext.refl _⟩ | exact ⟨_, rfl, ⟨(), rfl, trivial⟩, Reg2.Ext.refl _⟩
 simp only [Act.put, xA, xB, xC]; (try simp only [xD]); (try simp only [xE]); (try simp only [id])
 repeat (refine' Reg2.ai _ (by rfl) (fun wz => ?_) ?_; rotate_left; (go_simp; first | rfl | rw [if_neg (by omega)]); simp only [Act.put, xA, xB, xC]; (try simp only [xD]); (try simp only [xE]); (try simp only [id]))
 refine Reg2.pm (fun wz hI hF => ?_) (fun r4 => ?_) (by rfl)
 ·have q0 : wz.cell? ⟨w.heap.size, 0, none⟩ = some (.int .i64 rk) := by simp [World.cell?, (hI.block _ (aG je.out)).trans je.out, e0]
  go_wp2_with fail
  first | exact ⟨_, rfl, rfl, Reg2.Ext.refl _⟩ | exact ⟨_, rfl, ⟨(), rfl, trivial⟩, Reg2.Ext.refl _⟩
 simp only [Act.put, xA, xB, xC]; (try simp only [xD]); (try simp only [xE]); (try simp only [id])
 repeat (refine' Reg2.ai _ (by rfl) (fun wz => ?_) ?_; rotate_left; (go_simp; first | rfl | rw [if_neg (by omega)]); simp only [Act.put, xA, xB, xC]; (try simp only [xD]); (try simp only [xE]); (try simp only [id]))
 refine Reg2.pm (fun wz hI hF => ?_) (fun r9 => ?_) (by rfl)
 ·have q0 : wz.cell? ⟨w.heap.size, 3, none⟩ = some (.int .i64 rw) := by simp [World.cell?, (hI.block _ (aG je.out)).trans je.out, e3]
  go_wp2_with fail
  first | exact ⟨_, rfl, rfl, Reg2.Ext.refl _⟩ | exact ⟨_, rfl, ⟨(), rfl, trivial⟩, Reg2.Ext.refl _⟩
 simp only [Act.put, xA, xB, xC]; (try simp only [xD]); (try simp only [xE]); (try simp only [id])
 repeat (refine' Reg2.ai _ (by rfl) (fun wz => ?_) ?_; rotate_left; (go_simp; first | rfl | rw [if_neg (by omega)]); simp only [Act.put, xA, xB, xC]; (try simp only [xD]); (try simp only [xE]); (try simp only [id]))
 refine Reg2.pm (fun wz hI hF => ?_) (fun Ej => ?_) (by rfl)
 ·have q0 : wz.cell? ⟨w.heap.size, 3, none⟩ = some (.int .i64 rw) := by simp [World.cell?, (hI.block _ (aG je.out)).trans je.out, e3]
  go_wp2_with fail
  first | exact ⟨_, rfl, rfl, Reg2.Ext.refl _⟩ | exact ⟨_, rfl, ⟨(), rfl, trivial⟩, Reg2.Ext.refl _⟩
 simp only [Act.put, xA, xB, xC]; (try simp only [xD]); (try simp only [xE]); (try simp only [id])
 repeat (refine' Reg2.ai _ (by rfl) (fun wz => ?_) ?_; rotate_left; (go_simp; first | rfl | rw [if_neg (by omega)]); simp only [Act.put, xA, xB, xC]; (try simp only [xD]); (try simp only [xE]); (try simp only [id]))
 refine Reg2.pm (fun wz hI hF => ?_) (fun RG => ?_) (by rfl)
 ·have c0 := (iE.out.kept hI).c1
  go_wp2_with fail
  first | exact ⟨_, rfl, rfl, Reg2.Ext.refl _⟩ | exact ⟨_, rfl, ⟨(), rfl, trivial⟩, Reg2.Ext.refl _⟩
 simp only [Act.put, xA, xB, xC]; (try simp only [xD]); (try simp only [xE]); (try simp only [id])
 refine Reg2.pm (fun wz hI hF => ?_) (fun TD => ?_) (by rfl)
 ·go_wp2_with (go_at_call 44; go_must (refine (hsz wz hI).mono ?_); rintro e w' ⟨rfl, rfl⟩)
  first | exact ⟨_, rfl, rfl, Reg2.Ext.refl _⟩ | exact ⟨_, rfl, ⟨(), rfl, trivial⟩, Reg2.Ext.refl _⟩
 simp only [Act.put, xA, xB, xC]; (try simp only [xD]); (try simp only [xE]); (try simp only [id])
 refine Reg2.az ?_
 intro w7 jH _ jR
 clear jR
 dsimp only [List.drop]
 have iP := dE.out.trans (jH.mono dE.out.size)
 go_wp2_with fail
 go_ret
 exact ⟨rfl, iP⟩
theorem I7 (h : CW w c t d p v g a m P) (hl : gG P.T) (r : Rq) (hk : r.kind = 1) (hw : r.width ≤ 64) (hn : ¬ r.width ≤ P.T.length) (hrf : aN r = 1) : Calls Tryz.prog 30 #[.pointer (some ⟨c, 0, none⟩), .agg (encR r).toArray] w fun e w' => e = .returned (.int .i64 0) ∧ Below w.heap.size w w' := by
 have zR := kE
 obtain ⟨k9, bY⟩ : ∃ k, k = 9 := ⟨_, rfl⟩
 rw [← bY] at zR
 have hk0 : ¬ k9 = 0 := by omega
 have lR := iq r
 rw [← bY] at lR
 replace bY := Lib.hid bY
 obtain ⟨wA, aT⟩ : ∃ wA, wA = w.alloc (.cells (encR r).toArray 33) := ⟨_, rfl⟩
 have dE : Hid (Below w.heap.size w wA) := by show Below _ _ _; rw [aT]; exact (Below.refl _ _).alloc (Nat.le_refl _) _
 have je : Hid (wA.heap[w.heap.size]? = some (.cells (encR r).toArray 33 (0, 0))) := by show _ = _; rw [aT]; exact heap_alloc_new w _
 have iE := Lib.hid (h.kept dE.out)
 have hno := fun (W : World) (hW : Below wA.heap.size wA W) => kP (iE.out.kept hW)
 have hsz := fun (W : World) (hW : Below wA.heap.size wA W) => pU (iE.out.kept hW).nodes hl
 have LF := fun (W : World) => mQ r W
 have e0 : (encR r)[0]? = some (.int .i64 r.kind) := rfl
 have e3 : (encR r)[3]? = some (.int .i64 r.width) := rfl
 generalize r.kind = rk at *
 generalize r.width = rw at *
 generalize aN r = rf at *
 generalize encR r = cR at *
 generalize (P.T.length : Int) = nl at *
 have d1 : (rk != 1) = false := by simp [hk]
 replace hk := Lib.hid hk
 have d2 : decide (rw > 64) = false := decide_eq_false (by omega)
 have d3 : decide (rw ≤ nl) = false := decide_eq_false hn
 subst hrf
 clear h
 go_enter Tryz.func30, Tryz.ntmps30
 go_wp2_with fail
 rw [← aT]
 replace aT := Lib.hid aT
 refine Reg2.rd wA 20 30 [[],[ae],[ae,ae],[ae,ae,ae],[ae,ae,ae,ae],[ae,ae,ae,ae,ae],[ae,ae,ae,ae,ae,ae],[ae,ae,ae,ae,ae,ae,ae],[ae,ae,ae,ae,ae,ae,ae,ae],[ae,ae,ae,ae,ae,ae,ae,ae,ae],[ae,ae,ae,ae,ae,ae,ae,ae,ae,ae],[ae,ae,ae,ae,ae,ae,ae,ae,ae,ae,ae],[ae,ae,ae,ae,ae,ae,ae,ae,ae,ae,ae,ae],[ae,ae,ae,ae,ae,ae,ae,ae,ae,ae,ae,ae,ae],[ae,ae,ae,ae,ae,ae,ae,ae,ae,ae,ae,ae,ae,ae],[ae,ae,ae,ae,ae,ae,ae,ae,ae,ae,ae,ae,ae,af,af],[ae,ae,ae,ae,ae,ae,ae,ae,ae,ae,ae,ae,ae,af,af,ae],[ae,ae,ae,ae,ae,ae,ae,ae,ae,ae,ae,ae,ae,af,af,ae,ae],[ae,ae,ae,ae,ae,ae,ae,ae,ae,ae,ae,ae,ae,af,af,ae,ae,ae],[ae,ae,ae,ae,ae,ae,ae,ae,ae,ae,ae,ae,ae,af,af,ae,ae,ae,ae]] [0, 1, 0, 0, 1, 0, 0, 0, 0, 1, 0, 0, 0, 0, 1, 0, 0, 0, 1, 1] [.pure, .mU (.bool false), .pure, .pure, .mU (.int .i64 rk), .pure, .pure, .pure, .pure, .mU (.int .i64 rw), .pure, .pure, .pure, .pure, .mU (.int .i64 rw), .pure, .pure, .pure, .mU (.pointer (some ⟨d, 0, none⟩)), .mU (.int .i64 nl)] (by kernel_rfl) (by kernel_rfl) rfl rfl ⟨trivial, Reg2.tt, trivial, trivial, Reg2.tt, trivial, trivial, trivial, trivial, Reg2.tt, trivial, trivial, trivial, trivial, Reg2.tt, trivial, trivial, trivial, Reg2.tt, Reg2.tt, trivial⟩ ⟨rfl, rfl, rfl, Nat.le_refl _, fun _ _ => rfl⟩ ?_
 dsimp only [Reg2.mk, List.zip, List.zipWith, List.take]
 repeat (refine' Reg2.ai _ (by rfl) (fun wz => ?_) ?_; rotate_left; (go_simp; first | rfl | rw [if_neg (by omega)]); simp only [Act.put, xA, xB, xC]; (try simp only [xD]); (try simp only [xE]); (try simp only [id]))
 refine Reg2.pm (fun wz hI hF => ?_) (fun r1 => ?_) (by rfl)
 ·go_wp2_with (go_at_call 34; go_must (refine (hno wz hI).mono ?_); rintro e w' ⟨rfl, rfl⟩)
  first | exact ⟨_, rfl, rfl, Reg2.Ext.refl _⟩ | exact ⟨_, rfl, ⟨(), rfl, trivial⟩, Reg2.Ext.refl _⟩
 simp only [Act.put, xA, xB, xC]; (try simp only [xD]); (try simp only [xE]); (try simp only [id])
 repeat (refine' Reg2.ai _ (by rfl) (fun wz => ?_) ?_; rotate_left; (go_simp; first | rfl | rw [if_neg (by omega)]); simp only [Act.put, xA, xB, xC]; (try simp only [xD]); (try simp only [xE]); (try simp only [id]))
 refine Reg2.pm (fun wz hI hF => ?_) (fun r4 => ?_) (by rfl)
 ·have q0 : wz.cell? ⟨w.heap.size, 0, none⟩ = some (.int .i64 rk) := by simp [World.cell?, (hI.block _ (aG je.out)).trans je.out, e0]
  go_wp2_with fail
  first | exact ⟨_, rfl, rfl, Reg2.Ext.refl _⟩ | exact ⟨_, rfl, ⟨(), rfl, trivial⟩, Reg2.Ext.refl _⟩
 simp only [Act.put, xA, xB, xC]; (try simp only [xD]); (try simp only [xE]); (try simp only [id])
 repeat (refine' Reg2.ai _ (by rfl) (fun wz => ?_) ?_; rotate_left; (go_simp; first | rfl | rw [if_neg (by omega)]); simp only [Act.put, xA, xB, xC]; (try simp only [xD]); (try simp only [xE]); (try simp only [id]))
 refine Reg2.pm (fun wz hI hF => ?_) (fun r9 => ?_) (by rfl)
 ·have q0 : wz.cell? ⟨w.heap.size, 3, none⟩ = some (.int .i64 rw) := by simp [World.cell?, (hI.block _ (aG je.out)).trans je.out, e3]
  go_wp2_with fail
  first | exact ⟨_, rfl, rfl, Reg2.Ext.refl _⟩ | exact ⟨_, rfl, ⟨(), rfl, trivial⟩, Reg2.Ext.refl _⟩
 simp only [Act.put, xA, xB, xC]; (try simp only [xD]); (try simp only [xE]); (try simp only [id])
 repeat (refine' Reg2.ai _ (by rfl) (fun wz => ?_) ?_; rotate_left; (go_simp; first | rfl | rw [if_neg (by omega)]); simp only [Act.put, xA, xB, xC]; (try simp only [xD]); (try simp only [xE]); (try simp only [id]))
 refine Reg2.pm (fun wz hI hF => ?_) (fun Ej => ?_) (by rfl)
 ·have q0 : wz.cell? ⟨w.heap.size, 3, none⟩ = some (.int .i64 rw) := by simp [World.cell?, (hI.block _ (aG je.out)).trans je.out, e3]
  go_wp2_with fail
  first | exact ⟨_, rfl, rfl, Reg2.Ext.refl _⟩ | exact ⟨_, rfl, ⟨(), rfl, trivial⟩, Reg2.Ext.refl _⟩
 simp only [Act.put, xA, xB, xC]; (try simp only [xD]); (try simp only [xE]); (try simp only [id])
 repeat (refine' Reg2.ai _ (by rfl) (fun wz => ?_) ?_; rotate_left; (go_simp; first | rfl | rw [if_neg (by omega)]); simp only [Act.put, xA, xB, xC]; (try simp only [xD]); (try simp only [xE]); (try simp only [id]))
 refine Reg2.pm (fun wz hI hF => ?_) (fun RG => ?_) (by rfl)
 ·have c0 := (iE.out.kept hI).c1
  go_wp2_with fail
  first | exact ⟨_, rfl, rfl, Reg2.Ext.refl _⟩ | exact ⟨_, rfl, ⟨(), rfl, trivial⟩, Reg2.Ext.refl _⟩
 simp only [Act.put, xA, xB, xC]; (try simp only [xD]); (try simp only [xE]); (try simp only [id])
 refine Reg2.pm (fun wz hI hF => ?_) (fun TD => ?_) (by rfl)
 ·go_wp2_with (go_at_call 44; go_must (refine (hsz wz hI).mono ?_); rintro e w' ⟨rfl, rfl⟩)
  first | exact ⟨_, rfl, rfl, Reg2.Ext.refl _⟩ | exact ⟨_, rfl, ⟨(), rfl, trivial⟩, Reg2.Ext.refl _⟩
 simp only [Act.put, xA, xB, xC]; (try simp only [xD]); (try simp only [xE]); (try simp only [id])
 refine Reg2.az ?_
 intro w7 jH _ jR
 clear jR
 dsimp only [List.drop]
 have iP := dE.out.trans (jH.mono dE.out.size)
 have yN : w7.heap[w.heap.size]? = some (.cells cR.toArray 33 (0, 0)) := (jH.block _ (aG je.out)).trans je.out
 have Ql := eX yN lR
 have RH := LF w7
 go_wp2_with (go_at_call 66; go_must (refine RH.mono ?_); rintro e w8 ⟨rfl, ob, rfl⟩)
 go_ret
 exact ⟨rfl, iP.alloc iP.size _⟩
theorem Gm (h : CW w c t d p v g a m P) (hl : gG P.T) (r : Rq) (hk : r.kind = 1) (hw : r.width ≤ 64) (hn : ¬ r.width ≤ P.T.length) (hrf : ¬ aN r = 1) : Calls Tryz.prog 30 #[.pointer (some ⟨c, 0, none⟩), .agg (encR r).toArray] w fun e w' => e = .returned (.int .i64 9) ∧ Below w.heap.size w w' := by
 have zR := kE
 obtain ⟨k9, bY⟩ : ∃ k, k = 9 := ⟨_, rfl⟩
 rw [← bY] at zR
 have hk0 : ¬ k9 = 0 := by omega
 have lR := iq r
 rw [← bY] at lR
 replace bY := Lib.hid bY
 obtain ⟨wA, aT⟩ : ∃ wA, wA = w.alloc (.cells (encR r).toArray 33) := ⟨_, rfl⟩
 have dE : Hid (Below w.heap.size w wA) := by show Below _ _ _; rw [aT]; exact (Below.refl _ _).alloc (Nat.le_refl _) _
 have je : Hid (wA.heap[w.heap.size]? = some (.cells (encR r).toArray 33 (0, 0))) := by show _ = _; rw [aT]; exact heap_alloc_new w _
 have iE := Lib.hid (h.kept dE.out)
 have hno := fun (W : World) (hW : Below wA.heap.size wA W) => kP (iE.out.kept hW)
 have hsz := fun (W : World) (hW : Below wA.heap.size wA W) => pU (iE.out.kept hW).nodes hl
 have LF := fun (W : World) => mQ r W
 have e0 : (encR r)[0]? = some (.int .i64 r.kind) := rfl
 have e3 : (encR r)[3]? = some (.int .i64 r.width) := rfl
 generalize r.kind = rk at *
 generalize r.width = rw at *
 generalize aN r = rf at *
 generalize encR r = cR at *
 generalize (P.T.length : Int) = nl at *
 have d1 : (rk != 1) = false := by simp [hk]
 replace hk := Lib.hid hk
 have d2 : decide (rw > 64) = false := decide_eq_false (by omega)
 have d3 : decide (rw ≤ nl) = false := decide_eq_false hn
 have d5 : (rf == 1) = false := by simp [hrf]
 clear h
 go_enter Tryz.func30, Tryz.ntmps30
 go_wp2_with fail
 rw [← aT]
 replace aT := Lib.hid aT
 refine Reg2.rd wA 20 30 [[],[ae],[ae,ae],[ae,ae,ae],[ae,ae,ae,ae],[ae,ae,ae,ae,ae],[ae,ae,ae,ae,ae,ae],[ae,ae,ae,ae,ae,ae,ae],[ae,ae,ae,ae,ae,ae,ae,ae],[ae,ae,ae,ae,ae,ae,ae,ae,ae],[ae,ae,ae,ae,ae,ae,ae,ae,ae,ae],[ae,ae,ae,ae,ae,ae,ae,ae,ae,ae,ae],[ae,ae,ae,ae,ae,ae,ae,ae,ae,ae,ae,ae],[ae,ae,ae,ae,ae,ae,ae,ae,ae,ae,ae,ae,ae],[ae,ae,ae,ae,ae,ae,ae,ae,ae,ae,ae,ae,ae,ae],[ae,ae,ae,ae,ae,ae,ae,ae,ae,ae,ae,ae,ae,af,af],[ae,ae,ae,ae,ae,ae,ae,ae,ae,ae,ae,ae,ae,af,af,ae],[ae,ae,ae,ae,ae,ae,ae,ae,ae,ae,ae,ae,ae,af,af,ae,ae],[ae,ae,ae,ae,ae,ae,ae,ae,ae,ae,ae,ae,ae,af,af,ae,ae,ae],[ae,ae,ae,ae,ae,ae,ae,ae,ae,ae,ae,ae,ae,af,af,ae,ae,ae,ae]] [0, 1, 0, 0, 1, 0, 0, 0, 0, 1, 0, 0, 0, 0, 1, 0, 0, 0, 1, 1] [.pure, .mU (.bool false), .pure, .pure, .mU (.int .i64 rk), .pure, .pure, .pure, .pure, .mU (.int .i64 rw), .pure, .pure, .pure, .pure, .mU (.int .i64 rw), .pure, .pure, .pure, .mU (.pointer (some ⟨d, 0, none⟩)), .mU (.int .i64 nl)] (by kernel_rfl) (by kernel_rfl) rfl rfl ⟨trivial, Reg2.tt, trivial, trivial, Reg2.tt, trivial, trivial, trivial, trivial, Reg2.tt, trivial, trivial, trivial, trivial, Reg2.tt, trivial, trivial, trivial, Reg2.tt, Reg2.tt, trivial⟩ ⟨rfl, rfl, rfl, Nat.le_refl _, fun _ _ => rfl⟩ ?_
 dsimp only [Reg2.mk, List.zip, List.zipWith, List.take]
 repeat (refine' Reg2.ai _ (by rfl) (fun wz => ?_) ?_; rotate_left; (go_simp; first | rfl | rw [if_neg (by omega)]); simp only [Act.put, xA, xB, xC]; (try simp only [xD]); (try simp only [xE]); (try simp only [id]))
 refine Reg2.pm (fun wz hI hF => ?_) (fun r1 => ?_) (by rfl)
 ·go_wp2_with (go_at_call 34; go_must (refine (hno wz hI).mono ?_); rintro e w' ⟨rfl, rfl⟩)
  first | exact ⟨_, rfl, rfl, Reg2.Ext.refl _⟩ | exact ⟨_, rfl, ⟨(), rfl, trivial⟩, Reg2.Ext.refl _⟩
 simp only [Act.put, xA, xB, xC]; (try simp only [xD]); (try simp only [xE]); (try simp only [id])
 repeat (refine' Reg2.ai _ (by rfl) (fun wz => ?_) ?_; rotate_left; (go_simp; first | rfl | rw [if_neg (by omega)]); simp only [Act.put, xA, xB, xC]; (try simp only [xD]); (try simp only [xE]); (try simp only [id]))
 refine Reg2.pm (fun wz hI hF => ?_) (fun r4 => ?_) (by rfl)
 ·have q0 : wz.cell? ⟨w.heap.size, 0, none⟩ = some (.int .i64 rk) := by simp [World.cell?, (hI.block _ (aG je.out)).trans je.out, e0]
  go_wp2_with fail
  first | exact ⟨_, rfl, rfl, Reg2.Ext.refl _⟩ | exact ⟨_, rfl, ⟨(), rfl, trivial⟩, Reg2.Ext.refl _⟩
 simp only [Act.put, xA, xB, xC]; (try simp only [xD]); (try simp only [xE]); (try simp only [id])
 repeat (refine' Reg2.ai _ (by rfl) (fun wz => ?_) ?_; rotate_left; (go_simp; first | rfl | rw [if_neg (by omega)]); simp only [Act.put, xA, xB, xC]; (try simp only [xD]); (try simp only [xE]); (try simp only [id]))
 refine Reg2.pm (fun wz hI hF => ?_) (fun r9 => ?_) (by rfl)
 ·have q0 : wz.cell? ⟨w.heap.size, 3, none⟩ = some (.int .i64 rw) := by simp [World.cell?, (hI.block _ (aG je.out)).trans je.out, e3]
  go_wp2_with fail
  first | exact ⟨_, rfl, rfl, Reg2.Ext.refl _⟩ | exact ⟨_, rfl, ⟨(), rfl, trivial⟩, Reg2.Ext.refl _⟩
 simp only [Act.put, xA, xB, xC]; (try simp only [xD]); (try simp only [xE]); (try simp only [id])
 repeat (refine' Reg2.ai _ (by rfl) (fun wz => ?_) ?_; rotate_left; (go_simp; first | rfl | rw [if_neg (by omega)]); simp only [Act.put, xA, xB, xC]; (try simp only [xD]); (try simp only [xE]); (try simp only [id]))
 refine Reg2.pm (fun wz hI hF => ?_) (fun Ej => ?_) (by rfl)
 ·have q0 : wz.cell? ⟨w.heap.size, 3, none⟩ = some (.int .i64 rw) := by simp [World.cell?, (hI.block _ (aG je.out)).trans je.out, e3]
  go_wp2_with fail
  first | exact ⟨_, rfl, rfl, Reg2.Ext.refl _⟩ | exact ⟨_, rfl, ⟨(), rfl, trivial⟩, Reg2.Ext.refl _⟩
 simp only [Act.put, xA, xB, xC]; (try simp only [xD]); (try simp only [xE]); (try simp only [id])
 repeat (refine' Reg2.ai _ (by rfl) (fun wz => ?_) ?_; rotate_left; (go_simp; first | rfl | rw [if_neg (by omega)]); simp only [Act.put, xA, xB, xC]; (try simp only [xD]); (try simp only [xE]); (try simp only [id]))
 refine Reg2.pm (fun wz hI hF => ?_) (fun RG => ?_) (by rfl)
 ·have c0 := (iE.out.kept hI).c1
  go_wp2_with fail
  first | exact ⟨_, rfl, rfl, Reg2.Ext.refl _⟩ | exact ⟨_, rfl, ⟨(), rfl, trivial⟩, Reg2.Ext.refl _⟩
 simp only [Act.put, xA, xB, xC]; (try simp only [xD]); (try simp only [xE]); (try simp only [id])
 refine Reg2.pm (fun wz hI hF => ?_) (fun TD => ?_) (by rfl)
 ·go_wp2_with (go_at_call 44; go_must (refine (hsz wz hI).mono ?_); rintro e w' ⟨rfl, rfl⟩)
  first | exact ⟨_, rfl, rfl, Reg2.Ext.refl _⟩ | exact ⟨_, rfl, ⟨(), rfl, trivial⟩, Reg2.Ext.refl _⟩
 simp only [Act.put, xA, xB, xC]; (try simp only [xD]); (try simp only [xE]); (try simp only [id])
 refine Reg2.az ?_
 intro w7 jH _ jR
 clear jR
 dsimp only [List.drop]
 have iP := dE.out.trans (jH.mono dE.out.size)
 have yN : w7.heap[w.heap.size]? = some (.cells cR.toArray 33 (0, 0)) := (jH.block _ (aG je.out)).trans je.out
 have Ql := eX yN lR
 have RH := LF w7
 go_wp2_with (go_at_call 66; go_must (refine RH.mono ?_); rintro e w8 ⟨rfl, ob, rfl⟩)
 go_ret
 exact ⟨rfl, iP.alloc iP.size _⟩
theorem tJ (h : CW w c t d p v g a m P) (hl : gG P.T) (r : Rq) : Calls Tryz.prog 30 #[.pointer (some ⟨c, 0, none⟩), .agg (encR r).toArray] w fun e w' => e = .returned (.int .i64 (lT P.T.length r)) ∧ Below w.heap.size w w' := by
 unfold lT
 by_cases h1 : r.kind = 1
 ·by_cases h2 : r.width ≤ 64
  ·by_cases h3 : r.width ≤ P.T.length
   ·rw [if_neg (by omega)]; exact Gl h hl r h1 h2 h3
   ·by_cases h4 : aN r = 1
    ·rw [if_neg (by simp [h4])]; exact I7 h hl r h1 h2 h3 h4
    ·rw [if_pos ⟨h1, by omega, h2, h4⟩]; exact Gm h hl r h1 h2 h3 h4
  ·rw [if_neg (by omega)]; exact Gj h hl r h1 (by omega)
 ·rw [if_neg (by simp [h1])]; exact Gi h hl r h1
end
end Go.Proofs.YtkhfejihijdipaaGreat

namespace Go.Proofs.YtkhfejihijdipaaGreat
open Go.RowKit Go.Lib Go.Sort
def gI (w : World) (b c t d p : Nat) (v : Value) (g a : Nat) (m : Int) (R : Wk) (P : Pg) (W : World) : Prop := ∃ v' g', SW W b c t d p v' g' a m R P ∧ WS w W b c t d p v g v' g'
theorem gI.ext {w : World} {b c t d p g a : Nat} {v : Value} {m : Int} {R : Wk} {P : Pg} : ∀ (x y : World), Reg2.Ext x y → gI w b c t d p v g a m R P x → gI w b c t d p v g a m R P y := by
 rintro x y h ⟨v', g', h1, h2⟩
 exact ⟨v', g', h1.kept h, h2.trans (WS.of_below h)⟩
def jL (e : Int) : Ry := ⟨e, 0, 0, 0, 0, 0, 0, 0, 0⟩
def toW (r : Rq) : Rw := ⟨r.kind, r.id, r.user, r.width, r.limit, r.prio, r.held, r.node, r.till⟩
theorem Cu {M : Md} (x : Jb) (h1 : x.st ≠ 3) (h2 : ak x = false) : aj { M with L := M.L ++ [x] } = { aj M with J := M.L ++ [x] } := by
 have e1 : bW { M with L := M.L ++ [x] } = bW M := by
  refine nO (by rw [bq, bq]) fun n hn => ?_
  rw [bU, bU]
  unfold aO
  rw [show ({ M with L := M.L ++ [x] } : Md).L = M.L ++ [x] from rfl, vK M.L x _ (by unfold aD; simp [h1])]
 have e2 : (fun t => ay { M with L := M.L ++ [x] } t 0) = fun t => ay M t 0 := funext fun t => zo x h1 h2 t 0
 unfold aj
 rw [e1, e2]
section
variable {w : World} {b c t d p g a : Nat} {v : Value} {m : Int} {M : Md} {R : Wk}
theorem Bn (h : SW w b c t d p v g a m R (aj M)) (hk : PK (aj M)) (hw : lT M.dr.length R.ag = 9) :
  Calls Tryz.prog 117 #[.pointer (some ⟨b, 0, none⟩), .pointer (some ⟨c, 0, none⟩)] w (au w b c t d p v g a m .nilFunc { R with rep := jL 9, ok := false } (aj M)) := by
 have zR := kE
 have zJ := bB
 obtain ⟨k9, bY⟩ : ∃ k, k = 9 := ⟨_, rfl⟩
 obtain ⟨k, hkk⟩ : ∃ k, k = 10 := ⟨_, rfl⟩
 rw [← bY] at zR
 rw [← hkk] at zJ
 have hk0 : ¬ k9 = 0 := by omega
 have hk1 : ¬ k = 0 := by omega
 have lR := iq R.ag
 rw [← bY] at lR
 replace bY := Lib.hid bY
 replace hkk := Lib.hid hkk
 have hS := Lib.hid h
 have p8 := h.wk.l8 lR
 have LG : Hid (∀ W, Below w.heap.size w W → Sem.run Tryz.prog (loadCellsFrom ⟨b, 0, none⟩ 0 k9 #[]) W = .ok (encR R.ag).toArray W) := fun W hW => (h.kept hW).wk.l8 lR
 have qE := tJ h.cw hk.pW R.ag
 have hsub := fun (W : World) (hW : Below w.heap.size w W) => ow (h.kept hW).cw hk R.ag
 have hn : (aj M).T.length = M.dr.length := bq
 rw [hn] at qE
 replace hn := Lib.hid hn
 generalize encR R.ag = cR at *
 rw [hw] at qE
 clear h hsub
 go_enter Tryz.func117, Tryz.ntmps117
 go_wp2_with fail
 go_at_call 30
 refine qE.mono ?_
 clear qE p8
 rintro e w1 ⟨rfl, hb1⟩
 have hS1 := hS.out.kept hb1
 have hf := gV hS1.wk 9
 go_wp2_with (go_at_call 67; go_must (refine hf.mono ?_); rintro e w9 ⟨rfl, jM, Oy⟩)
 go_ret
 exact ⟨rfl, v, g, hS1.work jM Oy, (WS.of_below hb1).trans (WS.bu Oy)⟩
theorem submit_bad (h : SW w b c t d p v g a m R (aj M)) (hk : PK (aj M)) (hw : lT M.dr.length R.ag = 0) (e0 : Int) (he0 : e0 ≠ 0) (hE : iH M.L R.ag = e0) :
  Calls Tryz.prog 117 #[.pointer (some ⟨b, 0, none⟩), .pointer (some ⟨c, 0, none⟩)] w (au w b c t d p v g a m .nilFunc { R with rep := jL e0, ok := false } (aj M)) := by
 have zR := kE
 have zJ := bB
 obtain ⟨k9, bY⟩ : ∃ k, k = 9 := ⟨_, rfl⟩
 obtain ⟨k, hkk⟩ : ∃ k, k = 10 := ⟨_, rfl⟩
 rw [← bY] at zR
 rw [← hkk] at zJ
 have hk0 : ¬ k9 = 0 := by omega
 have hk1 : ¬ k = 0 := by omega
 have lR := iq R.ag
 rw [← bY] at lR
 replace bY := Lib.hid bY
 replace hkk := Lib.hid hkk
 have hS := Lib.hid h
 have p8 := h.wk.l8 lR
 have LG : Hid (∀ W, Below w.heap.size w W → Sem.run Tryz.prog (loadCellsFrom ⟨b, 0, none⟩ 0 k9 #[]) W = .ok (encR R.ag).toArray W) := fun W hW => (h.kept hW).wk.l8 lR
 have qE := tJ h.cw hk.pW R.ag
 have hsub := fun (W : World) (hW : Below w.heap.size w W) => ow (h.kept hW).cw hk R.ag
 have hn : (aj M).T.length = M.dr.length := bq
 rw [hn] at qE
 replace hn := Lib.hid hn
 generalize encR R.ag = cR at *
 rw [hw] at qE
 unfold dY at hsub
 obtain ⟨Oz, p9⟩ : ∃ x, x = kG (aj M).J R.ag := ⟨_, rfl⟩
 obtain ⟨se, hse⟩ : ∃ x, x = iH (aj M).J R.ag := ⟨_, rfl⟩
 rw [← p9, ← hse] at hsub
 have hL : om (aj M).J R.ag = M.L := by
  have hE2 := hE
  unfold iH at hE2
  show om M.L R.ag = M.L
  unfold om
  split
  ·rfl
  ·rename_i h1
   rw [if_neg h1] at hE2
   split
   ·rfl
   ·rename_i h2
    rw [if_neg h2] at hE2
    omega
 rw [hL, show ({ aj M with J := M.L } : Pg) = aj M from rfl] at hsub
 have Gn : se = e0 := hse.trans hE
 subst Gn
 replace p9 := Lib.hid p9
 replace hse := Lib.hid hse
 replace hL := Lib.hid hL
 have d0 : (se != 0) = true := by simp [he0]
 clear h
 go_enter Tryz.func117, Tryz.ntmps117
 go_wp2_with fail
 go_at_call 30
 refine qE.mono ?_
 clear qE p8
 rintro e w1 ⟨rfl, hb1⟩
 have hS1 := Lib.hid (hS.out.kept hb1)
 go_wp2_with fail
 refine Reg2.qX 13 49 [[],[ae],[ae,ae],[ae,ae,ae],[af,af,af,af],[af,af,af,af,ae],[af,af,af,af,ae,ae],[af,af,af,af,ae,ae,ae],[ae,ae,ae,ae,ae,ae,ae,ae],[ae,ae,ae,ae,ae,ae,ae,ae,ae],[ae,ae,ae,ae,ae,ae,ae,ae,ae,ae],[ae,ae,ae,ae,ae,ae,ae,ae,ae,ae,af],[ae,ae,ae,ae,ae,ae,ae,ae,ae,ae,ae,af]] [0, 0, 0, 2, 0, 0, 0, 2, 3, 0, 0, 0, 0]
  [.pure, .pure, .pure, .pinned Unit () (fun _ => .pointer (some ⟨t, 0, none⟩)) (fun _ _ => True), .pure, .pure, .pure, .pinned Unit () (fun _ => .agg cR.toArray) (fun _ _ => True), .major Unit () (fun _ => .tuple #[.int .i64 Oz, .int .i64 se]), .pure, .pure, .pure, .pure]
  (fun _ => True) (fun vs W => match vs with | [] => Below w1.heap.size w1 W | _ :: _ => (gI w b c t d p v g a m R (aj M)) W) (fun _ _ => True) (by kernel_rfl) (by kernel_rfl) rfl rfl (fun vs a b h hs => by cases vs with | nil => exact Below.trans hs (h.mono (Below.size hs)) | cons v vs => exact gI.ext a b h hs) ?_ ?_ ?_ ?_ ?_ ?_
 ·intro a b he hb; trivial
 ·intro a b he hb; trivial
 ·exact ⟨trivial, trivial, trivial, ⟨fun _ _ _ _ _ => trivial, fun _ _ _ _ _ => trivial⟩, trivial, trivial, trivial, ⟨fun _ _ _ _ _ => trivial, fun _ _ _ _ _ => trivial⟩, trivial, trivial, trivial, trivial, trivial, trivial⟩
 ·trivial
 ·exact ⟨rfl, rfl, rfl, Nat.le_refl _, fun _ _ => rfl⟩
 dsimp only [Reg2.mk, List.zip, List.zipWith, List.take]
 repeat (refine' Reg2.ai _ (by rfl) (fun wz => ?_) ?_; rotate_left; (go_simp; first | rfl | rw [if_neg (by omega)]); simp only [Act.put, xA, xB, xC]; (try simp only [xD]); (try simp only [xE]); (try simp only [id]))
 refine Reg2.pp (fun wz _ hI hF => ?_) (fun r3 => ?_) (by rfl)
 ·have c0 := (hS1.out.cw.kept hI).c0
  go_wp2_with fail
  first | exact ⟨_, rfl, rfl, Reg2.Ext.refl _⟩ | exact ⟨_, rfl, ⟨(), rfl, trivial⟩, Reg2.Ext.refl _⟩
 simp only [Act.put, xA, xB, xC]; (try simp only [xD]); (try simp only [xE]); (try simp only [id])
 repeat (refine' Reg2.ai _ (by rfl) (fun wz => ?_) ?_; rotate_left; (go_simp; first | rfl | rw [if_neg (by omega)]); simp only [Act.put, xA, xB, xC]; (try simp only [xD]); (try simp only [xE]); (try simp only [id]))
 refine Reg2.pp (fun wz _ hI hF => ?_) (fun r7 => ?_) (by rfl)
 ·have d0 := LG.out wz (hb1.trans (Below.mono hI hb1.size))
  go_wp2_with fail
  first | exact ⟨_, rfl, rfl, Reg2.Ext.refl _⟩ | exact ⟨_, rfl, ⟨(), rfl, trivial⟩, Reg2.Ext.refl _⟩
 simp only [Act.put, xA, xB, xC]; (try simp only [xD]); (try simp only [xE]); (try simp only [id])
 refine Reg2.pj (fun wz _ hI hF => ?_) (fun r8 => ?_) (by rfl)
 ·go_wp2_with (go_at_call 134; go_must (refine (hsub wz (hb1.trans (Below.mono hI hb1.size))).mono ?_); rintro e w' ⟨rfl, v4, g4, nU, bC⟩)
  have hpost : gI w b c t d p v g a m R (aj M) w' := ⟨v4, g4, (hS1.out.kept hI).core nU bC, (WS.of_below (hb1.trans (Below.mono hI hb1.size))).trans (WS.bZ bC)⟩
  exact ⟨_, rfl, ⟨⟨(), rfl⟩, hpost⟩, trivial⟩
 simp only [Act.put, xA, xB, xC]; (try simp only [xD]); (try simp only [xE]); (try simp only [id])
 repeat (refine' Reg2.ai _ (by rfl) (fun wz => ?_) ?_; rotate_left; (go_simp; first | rfl | rw [if_neg (by omega)]); simp only [Act.put, xA, xB, xC]; (try simp only [xD]); (try simp only [xE]); (try simp only [id]))
 refine Reg2.az ?_
 intro w7 _ qQ jR
 clear jR
 dsimp only [List.drop]
 obtain ⟨v7, g7, fT, xn⟩ : gI w b c t d p v g a m R (aj M) w7 := qQ
 have hf := gV fT.wk se
 go_wp2_with (go_at_call 67; go_must (refine hf.mono ?_); rintro e w9 ⟨rfl, jM, Oy⟩)
 go_ret
 exact ⟨rfl, v7, g7, fT.work jM Oy, xn.trans (WS.bu Oy)⟩
theorem Ar (h : SW w b c t d p v g a m R (aj M)) (hk : PK (aj M)) (hw : lT M.dr.length R.ag = 0) (hE : iH M.L R.ag = 0) (hh : R.ag.held = true) :
  Calls Tryz.prog 117 #[.pointer (some ⟨b, 0, none⟩), .pointer (some ⟨c, 0, none⟩)] w (au w b c t d p v g a m .nilFunc { R with rep := iB (bR M (toW R.ag)), aA := bR M (toW R.ag) } (aj { M with L := M.L ++ [bR M (toW R.ag)] })) := by
 have zR := kE
 have zJ := bB
 obtain ⟨k9, bY⟩ : ∃ k, k = 9 := ⟨_, rfl⟩
 obtain ⟨k, hkk⟩ : ∃ k, k = 10 := ⟨_, rfl⟩
 rw [← bY] at zR
 rw [← hkk] at zJ
 have hk0 : ¬ k9 = 0 := by omega
 have hk1 : ¬ k = 0 := by omega
 have lR := iq R.ag
 rw [← bY] at lR
 replace bY := Lib.hid bY
 replace hkk := Lib.hid hkk
 have hS := Lib.hid h
 have p8 := h.wk.l8 lR
 have LG : Hid (∀ W, Below w.heap.size w W → Sem.run Tryz.prog (loadCellsFrom ⟨b, 0, none⟩ 0 k9 #[]) W = .ok (encR R.ag).toArray W) := fun W hW => (h.kept hW).wk.l8 lR
 have qE := tJ h.cw hk.pW R.ag
 have hsub := fun (W : World) (hW : Below w.heap.size w W) => ow (h.kept hW).cw hk R.ag
 have hn : (aj M).T.length = M.dr.length := bq
 rw [hn] at qE
 replace hn := Lib.hid hn
 generalize encR R.ag = cR at *
 rw [hw] at qE
 unfold dY at hsub
 obtain ⟨Oz, p9⟩ : ∃ x, x = kG (aj M).J R.ag := ⟨_, rfl⟩
 obtain ⟨se, hse⟩ : ∃ x, x = iH (aj M).J R.ag := ⟨_, rfl⟩
 rw [← p9, ← hse] at hsub
 have hL : om (aj M).J R.ag = M.L ++ [bR M (toW R.ag)] := by
  have hE2 := hE
  unfold iH at hE2
  show om M.L R.ag = _
  unfold om
  split
  ·rename_i h1; rw [if_pos h1] at hE2; omega
  ·rename_i h1
   rw [if_neg h1] at hE2
   split
   ·rename_i h2; rw [if_pos h2] at hE2; omega
   ·rfl
 have hI0 : kG (aj M).J R.ag = (M.L.length : Int) + 1 := by
  have hE2 := hE
  unfold iH at hE2
  show kG M.L R.ag = _
  unfold kG
  split
  ·rename_i h1; rw [if_pos h1] at hE2; omega
  ·rename_i h1
   rw [if_neg h1] at hE2
   split
   ·rename_i h2; rw [if_pos h2] at hE2; omega
   ·rfl
 obtain ⟨x, hx⟩ : ∃ x, x = bR M (toW R.ag) := ⟨_, rfl⟩
 have hxs : x.st = if R.ag.held then 2 else 1 := by rw [hx]; rfl
 have hxp : x.aK = -1 := by rw [hx]; rfl
 have hcore := Cu (M := M) x (by rw [hxs]; split <;> decide) (by unfold ak; rw [hxp]; simp)
 rw [hL, ← hx, show ({ aj M with J := M.L ++ [x] } : Pg) = aj { M with L := M.L ++ [x] } from hcore.symm] at hsub
 rw [← hx]
 have hget : bE (M.L ++ [x]) ((M.L.length : Int) + 1) = x := by
  unfold bE
  rw [if_neg (by omega), if_neg (by simp), show ((M.L.length : Int) + 1 - 1).toNat = M.L.length by omega]
  simp
 have Gn : se = 0 := hse.trans hE
 have I8 : Oz = (M.L.length : Int) + 1 := p9.trans hI0
 subst Gn
 subst I8
 replace p9 := Lib.hid p9
 replace hse := Lib.hid hse
 replace hL := Lib.hid hL
 replace hx := Lib.hid hx
 replace hcore := Lib.hid hcore
 replace hI0 := Lib.hid hI0
 clear h
 rw [hh] at hxs
 replace hxs : x.st = 2 := hxs
 go_enter Tryz.func117, Tryz.ntmps117
 go_wp2_with fail
 go_at_call 30
 refine qE.mono ?_
 clear qE p8
 rintro e w1 ⟨rfl, hb1⟩
 have hS1 := Lib.hid (hS.out.kept hb1)
 go_wp2_with fail
 refine Reg2.qX 13 49 [[],[ae],[ae,ae],[ae,ae,ae],[af,af,af,af],[af,af,af,af,ae],[af,af,af,af,ae,ae],[af,af,af,af,ae,ae,ae],[ae,ae,ae,ae,ae,ae,ae,ae],[ae,ae,ae,ae,ae,ae,ae,ae,ae],[ae,ae,ae,ae,ae,ae,ae,ae,ae,ae],[ae,ae,ae,ae,ae,ae,ae,ae,ae,ae,af],[ae,ae,ae,ae,ae,ae,ae,ae,ae,ae,ae,af]] [0, 0, 0, 2, 0, 0, 0, 2, 3, 0, 0, 0, 0]
  [.pure, .pure, .pure, .pinned Unit () (fun _ => .pointer (some ⟨t, 0, none⟩)) (fun _ _ => True), .pure, .pure, .pure, .pinned Unit () (fun _ => .agg cR.toArray) (fun _ _ => True), .major Unit () (fun _ => .tuple #[.int .i64 ((M.L.length : Int) + 1), .int .i64 0]), .pure, .pure, .pure, .pure]
  (fun _ => True) (fun vs W => match vs with | [] => Below w1.heap.size w1 W | _ :: _ => (gI w b c t d p v g a m R (aj { M with L := M.L ++ [x] })) W) (fun _ _ => True) (by kernel_rfl) (by kernel_rfl) rfl rfl (fun vs a b h hs => by cases vs with | nil => exact Below.trans hs (h.mono (Below.size hs)) | cons v vs => exact gI.ext a b h hs) ?_ ?_ ?_ ?_ ?_ ?_
 ·intro a b he hb; trivial
 ·intro a b he hb; trivial
 ·exact ⟨trivial, trivial, trivial, ⟨fun _ _ _ _ _ => trivial, fun _ _ _ _ _ => trivial⟩, trivial, trivial, trivial, ⟨fun _ _ _ _ _ => trivial, fun _ _ _ _ _ => trivial⟩, trivial, trivial, trivial, trivial, trivial, trivial⟩
 ·trivial
 ·exact ⟨rfl, rfl, rfl, Nat.le_refl _, fun _ _ => rfl⟩
 dsimp only [Reg2.mk, List.zip, List.zipWith, List.take]
 repeat (refine' Reg2.ai _ (by rfl) (fun wz => ?_) ?_; rotate_left; (go_simp; first | rfl | rw [if_neg (by omega)]); simp only [Act.put, xA, xB, xC]; (try simp only [xD]); (try simp only [xE]); (try simp only [id]))
 refine Reg2.pp (fun wz _ hI hF => ?_) (fun r3 => ?_) (by rfl)
 ·have c0 := (hS1.out.cw.kept hI).c0
  go_wp2_with fail
  first | exact ⟨_, rfl, rfl, Reg2.Ext.refl _⟩ | exact ⟨_, rfl, ⟨(), rfl, trivial⟩, Reg2.Ext.refl _⟩
 simp only [Act.put, xA, xB, xC]; (try simp only [xD]); (try simp only [xE]); (try simp only [id])
 repeat (refine' Reg2.ai _ (by rfl) (fun wz => ?_) ?_; rotate_left; (go_simp; first | rfl | rw [if_neg (by omega)]); simp only [Act.put, xA, xB, xC]; (try simp only [xD]); (try simp only [xE]); (try simp only [id]))
 refine Reg2.pp (fun wz _ hI hF => ?_) (fun r7 => ?_) (by rfl)
 ·have d0 := LG.out wz (hb1.trans (Below.mono hI hb1.size))
  go_wp2_with fail
  first | exact ⟨_, rfl, rfl, Reg2.Ext.refl _⟩ | exact ⟨_, rfl, ⟨(), rfl, trivial⟩, Reg2.Ext.refl _⟩
 simp only [Act.put, xA, xB, xC]; (try simp only [xD]); (try simp only [xE]); (try simp only [id])
 refine Reg2.pj (fun wz _ hI hF => ?_) (fun r8 => ?_) (by rfl)
 ·go_wp2_with (go_at_call 134; go_must (refine (hsub wz (hb1.trans (Below.mono hI hb1.size))).mono ?_); rintro e w' ⟨rfl, v4, g4, nU, bC⟩)
  have hpost : gI w b c t d p v g a m R (aj { M with L := M.L ++ [x] }) w' := ⟨v4, g4, (hS1.out.kept hI).core nU bC, (WS.of_below (hb1.trans (Below.mono hI hb1.size))).trans (WS.bZ bC)⟩
  exact ⟨_, rfl, ⟨⟨(), rfl⟩, hpost⟩, trivial⟩
 simp only [Act.put, xA, xB, xC]; (try simp only [xD]); (try simp only [xE]); (try simp only [id])
 repeat (refine' Reg2.ai _ (by rfl) (fun wz => ?_) ?_; rotate_left; (go_simp; first | rfl | rw [if_neg (by omega)]); simp only [Act.put, xA, xB, xC]; (try simp only [xD]); (try simp only [xE]); (try simp only [id]))
 refine Reg2.az ?_
 intro w7 _ qQ jR
 clear jR
 dsimp only [List.drop]
 obtain ⟨v7, g7, fT, xn⟩ : gI w b c t d p v g a m R (aj { M with L := M.L ++ [x] }) w7 := qQ
 have jN := mX fT ((M.L.length : Int) + 1)
 rw [show (aj { M with L := M.L ++ [x] }).J = M.L ++ [x] from rfl, hget] at jN
 go_wp2_with fail
 go_at_call 112
 refine jN.mono ?_
 clear jN
 rintro e w8 ⟨rfl, dH, fB⟩
 have fQ := fT.work dH fB
 have OA := xn.trans (WS.bu fB)
 obtain ⟨TE, jM⟩ := dH.rW x
 have lJ := ax x
 rw [← hkk.out] at lJ
 have fC := fQ.work jM (cu w8 _)
 have hfin := OA.trans (WS.bu (cu w8 (fH { ({ R with rep := iB x } : Wk) with aA := x }).toArray))
 have c17 := jM.at 17 (.int .i64 2) (by rw [← hxs]; rfl)
 generalize fH { ({ R with rep := iB x } : Wk) with aA := x } = W9 at *
 generalize ah x = cJ at *
 go_wp2_with fail
 go_ret
 exact ⟨rfl, v7, g7, fC, hfin⟩
theorem Gp (h : SW w b c t d p v g a m R (aj M)) (hk : PK (aj M)) (hw : lT M.dr.length R.ag = 0) (hE : iH M.L R.ag = 0) (hh : R.ag.held = false) :
  Calls Tryz.prog 117 #[.pointer (some ⟨b, 0, none⟩), .pointer (some ⟨c, 0, none⟩)] w (au w b c t d p v g a m (eU 135) { R with rep := iB (bR M (toW R.ag)), aA := bR M (toW R.ag) } (aj { M with L := M.L ++ [bR M (toW R.ag)] })) := by
 have zR := kE
 have zJ := bB
 obtain ⟨k9, bY⟩ : ∃ k, k = 9 := ⟨_, rfl⟩
 obtain ⟨k, hkk⟩ : ∃ k, k = 10 := ⟨_, rfl⟩
 rw [← bY] at zR
 rw [← hkk] at zJ
 have hk0 : ¬ k9 = 0 := by omega
 have hk1 : ¬ k = 0 := by omega
 have lR := iq R.ag
 rw [← bY] at lR
 replace bY := Lib.hid bY
 replace hkk := Lib.hid hkk
 have hS := Lib.hid h
 have p8 := h.wk.l8 lR
 have LG : Hid (∀ W, Below w.heap.size w W → Sem.run Tryz.prog (loadCellsFrom ⟨b, 0, none⟩ 0 k9 #[]) W = .ok (encR R.ag).toArray W) := fun W hW => (h.kept hW).wk.l8 lR
 have qE := tJ h.cw hk.pW R.ag
 have hsub := fun (W : World) (hW : Below w.heap.size w W) => ow (h.kept hW).cw hk R.ag
 have hn : (aj M).T.length = M.dr.length := bq
 rw [hn] at qE
 replace hn := Lib.hid hn
 generalize encR R.ag = cR at *
 rw [hw] at qE
 unfold dY at hsub
 obtain ⟨Oz, p9⟩ : ∃ x, x = kG (aj M).J R.ag := ⟨_, rfl⟩
 obtain ⟨se, hse⟩ : ∃ x, x = iH (aj M).J R.ag := ⟨_, rfl⟩
 rw [← p9, ← hse] at hsub
 have hL : om (aj M).J R.ag = M.L ++ [bR M (toW R.ag)] := by
  have hE2 := hE
  unfold iH at hE2
  show om M.L R.ag = _
  unfold om
  split
  ·rename_i h1; rw [if_pos h1] at hE2; omega
  ·rename_i h1
   rw [if_neg h1] at hE2
   split
   ·rename_i h2; rw [if_pos h2] at hE2; omega
   ·rfl
 have hI0 : kG (aj M).J R.ag = (M.L.length : Int) + 1 := by
  have hE2 := hE
  unfold iH at hE2
  show kG M.L R.ag = _
  unfold kG
  split
  ·rename_i h1; rw [if_pos h1] at hE2; omega
  ·rename_i h1
   rw [if_neg h1] at hE2
   split
   ·rename_i h2; rw [if_pos h2] at hE2; omega
   ·rfl
 obtain ⟨x, hx⟩ : ∃ x, x = bR M (toW R.ag) := ⟨_, rfl⟩
 have hxs : x.st = if R.ag.held then 2 else 1 := by rw [hx]; rfl
 have hxp : x.aK = -1 := by rw [hx]; rfl
 have hcore := Cu (M := M) x (by rw [hxs]; split <;> decide) (by unfold ak; rw [hxp]; simp)
 rw [hL, ← hx, show ({ aj M with J := M.L ++ [x] } : Pg) = aj { M with L := M.L ++ [x] } from hcore.symm] at hsub
 rw [← hx]
 have hget : bE (M.L ++ [x]) ((M.L.length : Int) + 1) = x := by
  unfold bE
  rw [if_neg (by omega), if_neg (by simp), show ((M.L.length : Int) + 1 - 1).toNat = M.L.length by omega]
  simp
 have Gn : se = 0 := hse.trans hE
 have I8 : Oz = (M.L.length : Int) + 1 := p9.trans hI0
 subst Gn
 subst I8
 replace p9 := Lib.hid p9
 replace hse := Lib.hid hse
 replace hL := Lib.hid hL
 replace hx := Lib.hid hx
 replace hcore := Lib.hid hcore
 replace hI0 := Lib.hid hI0
 clear h
 rw [hh] at hxs
 replace hxs : x.st = 1 := hxs
 go_enter Tryz.func117, Tryz.ntmps117
 go_wp2_with fail
 go_at_call 30
 refine qE.mono ?_
 clear qE p8
 rintro e w1 ⟨rfl, hb1⟩
 have hS1 := Lib.hid (hS.out.kept hb1)
 go_wp2_with fail
 refine Reg2.qX 13 49 [[],[ae],[ae,ae],[ae,ae,ae],[af,af,af,af],[af,af,af,af,ae],[af,af,af,af,ae,ae],[af,af,af,af,ae,ae,ae],[ae,ae,ae,ae,ae,ae,ae,ae],[ae,ae,ae,ae,ae,ae,ae,ae,ae],[ae,ae,ae,ae,ae,ae,ae,ae,ae,ae],[ae,ae,ae,ae,ae,ae,ae,ae,ae,ae,af],[ae,ae,ae,ae,ae,ae,ae,ae,ae,ae,ae,af]] [0, 0, 0, 2, 0, 0, 0, 2, 3, 0, 0, 0, 0]
  [.pure, .pure, .pure, .pinned Unit () (fun _ => .pointer (some ⟨t, 0, none⟩)) (fun _ _ => True), .pure, .pure, .pure, .pinned Unit () (fun _ => .agg cR.toArray) (fun _ _ => True), .major Unit () (fun _ => .tuple #[.int .i64 ((M.L.length : Int) + 1), .int .i64 0]), .pure, .pure, .pure, .pure]
  (fun _ => True) (fun vs W => match vs with | [] => Below w1.heap.size w1 W | _ :: _ => (gI w b c t d p v g a m R (aj { M with L := M.L ++ [x] })) W) (fun _ _ => True) (by kernel_rfl) (by kernel_rfl) rfl rfl (fun vs a b h hs => by cases vs with | nil => exact Below.trans hs (h.mono (Below.size hs)) | cons v vs => exact gI.ext a b h hs) ?_ ?_ ?_ ?_ ?_ ?_
 ·intro a b he hb; trivial
 ·intro a b he hb; trivial
 ·exact ⟨trivial, trivial, trivial, ⟨fun _ _ _ _ _ => trivial, fun _ _ _ _ _ => trivial⟩, trivial, trivial, trivial, ⟨fun _ _ _ _ _ => trivial, fun _ _ _ _ _ => trivial⟩, trivial, trivial, trivial, trivial, trivial, trivial⟩
 ·trivial
 ·exact ⟨rfl, rfl, rfl, Nat.le_refl _, fun _ _ => rfl⟩
 dsimp only [Reg2.mk, List.zip, List.zipWith, List.take]
 repeat (refine' Reg2.ai _ (by rfl) (fun wz => ?_) ?_; rotate_left; (go_simp; first | rfl | rw [if_neg (by omega)]); simp only [Act.put, xA, xB, xC]; (try simp only [xD]); (try simp only [xE]); (try simp only [id]))
 refine Reg2.pp (fun wz _ hI hF => ?_) (fun r3 => ?_) (by rfl)
 ·have c0 := (hS1.out.cw.kept hI).c0
  go_wp2_with fail
  first | exact ⟨_, rfl, rfl, Reg2.Ext.refl _⟩ | exact ⟨_, rfl, ⟨(), rfl, trivial⟩, Reg2.Ext.refl _⟩
 simp only [Act.put, xA, xB, xC]; (try simp only [xD]); (try simp only [xE]); (try simp only [id])
 repeat (refine' Reg2.ai _ (by rfl) (fun wz => ?_) ?_; rotate_left; (go_simp; first | rfl | rw [if_neg (by omega)]); simp only [Act.put, xA, xB, xC]; (try simp only [xD]); (try simp only [xE]); (try simp only [id]))
 refine Reg2.pp (fun wz _ hI hF => ?_) (fun r7 => ?_) (by rfl)
 ·have d0 := LG.out wz (hb1.trans (Below.mono hI hb1.size))
  go_wp2_with fail
  first | exact ⟨_, rfl, rfl, Reg2.Ext.refl _⟩ | exact ⟨_, rfl, ⟨(), rfl, trivial⟩, Reg2.Ext.refl _⟩
 simp only [Act.put, xA, xB, xC]; (try simp only [xD]); (try simp only [xE]); (try simp only [id])
 refine Reg2.pj (fun wz _ hI hF => ?_) (fun r8 => ?_) (by rfl)
 ·go_wp2_with (go_at_call 134; go_must (refine (hsub wz (hb1.trans (Below.mono hI hb1.size))).mono ?_); rintro e w' ⟨rfl, v4, g4, nU, bC⟩)
  have hpost : gI w b c t d p v g a m R (aj { M with L := M.L ++ [x] }) w' := ⟨v4, g4, (hS1.out.kept hI).core nU bC, (WS.of_below (hb1.trans (Below.mono hI hb1.size))).trans (WS.bZ bC)⟩
  exact ⟨_, rfl, ⟨⟨(), rfl⟩, hpost⟩, trivial⟩
 simp only [Act.put, xA, xB, xC]; (try simp only [xD]); (try simp only [xE]); (try simp only [id])
 repeat (refine' Reg2.ai _ (by rfl) (fun wz => ?_) ?_; rotate_left; (go_simp; first | rfl | rw [if_neg (by omega)]); simp only [Act.put, xA, xB, xC]; (try simp only [xD]); (try simp only [xE]); (try simp only [id]))
 refine Reg2.az ?_
 intro w7 _ qQ jR
 clear jR
 dsimp only [List.drop]
 obtain ⟨v7, g7, fT, xn⟩ : gI w b c t d p v g a m R (aj { M with L := M.L ++ [x] }) w7 := qQ
 have jN := mX fT ((M.L.length : Int) + 1)
 rw [show (aj { M with L := M.L ++ [x] }).J = M.L ++ [x] from rfl, hget] at jN
 go_wp2_with fail
 go_at_call 112
 refine jN.mono ?_
 clear jN
 rintro e w8 ⟨rfl, dH, fB⟩
 have fQ := fT.work dH fB
 have OA := xn.trans (WS.bu fB)
 obtain ⟨TE, jM⟩ := dH.rW x
 have lJ := ax x
 rw [← hkk.out] at lJ
 have fC := fQ.work jM (cu w8 _)
 have hfin := OA.trans (WS.bu (cu w8 (fH { ({ R with rep := iB x } : Wk) with aA := x }).toArray))
 have c17 := jM.at 17 (.int .i64 1) (by rw [← hxs]; rfl)
 generalize fH { ({ R with rep := iB x } : Wk) with aA := x } = W9 at *
 generalize ah x = cJ at *
 go_wp2_with fail
 go_ret
 exact ⟨rfl, v7, g7, fC, hfin⟩
end
end Go.Proofs.YtkhfejihijdipaaGreat

namespace Go.Proofs.YtkhfejihijdipaaGreat
open Go.RowKit Go.Lib Go.Sort
section
variable {w : World} {b c t d p g a : Nat} {v : Value} {m : Int} {P : Pg} {R : Wk}
theorem SW.drew (h : SW w b c t d p v g a m R P) : SW w.drew b c t d p v g a m R P := h.kept (Below.refl _ _).drew
theorem WS.xq {w1 : World} {v1 : Value} {g1 : Nat} (h : WS w.drew w1 b c t d p v g v1 g1) : WS w w1 b c t d p v g v1 g1 := (WS.of_below (Below.refl _ _).drew).trans h
theorem CW.RI (h : CW w c t d p v g a m P) (F : Int → Int) (hf : ∀ t, P.now ≤ t → P.f t = F t) : CW w c t d p v g a m { P with f := F } := by
 obtain ⟨S, aH, hp, hC, hrest⟩ := h.kN
 exact ⟨h.cell, h.dW, h.nodes, S, aH, hp, hC.congr hf, hrest⟩
theorem LH (h : SW w b c t d p v g a m R P) (hk : PK P) (hr : R.aA.st = 3) (hn : 0 ≤ R.aA.bF ∧ R.aA.bF ≤ 18446744073709551615) :
  Calls Tryz.prog 137 #[.pointer (some ⟨b, 0, none⟩), .pointer (some ⟨c, 0, none⟩)] w fun e w' => ∃ (n x : Int) (T' : List Int), z8 P.T R.aA.bF.toNat n x T' ∧ au w b c t d p v g a m (eU 139) { R with idle := n } { P with T := T' } e w' := by
 have hS := Lib.hid h
 have hg := Cm h.drew.cw hk R.aA.bF.toNat (by omega)
 rw [show ((R.aA.bF.toNat : Nat) : Int) = R.aA.bF by omega] at hg
 have c17 := h.wk.at 17 (.int .i64 R.aA.st) rfl
 have c21 := h.wk.at 21 (.int .u64 R.aA.bF) rfl
 have c1 := h.cw.c1
 rw [hr] at c17
 replace hn := Lib.hid hn
 clear h
 go_enter Tryz.func137, Tryz.ntmps137
 go_wp2_with fail
 go_region_with (go_at_call 169; go_must (refine hg.mono ?_); rintro e w' ⟨n, x, T', hG, hL, rfl, v4, g4, nU, bC⟩; have fQ := hS.out.drew.core nU bC; have a22 := fQ.wk.at 22 (.int .i64 R.idle) rfl; have f22 := fQ.wk.free 22)
 all_goals
  have jM := fQ.wk.idle n
  have fC := fQ.work jM (bV w' 22 (.int .i64 n))
  have hfin := ((WS.bZ bC : WS w.drew w' b c t d p v g v4 g4).trans (WS.bu (bV w' 22 (.int .i64 n)))).xq
  go_wp2_with fail
  go_ret
  exact ⟨n, x, T', hG, rfl, v4, g4, fC, hfin⟩
theorem OB (h : SW w b c t d p v g a m R P) (hr : R.aA.st ≠ 3) :
  Calls Tryz.prog 137 #[.pointer (some ⟨b, 0, none⟩), .pointer (some ⟨c, 0, none⟩)] w (au w b c t d p v g a m (eU 139) R P) := by
 have c17 := h.wk.at 17 (.int .i64 R.aA.st) rfl
 have d0 : (R.aA.st == 3) = false := by simp [hr]
 generalize R.aA.st = s at *
 go_enter Tryz.func137, Tryz.ntmps137
 go_wp2_with fail
 go_ret
 exact ⟨rfl, v, g, h, WS.refl _⟩
theorem El (h : SW w b c t d p v g a m R P) (hk : PK P) (ha : a ≤ 800) (hm : m ≤ 1000000) (hP : ak R.aA = true) (hb1 : R.aA.aK ≤ 1099511627776) (hb2 : 0 ≤ R.aA.lim ∧ R.aA.lim ≤ 1048576) (hb3 : 1 ≤ R.aA.lim) (hb4 : 0 ≤ R.aA.wid ∧ R.aA.wid ≤ 64) (F : Int → Int)
  (hF : ∀ t, P.now ≤ t → F t = P.f t + had (max R.aA.aK P.now) (R.aA.aK + R.aA.lim) R.aA.wid t) (hr : ∀ t, P.now ≤ t → 0 ≤ F t ∧ F t ≤ 64) :
  Calls Tryz.prog 139 #[.pointer (some ⟨b, 0, none⟩), .pointer (some ⟨c, 0, none⟩)] w (au w b c t d p v g (a + 2) (m + 1) .nilFunc R { P with f := F }) := by
 have zJ := bB
 have zS := jQ
 obtain ⟨k, hk1⟩ : ∃ k, k = 10 := ⟨_, rfl⟩
 obtain ⟨k3, hk3⟩ : ∃ k, k = 3 := ⟨_, rfl⟩
 rw [← hk1] at zJ
 rw [← hk3] at zS
 have hk0 : ¬ k = 0 := by omega
 have yu : ¬ k3 = 0 := by omega
 have lJ := ax R.aA
 rw [← hk1] at lJ
 replace hk1 := Lib.hid hk1
 have hS := Lib.hid h
 have p8 := h.wk.l9 lJ
 have hpl := kr (w := w) R.aA hb1 hb2
 have lS : (aJ R.aA).length = 3 := by unfold aJ; split <;> rfl
 have oS : ∀ u ∈ aJ R.aA, u.oneCell' = true := by unfold aJ; split <;> (intro u hu; simp at hu; rcases hu with rfl | rfl | rfl <;> rfl)
 have ST : Hid (∀ W : World, Sem.run Tryz.prog (storeCells ⟨W.heap.size, 0, none⟩ (aJ R.aA) 0) (W.alloc (.cells #[.int .i64 0, .int .i64 0, .int .i64 0] 97)) = .ok () (W.alloc (.cells (aJ R.aA).toArray 97))) := fun W => cz W W.heap.size (aJ R.aA) [.int .i64 0, .int .i64 0, .int .i64 0] 97 rfl lS oS
 rw [← hk3] at lS
 replace hk3 := Lib.hid hk3
 have hst : ∀ W, SW W b c t d p v g a m R P → W.cell? ⟨b, 17, none⟩ = some (.int .i64 R.aA.st) := fun W hW => hW.wk.at 17 (.int .i64 R.aA.st) rfl
 generalize kv : aJ R.aA = cS at *
 replace kv := Lib.hid kv
 generalize ah R.aA = cJ at *
 clear h
 have BH : R.aA.st = 1 := (aY.1 hP).1
 rw [BH] at hst
 have kW : cS = [.int .i64 R.aA.aK, .int .i64 (R.aA.aK + R.aA.lim), .int .i64 R.aA.wid] := by rw [← kv.out]; unfold aJ; rw [if_pos hP]
 rw [hP] at hpl
 replace hP := Lib.hid hP
 replace BH := Lib.hid BH
 replace kW := Lib.hid kW
 replace hst := Lib.hid hst
 go_enter Tryz.func139, Tryz.ntmps139
 go_wp2_with fail
 go_at_call 68
 refine hpl.mono ?_
 clear hpl p8
 rintro e w1 ⟨rfl, hb⟩
 have st1 := ST.out w1
 obtain ⟨w2, hw2⟩ : ∃ w2, w2 = w1.alloc (.cells cS.toArray 97) := ⟨_, rfl⟩
 rw [← hw2] at st1
 have hb2' : Below w.heap.size w w2 := by rw [hw2]; exact hb.alloc hb.size _
 have hy2 : Hid (w2.heap[w1.heap.size]? = some (.cells cS.toArray 97 (0, 0))) := by show _ = _; rw [hw2]; exact heap_alloc_new w1 _
 have hs2 : w2.heap.size = w1.heap.size + 1 := by rw [hw2]; simp
 replace hw2 := Lib.hid hw2
 have hS2 := Lib.hid (hS.out.kept hb2')
 go_wp2_with fail
 refine Reg2.rd w2 5 47 [[],[ae],[ae,ae],[ae,ae,ae],[af,af,af,af]] [0, 0, 0, 1, 1] [.pure, .pure, .pure, .mU (.pointer (some ⟨p, 0, none⟩)), .mU (.agg cS.toArray)] (by kernel_rfl) (by kernel_rfl) rfl rfl ⟨trivial, trivial, trivial, Reg2.tt, Reg2.tt, trivial⟩ ⟨rfl, rfl, rfl, Nat.le_refl _, fun _ _ => rfl⟩ ?_
 dsimp only [Reg2.mk, List.zip, List.zipWith, List.take]
 repeat (refine' Reg2.ai _ (by rfl) (fun wz => ?_) ?_; rotate_left; (go_simp; first | rfl | rw [if_neg (by omega)]); simp only [Act.put, xA, xB, xC]; (try simp only [xD]); (try simp only [xE]); (try simp only [id]))
 refine Reg2.pm (fun wz hI hF => ?_) (fun r3 => ?_) (by rfl)
 ·have c0 := (hS2.out.cw.kept hI).c2
  go_wp2_with fail
  first | exact ⟨_, rfl, rfl, Reg2.Ext.refl _⟩ | exact ⟨_, rfl, ⟨(), rfl, trivial⟩, Reg2.Ext.refl _⟩
 simp only [Act.put, xA, xB, xC]; (try simp only [xD]); (try simp only [xE]); (try simp only [id])
 refine Reg2.pm (fun wz hI hF => ?_) (fun r4 => ?_) (by rfl)
 ·have d0 := eX ((hI.block _ (aG hy2.out)).trans hy2.out) lS
  go_wp2_with fail
  first | exact ⟨_, rfl, rfl, Reg2.Ext.refl _⟩ | exact ⟨_, rfl, ⟨(), rfl, trivial⟩, Reg2.Ext.refl _⟩
 simp only [Act.put, xA, xB, xC]; (try simp only [xD]); (try simp only [xE]); (try simp only [id])
 refine Reg2.az ?_
 intro w4 HI4 _ eu
 clear eu
 dsimp only [List.drop]
 have bC := hS2.out.kept HI4
 have hrel := rT bC.cw hk ha hm R.aA.aK (R.aA.aK + R.aA.lim) R.aA.wid F (by omega) (by omega) hb4 hF hr
 have Gq := kW.out
 clear kv kW
 subst Gq
 go_wp2_with fail
 go_at_call 124
 refine hrel.mono ?_
 clear hrel
 rintro e w5 ⟨rfl, v5, g5, fZ, hS5⟩
 have dP := bC.core fZ hS5
 have hfin := (WS.of_below (hb2'.trans (HI4.mono hb2'.size)) : WS w w4 b c t d p v g v g).trans (WS.bZ hS5)
 have c17 := dP.wk.at 17 (.int .i64 R.aA.st) rfl
 rw [BH.out] at c17
 go_wp2_with fail
 go_ret
 exact ⟨rfl, v5, g5, dP, hfin⟩
theorem Gs (h : SW w b c t d p v g a m R P) (hk : PK P) (ha : a ≤ 800) (hm : m ≤ 1000000) (hP : R.aA.st = 3) (hb1 : R.aA.aK ≤ 1099511627776) (hb2 : 0 ≤ R.aA.lim ∧ R.aA.lim ≤ 1048576) (hb3 : P.now < R.aA.fin ∧ R.aA.fin ≤ 1099512676352) (hb4 : -64 ≤ R.idle ∧ R.idle ≤ 64) (F : Int → Int)
  (hF : ∀ t, P.now ≤ t → F t = P.f t + had (max P.now P.now) R.aA.fin R.idle t) (hr : ∀ t, P.now ≤ t → 0 ≤ F t ∧ F t ≤ 64) :
  Calls Tryz.prog 139 #[.pointer (some ⟨b, 0, none⟩), .pointer (some ⟨c, 0, none⟩)] w (au w b c t d p v g (a + 2) (m + 1) .nilFunc R { P with f := F }) := by
 have zJ := bB
 have zS := jQ
 obtain ⟨k, hk1⟩ : ∃ k, k = 10 := ⟨_, rfl⟩
 obtain ⟨k3, hk3⟩ : ∃ k, k = 3 := ⟨_, rfl⟩
 rw [← hk1] at zJ
 rw [← hk3] at zS
 have hk0 : ¬ k = 0 := by omega
 have yu : ¬ k3 = 0 := by omega
 have lJ := ax R.aA
 rw [← hk1] at lJ
 replace hk1 := Lib.hid hk1
 have hS := Lib.hid h
 have p8 := h.wk.l9 lJ
 have hpl := kr (w := w) R.aA hb1 hb2
 have lS : (aJ R.aA).length = 3 := by unfold aJ; split <;> rfl
 have oS : ∀ u ∈ aJ R.aA, u.oneCell' = true := by unfold aJ; split <;> (intro u hu; simp at hu; rcases hu with rfl | rfl | rfl <;> rfl)
 have ST : Hid (∀ W : World, Sem.run Tryz.prog (storeCells ⟨W.heap.size, 0, none⟩ (aJ R.aA) 0) (W.alloc (.cells #[.int .i64 0, .int .i64 0, .int .i64 0] 97)) = .ok () (W.alloc (.cells (aJ R.aA).toArray 97))) := fun W => cz W W.heap.size (aJ R.aA) [.int .i64 0, .int .i64 0, .int .i64 0] 97 rfl lS oS
 rw [← hk3] at lS
 replace hk3 := Lib.hid hk3
 have hst : ∀ W, SW W b c t d p v g a m R P → W.cell? ⟨b, 17, none⟩ = some (.int .i64 R.aA.st) := fun W hW => hW.wk.at 17 (.int .i64 R.aA.st) rfl
 generalize kv : aJ R.aA = cS at *
 replace kv := Lib.hid kv
 generalize ah R.aA = cJ at *
 clear h
 have hno : ak R.aA = false := by unfold ak; rw [hP]; rfl
 rw [hP] at hst
 rw [hno] at hpl
 replace hP := Lib.hid hP
 replace hno := Lib.hid hno
 go_enter Tryz.func139, Tryz.ntmps139
 go_wp2_with fail
 go_at_call 68
 refine hpl.mono ?_
 clear hpl p8
 rintro e w1 ⟨rfl, hb⟩
 have st1 := ST.out w1
 obtain ⟨w2, hw2⟩ : ∃ w2, w2 = w1.alloc (.cells cS.toArray 97) := ⟨_, rfl⟩
 rw [← hw2] at st1
 have hb2' : Below w.heap.size w w2 := by rw [hw2]; exact hb.alloc hb.size _
 have hy2 : Hid (w2.heap[w1.heap.size]? = some (.cells cS.toArray 97 (0, 0))) := by show _ = _; rw [hw2]; exact heap_alloc_new w1 _
 have hs2 : w2.heap.size = w1.heap.size + 1 := by rw [hw2]; simp
 replace hw2 := Lib.hid hw2
 have hS2 := Lib.hid (hS.out.kept hb2')
 have c17 := hst w2 hS2.out
 replace hst := Lib.hid hst
 go_wp2_with fail
 refine Reg2.rd w2 18 47 [[],[ae],[ae,ae],[ae,ae,ae],[af,af,af,af],[af,af,af,af,ae],[af,af,af,af,ae,ae],[af,af,af,af,ae,ae,ae],[af,af,af,af,ae,ae,ae,ae],[af,af,af,af,af,af,af,af,af],[af,af,af,af,af,af,af,af,af,ae],[af,af,af,af,af,af,af,af,af,ae,ae],[af,af,af,af,af,af,af,af,af,ae,ae,ae],[af,af,af,af,af,af,af,af,af,ae,ae,ae,ae],[af,af,af,af,af,af,af,af,af,af,af,af,af,af],[af,af,af,af,af,af,af,af,af,af,af,af,af,af,ae],[af,af,af,af,af,af,af,af,af,af,af,af,af,af,ae,ae],[af,af,af,af,af,af,af,af,af,af,af,af,af,af,ae,ae,ae]] [0, 0, 0, 1, 0, 0, 0, 1, 1, 0, 0, 0, 0, 1, 0, 0, 0, 1] [.pure, .pure, .pure, .mU (.pointer (some ⟨p, 0, none⟩)), .pure, .pure, .pure, .mU (.pointer (some ⟨p, 0, none⟩)), .mU (.int .i64 P.now), .pure, .pure, .pure, .pure, .mU (.int .i64 R.aA.fin), .pure, .pure, .pure, .mU (.int .i64 R.idle)] (by kernel_rfl) (by kernel_rfl) rfl rfl ⟨trivial, trivial, trivial, Reg2.tt, trivial, trivial, trivial, Reg2.tt, Reg2.tt, trivial, trivial, trivial, trivial, Reg2.tt, trivial, trivial, trivial, Reg2.tt, trivial⟩ ⟨rfl, rfl, rfl, Nat.le_refl _, fun _ _ => rfl⟩ ?_
 dsimp only [Reg2.mk, List.zip, List.zipWith, List.take]
 repeat (refine' Reg2.ai _ (by rfl) (fun wz => ?_) ?_; rotate_left; (go_simp; first | rfl | rw [if_neg (by omega)]); simp only [Act.put, xA, xB, xC]; (try simp only [xD]); (try simp only [xE]); (try simp only [id]))
 refine Reg2.pm (fun wz hI hF => ?_) (fun r3 => ?_) (by rfl)
 ·have c0 := (hS2.out.cw.kept hI).c2
  go_wp2_with fail
  first | exact ⟨_, rfl, rfl, Reg2.Ext.refl _⟩ | exact ⟨_, rfl, ⟨(), rfl, trivial⟩, Reg2.Ext.refl _⟩
 simp only [Act.put, xA, xB, xC]; (try simp only [xD]); (try simp only [xE]); (try simp only [id])
 repeat (refine' Reg2.ai _ (by rfl) (fun wz => ?_) ?_; rotate_left; (go_simp; first | rfl | rw [if_neg (by omega)]); simp only [Act.put, xA, xB, xC]; (try simp only [xD]); (try simp only [xE]); (try simp only [id]))
 refine Reg2.pm (fun wz hI hF => ?_) (fun r7 => ?_) (by rfl)
 ·have c0 := (hS2.out.cw.kept hI).c2
  go_wp2_with fail
  first | exact ⟨_, rfl, rfl, Reg2.Ext.refl _⟩ | exact ⟨_, rfl, ⟨(), rfl, trivial⟩, Reg2.Ext.refl _⟩
 simp only [Act.put, xA, xB, xC]; (try simp only [xD]); (try simp only [xE]); (try simp only [id])
 refine Reg2.pm (fun wz hI hF => ?_) (fun r8 => ?_) (by rfl)
 ·go_wp2_with (go_at_call 43; go_must (refine (fO (hS2.out.kept hI).cw).mono ?_); rintro e w' ⟨rfl, rfl⟩)
  first | exact ⟨_, rfl, rfl, Reg2.Ext.refl _⟩ | exact ⟨_, rfl, ⟨(), rfl, trivial⟩, Reg2.Ext.refl _⟩
 simp only [Act.put, xA, xB, xC]; (try simp only [xD]); (try simp only [xE]); (try simp only [id])
 repeat (refine' Reg2.ai _ (by rfl) (fun wz => ?_) ?_; rotate_left; (go_simp; first | rfl | rw [if_neg (by omega)]); simp only [Act.put, xA, xB, xC]; (try simp only [xD]); (try simp only [xE]); (try simp only [id]))
 refine Reg2.pm (fun wz hI hF => ?_) (fun Em => ?_) (by rfl)
 ·have q0 := (hS2.out.kept hI).wk.at 19 (.int .i64 R.aA.fin) rfl
  go_wp2_with fail
  first | exact ⟨_, rfl, rfl, Reg2.Ext.refl _⟩ | exact ⟨_, rfl, ⟨(), rfl, trivial⟩, Reg2.Ext.refl _⟩
 simp only [Act.put, xA, xB, xC]; (try simp only [xD]); (try simp only [xE]); (try simp only [id])
 repeat (refine' Reg2.ai _ (by rfl) (fun wz => ?_) ?_; rotate_left; (go_simp; first | rfl | rw [if_neg (by omega)]); simp only [Act.put, xA, xB, xC]; (try simp only [xD]); (try simp only [xE]); (try simp only [id]))
 refine Reg2.pm (fun wz hI hF => ?_) (fun TF => ?_) (by rfl)
 ·have q0 := (hS2.out.kept hI).wk.at 22 (.int .i64 R.idle) rfl
  go_wp2_with fail
  first | exact ⟨_, rfl, rfl, Reg2.Ext.refl _⟩ | exact ⟨_, rfl, ⟨(), rfl, trivial⟩, Reg2.Ext.refl _⟩
 simp only [Act.put, xA, xB, xC]; (try simp only [xD]); (try simp only [xE]); (try simp only [id])
 refine Reg2.az ?_
 intro w4 HI4 _ eu
 clear eu
 dsimp only [List.drop]
 have bC := hS2.out.kept HI4
 have hadd := Kc bC.cw hk ha hm P.now R.aA.fin R.idle F hb3.1 (by omega) hb4 hF hr
 go_wp2_with fail
 go_at_call 170
 refine hadd.mono ?_
 clear hadd
 rintro e w5 ⟨rfl, v5, g5, fZ, hS5⟩
 have dP := bC.core fZ hS5
 have hfin := (WS.of_below (hb2'.trans (HI4.mono hb2'.size)) : WS w w4 b c t d p v g v g).trans (WS.bZ hS5)
 go_wp2_with fail
 go_ret
 exact ⟨rfl, v5, g5, dP, hfin⟩
theorem En (h : SW w b c t d p v g a m R P) (hk : PK P) (ha : a ≤ 800) (hm : m ≤ 1000000) (hP : ak R.aA = false) (hP2 : R.aA.st ≠ 3) (hb1 : R.aA.aK ≤ 1099511627776) (hb2 : 0 ≤ R.aA.lim ∧ R.aA.lim ≤ 1048576) :
  Calls Tryz.prog 139 #[.pointer (some ⟨b, 0, none⟩), .pointer (some ⟨c, 0, none⟩)] w (au w b c t d p v g a m .nilFunc R P) := by
 have zJ := bB
 have zS := jQ
 obtain ⟨k, hk1⟩ : ∃ k, k = 10 := ⟨_, rfl⟩
 obtain ⟨k3, hk3⟩ : ∃ k, k = 3 := ⟨_, rfl⟩
 rw [← hk1] at zJ
 rw [← hk3] at zS
 have hk0 : ¬ k = 0 := by omega
 have yu : ¬ k3 = 0 := by omega
 have lJ := ax R.aA
 rw [← hk1] at lJ
 replace hk1 := Lib.hid hk1
 have hS := Lib.hid h
 have p8 := h.wk.l9 lJ
 have hpl := kr (w := w) R.aA hb1 hb2
 have lS : (aJ R.aA).length = 3 := by unfold aJ; split <;> rfl
 have oS : ∀ u ∈ aJ R.aA, u.oneCell' = true := by unfold aJ; split <;> (intro u hu; simp at hu; rcases hu with rfl | rfl | rfl <;> rfl)
 have ST : Hid (∀ W : World, Sem.run Tryz.prog (storeCells ⟨W.heap.size, 0, none⟩ (aJ R.aA) 0) (W.alloc (.cells #[.int .i64 0, .int .i64 0, .int .i64 0] 97)) = .ok () (W.alloc (.cells (aJ R.aA).toArray 97))) := fun W => cz W W.heap.size (aJ R.aA) [.int .i64 0, .int .i64 0, .int .i64 0] 97 rfl lS oS
 rw [← hk3] at lS
 replace hk3 := Lib.hid hk3
 have hst : ∀ W, SW W b c t d p v g a m R P → W.cell? ⟨b, 17, none⟩ = some (.int .i64 R.aA.st) := fun W hW => hW.wk.at 17 (.int .i64 R.aA.st) rfl
 generalize kv : aJ R.aA = cS at *
 replace kv := Lib.hid kv
 generalize ah R.aA = cJ at *
 clear h
 have d0 : (R.aA.st == 3) = false := by simp [hP2]
 rw [hP] at hpl
 generalize R.aA.st = s at *
 go_enter Tryz.func139, Tryz.ntmps139
 go_wp2_with fail
 go_at_call 68
 refine hpl.mono ?_
 clear hpl p8
 rintro e w1 ⟨rfl, hb⟩
 have st1 := ST.out w1
 obtain ⟨w2, hw2⟩ : ∃ w2, w2 = w1.alloc (.cells cS.toArray 97) := ⟨_, rfl⟩
 rw [← hw2] at st1
 have hb2' : Below w.heap.size w w2 := by rw [hw2]; exact hb.alloc hb.size _
 have hy2 : Hid (w2.heap[w1.heap.size]? = some (.cells cS.toArray 97 (0, 0))) := by show _ = _; rw [hw2]; exact heap_alloc_new w1 _
 have hs2 : w2.heap.size = w1.heap.size + 1 := by rw [hw2]; simp
 replace hw2 := Lib.hid hw2
 have hS2 := Lib.hid (hS.out.kept hb2')
 have c17 := hst w2 hS2.out
 replace hst := Lib.hid hst
 go_wp2_with fail
 go_ret
 exact ⟨rfl, v, g, hS2.out, WS.of_below hb2'⟩
end
end Go.Proofs.YtkhfejihijdipaaGreat

namespace Go.Proofs.YtkhfejihijdipaaGreat
open Go.RowKit Go.Lib
theorem Eo {p : Jb → Bool} : ∀ {X : List Jb} {x : Jb} {r : List Jb}, X.filter p = x :: r → ∃ q, q < X.length ∧ X.getD q default = x ∧ (∀ k, k < q → p (X.getD k default) = false) ∧ (X.drop (q + 1)).filter p = r ∧ p x = true := by
 intro X
 induction X with
 | nil => intro x r h; cases h
 | cons y X ih =>
  intro x r h
  cases hp : p y with
  | true =>
   rw [List.filter_cons_of_pos hp] at h
   obtain ⟨rfl, rfl⟩ := List.cons.inj h
   exact ⟨0, by simp, rfl, fun k hk => absurd hk (Nat.not_lt_zero _), rfl, hp⟩
  | false =>
   rw [List.filter_cons_of_neg (by simp [hp])] at h
   obtain ⟨q, h1, h2, h3, h4, h5⟩ := ih h
   refine ⟨q + 1, by simp; omega, by simpa using h2, fun k hk => ?_, by simpa using h4, h5⟩
   cases k with
   | zero => simpa using hp
   | succ k => simpa using h3 k (by omega)
theorem filter_none {p : Jb → Bool} {X : List Jb} (h : X.filter p = []) (k : Nat) (hk : k < X.length) : p (X.getD k default) = false := by
 have h1 := List.filter_eq_nil_iff.1 h (X.getD k default) (aW hk)
 simpa using h1
theorem getD_drop {L : List Jb} {k q : Nat} : (L.drop k).getD q default = L.getD (k + q) default := by simp [List.getD]
theorem yx {f : Jb → Jb} {L : List Jb} {k : Nat} : ∀ {k' : Nat}, k ≤ k' → k' ≤ L.length → (∀ m, k ≤ m → m < k' → f (L.getD m default) = L.getD m default) → dO f L k = dO f L k' := by
 intro k'
 induction k' with
 | zero =>
  intro h _ _
  obtain rfl : k = 0 := by omega
  rfl
 | succ k' ih =>
  intro h1 h2 h3
  rcases Nat.lt_or_ge k' k with h4 | h4
  ·obtain rfl : k = k' + 1 := by omega
   rfl
  ·rw [ih h4 (by omega) fun m a b => h3 m a (by omega)]
   exact lV (by omega) (h3 k' h4 (by omega))
theorem uW {t : Int} {j : Jb} (h : ¬ (j.st = 3 ∧ j.fin = t)) : aR t j = j := if_neg h
theorem Au {t : Int} {j : Jb} (h : j.st = 3 ∧ j.fin = t) : aR t j = j.setSt 6 := if_pos h
def iQ (M : Md) (k : Nat) : Md := { M with L := dO (aR M.now) M.L k }
section
variable {M : Md}
theorem vX (k : Nat) : (iQ M k).L.length = M.L.length := nk M.L k
theorem OC : iQ M M.L.length = { M with L := M.L.map (aR M.now) } := by unfold iQ; rw [qd]
theorem LJ : iQ M 0 = M := by unfold iQ dO; simp
theorem OD (h : aB M) (h1 : 1 ≤ M.dr.length) (h2 : M.L.length ≤ 900) {f0 : Int → Int} (hf : ∀ t, M.now ≤ t → 0 ≤ f0 t ∧ f0 t ≤ 64) : PK { aj M with f := f0 } := by
 have := dX h h1 h2
 exact ⟨this.now, this.few, this.st, this.lim, this.pW, hf⟩
theorem Ep {x y : Jb} (h : x.id ≠ y.id) (hn : aS y x = false) : aS x y = true := by
 unfold aS at *
 simp only [Bool.or_eq_false_iff, Bool.and_eq_false_iff, decide_eq_false_iff_not, Bool.or_eq_true, Bool.and_eq_true, decide_eq_true_eq] at *
 omega
theorem Gt {L : List Jb} {now : Int} {f : Nat} (hd : bX now (L.getD f default) = true) (hf : ∀ q, q < L.length → q ≠ f → bX now (L.getD q default) = true → aS (L.getD f default) (L.getD q default) = true) :
  ∀ k, k ≤ L.length → f < k → gP L now k = f := by
 have sp : ∀ q, bX now (L.getD q default) = true ↔ (ak (L.getD q default) = true ∧ (L.getD q default).aK = now) := fun q => by unfold bX; simp
 intro k
 induction k with
 | zero => intro _ h; omega
 | succ k ih =>
  intro hk V4
  unfold gP
  rcases Nat.lt_or_ge f k with h1 | h1
  ·rw [ih (by omega) h1, if_neg]
   rintro ⟨h2, h3, h4⟩
   have h5 := hf k (by omega) (by omega) ((sp k).2 ⟨h2, h3⟩)
   rcases h4 with h4 | h4
   ·omega
   ·rw [Int.toNat_natCast] at h4
    have := EA h5
    rw [this] at h4
    cases h4
  ·obtain rfl : f = k := by omega
   obtain ⟨h2, h3⟩ := (sp f).1 hd
   rw [if_pos]
   refine ⟨h2, h3, ?_⟩
   rcases lQ L now f with ⟨h4, _⟩ | ⟨q, h4, h5, h6⟩
   ·exact .inl h4
   ·refine .inr ?_
    rw [h4, Int.toNat_natCast]
    exact hf q (by omega) (by omega) h6
theorem I9 {f : Nat} (hfl : f < M.L.length) (hd : bX M.now (M.L.getD f default) = true) (hf : ∀ q, q < M.L.length → q ≠ f → bX M.now (M.L.getD q default) = true → aS (M.L.getD f default) (M.L.getD q default) = true) : firstM M = f :=
 Gt hd hf _ (Nat.le_refl _) hfl
theorem Bo (n : Nat) (h : ∀ q, q < M.L.length → bX M.now (M.L.getD q default) = false) : startGo n M = M := by
 have hf : ¬ 0 ≤ firstM M := by
  unfold firstM
  rcases lQ M.L M.now M.L.length with ⟨h4, _⟩ | ⟨q, h4, h5, h6⟩
  ·omega
  ·rw [h q h5] at h6; cases h6
 induction n with
 | zero => rfl
 | succ n ih => unfold startGo; rw [if_neg hf]; exact ih
structure Going (M F : Md) (r : List Jb) : Prop where
 inv : aB M
 run : ∀ j ∈ M.L, j.st = 3 → M.now < j.fin
 goes : ∃ n, startGo n M = F ∧ kU M ≤ n
 still : ∀ x ∈ r, 1 ≤ x.id ∧ x.id ≤ M.L.length ∧ M.L.getD (x.id - 1).toNat default = x
 due : ∀ q, q < M.L.length → bX M.now (M.L.getD q default) = true → M.L.getD q default ∈ r
 sorted : r.Pairwise (fun x y => aS y x = false)
 nodup : r.Pairwise (fun x y => x.id ≠ y.id)
 pend : ∀ x ∈ r, x.st = 1
theorem Going.skip {F : Md} {x : Jb} {r : List Jb} (h : Going M F (x :: r)) (hx : bX M.now x = false) : Going M F r :=
 ⟨h.inv, h.run, h.goes, fun y hy => h.still y (List.mem_cons_of_mem _ hy), fun q hq hd => by
  rcases List.mem_cons.1 (h.due q hq hd) with e | e
  ·rw [e, hx] at hd; cases hd
  ·exact e, (List.pairwise_cons.1 h.sorted).2, (List.pairwise_cons.1 h.nodup).2, fun y hy => h.pend y (List.mem_cons_of_mem _ hy)⟩
theorem Going.last {F : Md} (h : Going M F []) : F = M := by
 obtain ⟨n, h1, _⟩ := h.goes
 rw [← h1]
 refine Bo n fun q hq => ?_
 cases hd : bX M.now (M.L.getD q default) with
 | false => rfl
 | true => exact absurd (h.due q hq hd) (by simp)
theorem Going.next {F : Md} {x : Jb} {r : List Jb} (h : Going M F (x :: r)) (hx : bX M.now x = true) : (x.id - 1).toNat < M.L.length ∧ M.L.getD (x.id - 1).toNat default = x ∧ Going (aU M (x.id - 1).toNat) F r := by
 obtain ⟨i1, i2, i3⟩ := h.still x (List.mem_cons_self ..)
 obtain ⟨f, hf⟩ : ∃ f, f = (x.id - 1).toNat := ⟨_, rfl⟩
 have hfl : f < M.L.length := by omega
 rw [← hf] at i3 ⊢
 have hs := List.pairwise_cons.1 h.sorted
 have hn := List.pairwise_cons.1 h.nodup
 have hdf : bX M.now (M.L.getD f default) = true := by rw [i3]; exact hx
 have sS : firstM M = f := I9 hfl hdf fun q hq hne hd => by
  have hmem := h.due q hq hd
  have OE := h.inv.ids q hq
  have Gd := h.inv.ids f hfl
  rcases List.mem_cons.1 hmem with e | e
  ·rw [e] at OE; rw [i3] at Gd; omega
  ·rw [i3]
   exact Ep (hn.1 _ e) (hs.1 _ e)
 obtain ⟨n, h1, h2⟩ := h.goes
 obtain ⟨s1, s2, s3, _⟩ := h.inv.start h.run hfl hdf
 have hpos : 1 ≤ kU M := by
  have h5 := zq (fun j => if bX M.now j = true then (1 : Int) else 0) M.L (fun j _ => by split <;> omega) (aW hfl)
  rw [if_pos hdf] at h5
  exact h5
 have hlen : (aU M f).L.length = M.L.length := by unfold aU; exact List.length_set
 have hget : ∀ q, (aU M f).L.getD q default = if f = q ∧ f < M.L.length then eZ M (M.L.getD f default) else M.L.getD q default := fun q => fE
 refine ⟨hfl, i3, s1, s2, ?_, ?_, ?_, hs.2, hn.2, fun y hy => h.pend y (List.mem_cons_of_mem _ hy)⟩
 ·cases n with
  | zero => omega
  | succ n =>
   refine ⟨n, ?_, by omega⟩
   unfold startGo at h1
   rw [sS, if_pos (by omega), Int.toNat_natCast] at h1
   exact h1
 ·intro y hy
  obtain ⟨a1, a2, a3⟩ := h.still y (List.mem_cons_of_mem _ hy)
  refine ⟨a1, by rw [hlen]; exact a2, ?_⟩
  rw [hget, if_neg, a3]
  rintro ⟨e, _⟩
  exact hn.1 y hy (by omega)
 ·intro q hq hd
  rw [hlen] at hq
  rw [hget] at hd ⊢
  by_cases e : f = q ∧ f < M.L.length
  ·rw [if_pos e] at hd
   have : bX (aU M f).now (eZ M (M.L.getD f default)) = false := by unfold bX ak; rfl
   rw [this] at hd; cases hd
  ·rw [if_neg e] at hd ⊢
   rcases List.mem_cons.1 (h.due q hq hd) with e2 | e2
   ·exfalso
    have OE := h.inv.ids q hq
    rw [e2] at OE
    exact e ⟨by omega, hfl⟩
   ·exact e2
end
end Go.Proofs.YtkhfejihijdipaaGreat

namespace Go.Proofs.YtkhfejihijdipaaGreat
open Go.RowKit Go.Lib Go.Sort
def xu (w : World) (c t d p : Nat) (v : Value) (g a : Nat) (m : Int) (P : Pg) (W : World) : Prop := ∃ v' g', CW W c t d p v' g' a m P ∧ CS w W c t d p v g v' g'
theorem xu.ext {w : World} {c t d p g a : Nat} {v : Value} {m : Int} {P : Pg} : ∀ (x y : World), Reg2.Ext x y → xu w c t d p v g a m P x → xu w c t d p v g a m P y := by
 rintro x y h ⟨v', g', h1, h2⟩
 exact ⟨v', g', h1.kept h, h2.trans (CS.of_below h)⟩
def tK (w : World) (c t d p : Nat) (v : Value) (g a : Nat) (m : Int) (P : Pg) (T : List Int) (W : World) : Prop := xu w c t d p v g a m P W ∧ gG T
theorem tK.ext {w : World} {c t d p g a : Nat} {v : Value} {m : Int} {P : Pg} {T : List Int} : ∀ (x y : World), Reg2.Ext x y → tK w c t d p v g a m P T x → tK w c t d p v g a m P T y := fun x y h hs => ⟨xu.ext x y h hs.1, hs.2⟩
section
variable {w : World} {c t d p g a : Nat} {v : Value} {m : Int} {P : Pg} {M : Md}
theorem launch_fn (h : CW w c t d p v g a m P) (hk : PK P) (j : Jb) (hj : -9223372036854775808 ≤ j.wid ∧ j.wid ≤ 9223372036854775807) {s : Nat} {T0 : List Int} (hT0 : oK P.T j.wid s 0 T0) :
  Calls Tryz.prog 179 #[.pointer (some ⟨c, 0, none⟩), .agg (ah j).toArray] w (dY w c t d p v g a m (.tuple #[]) { P with T := T0, J := bS P.J (fG P.now) j.id (fun j : Jb => decide (j.state = 1)) (kH P.now s) }) := by
 obtain ⟨wA, aT⟩ : ∃ wA, wA = w.alloc (.cells (ah j).toArray 55) := ⟨_, rfl⟩
 have dE : Below w.heap.size w wA := by rw [aT]; exact (Below.refl _ _).alloc (Nat.le_refl _) _
 have hsA : wA.heap.size = w.heap.size + 1 := by rw [aT]; simp
 have uX : Hid (wA.heap[w.heap.size]? = some (.cells (ah j).toArray 55 (0, 0))) := by show _ = _; rw [aT]; exact heap_alloc_new w _
 have iE := Lib.hid (h.kept dE)
 have hft : Hid (¬ eF c t d p v g w.heap.size) := fun hf => absurd (h.lt hf) (Nat.lt_irrefl _)
 have e0 : (ah j)[0]? = some (.int .i64 j.id) := rfl
 have e2 : (ah j)[2]? = some (.int .i64 j.wid) := rfl
 have zE := bB
 obtain ⟨k, hk1⟩ : ∃ k, k = 10 := ⟨_, rfl⟩
 rw [← hk1] at zE
 have hk0 : ¬ k = 0 := by omega
 replace hk1 := Lib.hid hk1
 have OG := fun (W : World) (hW : CW W c t d p v g a m P) => Ls hW hk j.wid hj
 have hbe := fun (W : World) (v1 : Value) (g1 : Nat) (hL : gG T0) (hW : CW W c t d p v1 g1 a m { P with T := T0 }) => IW hW ⟨hk.now, hk.few, hk.st, hk.lim, hL, hk.f⟩ j.id P.now s
 rw [show ({ P with T := T0 } : Pg).J = P.J from rfl] at hbe
 have V5 : Hid (∀ {T' : List Int}, gG T' → T0 = T' → gG T0) := fun h1 h2 => h2 ▸ h1
 generalize ah j = cJ at *
 generalize j.wid = jw at *
 generalize j.id = ji at *
 replace hT0 := Lib.hid hT0
 clear h
 go_enter Tryz.func179, Tryz.ntmps179
 go_wp2_with fail
 rw [← aT]
 replace aT := Lib.hid aT
 refine Reg2.qX 11 31 [[],[ae],[ae,ae],[ae,ae,ae],[af,af,af,af],[af,af,af,af,ae],[ae,ae,ae,ae,ae,ae],[ae,ae,ae,ae,ae,ae,ae],[ae,ae,ae,ae,ae,ae,ae,ae],[ae,ae,ae,ae,ae,ae,ae,ae,af],[ae,ae,ae,ae,ae,ae,ae,ae,ae,af]] [0, 0, 0, 2, 0, 2, 3, 0, 0, 0, 0]
  [.pure, .pure, .pure, .pinned Unit () (fun _ => .pointer (some ⟨d, 0, none⟩)) (fun _ _ => True), .pure, .pinned Unit () (fun _ => .int .i64 jw) (fun _ _ => True), .major Unit () (fun _ => .tuple #[.int .u64 s, .int .i64 0]), .pure, .pure, .pure, .pure]
  (fun _ => True) (fun vs W => match vs with | [] => Below wA.heap.size wA W | _ :: _ => (tK wA c t d p v g a m { P with T := T0 } T0) W) (fun _ _ => True) (by kernel_rfl) (by kernel_rfl) rfl rfl (fun vs a b h hs => by cases vs with | nil => exact Below.trans hs (h.mono (Below.size hs)) | cons v vs => exact tK.ext a b h hs) ?_ ?_ ?_ ?_ ?_ ?_
 ·intro a b he hb; trivial
 ·intro a b he hb; trivial
 ·exact ⟨trivial, trivial, trivial, ⟨fun _ _ _ _ _ => trivial, fun _ _ _ _ _ => trivial⟩, trivial, ⟨fun _ _ _ _ _ => trivial, fun _ _ _ _ _ => trivial⟩, trivial, trivial, trivial, trivial, trivial, trivial⟩
 ·trivial
 ·exact ⟨rfl, rfl, rfl, Nat.le_refl _, fun _ _ => rfl⟩
 dsimp only [Reg2.mk, List.zip, List.zipWith, List.take]
 repeat (refine' Reg2.ai _ (by rfl) (fun wz => ?_) ?_; rotate_left; (go_simp; first | rfl | rw [if_neg (by omega)]); simp only [Act.put, xA, xB, xC]; (try simp only [xD]); (try simp only [xE]); (try simp only [id]))
 refine Reg2.pp (fun wz _ hI hF => ?_) (fun r3 => ?_) (by rfl)
 ·have c0 := (iE.out.kept hI).c1
  go_wp2_with fail
  first | exact ⟨_, rfl, rfl, Reg2.Ext.refl _⟩ | exact ⟨_, rfl, ⟨(), rfl, trivial⟩, Reg2.Ext.refl _⟩
 simp only [Act.put, xA, xB, xC]; (try simp only [xD]); (try simp only [xE]); (try simp only [id])
 repeat (refine' Reg2.ai _ (by rfl) (fun wz => ?_) ?_; rotate_left; (go_simp; first | rfl | rw [if_neg (by omega)]); simp only [Act.put, xA, xB, xC]; (try simp only [xD]); (try simp only [xE]); (try simp only [id]))
 refine Reg2.pp (fun wz _ hI hF => ?_) (fun r5 => ?_) (by rfl)
 ·have q0 : wz.cell? ⟨w.heap.size, 2, none⟩ = some (.int .i64 jw) := by simp [World.cell?, (hI.block _ (aG uX.out)).trans uX.out, e2]
  go_wp2_with fail
  first | exact ⟨_, rfl, rfl, Reg2.Ext.refl _⟩ | exact ⟨_, rfl, ⟨(), rfl, trivial⟩, Reg2.Ext.refl _⟩
 simp only [Act.put, xA, xB, xC]; (try simp only [xD]); (try simp only [xE]); (try simp only [id])
 refine Reg2.pj (fun wz _ hI hF => ?_) (fun r6 => ?_) (by rfl)
 ·go_wp2_with (go_at_call 192; go_must (refine (OG wz (iE.out.kept hI)).mono ?_); rintro e w' ⟨s1, x1, T', hT, hL, rfl, v4, g4, nU, bC⟩)
  obtain ⟨rfl, rfl, rfl⟩ := hT0.out.uniq hT
  have hpost : tK wA c t d p v g a m { P with T := T0 } T0 w' := ⟨⟨v4, g4, nU, (CS.of_below hI).trans bC⟩, hL⟩
  exact ⟨_, rfl, ⟨⟨(), rfl⟩, hpost⟩, trivial⟩
 simp only [Act.put, xA, xB, xC]; (try simp only [xD]); (try simp only [xE]); (try simp only [id])
 repeat (refine' Reg2.ai _ (by rfl) (fun wz => ?_) ?_; rotate_left; (go_simp; first | rfl | rw [if_neg (by omega)]); simp only [Act.put, xA, xB, xC]; (try simp only [xD]); (try simp only [xE]); (try simp only [id]))
 refine Reg2.az ?_
 intro w7 _ qQ jR
 clear jR
 dsimp only [List.drop]
 obtain ⟨⟨v7, g7, yM, fT⟩, hL7⟩ : xu wA c t d p v g a m { P with T := T0 } w7 ∧ gG T0 := qQ
 have yN : Hid (w7.heap[w.heap.size]? = some (.cells cJ.toArray 55 (0, 0))) := (fT.heap (aG uX.out) hft.out).trans uX.out
 replace yM := Lib.hid yM
 go_wp2_with fail
 refine Reg2.rd w7 12 31 [[],[ae],[ae,ae],[ae,ae,ae],[af,af,af,af],[af,af,af,af,ae],[af,af,af,af,af,af],[af,af,af,af,af,af,ae],[af,af,af,af,af,af,ae,ae],[af,af,af,af,af,af,ae,ae,ae],[af,af,af,af,af,af,ae,ae,ae,ae],[af,af,af,af,af,af,af,af,af,af,af]] [0, 0, 0, 1, 0, 1, 0, 0, 0, 1, 1, 0] [.pure, .pure, .pure, .mU (.pointer (some ⟨t, 0, none⟩)), .pure, .mU (.int .i64 ji), .pure, .pure, .pure, .mU (.pointer (some ⟨p, 0, none⟩)), .mU (.int .i64 P.now), .pure] (by kernel_rfl) (by kernel_rfl) rfl rfl ⟨trivial, trivial, trivial, Reg2.tt, trivial, Reg2.tt, trivial, trivial, trivial, Reg2.tt, Reg2.tt, trivial, trivial⟩ ⟨rfl, rfl, rfl, Nat.le_refl _, fun _ _ => rfl⟩ ?_
 dsimp only [Reg2.mk, List.zip, List.zipWith, List.take]
 repeat (refine' Reg2.ai _ (by rfl) (fun wz => ?_) ?_; rotate_left; (go_simp; first | rfl | rw [if_neg (by omega)]); simp only [Act.put, xA, xB, xC]; (try simp only [xD]); (try simp only [xE]); (try simp only [id]))
 refine Reg2.pm (fun wz hI hF => ?_) (fun r3 => ?_) (by rfl)
 ·have c0 := (yM.out.kept hI).c0
  go_wp2_with fail
  first | exact ⟨_, rfl, rfl, Reg2.Ext.refl _⟩ | exact ⟨_, rfl, ⟨(), rfl, trivial⟩, Reg2.Ext.refl _⟩
 simp only [Act.put, xA, xB, xC]; (try simp only [xD]); (try simp only [xE]); (try simp only [id])
 repeat (refine' Reg2.ai _ (by rfl) (fun wz => ?_) ?_; rotate_left; (go_simp; first | rfl | rw [if_neg (by omega)]); simp only [Act.put, xA, xB, xC]; (try simp only [xD]); (try simp only [xE]); (try simp only [id]))
 refine Reg2.pm (fun wz hI hF => ?_) (fun r5 => ?_) (by rfl)
 ·have q0 : wz.cell? ⟨w.heap.size, 0, none⟩ = some (.int .i64 ji) := by simp [World.cell?, (hI.block _ (aG yN.out)).trans yN.out, e0]
  go_wp2_with fail
  first | exact ⟨_, rfl, rfl, Reg2.Ext.refl _⟩ | exact ⟨_, rfl, ⟨(), rfl, trivial⟩, Reg2.Ext.refl _⟩
 simp only [Act.put, xA, xB, xC]; (try simp only [xD]); (try simp only [xE]); (try simp only [id])
 repeat (refine' Reg2.ai _ (by rfl) (fun wz => ?_) ?_; rotate_left; (go_simp; first | rfl | rw [if_neg (by omega)]); simp only [Act.put, xA, xB, xC]; (try simp only [xD]); (try simp only [xE]); (try simp only [id]))
 refine Reg2.pm (fun wz hI hF => ?_) (fun r9 => ?_) (by rfl)
 ·have c0 := (yM.out.kept hI).c2
  go_wp2_with fail
  first | exact ⟨_, rfl, rfl, Reg2.Ext.refl _⟩ | exact ⟨_, rfl, ⟨(), rfl, trivial⟩, Reg2.Ext.refl _⟩
 simp only [Act.put, xA, xB, xC]; (try simp only [xD]); (try simp only [xE]); (try simp only [id])
 refine Reg2.pm (fun wz hI hF => ?_) (fun yJ => ?_) (by rfl)
 ·go_wp2_with (go_at_call 43; go_must (refine (fO (yM.out.kept hI)).mono ?_); rintro e w' ⟨rfl, rfl⟩)
  first | exact ⟨_, rfl, rfl, Reg2.Ext.refl _⟩ | exact ⟨_, rfl, ⟨(), rfl, trivial⟩, Reg2.Ext.refl _⟩
 simp only [Act.put, xA, xB, xC]; (try simp only [xD]); (try simp only [xE]); (try simp only [id])
 repeat (refine' Reg2.ai _ (by rfl) (fun wz => ?_) ?_; rotate_left; (go_simp; first | rfl | rw [if_neg (by omega)]); simp only [Act.put, xA, xB, xC]; (try simp only [xD]); (try simp only [xE]); (try simp only [id]))
 refine Reg2.az ?_
 intro w8 TG _ eu
 clear eu
 dsimp only [List.drop]
 have RF := yM.out.kept TG
 have pY := hbe w8 v7 g7 hL7 RF
 go_wp2_with fail
 go_at_call 193
 refine pY.mono ?_
 clear pY
 rintro e w9 ⟨rfl, v9, g9, Gu, fC⟩
 have hfin := (((CS.of_below dE : CS w wA c t d p v g v g).trans fT).trans (CS.of_below TG)).trans fC
 go_wp2_with fail
 go_end0
 exact ⟨rfl, v9, g9, Gu, hfin⟩
theorem boxed (wr : World) (x : Jb) : Sem.run Tryz.prog (storeCells ⟨wr.heap.size, 0, none⟩ (ah x) 0) (wr.alloc (.cells #[.int .i64 0, .int .i64 0, .int .i64 0, .int .i64 0, .int .i64 0, .int .i64 0, .int .i64 0, .int .i64 0, .int .i64 0, .int .u64 0] 55)) = .ok () (wr.alloc (.cells (ah x).toArray 55)) :=
 cz wr wr.heap.size (ah x) (ah gN) 55 rfl rfl (df x)
theorem lX.off {w w1 : World} {gb off : Nat} {l : List Jb} {v1 : Value} {g1 : Nat} (hJ : lX w gb off l) (hs : CS w w1 c t d p v g v1 g1) (hg : ¬ eF c t d p v g gb) : lX w1 gb off l := by
 have hb : w1.heap[gb]? = w.heap[gb]? := hs.heap hJ.1 hg
 exact ⟨Nat.lt_of_lt_of_le hJ.1 hs.off.size, fun i s j u hi hj => by
  have := hJ.2 i s j u hi hj
  simp only [World.cell?, World.frozen?, hb] at this ⊢
  exact this⟩
theorem Ja (f0 : Int → Int) (h : CW w c t d p v g a m { aj M with f := f0 }) (hI : aB M) (h1 : 1 ≤ M.dr.length) (hll : M.L.length ≤ 900) (hf0 : ∀ u, M.now ≤ u → 0 ≤ f0 u ∧ f0 u ≤ 64) :
  Calls Tryz.prog 177 #[.pointer (some ⟨c, 0, none⟩), .int .i64 M.now] w (dY w c t d p v g a m (.tuple #[]) { aj ({ M with L := M.L.map (aR M.now) } : Md) with f := f0 }) := by
 have zE := bB
 obtain ⟨k, hk⟩ : ∃ k, k = 10 := ⟨_, rfl⟩
 rw [← hk] at zE
 have hk0 : ¬ k = 0 := by omega
 replace hk := Lib.hid hk
 obtain ⟨wA, aT⟩ : ∃ wA, wA = w.alloc (.cells #[.int .i64 3] 3) := ⟨_, rfl⟩
 have dE : Below w.heap.size w wA := by rw [aT]; exact (Below.refl _ _).alloc (Nat.le_refl _) _
 have Jc : aF enc1 1 wA (.slice (some ⟨w.heap.size, 0, none⟩) 1 1) [3] := by rw [aT]; exact fF w w.heap.size [3] rfl (by decide)
 have iE := h.kept dE
 have hin := uL iE.dW (by show M.L.length ≤ 1000; omega) Jc
 rw [show ({ aj M with f := f0 } : Pg).J = M.L from rfl] at hin
 have c0 := h.c0
 have hlt : Hid (∀ k, eF c t d p v g k → k < w.heap.size) := fun k hk => h.lt hk
 have TH : Hid (∀ {W : World}, CW W c t d p v g a m { aj M with f := f0 } → CW W c t d p v g a m { aj (iQ M 0) with f := f0 }) := fun hW => by rw [LJ]; exact hW
 generalize hL1 : (M.L.filter fun j : Jb => decide (j.state ∈ [(3 : Int)])) = l at *
 have hn1 : l.length ≤ 900 := by rw [← hL1]; exact Nat.le_trans (List.length_filter_le _ _) hll
 obtain ⟨tn, htn⟩ : ∃ tn, tn = M.now := ⟨_, rfl⟩
 rw [← htn]
 have htb := hI.mb.now
 rw [← htn] at htb
 replace htn := Lib.hid htn
 replace hL1 := Lib.hid hL1
 rw [aT] at hin
 clear h
 go_enter Tryz.func177, Tryz.ntmps177
 go_wp2_with fail
 go_at_call 18
 refine hin.mono ?_
 clear hin c0
 rw [← aT]
 rintro e w0 ⟨u, rfl, ho, hb0⟩
 have hbw0 : Below w.heap.size w w0 := dE.trans (hb0.mono dE.size)
 have hC0 := TH.out (iE.kept hb0)
 replace aT := Lib.hid aT
 have hsh : Hid (∀ {ao : Option Addr} {n cap : Nat}, u = .slice ao n cap → 0 < l.length → ∃ g0, ao = some ⟨g0, 0, none⟩ ∧ wA.heap.size ≤ g0) := fun {ao n cap} e hp => by
  obtain ⟨Hd, cap', e0, hp'⟩ := fI ho
  obtain ⟨g0, e4⟩ := hp' hp
  subst e4
  rw [e] at e0
  injection e0 with e0 _ _
  exact ⟨g0, e0, (ho.lt g0 (by rw [e, e0]; rfl)).1⟩
 have hr := aF.iJ ho ax rfl rfl
 obtain ⟨ao, cap, rfl, q1, q2, q3⟩ := hr
 obtain ⟨n, hn⟩ : ∃ n, l.length = n := ⟨_, rfl⟩
 rw [hn] at q1 q3 hn1 ho ⊢
 have HQ : Hid (0 < n → ∃ b, ao = some ⟨b, 0, none⟩ ∧ lX w0 b 0 l ∧ w.heap.size ≤ b) := fun hp => by
  obtain ⟨b, off, e1, e2, e3⟩ := q3 hp
  obtain ⟨g0, e4, e5⟩ := hsh.out rfl (by have := hn; omega)
  rw [e4] at e1
  injection e1 with e1
  injection e1 with e6 e7
  subst e6; subst e7
  exact ⟨g0, e4, ⟨e2, e3⟩, by have := dE.size; omega⟩
 have Fp : cap ≤ 9223372036854775807 := by unfold maxLen at q2; omega
 replace hn := Lib.hid hn
 clear q2 q3 ho hb0 iE
 go_wp2_with fail
 go_loopw [13] (fun ii wr => ∃ (i kk : Nat) (vr : Value) (gr : Nat), i ≤ n ∧ ii = .int .i64 i ∧ CW wr c t d p vr gr a m { aj (iQ M kk) with f := f0 } ∧ CS w0 wr c t d p v g vr gr ∧ Hid (kk ≤ M.L.length ∧ (M.L.drop kk).filter (fun j : Jb => decide (j.state ∈ [(3 : Int)])) = l.drop i)) (fun ii _ => n - (intOf ii).toNat)
 case atStart => exact ⟨0, 0, v, g, Nat.zero_le _, rfl, hC0, CS.refl _, Lib.hid ⟨Nat.zero_le _, by rw [List.drop_zero, List.drop_zero, hL1.out]⟩⟩
 case round =>
  obtain ⟨i, kk, vr, gr, hin, rfl, oP, hSr, hpos⟩ := hrel
  by_cases hlt2 : i < n
  ·have b2 : (i : Int) < (n : Int) := by omega
   have wi : IntKind.i64.wrap ((i : Int) + 1) = (i : Int) + 1 := by rw [IntKind.wrap_i64]; omega
   obtain ⟨gb, rfl, hJ, hgb⟩ := HQ.out (by omega)
   have hgf : ¬ eF c t d p v g gb := fun hf => absurd (hlt.out gb hf) (by omega)
   have qP := hJ.off hSr hgf
   have iL : i < l.length := by have := hn.out; omega
   have LI := qP.load hk.out iL
   obtain ⟨x, hx⟩ : ∃ x, x = l[i]! := ⟨_, rfl⟩
   rw [← hx, Nat.zero_add] at LI
   replace hx := Lib.hid hx
   have hdrop : l.drop i = x :: l.drop (i + 1) := by rw [hx.out, getElem!_pos l i iL]; exact List.drop_eq_getElem_cons iL
   obtain ⟨hkk, hfil⟩ := hpos.out
   rw [hdrop] at hfil
   obtain ⟨q, a1, a2, a3, a4, a5⟩ := Eo hfil
   have hq : kk + q < M.L.length := by rw [List.length_drop] at a1; omega
   rw [getD_drop] at a2
   have OH : dO (aR M.now) M.L kk = dO (aR M.now) M.L (kk + q) := yx (by omega) (by omega) fun mm b1 b2 => uW fun hh => by
    have := a3 (mm - kk) (by omega)
    rw [getD_drop, show kk + (mm - kk) = mm by omega] at this
    exact absurd this (by show ¬ (decide ((M.L.getD mm default).state ∈ [(3 : Int)]) = false); rw [show (M.L.getD mm default).state = 3 from hh.1]; decide)
   have hov : iQ M kk = iQ M (kk + q) := by unfold iQ; rw [OH]
   rw [hov] at oP
   have hx3 : x.st = 3 := (show x.state = 3 by simpa using a5)
   have Er : (M.L.drop (kk + q + 1)).filter (fun j : Jb => decide (j.state ∈ [(3 : Int)])) = l.drop (i + 1) := by rw [← a4, List.drop_drop]; rfl
   have OI := hI.yT (kk + q) (by omega)
   have QG := hI.yT (kk + q + 1) (by omega)
   have xw : (iQ M (kk + q)).L.getD (kk + q) default = x := (pF hq).trans a2
   have hxm := aW hq
   rw [a2] at hxm
   have Gv := hI.ids (kk + q) hq
   rw [a2] at Gv
   have JR := hI.mb.bF x hxm
   have TI := Lib.hid (OD OI h1 (by show (iQ M (kk + q)).L.length ≤ 900; rw [vX]; exact hll) hf0)
   have RJ := Lib.hid (OD QG h1 (by show (iQ M (kk + q + 1)).L.length ≤ 900; rw [vX]; exact hll) hf0)
   have TJ := Lib.hid (F6 (M := iQ M (kk + q)) OI h1)
   replace Er := Lib.hid Er
   replace xw := Lib.hid xw
   replace a2 := Lib.hid a2
   replace Gv := Lib.hid Gv
   replace OI := Lib.hid OI
   clear hfil hdrop a3 a4 a5 a1 OH hpos hov QG
   have lI := ax x
   rw [← hk.out] at lI
   have e0 : (ah x)[0]? = some (.int .i64 x.id) := rfl
   have e7 : (ah x)[7]? = some (.int .i64 x.fin) := rfl
   have e9 : (ah x)[9]? = some (.int .u64 x.bF) := rfl
   have st := boxed wr x
   obtain ⟨w1, hw1⟩ : ∃ w1, w1 = wr.alloc (.cells (ah x).toArray 55) := ⟨_, rfl⟩
   have hb1 : Below wr.heap.size wr w1 := by rw [hw1]; exact (Below.refl _ _).alloc (Nat.le_refl _) _
   have hz1 : w1.heap[wr.heap.size]? = some (.cells (ah x).toArray 55 (0, 0)) := by rw [hw1]; exact heap_alloc_new wr _
   have hft : ¬ eF c t d p vr gr wr.heap.size := fun hf => absurd (oP.lt hf) (Nat.lt_irrefl _)
   have c7 : w1.cell? ⟨wr.heap.size, 7, none⟩ = some (.int .i64 x.fin) := by simp [World.cell?, hz1, e7]
   replace hz1 := Lib.hid hz1
   have nT := Lib.hid (oP.kept hb1)
   have hS1 := hSr.trans (CS.of_below hb1)
   generalize hcI : ah x = cI at *
   replace hcI := Lib.hid hcI
   rw [← hw1] at st
   replace hw1 := Lib.hid hw1
   by_cases hfin : x.fin = tn
   ·have BP : x.st = 3 ∧ x.fin = M.now := ⟨hx3, hfin.trans htn.out⟩
    have d1 : (x.fin == tn) = true := by simp [hfin]
    have hset : Hid (bS (iQ M (kk + q)).L (bg 6 tn) x.id (dS 6) (bG 6 tn) = (iQ M (kk + q + 1)).L) := by
     have hle := vX (M := M) (kk + q)
     have DI : bD (iQ M (kk + q)).L (bg 6 tn) x.id (dS 6) = 0 := by
      have e1 : bg 6 tn = 0 := by unfold bg; rw [if_neg (by decide), if_neg (by decide), if_neg (by omega), if_neg (by omega)]
      unfold bD
      rw [Gv.out, e1, if_neg (by decide), if_neg (by omega), if_neg (by omega), show ((((kk + q : Nat) : Int)) + 1 - 1).toNat = kk + q by omega, if_pos]
      rw [getElem!_pos _ _ (by omega)]
      have : (iQ M (kk + q)).L[kk + q]'(by omega) = x := by rw [← xw.out]; simp [List.getD, show kk + q < (iQ M (kk + q)).L.length by omega]
      rw [this]
      unfold dS
      rw [show x.state = 3 from hx3]
      rfl
     show bS _ _ _ _ _ = _
     unfold bS
     rw [if_pos DI, Gv.out, show ((((kk + q : Nat) : Int)) + 1 - 1).toNat = kk + q by omega, getElem!_pos _ _ (by omega)]
     have e2 : (iQ M (kk + q)).L[kk + q]'(by omega) = x := by rw [← xw.out]; simp [List.getD, show kk + q < (iQ M (kk + q)).L.length by omega]
     rw [e2]
     have e3 : bG 6 tn x = aR M.now (M.L.getD (kk + q) default) := by
      rw [a2.out, Au BP]
      have h8 := hI.rest x hxm (by omega)
      obtain ⟨x1, x2, x3, x4, x5, x6, x7, x8, x9, x0⟩ := x
      obtain rfl : x6 = 3 := hx3
      obtain rfl : x8 = tn := hfin
      obtain rfl : x9 = -1 := h8
      rfl
     rw [e3]
     exact iK hq
    have hfi := fun (W : World) (hW : CW W c t d p vr gr a m { aj (iQ M (kk + q)) with f := f0 }) => rU hW TI.out x.id 6 tn
    rw [show ({ aj (iQ M (kk + q)) with f := f0 } : Pg).J = (iQ M (kk + q)).L from rfl, hset.out] at hfi
    have hgi := fun (W : World) (v1 : Value) (g1 : Nat) (hW : CW W c t d p v1 g1 a m { ({ aj (iQ M (kk + q)) with f := f0 } : Pg) with J := (iQ M (kk + q + 1)).L }) => Cm hW (by
     have h9 := RJ.out
     exact ⟨h9.now, h9.few, h9.st, h9.lim, TJ.out, h9.f⟩) x.bF.toNat (by omega)
    rw [show ((x.bF.toNat : Nat) : Int) = x.bF by omega] at hgi
    have hge : Hid (∀ {n1 x1 : Int} {T' : List Int}, z8 (bW (iQ M (kk + q))) x.bF.toNat n1 x1 T' → T' = bW (iQ M (kk + q + 1))) := fun {n1 x1 T'} hG => by
     have h8 := Cn (M := iQ M (kk + q)) OI.out (i := kk + q) (y := aR M.now (M.L.getD (kk + q) default)) (by rw [vX]; exact hq) (by rw [xw.out]; exact hx3) (by rw [a2.out, Au BP]; show (6 : Int) ≠ 3; decide) (n := n1) (x := x1) (T' := T') (by rw [xw.out]; exact hG)
     rw [h8.2.2]
     have e4 : ({ iQ M (kk + q) with L := (iQ M (kk + q)).L.set (kk + q) (aR M.now (M.L.getD (kk + q) default)) } : Md) = iQ M (kk + q + 1) := by unfold iQ; rw [iK hq]
     rw [e4]
    replace hfin := Lib.hid hfin
    go_wp2_with fail
    refine Reg2.rd w1 7 37 [[],[ae],[ae,ae],[ae,ae,ae],[af,af,af,af],[af,af,af,af,ae],[af,af,af,af,af,af]] [0, 0, 0, 1, 0, 1, 0] [.pure, .pure, .pure, .mU (.pointer (some ⟨t, 0, none⟩)), .pure, .mU (.int .i64 x.id), .pure] (by kernel_rfl) (by kernel_rfl) rfl rfl ⟨trivial, trivial, trivial, Reg2.tt, trivial, Reg2.tt, trivial, trivial⟩ ⟨rfl, rfl, rfl, Nat.le_refl _, fun _ _ => rfl⟩ ?_
    dsimp only [Reg2.mk, List.zip, List.zipWith, List.take]
    repeat (refine' Reg2.ai _ (by rfl) (fun wz => ?_) ?_; rotate_left; (go_simp; first | rfl | rw [if_neg (by omega)]); simp only [Act.put, xA, xB, xC]; (try simp only [xD]); (try simp only [xE]); (try simp only [id]))
    refine Reg2.pm (fun wz hI hF => ?_) (fun r3 => ?_) (by rfl)
    ·have c0 := (nT.out.kept hI).c0
     go_wp2_with fail
     first | exact ⟨_, rfl, rfl, Reg2.Ext.refl _⟩ | exact ⟨_, rfl, ⟨(), rfl, trivial⟩, Reg2.Ext.refl _⟩
    simp only [Act.put, xA, xB, xC]; (try simp only [xD]); (try simp only [xE]); (try simp only [id])
    repeat (refine' Reg2.ai _ (by rfl) (fun wz => ?_) ?_; rotate_left; (go_simp; first | rfl | rw [if_neg (by omega)]); simp only [Act.put, xA, xB, xC]; (try simp only [xD]); (try simp only [xE]); (try simp only [id]))
    refine Reg2.pm (fun wz hI hF => ?_) (fun r5 => ?_) (by rfl)
    ·have q0 : wz.cell? ⟨wr.heap.size, 0, none⟩ = some (.int .i64 x.id) := by simp [World.cell?, (hI.block _ (aG hz1.out)).trans hz1.out, e0]
     go_wp2_with fail
     first | exact ⟨_, rfl, rfl, Reg2.Ext.refl _⟩ | exact ⟨_, rfl, ⟨(), rfl, trivial⟩, Reg2.Ext.refl _⟩
    simp only [Act.put, xA, xB, xC]; (try simp only [xD]); (try simp only [xE]); (try simp only [id])
    repeat (refine' Reg2.ai _ (by rfl) (fun wz => ?_) ?_; rotate_left; (go_simp; first | rfl | rw [if_neg (by omega)]); simp only [Act.put, xA, xB, xC]; (try simp only [xD]); (try simp only [xE]); (try simp only [id]))
    refine Reg2.az ?_
    intro w4 HI4 _ eu
    clear eu
    dsimp only [List.drop]
    have nU := nT.out.kept HI4
    have TK := hfi w4 nU
    have yL : w4.heap[wr.heap.size]? = some (.cells cI.toArray 55 (0, 0)) := (HI4.block _ (aG hz1.out)).trans hz1.out
    go_wp2_with fail
    go_at_call 136
    refine TK.mono ?_
    clear TK
    rintro e w5 ⟨rfl, v5, g5, fZ, hS5⟩
    have Fw : Hid (w5.heap[wr.heap.size]? = some (.cells cI.toArray 55 (0, 0))) := (hS5.heap (aG yL) hft).trans yL
    replace fZ := Lib.hid fZ
    go_wp2_with fail
    refine Reg2.rd w5 6 37 [[],[ae],[ae,ae],[ae,ae,ae],[af,af,af,af],[af,af,af,af,ae]] [0, 0, 0, 1, 0, 1] [.pure, .pure, .pure, .mU (.pointer (some ⟨d, 0, none⟩)), .pure, .mU (.int .u64 x.bF)] (by kernel_rfl) (by kernel_rfl) rfl rfl ⟨trivial, trivial, trivial, Reg2.tt, trivial, Reg2.tt, trivial⟩ ⟨rfl, rfl, rfl, Nat.le_refl _, fun _ _ => rfl⟩ ?_
    dsimp only [Reg2.mk, List.zip, List.zipWith, List.take]
    repeat (refine' Reg2.ai _ (by rfl) (fun wz => ?_) ?_; rotate_left; (go_simp; first | rfl | rw [if_neg (by omega)]); simp only [Act.put, xA, xB, xC]; (try simp only [xD]); (try simp only [xE]); (try simp only [id]))
    refine Reg2.pm (fun wz hI hF => ?_) (fun r3 => ?_) (by rfl)
    ·have c0 := (fZ.out.kept hI).c1
     go_wp2_with fail
     first | exact ⟨_, rfl, rfl, Reg2.Ext.refl _⟩ | exact ⟨_, rfl, ⟨(), rfl, trivial⟩, Reg2.Ext.refl _⟩
    simp only [Act.put, xA, xB, xC]; (try simp only [xD]); (try simp only [xE]); (try simp only [id])
    repeat (refine' Reg2.ai _ (by rfl) (fun wz => ?_) ?_; rotate_left; (go_simp; first | rfl | rw [if_neg (by omega)]); simp only [Act.put, xA, xB, xC]; (try simp only [xD]); (try simp only [xE]); (try simp only [id]))
    refine Reg2.pm (fun wz hI hF => ?_) (fun r5 => ?_) (by rfl)
    ·have q0 : wz.cell? ⟨wr.heap.size, 9, none⟩ = some (.int .u64 x.bF) := by simp [World.cell?, (hI.block _ (aG Fw.out)).trans Fw.out, e9]
     go_wp2_with fail
     first | exact ⟨_, rfl, rfl, Reg2.Ext.refl _⟩ | exact ⟨_, rfl, ⟨(), rfl, trivial⟩, Reg2.Ext.refl _⟩
    simp only [Act.put, xA, xB, xC]; (try simp only [xD]); (try simp only [xE]); (try simp only [id])
    refine Reg2.az ?_
    intro w6 Gf _ eu
    clear eu
    dsimp only [List.drop]
    have Gg := fZ.out.kept Gf
    have TL := hgi w6 v5 g5 Gg
    go_wp2_with fail
    go_at_call 169
    refine TL.mono ?_
    clear TL
    rintro e w7 ⟨n1, x1, T', hG, _, rfl, v7, g7, yM, fT⟩
    obtain rfl := hge.out hG
    have fC := (hS1.trans (CS.of_below HI4)).trans (hS5.trans ((CS.of_below Gf).trans fT))
    go_wp2_with fail
    go_roundw
    case rel => exact ⟨i + 1, kk + q + 1, v7, g7, by omega, by go_num, yM, fC, Lib.hid ⟨by omega, Er.out⟩⟩
    case measure => simp [intOf]; omega
   ·have d1 : (x.fin == tn) = false := by simp [hfin]
    have hsame : iQ M (kk + q) = iQ M (kk + q + 1) := by
     unfold iQ
     rw [lV hq (uW fun hh => hfin (by rw [← a2.out]; exact hh.2.trans htn.out.symm))]
    have Gu := nT.out
    rw [hsame] at Gu
    go_wp2_with fail
    go_roundw
    case rel => exact ⟨i + 1, kk + q + 1, vr, gr, by omega, by go_num, Gu, hS1, Lib.hid ⟨by omega, Er.out⟩⟩
    case measure => simp [intOf]; omega
  ·have e : i = n := by omega
   subst e
   obtain ⟨hkk, hfil⟩ := hpos.out
   have hend : l.drop i = [] := List.drop_eq_nil_of_le (by have := hn.out; omega)
   rw [hend] at hfil
   have hall : iQ M kk = { M with L := M.L.map (aR M.now) } := by
    rw [← OC]
    unfold iQ
    rw [yx (k' := M.L.length) hkk (Nat.le_refl _) fun mm b1 b2 => uW fun hh => by
     have := filter_none hfil (mm - kk) (by rw [List.length_drop]; omega)
     rw [getD_drop, show kk + (mm - kk) = mm by omega] at this
     exact absurd this (by show ¬ (decide ((M.L.getD mm default).state ∈ [(3 : Int)]) = false); rw [show (M.L.getD mm default).state = 3 from hh.1]; decide)]
   rw [hall] at oP
   have hfin := (CS.of_below hbw0 : CS w w0 c t d p v g v g).trans hSr
   go_wp2_with fail
   go_end0
   have e9 := htn.out
   clear htn
   subst e9
   exact ⟨rfl, vr, gr, oP, hfin⟩
end
end Go.Proofs.YtkhfejihijdipaaGreat

namespace Go.Proofs.YtkhfejihijdipaaGreat
open Go.RowKit Go.Lib Go.Sort
theorem LK {w : World} {base base' : Nat} {e : TypeId} {sz n : Nat} {v : Value} {xs : List Value} (h : w.ownsRow base e sz v n xs) (hb : base' ≤ base) : w.ownsRow base' e sz v n xs := by
 obtain ⟨h0, h1⟩ := h
 refine ⟨h0, ?_⟩
 rcases h1 with h1 | ⟨g, cap, cur, e0, h2, h3, h4⟩
 ·exact .inl h1
 ·exact .inr ⟨g, cap, cur, e0, by omega, h3, h4⟩
theorem LM (v : Value) (l : List Jb) (w : World) (hr : aF ah 10 w v l) (hl : l.length ≤ 1000) : Calls Tryz.prog 198 #[v] w fun e w' => ∃ (v' : Value) (r : List Jb), e = .returned v' ∧ w'.ownsRow w.heap.size 55 10 v' r.length (r.flatMap ah) ∧ r.length = l.length ∧ r.Perm l ∧ r.Pairwise (fun x y => aS y x = false) ∧ Below w.heap.size w w' := by
 have hc := BR hr (by omega)
 have hso := fun (v : Value) (w1 : World) (h : w1.ownsRow w.heap.size 55 10 v l.length (l.flatMap ah)) (hb : w.heap.size ≤ w1.heap.size) => KP v l w1 h (by omega) hb
 clear hr
 replace hso := Lib.hid hso
 go_enter Tryz.func198, Tryz.ntmps198
 go_wp2_with fail
 go_at_call 59
 refine hc.mono ?_
 clear hc
 rintro e w1 ⟨v1, rfl, ho, hb⟩
 have hs := hso.out v1 w1 ho hb.size
 clear hso ho
 go_wp2_with fail
 go_at_call 203
 refine hs.mono ?_
 clear hs
 rintro e w2 ⟨rfl, r, ⟨h1, _, h2, h5⟩, h3, h4⟩
 have hfin : Hid (∃ (v' : Value) (r : List Jb), Ending.returned v1 = .returned v' ∧ w2.ownsRow w.heap.size 55 10 v' r.length (r.flatMap ah) ∧ r.length = l.length ∧ r.Perm l ∧ r.Pairwise (fun x y => aS y x = false) ∧ Below w.heap.size w w2) :=
  ⟨v1, r, rfl, h3, h1, h2, h5, hb.trans h4⟩
 clear h1 h2 h3 h4 h5 hb
 go_wp2_with fail
 go_ret
 exact hfin.out
section
variable {w w' : World} {p : Nat} {v : Value} {L : List Jb}
theorem Es (h : TV w p v L) (hL : L.length ≤ 1000) : Calls Tryz.prog 191 #[.pointer (some ⟨p, 0, none⟩)] w fun e w' => ∃ (v' : Value) (r : List Jb), e = .returned v' ∧ w'.ownsRow w.heap.size 55 10 v' r.length (r.flatMap ah) ∧ r.Perm (L.filter fun j => decide (j.state = 1)) ∧ r.Pairwise (fun x y => aS y x = false) ∧ Below w.heap.size w w' := by
 have hb1 := (Below.refl w.heap.size w).alloc (Nat.le_refl _) (.cells #[.int .i64 1] 3)
 have hr : aF enc1 1 (w.alloc (.cells #[.int .i64 1] 3)) (.slice (some ⟨w.heap.size, 0, none⟩) 1 1) [1] := fF w w.heap.size [1] rfl (by decide)
 have hI := uL (h.kept hb1) hL hr
 have ef : (L.filter fun j => decide (j.state ∈ ([1] : List Int))) = L.filter fun j => decide (j.state = 1) := by
  congr 1
  funext j
  simp
 rw [ef] at hI
 have hF : (L.filter fun j => decide (j.state = 1)).length ≤ 1000 := Nat.le_trans (List.length_filter_le _ _) hL
 clear ef h hr
 generalize (L.filter fun j => decide (j.state = 1)) = F at *
 replace hb1 := Lib.hid hb1
 go_enter Tryz.func191, Tryz.ntmps191
 go_wp2_with fail
 go_at_call 18
 refine hI.mono ?_
 clear hI
 rintro e w2 ⟨v2, rfl, ho, hb⟩
 have hs := LM v2 F w2 (aF.iJ ho ax rfl rfl) hF
 have hb2 := hb1.out.trans (hb.mono hb1.out.size)
 replace hb2 := Lib.hid hb2
 clear ho hb hb1
 go_wp2_with fail
 go_at_call 198
 refine hs.mono ?_
 clear hs
 rintro e w3 ⟨v3, r, rfl, h1, _, h2, h3, h4⟩
 have hfin : Hid (∃ (v' : Value) (r : List Jb), Ending.returned v3 = .returned v' ∧ w3.ownsRow w.heap.size 55 10 v' r.length (r.flatMap ah) ∧ r.Perm F ∧ r.Pairwise (fun x y => aS y x = false) ∧ Below w.heap.size w w3) := ⟨v3, r, rfl, LK h1 hb2.out.size, h2, h3, hb2.out.trans (h4.mono hb2.out.size)⟩
 clear h1 h2 h3 h4 hb2
 go_wp2_with fail
 go_ret
 exact hfin.out
end
section
variable {w : World} {c t d p g a : Nat} {v : Value} {m : Int} {M : Md}
theorem Gw (hrun : ∀ j ∈ M.L, j.st = 3 → M.now < j.fin) : aI M M.now M.dr.length = (((List.range M.dr.length).countP fun n : Nat => decide (aO M n = 1) : Nat) : Int) := by
 unfold aI
 congr 1
 refine List.countP_congr fun n hn => ?_
 have hn := List.mem_range.1 hn
 have hs := jl (M := M) hn
 unfold bL
 rcases eB M.L n with g | ⟨q, g, hq, g2⟩
 ·rw [decide_eq_true_iff, hs]
  simp [g]
 ·have hr : (M.L.getD q default).st = 3 := by unfold aD at g2; simp at g2; exact g2.1
  have := hrun _ (aW hq) hr
  rw [decide_eq_true_iff, hs, g, Int.toNat_natCast]
  have e1 : ¬ ((q : Int) < 0) := by omega
  have e2 : decide ((M.L.getD q default).fin ≤ M.now) = false := decide_eq_false (by omega)
  rw [e2, decide_eq_false e1, Bool.or_false, Bool.and_false]
  exact ⟨fun e => (nomatch e), fun e => absurd e.1 e1⟩
theorem LP (hI : aB M) (hrun : ∀ j ∈ M.L, j.st = 3 → M.now < j.fin) {f : Nat} (hf : f < M.L.length) (hd : bX M.now (M.L.getD f default) = true) : (M.L.getD f default).wid ≤ ((List.range M.dr.length).countP fun n : Nat => decide (aO M n = 1) : Nat) := by
 have hm := aW hf
 have bo := hI.one _ hm
 unfold bX at hd
 rw [Bool.and_eq_true, decide_eq_true_iff, aY] at hd
 have hpl : ak (M.L.getD f default) = true := aY.2 hd.1
 have hid := hI.ids f hf
 have hc := fun t => kY (t := t) (but := 0) hpl (by rw [hid]; omega)
 have h0 := hI.free M.now (Int.le_refl _)
 have hge := uC (L := M.L) (fun j hj => (hI.mb.wid j hj).1) M.now 0 hm
 rw [hc, if_pos (by omega)] at hge
 rw [← Gw hrun]
 unfold ay at h0
 omega
theorem Gx (hI : aB M) {f : Nat} (hf : f < M.L.length) (hs : (M.L.getD f default).st ≠ 3) (hidle : (M.L.getD f default).wid ≤ ((List.range M.dr.length).countP fun n : Nat => decide (aO M n = 1) : Nat)) : oK (bW M) (M.L.getD f default).wid (gZ M (M.L.getD f default).wid) 0 (bW (aU M f)) := by
 have hw := (hI.one _ (aW hf)).1
 have hc : (M.L.getD f default).wid ≤ aM (gK (bW M)) (bW M).length := by
  rw [qB, bq]
  have e : gK (bW M) = fun n : Nat => decide (aO M n = 1) := funext tF
  rw [e]; exact hidle
 have hT : oK (bW M) (M.L.getD f default).wid (aL (gM (bW M) (M.L.getD f default).wid)) 0 (dV (bW M) (M.L.getD f default).wid) := ⟨fun h => by omega, fun _ h => by omega, fun _ _ => ⟨rfl, rfl, rfl⟩⟩
 obtain ⟨e1, _, e3⟩ := IZ hf hs hI.mb.nn hw hidle hT
 rw [e1, e3] at hT
 exact hT
theorem yz (hI : aB M) {f : Nat} (hf : f < M.L.length) (hs : (M.L.getD f default).st = 1) : bS M.L (fG M.now) (M.L.getD f default).id (fun j : Jb => decide (j.state = 1)) (kH M.now (gZ M (M.L.getD f default).wid : Int)) = (aU M f).L := by
 have hid := hI.ids f hf
 have jI := hI.mb.now
 have e2 : M.L[f]! = M.L.getD f default := by rw [getElem!_pos M.L f hf]; simp [List.getD, hf]
 have DI : bD M.L (fG M.now) (M.L.getD f default).id (fun j : Jb => decide (j.state = 1)) = 0 := by
  have e1 : fG M.now = 0 := by unfold fG; rw [if_neg (by omega), if_neg (by omega)]
  unfold bD
  rw [hid, e1, if_neg (by decide), if_neg (by omega), if_neg (by omega), show ((f : Int) + 1 - 1).toNat = f by omega, e2]
  exact if_pos (decide_eq_true hs)
 unfold bS
 rw [if_pos DI, hid, show ((f : Int) + 1 - 1).toNat = f by omega, e2]
 rfl
theorem LQ (f0 : Int → Int) (h : CW w c t d p v g a m { aj M with f := f0 }) (hI : aB M) (hrun : ∀ j ∈ M.L, j.st = 3 → M.now < j.fin) (n0 : Nat) (EY : kU M ≤ n0) (h1 : 1 ≤ M.dr.length) (hll : M.L.length ≤ 900) (hf0 : ∀ u, M.now ≤ u → 0 ≤ f0 u ∧ f0 u ≤ 64) :
  Calls Tryz.prog 178 #[.pointer (some ⟨c, 0, none⟩), .int .i64 M.now] w (dY w c t d p v g a m (.tuple #[]) { aj (startGo n0 M) with f := f0 }) := by
 have zE := bB
 obtain ⟨k, hk⟩ : ∃ k, k = 10 := ⟨_, rfl⟩
 rw [← hk] at zE
 have hk0 : ¬ k = 0 := by omega
 replace hk := Lib.hid hk
 have hwt := Es h.dW (by show M.L.length ≤ 1000; omega)
 rw [show ({ aj M with f := f0 } : Pg).J = M.L from rfl] at hwt
 have c0 := h.c0
 have hlt : Hid (∀ k, eF c t d p v g k → k < w.heap.size) := fun k hk => h.lt hk
 have hC := Lib.hid h
 obtain ⟨tn, htn⟩ : ∃ tn, tn = M.now := ⟨_, rfl⟩
 obtain ⟨F, hF⟩ : ∃ F, F = startGo n0 M := ⟨_, rfl⟩
 rw [← hF]
 have hg0 : Hid (∀ {r : List Jb}, r.Perm (M.L.filter fun j => decide (j.state = 1)) → r.Pairwise (fun x y => aS y x = false) → Going M F r) := fun {r} hp hs => by
  have hin : ∀ x ∈ r, x ∈ M.L := fun x hx => (List.mem_filter.1 (hp.mem_iff.1 hx)).1
  refine ⟨hI, hrun, ⟨n0, hF.symm, EY⟩, fun x hx => ?_, fun q hq hd => ?_, hs, ?_, fun x hx => by have := (List.mem_filter.1 (hp.mem_iff.1 hx)).2; exact of_decide_eq_true this⟩
  ·obtain ⟨q, hq, e⟩ := List.getElem_of_mem (hin x hx)
   have e2 : M.L.getD q default = x := by simp [List.getD, hq, e]
   have := hI.ids q hq
   rw [e2] at this
   refine ⟨by omega, by omega, ?_⟩
   rw [show (x.id - 1).toNat = q by omega]
   exact e2
  ·refine hp.mem_iff.2 (List.mem_filter.2 ⟨aW hq, ?_⟩)
   unfold bX at hd
   rw [Bool.and_eq_true] at hd
   exact decide_eq_true (aY.1 hd.1).1
  ·refine (hp.pairwise_iff (fun {x y} hxy => Ne.symm hxy)).2 (List.Pairwise.filter _ ?_)
   refine List.pairwise_iff_getElem.2 fun i q hi hq hlt2 e => ?_
   have e1 := hI.ids i hi
   have e2 := hI.ids q hq
   rw [show M.L.getD i default = M.L[i] by simp [List.getD, hi]] at e1
   rw [show M.L.getD q default = M.L[q] by simp [List.getD, hq]] at e2
   omega
 have hM : Hid (∃ N : Md, N = M) := ⟨M, rfl⟩
 have hdl : Hid (1 ≤ M.dr.length ∧ M.dr.length ≤ 64) := ⟨h1, hI.mb.nn⟩
 have hlen : (M.L.filter fun j : Jb => decide (j.state = 1)).length ≤ 900 := Nat.le_trans (List.length_filter_le _ _) hll
 rw [← htn] at hf0 ⊢
 have htb := hI.mb.now
 rw [← htn] at htb
 clear h hrun EY
 replace hF := Lib.hid hF
 replace htn := Lib.hid htn
 go_enter Tryz.func178, Tryz.ntmps178
 go_wp2_with fail
 go_at_call 191
 refine hwt.mono ?_
 clear hwt c0
 rintro e w0 ⟨u, l, rfl, ho, hp, hs, hb0⟩
 have hG0 := hg0.out hp hs
 have hC0 := hC.out.kept hb0
 have hn1 : l.length ≤ 900 := by rw [hp.length_eq]; exact hlen
 clear hp hs hlen hg0
 have hsh : Hid (∀ {ao : Option Addr} {n cap : Nat}, u = .slice ao n cap → 0 < l.length → ∃ g0, ao = some ⟨g0, 0, none⟩ ∧ w.heap.size ≤ g0) := fun {ao n cap} e hp => by
  obtain ⟨Hd, cap', e0, hp'⟩ := fI ho
  obtain ⟨g0, e4⟩ := hp' hp
  subst e4
  rw [e] at e0
  injection e0 with e0 _ _
  exact ⟨g0, e0, (ho.lt g0 (by rw [e, e0]; rfl)).1⟩
 have hr := aF.iJ ho ax rfl rfl
 obtain ⟨ao, cap, rfl, q1, q2, q3⟩ := hr
 obtain ⟨n, hn⟩ : ∃ n, l.length = n := ⟨_, rfl⟩
 rw [hn] at q1 q3 hn1 ho ⊢
 have HQ : Hid (0 < n → ∃ b, ao = some ⟨b, 0, none⟩ ∧ lX w0 b 0 l ∧ w.heap.size ≤ b) := fun hp => by
  obtain ⟨b, off, e1, e2, e3⟩ := q3 hp
  obtain ⟨g0, e4, e5⟩ := hsh.out rfl (by have := hn; omega)
  rw [e4] at e1
  injection e1 with e1
  injection e1 with e6 e7
  subst e6; subst e7
  exact ⟨g0, e4, ⟨e2, e3⟩, e5⟩
 have Fp : cap ≤ 9223372036854775807 := by unfold maxLen at q2; omega
 replace hn := Lib.hid hn
 clear q2 q3 ho
 go_wp2_with fail
 go_loopw [12] (fun ii wr => ∃ (i : Nat) (N : Md) (vr : Value) (gr : Nat), i ≤ n ∧ ii = .int .i64 i ∧ CW wr c t d p vr gr a m { aj N with f := f0 } ∧ CS w0 wr c t d p v g vr gr ∧ Hid (Going N F (l.drop i) ∧ N.now = tn ∧ N.dr.length = M.dr.length ∧ N.L.length = M.L.length)) (fun ii _ => n - (intOf ii).toNat)
 case atStart => exact ⟨0, M, v, g, Nat.zero_le _, rfl, hC0, CS.refl _, Lib.hid ⟨by rw [List.drop_zero]; exact hG0, htn.out.symm, rfl, rfl⟩⟩
 case round =>
  obtain ⟨i, N, vr, gr, hin, rfl, oP, hSr, hgo⟩ := hrel
  by_cases hlt2 : i < n
  ·have b2 : (i : Int) < (n : Int) := by omega
   have wi : IntKind.i64.wrap ((i : Int) + 1) = (i : Int) + 1 := by rw [IntKind.wrap_i64]; omega
   obtain ⟨gb, rfl, hJ, hgb⟩ := HQ.out (by omega)
   have hgf : ¬ eF c t d p v g gb := fun hf => absurd (hlt.out gb hf) (by omega)
   have qP := hJ.off hSr hgf
   have iL : i < l.length := by have := hn.out; omega
   have LI := qP.load hk.out iL
   obtain ⟨x, hx⟩ : ∃ x, x = l[i]! := ⟨_, rfl⟩
   rw [← hx, Nat.zero_add] at LI
   replace hx := Lib.hid hx
   have hdrop : l.drop i = x :: l.drop (i + 1) := by rw [hx.out, getElem!_pos l i iL]; exact List.drop_eq_getElem_cons iL
   obtain ⟨rY, jI, hdr, Qm⟩ := hgo.out
   rw [hdrop] at rY
   replace rY := Lib.hid rY
   clear hgo
   have lI := ax x
   rw [← hk.out] at lI
   have e8 : (ah x)[8]? = some (.int .i64 x.aK) := rfl
   have st := boxed wr x
   obtain ⟨w1, hw1⟩ : ∃ w1, w1 = wr.alloc (.cells (ah x).toArray 55) := ⟨_, rfl⟩
   have hb1 : Below wr.heap.size wr w1 := by rw [hw1]; exact (Below.refl _ _).alloc (Nat.le_refl _) _
   have hz1 : w1.heap[wr.heap.size]? = some (.cells (ah x).toArray 55 (0, 0)) := by rw [hw1]; exact heap_alloc_new wr _
   have c8 : w1.cell? ⟨wr.heap.size, 8, none⟩ = some (.int .i64 x.aK) := by simp [World.cell?, hz1, e8]
   have ld1 := eX hz1 lI
   replace hz1 := Lib.hid hz1
   have nT := oP.kept hb1
   have hS1 := hSr.trans (CS.of_below hb1)
   rw [← hw1] at st
   replace hw1 := Lib.hid hw1
   by_cases hpl : x.aK = tn
   ·have d1 : (x.aK == tn) = true := by simp [hpl]
    have QH := rY.out.pend x (List.mem_cons_self ..)
    have hxd : bX N.now x = true := by
     unfold bX
     rw [aY.2 ⟨QH, by omega⟩, jI, decide_eq_true hpl]
     rfl
    obtain ⟨a1, a2, a3⟩ := rY.out.next hxd
    obtain ⟨f, hf⟩ : ∃ f, f = (x.id - 1).toNat := ⟨_, rfl⟩
    rw [← hf] at a1 a2 a3
    have LU := rY.out.inv
    have TM := rY.out.run
    have OG := Gx LU a1 (by rw [a2]; omega) (LP LU TM a1 (by rw [a2]; exact hxd))
    have hbs := yz LU a1 (by rw [a2]; exact QH)
    rw [a2] at OG hbs
    have hla := launch_fn nT (OD LU (by rw [hdr]; exact h1) (by rw [Qm]; exact hll) (by rw [jI]; exact hf0)) x (by have := LU.mb.wid x (by rw [← a2]; exact aW a1); omega) OG
    rw [show ({ aj N with f := f0 } : Pg).J = N.L from rfl, show ({ aj N with f := f0 } : Pg).now = N.now from rfl, hbs] at hla
    have OJ : (aU N f).L.length = M.L.length := by unfold aU; rw [List.length_set]; exact Qm
    have OL := Lib.hid (show Going (aU N f) F (l.drop (i + 1)) ∧ (aU N f).now = tn ∧ (aU N f).dr.length = M.dr.length ∧ (aU N f).L.length = M.L.length from ⟨a3, jI, hdr, OJ⟩)
    replace hpl := Lib.hid hpl
    replace hf := Lib.hid hf
    clear a1 a2 a3 OG hbs LU TM hxd OJ
    generalize ah x = cI at *
    go_wp2_with fail
    go_at_call 179
    refine hla.mono ?_
    clear hla
    rintro e w5 ⟨rfl, v5, g5, fZ, hS5⟩
    have fC := hS1.trans hS5
    go_wp2_with fail
    go_roundw
    case rel => exact ⟨i + 1, aU N f, v5, g5, by omega, by go_num, (show CW _ _ _ _ _ _ _ _ _ { aj (aU N f) with f := f0 } from fZ), fC, OL⟩
    case measure => simp [intOf]; omega
   ·have d1 : (x.aK == tn) = false := by simp [hpl]
    have OL := Lib.hid (show Going N F (l.drop (i + 1)) ∧ N.now = tn ∧ N.dr.length = M.dr.length ∧ N.L.length = M.L.length from ⟨rY.out.skip (by unfold bX; rw [jI, decide_eq_false hpl, Bool.and_false]), jI, hdr, Qm⟩)
    generalize ah x = cI at *
    go_wp2_with fail
    go_roundw
    case rel => exact ⟨i + 1, N, vr, gr, by omega, by go_num, nT, hS1, OL⟩
    case measure => simp [intOf]; omega
  ·have e : i = n := by omega
   subst e
   obtain ⟨rY, jI, hdr, Qm⟩ := hgo.out
   have hend : l.drop i = [] := List.drop_eq_nil_of_le (by have := hn.out; omega)
   rw [hend] at rY
   have RL := rY.last
   have hfin := (CS.of_below hb0 : CS w w0 c t d p v g v g).trans hSr
   rw [← RL] at oP
   replace RL := Lib.hid RL
   go_wp2_with fail
   go_end0
   have e9 := htn.out
   clear htn
   exact ⟨rfl, vr, gr, oP, hfin⟩
end
end Go.Proofs.YtkhfejihijdipaaGreat

namespace Go.Proofs.YtkhfejihijdipaaGreat
open Go.RowKit Go.Lib Go.Sort
def Jd (now : Int) (j : Jb) : List Int := [j.fin, j.aK].filter fun t => decide (now < t)
def qF (now : Int) (l : List Jb) : List Int := l.flatMap (Jd now)
theorem OM (now : Int) (j : Jb) : (Jd now j).length ≤ 2 := Nat.le_trans (List.length_filter_le _ _) (by simp)
theorem OO (now : Int) (l : List Jb) : (qF now l).length ≤ 2 * l.length := by
 unfold qF
 induction l with
 | nil => simp
 | cons a l ih => rw [List.flatMap_cons, List.length_append, List.length_cons]; have := OM now a; omega
theorem OP : (Tryz.prog.info? 2).map (fun i => (i.zero, i.size, i.bytes)) = some (some (.int .i64 0), 1, 8) := by kernel_rfl
theorem LV (now : Int) {l : List Jb} {i : Nat} (hi : i < l.length) : qF now (l.take (i + 1)) = qF now (l.take i) ++ Jd now l[i]! := by
 unfold qF
 rw [List.take_succ_eq_append_getElem hi, List.flatMap_append, getElem!_pos l i hi]
 simp
theorem Av (a b : List Int) : nV (a ++ b) = nV a ++ nV b := by simp [nV]
theorem OQ (l : List Int) : nV l = l.flatMap fun x : Int => [Value.int .i64 x] := by
 induction l with
 | nil => rfl
 | cons a l ih => rw [List.flatMap_cons, ← ih]; rfl
theorem LW {w : World} {base : Nat} {v : Value} {n : Nat} {l : List Int} {e : TypeId} (h : w.ownsRow base e 1 v n (nV l)) (hn : n = l.length) (hf : ∀ z ∈ l, -9223372036854775808 ≤ z ∧ z ≤ 9223372036854775807) : oq w v l := by
 subst hn
 refine ⟨?_, hf⟩
 obtain ⟨ao, cap, rfl, hg⟩ := fI h
 have hr : aF (fun x : Int => [Value.int .i64 x]) 1 w (.slice ao l.length cap) l := aF.iJ h (fun _ => rfl) (OQ l) rfl
 obtain ⟨Hd, cap', e0, q1, q2, q3⟩ := hr
 injection e0 with e1 _ e2
 subst e1; subst e2
 refine ⟨ao, cap, rfl, q1, q2, fun hz => ?_⟩
 obtain ⟨b, off, e3, e4, e5⟩ := q3 (List.length_pos_iff.2 hz)
 refine ⟨b, off, e3, e4, fun i hi => ?_⟩
 have := (e5 i (l.getD i 0) 0 (.int .i64 (l.getD i 0)) (by simp [List.getD, hi]) rfl)
 simpa using this
section
variable {w : World} {c t d p g a : Nat} {v : Value} {m : Int} {P : Pg}
theorem Cv (h : CW w c t d p v g a m P) (hk : PK P) (hfn : ∀ j ∈ P.J, -1 ≤ j.fin ∧ j.fin ≤ 1099512676352) (hpn : ∀ j ∈ P.J, -1 ≤ j.aK ∧ j.aK ≤ 1099511627776) :
  Calls Tryz.prog 175 #[.pointer (some ⟨c, 0, none⟩)] w fun e w' => e = .returned (.int .i64 (jU (qF P.now (P.J.filter fun j : Jb => decide (j.state ∈ [(1 : Int), 3]))))) ∧ Below w.heap.size w w' := by
 have zE := bB
 obtain ⟨k, hk1⟩ : ∃ k, k = 10 := ⟨_, rfl⟩
 rw [← hk1] at zE
 have hk0 : ¬ k = 0 := by omega
 replace hk1 := Lib.hid hk1
 obtain ⟨i0, hi0, hz0, hz1, hz2⟩ := info_parts OP
 obtain ⟨wA, aT⟩ : ∃ wA, wA = w.alloc (.cells #[.int .i64 1, .int .i64 3] 3) := ⟨_, rfl⟩
 have dE : Below w.heap.size w wA := by rw [aT]; exact (Below.refl _ _).alloc (Nat.le_refl _) _
 have Jc : aF enc1 1 wA (.slice (some ⟨w.heap.size, 0, none⟩) 2 2) [1, 3] := by rw [aT]; exact fF w w.heap.size [1, 3] rfl (by decide)
 have hin := uL (h.kept dE).dW (by have := hk.few; omega) Jc
 have c0 := h.c0
 generalize hL1 : (P.J.filter fun j : Jb => decide (j.state ∈ [(1 : Int), 3])) = l at *
 have hn1 : l.length ≤ 900 := by rw [← hL1]; exact Nat.le_trans (List.length_filter_le _ _) hk.few
 have hmem : Hid (∀ i, i < l.length → l[i]! ∈ P.J) := fun i hi => by
  have h1 : l[i]! ∈ l := by rw [getElem!_pos l i hi]; exact List.getElem_mem _
  have h2 : l[i]! ∈ P.J.filter fun j : Jb => decide (j.state ∈ [(1 : Int), 3]) := hL1 ▸ h1
  exact (List.mem_filter.1 h2).1
 have hfit : Hid (∀ z ∈ qF P.now l, -9223372036854775808 ≤ z ∧ z ≤ 9223372036854775807) := fun z hz => by
  unfold qF at hz
  obtain ⟨j, hj, hz⟩ := List.mem_flatMap.1 hz
  rw [← hL1] at hj
  have hj := (List.mem_filter.1 hj).1
  have h1 := hfn j hj
  have h2 := hpn j hj
  have hz := (List.mem_filter.1 hz).1
  simp at hz
  rcases hz with rfl | rfl <;> omega
 have hC := Lib.hid (fun (W : World) (hW : Below w.heap.size w W) => h.kept hW)
 replace hL1 := Lib.hid hL1
 rw [aT] at hin
 clear h
 go_enter Tryz.func175, Tryz.ntmps175
 go_wp2_with fail
 go_at_call 18
 refine hin.mono ?_
 clear hin c0
 rw [← aT]
 rintro e w0 ⟨u, rfl, ho, hb0⟩
 have hbw0 : Below w.heap.size w w0 := dE.trans (hb0.mono dE.size)
 replace aT := Lib.hid aT
 have hr := aF.iJ ho ax rfl rfl
 obtain ⟨ao, cap, rfl, q1, q2, q3⟩ := hr
 obtain ⟨n, hn⟩ : ∃ n, l.length = n := ⟨_, rfl⟩
 rw [hn] at q1 q3 hn1 ho ⊢
 have HQ : Hid (0 < n → ∃ b off, ao = some ⟨b, off, none⟩ ∧ lX w0 b off l) := fun hp => by
  obtain ⟨b, off, e1, e2, e3⟩ := q3 hp
  exact ⟨b, off, e1, e2, e3⟩
 have Fp : cap ≤ 9223372036854775807 := by unfold maxLen at q2; omega
 replace hn := Lib.hid hn
 clear q2 q3 ho hb0
 go_wp2_with fail
 go_loopw [3, 15] (fun tt ii wr => ∃ (i : Nat), i ≤ n ∧ ii = .int .i64 i ∧ wr.ownsRow w0.heap.size 2 1 tt (qF P.now (l.take i)).length (nV (qF P.now (l.take i))) ∧ Below w0.heap.size w0 wr) (fun _ ii _ => n - (intOf ii).toNat)
 case atStart => exact ⟨0, Nat.zero_le _, rfl, World.ownsRow_nil w0 w0.heap.size 2 1, Below.refl _ _⟩
 case round =>
  obtain ⟨i, hin, rfl, hown, hbr⟩ := hrel
  by_cases hlt2 : i < n
  ·have b2 : (i : Int) < (n : Int) := by omega
   have wi : IntKind.i64.wrap ((i : Int) + 1) = (i : Int) + 1 := by rw [IntKind.wrap_i64]; omega
   obtain ⟨gb, off, rfl, hJ⟩ := HQ.out (by omega)
   have qP := hJ.below hbr
   have iL : i < l.length := by have := hn.out; omega
   have LI := qP.load hk1.out iL
   have hsn := Lib.hid (LV P.now iL)
   have TN := OO P.now (l.take i)
   rw [List.length_take] at TN
   have hxm := hmem.out i iL
   obtain ⟨x, hx⟩ : ∃ x, x = l[i]! := ⟨_, rfl⟩
   rw [← hx] at LI hsn hxm
   replace hx := Lib.hid hx
   obtain ⟨T, hT⟩ : ∃ T, T = qF P.now (l.take i) := ⟨_, rfl⟩
   rw [← hT] at hsn hown TN
   replace hT := Lib.hid hT
   have lI := ax x
   rw [← hk1.out] at lI
   have e7 : (ah x)[7]? = some (.int .i64 x.fin) := rfl
   have e8 : (ah x)[8]? = some (.int .i64 x.aK) := rfl
   have st := boxed wr x
   obtain ⟨w1, hw1⟩ : ∃ w1, w1 = wr.alloc (.cells (ah x).toArray 55) := ⟨_, rfl⟩
   have hb1 : Below w0.heap.size w0 w1 := by rw [hw1]; exact hbr.alloc hbr.size _
   have hown1 := hown.alloc (.cells (ah x).toArray 55)
   rw [← hw1] at hown1
   have hz1 : w1.heap[wr.heap.size]? = some (.cells (ah x).toArray 55 (0, 0)) := by rw [hw1]; exact heap_alloc_new wr _
   have c7 : w1.cell? ⟨wr.heap.size, 7, none⟩ = some (.int .i64 x.fin) := by simp [World.cell?, hz1, e7]
   have c8 : w1.cell? ⟨wr.heap.size, 8, none⟩ = some (.int .i64 x.aK) := by simp [World.cell?, hz1, e8]
   clear hz1 hown
   rw [← hw1] at st
   replace hw1 := Lib.hid hw1
   have UY : Hid (Jd P.now x = [x.fin, x.aK].filter fun t => decide (P.now < t)) := rfl
   generalize x.fin = xf at *
   generalize x.aK = xp at *
   generalize ah x = cI at *
   have Vt : ∀ W, Sem.run Tryz.prog (Instr.index 207 (.agg #[.int .i64 xf, .int .i64 xp]) (.int .i64 0)) W = .ok (.int .i64 xf) W := fun W => rfl
   have Vu : ∀ W, Sem.run Tryz.prog (Instr.index 207 (.agg #[.int .i64 xf, .int .i64 xp]) (.int .i64 1)) W = .ok (.int .i64 xp) W := fun W => rfl
   go_wp2_with fail
   go_loopw [3, 24] (fun tt mm ws => ∃ (q : Nat), q ≤ 2 ∧ mm = .int .i64 q ∧ ws.ownsRow w0.heap.size 2 1 tt (T ++ ([xf, xp].take q).filter fun t => decide (P.now < t)).length (nV (T ++ ([xf, xp].take q).filter fun t => decide (P.now < t))) ∧ Below w0.heap.size w0 ws) (fun _ mm _ => 2 - (intOf mm).toNat)
   case atStart => exact ⟨0, Nat.zero_le _, rfl, by simpa using hown1, hb1⟩
   case round =>
    obtain ⟨q, hq, rfl, hoq, hbq⟩ := hrel
    by_cases hq2 : q < 2
    ·have TP := hC.out wr (hbw0.trans (hbq.mono hbw0.size))
     have c2 := TP.c2
     have jI := fO TP
     obtain ⟨X, hX⟩ : ∃ X, X = T ++ ([xf, xp].take q).filter fun t => decide (P.now < t) := ⟨_, rfl⟩
     have SH : X.length ≤ 2000 := by
      rw [hX, List.length_append]
      have := List.length_filter_le (fun t => decide (P.now < t)) ([xf, xp].take q)
      have h9 : ([xf, xp].take q).length ≤ 2 := by rw [List.length_take]; exact Nat.min_le_right _ _
      omega
     obtain ⟨y, hy⟩ : ∃ y, y = if q = 0 then xf else xp := ⟨_, rfl⟩
     have htk : Hid ((T ++ ([xf, xp].take (q + 1)).filter fun t => decide (P.now < t)) = X ++ [y].filter fun t => decide (P.now < t)) := by
      show _ = _
      rw [hX, hy]
      rcases (show q = 0 ∨ q = 1 by omega) with rfl | rfl
      ·rw [if_pos rfl, List.append_assoc, ← List.filter_append]; rfl
      ·rw [if_neg (by decide), List.append_assoc, ← List.filter_append]; rfl
     rw [← hX] at hoq
     replace hX := Lib.hid hX
     have TQ : Hid (y = if q = 0 then xf else xp) := hy
     rcases (show q = 0 ∨ q = 1 by omega) with rfl | rfl
     ·clear hy
      have hyv := TQ.out
      rw [if_pos rfl] at hyv
      subst hyv
      by_cases hgt : P.now < y
      ·have d1 : decide (y > P.now) = true := decide_eq_true hgt
       have hF : Hid ([y].filter (fun t => decide (P.now < t)) = [y]) := by show _ = _; simp [hgt]
       replace hgt := Lib.hid hgt
       go_wp2_with (first | (go_at_call 43; go_must (refine jI.mono ?_); rintro e w' ⟨rfl, rfl⟩) | (at_builtin; go_must (refine wpList_append_own _ rfl (.tmp 34) (.tmp 36) 130 rfl w0.heap.size 2 i0 (.int .i64 0) 1 8 Tryz.underlying130 hi0 hz0 hz1 hz2 rfl (by decide) u3 X.length (nV X) rfl (hoq.alloc _) ⟨wr.heap.size, 0, none⟩ 1 1 [.int .i64 y] rfl rfl ?_ ?_ ?_ ?_ ?_ ?_)))
       ·exact um (vs := [.int .i64 y]) rfl
       ·simp [Value.oneCell']
       ·unfold maxLen; omega
       ·omega
       ·have hh : ∀ o, (wr.alloc o).heap.size = wr.heap.size + 1 := fun o => by simp
        have hsz := hbq.size
        first | omega | (rw [hh]; omega)
       ·intro v' w2 hown3 hgrow _
        have hb2 : Below w0.heap.size w0 w2 := (hbq.alloc hbq.size _).grown hgrow (by
         have hh : ∀ o, (wr.alloc o).heap.size = wr.heap.size + 1 := fun o => by simp
         have hsz := hbq.size
         first | omega | (rw [hh]; omega)) (fun z hz => (hoq.lt z hz).1)
        have hfin : Hid (w2.ownsRow w0.heap.size 2 1 v' (T ++ ([y, xp].take (0 + 1)).filter fun t => decide (P.now < t)).length (nV (T ++ ([y, xp].take (0 + 1)).filter fun t => decide (P.now < t)))) := by
         show World.ownsRow _ _ _ _ _ _ _
         rw [htk.out, hF.out, Av, List.length_append]
         exact hown3
        clear hown3 hgrow hoq hbq
        go_wp2_with fail
        go_roundw
        case rel => exact ⟨1, by omega, by go_num, hfin.out, hb2⟩
        case measure => simp [intOf]
      ·have d1 : decide (y > P.now) = false := decide_eq_false hgt
       have hF : Hid ([y].filter (fun t => decide (P.now < t)) = []) := by show _ = _; simp [hgt]
       have hfin : Hid (wr.ownsRow w0.heap.size 2 1 u3 (T ++ ([y, xp].take (0 + 1)).filter fun t => decide (P.now < t)).length (nV (T ++ ([y, xp].take (0 + 1)).filter fun t => decide (P.now < t)))) := by
        show World.ownsRow _ _ _ _ _ _ _
        rw [htk.out, hF.out, List.append_nil]
        exact hoq
       replace hgt := Lib.hid hgt
       go_wp2_with (first | (go_at_call 43; go_must (refine jI.mono ?_); rintro e w' ⟨rfl, rfl⟩))
       go_roundw
       case rel => exact ⟨1, by omega, by go_num, hfin.out, hbq⟩
       case measure => simp [intOf]
     ·clear hy
      have hyv := TQ.out
      rw [if_neg (by decide)] at hyv
      subst hyv
      by_cases hgt : P.now < y
      ·have d1 : decide (y > P.now) = true := decide_eq_true hgt
       have hF : Hid ([y].filter (fun t => decide (P.now < t)) = [y]) := by show _ = _; simp [hgt]
       replace hgt := Lib.hid hgt
       go_wp2_with (first | (go_at_call 43; go_must (refine jI.mono ?_); rintro e w' ⟨rfl, rfl⟩) | (at_builtin; go_must (refine wpList_append_own _ rfl (.tmp 34) (.tmp 36) 130 rfl w0.heap.size 2 i0 (.int .i64 0) 1 8 Tryz.underlying130 hi0 hz0 hz1 hz2 rfl (by decide) u3 X.length (nV X) rfl (hoq.alloc _) ⟨wr.heap.size, 0, none⟩ 1 1 [.int .i64 y] rfl rfl ?_ ?_ ?_ ?_ ?_ ?_)))
       ·exact um (vs := [.int .i64 y]) rfl
       ·simp [Value.oneCell']
       ·unfold maxLen; omega
       ·omega
       ·have hh : ∀ o, (wr.alloc o).heap.size = wr.heap.size + 1 := fun o => by simp
        have hsz := hbq.size
        first | omega | (rw [hh]; omega)
       ·intro v' w2 hown3 hgrow _
        have hb2 : Below w0.heap.size w0 w2 := (hbq.alloc hbq.size _).grown hgrow (by
         have hh : ∀ o, (wr.alloc o).heap.size = wr.heap.size + 1 := fun o => by simp
         have hsz := hbq.size
         first | omega | (rw [hh]; omega)) (fun z hz => (hoq.lt z hz).1)
        have hfin : Hid (w2.ownsRow w0.heap.size 2 1 v' (T ++ ([xf, y].take (1 + 1)).filter fun t => decide (P.now < t)).length (nV (T ++ ([xf, y].take (1 + 1)).filter fun t => decide (P.now < t)))) := by
         show World.ownsRow _ _ _ _ _ _ _
         rw [htk.out, hF.out, Av, List.length_append]
         exact hown3
        clear hown3 hgrow hoq hbq
        go_wp2_with fail
        go_roundw
        case rel => exact ⟨2, by omega, by go_num, hfin.out, hb2⟩
        case measure => simp [intOf]
      ·have d1 : decide (y > P.now) = false := decide_eq_false hgt
       have hF : Hid ([y].filter (fun t => decide (P.now < t)) = []) := by show _ = _; simp [hgt]
       have hfin : Hid (wr.ownsRow w0.heap.size 2 1 u3 (T ++ ([xf, y].take (1 + 1)).filter fun t => decide (P.now < t)).length (nV (T ++ ([xf, y].take (1 + 1)).filter fun t => decide (P.now < t)))) := by
        show World.ownsRow _ _ _ _ _ _ _
        rw [htk.out, hF.out, List.append_nil]
        exact hoq
       replace hgt := Lib.hid hgt
       go_wp2_with (first | (go_at_call 43; go_must (refine jI.mono ?_); rintro e w' ⟨rfl, rfl⟩))
       go_roundw
       case rel => exact ⟨2, by omega, by go_num, hfin.out, hbq⟩
       case measure => simp [intOf]
    ·obtain rfl : q = 2 := by omega
     have hfin : Hid (wr.ownsRow w0.heap.size 2 1 u3 (qF P.now (l.take (i + 1))).length (nV (qF P.now (l.take (i + 1))))) := by
      show World.ownsRow _ _ _ _ _ _ _
      rw [hsn.out, UY.out]
      exact hoq
     go_wp2_with fail
     go_roundw
     case rel => exact ⟨i + 1, by omega, by go_num, hfin.out, hbq⟩
     case measure => simp [intOf]; omega
  ·have e : i = n := by omega
   subst e
   have e1 : l.take i = l := List.take_of_length_le (by rw [hn.out]; exact Nat.le_refl _)
   rw [e1] at hown
   have hle := I1 u3 (qF P.now l) wr (LW hown rfl hfit.out)
   have hfin := hbw0.trans (hbr.mono hbw0.size)
   replace e1 := Lib.hid e1
   go_wp2_with (go_at_call 189; go_must (refine hle.mono ?_); rintro e w' ⟨rfl, rfl⟩)
   go_ret
   exact ⟨rfl, hfin⟩
end
end Go.Proofs.YtkhfejihijdipaaGreat

namespace Go.Proofs.YtkhfejihijdipaaGreat
open Go.RowKit Go.Lib Go.Sort
def Cw (n : Int) (j : Jb) : Bool := qK j.bF.toNat n
def jV (L : List Jb) (n : Int) : Jb := match L.findIdx? (fun j => decide (j.state ∈ [(3 : Int)]) && Cw n j) with | some i => L.getD i default | none => gN
section
variable {w : World} {c t d p g a : Nat} {v : Value} {m : Int} {P : Pg}
theorem Gy (h : CW w c t d p v g a m P) (hll : P.J.length ≤ 900) (hnd : ∀ j ∈ P.J, 0 ≤ j.bF ∧ j.bF ≤ 18446744073709551615) (x : Int) (hx : -9223372036854775808 ≤ x ∧ x ≤ 9223372036854775807) :
  Calls Tryz.prog 20 #[.pointer (some ⟨c, 0, none⟩), .int .i64 x] w fun e w' => e = .returned (.agg (ah (jV P.J x)).toArray) ∧ Below w.heap.size w w' := by
 have zE := bB
 obtain ⟨k, hk⟩ : ∃ k, k = 10 := ⟨_, rfl⟩
 rw [← hk] at zE
 have hk0 : ¬ k = 0 := by omega
 replace hk := Lib.hid hk
 obtain ⟨wA, aT⟩ : ∃ wA, wA = w.alloc (.cells #[.int .i64 0, .int .i64 0, .int .i64 0, .int .i64 0, .int .i64 0, .int .i64 0, .int .i64 0, .int .i64 0, .int .i64 0, .int .u64 0] 55) := ⟨_, rfl⟩
 have dE : Hid (Below w.heap.size w wA) := by show Below _ _ _; rw [aT]; exact (Below.refl _ _).alloc (Nat.le_refl _) _
 have hsA : wA.heap.size = w.heap.size + 1 := by rw [aT]; simp
 have Rz : Hid (wA.heap[w.heap.size]? = some (.cells (ah gN).toArray 55 (0, 0))) := by show _ = _; rw [aT]; exact heap_alloc_new w _
 have hA := h.kept dE.out
 have hno := kP hA
 obtain ⟨wB, yK⟩ : ∃ wB, wB = wA.alloc (.cells #[.int .i64 3] 3) := ⟨_, rfl⟩
 have LX : Below wA.heap.size wA wB := by rw [yK]; exact (Below.refl _ _).alloc (Nat.le_refl _) _
 have UZ : aF enc1 1 wB (.slice (some ⟨w.heap.size + 1, 0, none⟩) 1 1) [3] := by rw [← hsA, yK]; exact fF wA wA.heap.size [3] rfl (by decide)
 have hin := uL (hA.kept LX).dW (by omega) UZ
 have c0 := hA.c0
 generalize hL1 : (P.J.filter fun j : Jb => decide (j.state ∈ [(3 : Int)])) = l at *
 have hn1 : l.length ≤ 900 := by rw [← hL1]; exact Nat.le_trans (List.length_filter_le _ _) hll
 have hmem : Hid (∀ i, i < l.length → l[i]! ∈ P.J) := fun i hi => by
  have h1 : l[i]! ∈ l := by rw [getElem!_pos l i hi]; exact List.getElem_mem _
  have h2 : l[i]! ∈ P.J.filter fun j : Jb => decide (j.state ∈ [(3 : Int)]) := hL1 ▸ h1
  exact (List.mem_filter.1 h2).1
 replace hL1 := Lib.hid hL1
 rw [aT] at hno c0
 rw [yK, aT] at hin
 clear h
 go_enter Tryz.func20, Tryz.ntmps20
 go_wp2_with (first | (go_at_call 34; go_must (refine hno.mono ?_); rintro e w' ⟨rfl, rfl⟩))
 go_at_call 18
 refine hin.mono ?_
 clear hin hno c0
 rw [← aT, ← yK]
 rintro e w0 ⟨u, rfl, ho, hb0⟩
 have hbw0 : Hid (Below w.heap.size w w0) := dE.out.trans ((LX.trans (hb0.mono LX.size)).mono dE.out.size)
 have hx0 : w0.heap[w.heap.size]? = some (.cells (ah gN).toArray 55 (0, 0)) := (hb0.block _ (by have := LX.size; omega)).trans ((LX.block _ (by omega)).trans Rz.out)
 have hsz0 : w.heap.size < w0.heap.size := aG hx0
 replace aT := Lib.hid aT
 replace yK := Lib.hid yK
 have hr := aF.iJ ho ax rfl rfl
 obtain ⟨ao, cap, rfl, q1, q2, q3⟩ := hr
 obtain ⟨n, hn⟩ : ∃ n, l.length = n := ⟨_, rfl⟩
 rw [hn] at q1 q3 hn1 ⊢
 have HQ : Hid (0 < n → ∃ b off, ao = some ⟨b, off, none⟩ ∧ lX w0 b off l) := fun hp => by
  obtain ⟨b, off, e1, e2, e3⟩ := q3 hp
  exact ⟨b, off, e1, e2, e3⟩
 have Fp : cap ≤ 9223372036854775807 := by unfold maxLen at q2; omega
 replace hn := Lib.hid hn
 clear q2 q3 ho hb0 LX
 go_wp2_with fail
 go_loopw [17] (fun ii wr => ∃ (i : Nat), i ≤ n ∧ ii = .int .i64 i ∧ Below w0.heap.size w0 wr ∧ Hid (∀ j, j < i → Cw x l[j]! = false)) (fun ii _ => n - (intOf ii).toNat)
 case atStart => exact ⟨0, Nat.zero_le _, rfl, Below.refl _ _, Lib.hid fun j hj => absurd hj (Nat.not_lt_zero _)⟩
 case round =>
  obtain ⟨i, hin, rfl, hbr, hno⟩ := hrel
  have pO : wr.heap[w.heap.size]? = some (.cells (ah gN).toArray 55 (0, 0)) := (hbr.block _ hsz0).trans hx0
  have OT := hbw0.out.trans (hbr.mono (Nat.le_of_lt hsz0))
  by_cases hlt2 : i < n
  ·have b2 : (i : Int) < (n : Int) := by omega
   have wi : IntKind.i64.wrap ((i : Int) + 1) = (i : Int) + 1 := by rw [IntKind.wrap_i64]; omega
   obtain ⟨gb, off, rfl, hJ⟩ := HQ.out (by omega)
   have qP := hJ.below hbr
   have iL : i < l.length := by have := hn.out; omega
   have LI := qP.load hk.out iL
   have hxm := hmem.out i iL
   obtain ⟨y, hy⟩ : ∃ y, y = l[i]! := ⟨_, rfl⟩
   rw [← hy] at LI hxm
   replace hy := Lib.hid hy
   have lI := ax y
   have hny := hnd y hxm
   rw [← hk.out] at lI
   have st : Sem.run Tryz.prog (storeCells ⟨wr.heap.size, 0, none⟩ (ah y) 0) (wr.alloc (.cells #[.int .i64 0, .int .i64 0, .int .i64 0, .int .i64 0, .int .i64 0, .int .i64 0, .int .i64 0, .int .i64 0, .int .i64 0, .int .u64 0] 55)) = .ok () (wr.alloc (.cells (ah y).toArray 55)) := cz wr wr.heap.size (ah y) (ah gN) 55 rfl rfl (df y)
   obtain ⟨w1, hw1⟩ : ∃ w1, w1 = wr.alloc (.cells (ah y).toArray 55) := ⟨_, rfl⟩
   have hb1 : Below wr.heap.size wr w1 := by rw [hw1]; exact (Below.refl _ _).alloc (Nat.le_refl _) _
   have hz1 : w1.heap[wr.heap.size]? = some (.cells (ah y).toArray 55 (0, 0)) := by rw [hw1]; exact heap_alloc_new wr _
   have V6 := hbr.size
   have hx1 : w1.heap[w.heap.size]? = some (.cells (ah gN).toArray 55 (0, 0)) := (hb1.block _ (by omega)).trans pO
   have ld1 := eX hz1 lI
   have c9 : w1.cell? ⟨wr.heap.size, 9, none⟩ = some (.int .u64 y.bF) := by simp [World.cell?, hz1]; rfl
   have hhas := sV y.bF.toNat (by omega) x w1 hx
   rw [show ((y.bF.toNat : Nat) : Int) = y.bF by omega] at hhas
   have JS : Sem.run Tryz.prog (storeCells ⟨w.heap.size, 0, none⟩ (ah y) 0) w1 = .ok () (w1.setRow w.heap.size (ah y).toArray) := ni hx1
   have hx2 := vU hx1 (ah y).toArray
   have RA := Lib.hid (show (ah y).toArray.size = 10 from rfl)
   have hb2 : Below w.heap.size w (w1.setRow w.heap.size (ah y).toArray) := pX (OT.trans (hb1.mono OT.size)) (Nat.le_refl _) _
   generalize hcI : ah y = cI at *
   replace hcI := Lib.hid hcI
   rw [← hw1] at st
   replace hw1 := Lib.hid hw1
   replace hz1 := Lib.hid hz1
   cases hP : qK y.bF.toNat x with
   | false =>
    rw [hP] at hhas
    go_wp2_with (go_at_call 56; go_must (refine hhas.mono ?_); rintro e w' ⟨rfl, rfl⟩)
    go_roundw
    case rel => exact ⟨i + 1, by omega, by go_num, hbr.trans (hb1.mono hbr.size), Lib.hid fun j hj => by
     rcases Nat.lt_succ_iff_lt_or_eq.1 hj with h5 | h5
     ·exact hno.out j h5
     ·subst h5; rw [← hy.out]; exact hP⟩
    case measure => simp [intOf]; omega
   | true =>
    rw [hP] at hhas
    obtain ⟨f, hf1, hf2, hf3⟩ := Cr (q := fun j : Jb => decide (j.state ∈ [(3 : Int)])) (p := Cw x) (L := P.J) (i := i) (by rw [hL1.out]; exact iL) (fun j hj => by rw [hL1.out]; exact hno.out j hj) (by rw [hL1.out, ← hy.out]; exact hP)
    rw [hL1.out, ← hy.out] at hf3
    have hres : Hid (jV P.J x = y) := by show _ = _; unfold jV; rw [hf1]; exact hf3
    go_wp2_with (go_at_call 56; go_must (refine hhas.mono ?_); rintro e w' ⟨rfl, rfl⟩)
    refine fq rfl rfl rfl hx2 Tryz.underlying55 rfl (by rw [RA.out]; kernel_rfl) ⟨?_, hb2⟩
    rw [hres.out, hcI.out]
  ·have e : i = n := by omega
   subst e
   have hfi := Gc (q := fun j : Jb => decide (j.state ∈ [(3 : Int)])) (p := Cw x) (L := P.J) (fun j hj => by rw [hL1.out]; exact hno.out j (by rw [← hn.out]; rw [hL1.out] at hj; exact hj))
   have hres : Hid (jV P.J x = gN) := by show _ = _; unfold jV; rw [hfi]
   obtain ⟨k0, f0, s0⟩ := bA pO 0 (.int .i64 0) rfl
   obtain ⟨k1, f1, s1⟩ := bA pO 1 (.int .i64 0) rfl
   obtain ⟨k2, f2, s2⟩ := bA pO 2 (.int .i64 0) rfl
   obtain ⟨k3, f3, s3⟩ := bA pO 3 (.int .i64 0) rfl
   obtain ⟨k4, f4, s4⟩ := bA pO 4 (.int .i64 0) rfl
   obtain ⟨k5, f5, s5⟩ := bA pO 5 (.int .i64 0) rfl
   obtain ⟨k6, f6, s6⟩ := bA pO 6 (.int .i64 0) rfl
   obtain ⟨k7, f7, s7⟩ := bA pO 7 (.int .i64 0) rfl
   obtain ⟨k8, f8, s8⟩ := bA pO 8 (.int .i64 0) rfl
   obtain ⟨k9, f9, s9⟩ := bA pO 9 (.int .u64 0) rfl
   obtain rfl := hk.out
   replace pO := Lib.hid pO
   go_wp2_with fail
   refine fq rfl rfl rfl pO.out Tryz.underlying55 rfl (by kernel_rfl) ⟨?_, OT⟩
   rw [hres.out]
end
end Go.Proofs.YtkhfejihijdipaaGreat

namespace Go.Proofs.YtkhfejihijdipaaGreat
open Go.RowKit Go.Lib Go.Sort
theorem uY {L : List Jb} {e0 id : Int} {ok : Jb → Bool} {ch : Jb → Jb} (h : bD L e0 id ok ≠ 0) : bS L e0 id ok ch = L := by unfold bS; rw [if_neg h]
section
variable {w : World} {b c t d p g a : Nat} {v : Value} {m : Int} {P : Pg} {R : Wk}
theorem Cx (h : SW w b c t d p v g a m R P) (e1 : Int) (he1 : e1 ≠ 0) (hE : bD P.J 0 R.ag.id (fun j : Jb => decide (j.state = 1)) = e1) :
  Calls Tryz.prog 119 #[.pointer (some ⟨b, 0, none⟩), .pointer (some ⟨c, 0, none⟩)] w (au w b c t d p v g a m .nilFunc { ({ R with aA := bE P.J R.ag.id } : Wk) with rep := jL e1, ok := false } P) := by
 have zJ := bB
 obtain ⟨k, hk1⟩ : ∃ k, k = 10 := ⟨_, rfl⟩
 rw [← hk1] at zJ
 have hk0 : ¬ k = 0 := by omega
 have hS := Lib.hid h
 have hcon := fun (W : World) (v1 : Value) (g1 : Nat) (R1 : Wk) (hW : SW W b c t d p v1 g1 a m R1 P) => Ci hW.cw R.ag.id
 obtain ⟨L1, hL1⟩ : ∃ L1, L1 = bS P.J 0 R.ag.id (fun j : Jb => decide (j.state = 1)) oH := ⟨_, rfl⟩
 have hL2 : L1 = P.J := hL1.trans (uY (by rw [hE]; exact he1))
 rw [← hL1, hE, hL2, show ({ P with J := P.J } : Pg) = P from rfl] at hcon
 have d0 : (e1 != 0) = true := by simp [he1]
 replace hL2 := Lib.hid hL2
 replace he1 := Lib.hid he1
 replace hE := Lib.hid hE
 replace hL1 := Lib.hid hL1
 have hget := gz h.drew.cw.dW R.ag.id
 unfold iw at hget
 obtain ⟨x, hx⟩ : ∃ x, x = bE P.J R.ag.id := ⟨_, rfl⟩
 rw [← hx] at hget
 rw [← hx]
 replace hx := Lib.hid hx
 have lJ := ax x
 rw [← hk1] at lJ
 have hj := fun (W : World) (hW : SW W b c t d p v g a m R P) => hW.wk.rW x
 generalize ah x = cJ at *
 have c0 := h.cw.c0
 have q1 := h.wk.at 1 (.int .i64 R.ag.id) rfl
 obtain ⟨W9, jM⟩ : ∃ W9, W9 = fH { R with aA := x } := ⟨_, rfl⟩
 rw [← jM] at hj
 replace jM := Lib.hid jM
 replace hk1 := Lib.hid hk1
 clear h
 go_enter Tryz.func119, Tryz.ntmps119
 go_wp2_with fail
 go_region_with (go_at_call 70; go_must (refine hget.mono ?_); rintro e w' ⟨rfl, hgr⟩; have qG := hS.out.drew.kept hgr.below; obtain ⟨yO, oz⟩ := hj w' qG)
 all_goals
  have fC := qG.work oz (cu w' W9.toArray)
  have hfr : WS w (w'.setRow b W9.toArray) b c t d p v g v g := ((WS.of_below hgr.below : WS w.drew w' b c t d p v g v g).trans (WS.bu (cu w' W9.toArray))).xq
  clear yO oz qG hgr hget c0 q1
  generalize w'.setRow b W9.toArray = w9 at *
  replace fC := Lib.hid fC
  go_wp2_with fail
  refine Reg2.rd w9 9 45 [[],[ae],[ae,ae],[ae,ae,ae],[af,af,af,af],[af,af,af,af,ae],[af,af,af,af,ae,ae],[af,af,af,af,ae,ae,ae],[af,af,af,af,ae,ae,ae,ae]] [0, 0, 0, 1, 0, 0, 0, 0, 1] [.pure, .pure, .pure, .mU (.pointer (some ⟨t, 0, none⟩)), .pure, .pure, .pure, .pure, .mU (.int .i64 R.ag.id)] (by kernel_rfl) (by kernel_rfl) rfl rfl ⟨trivial, trivial, trivial, Reg2.tt, trivial, trivial, trivial, trivial, Reg2.tt, trivial⟩ ⟨rfl, rfl, rfl, Nat.le_refl _, fun _ _ => rfl⟩ ?_
  dsimp only [Reg2.mk, List.zip, List.zipWith, List.take]
  repeat (refine' Reg2.ai _ (by rfl) (fun wz => ?_) ?_; rotate_left; (go_simp; first | rfl | rw [if_neg (by omega)]); simp only [Act.put, xA, xB, xC]; (try simp only [xD]); (try simp only [xE]); (try simp only [id]))
  refine Reg2.pm (fun wz hI hF => ?_) (fun r3 => ?_) (by rfl)
  ·have c0 := (fC.out.cw.kept hI).c0
   go_wp2_with fail
   first | exact ⟨_, rfl, rfl, Reg2.Ext.refl _⟩ | exact ⟨_, rfl, ⟨(), rfl, trivial⟩, Reg2.Ext.refl _⟩
  simp only [Act.put, xA, xB, xC]; (try simp only [xD]); (try simp only [xE]); (try simp only [id])
  repeat (refine' Reg2.ai _ (by rfl) (fun wz => ?_) ?_; rotate_left; (go_simp; first | rfl | rw [if_neg (by omega)]); simp only [Act.put, xA, xB, xC]; (try simp only [xD]); (try simp only [xE]); (try simp only [id]))
  refine Reg2.pm (fun wz hI hF => ?_) (fun r8 => ?_) (by rfl)
  ·have q0 := (fC.out.kept hI).wk.at 1 (.int .i64 R.ag.id) rfl
   go_wp2_with fail
   first | exact ⟨_, rfl, rfl, Reg2.Ext.refl _⟩ | exact ⟨_, rfl, ⟨(), rfl, trivial⟩, Reg2.Ext.refl _⟩
  simp only [Act.put, xA, xB, xC]; (try simp only [xD]); (try simp only [xE]); (try simp only [id])
  refine Reg2.az ?_
  intro w4 HI4 _ eu
  clear eu
  dsimp only [List.drop]
  have bC := fC.out.kept HI4
  have hc4 := hcon w4 _ _ _ bC
  go_wp2_with fail
  go_at_call 138
  refine hc4.mono ?_
  clear hc4
  rintro e w5 ⟨rfl, v5, g5, fZ, hS5⟩
  have dP := bC.core fZ hS5
  have rZ := (hfr.trans (WS.of_below HI4)).trans (WS.bZ hS5)
  have hf := gV dP.wk e1
  go_wp2_with (go_at_call 67; go_must (refine hf.mono ?_); rintro e w8 ⟨rfl, dH, fB⟩)
  go_ret
  exact ⟨rfl, v5, g5, dP.work dH fB, rZ.trans (WS.bu fB)⟩
theorem OU (h : SW w b c t d p v g a m R P) (hE : bD P.J 0 R.ag.id (fun j : Jb => decide (j.state = 1)) = 0) :
  Calls Tryz.prog 119 #[.pointer (some ⟨b, 0, none⟩), .pointer (some ⟨c, 0, none⟩)] w (au w b c t d p v g a m (eU 139) { R with aA := bE P.J R.ag.id, rep := iB (bE (bS P.J 0 R.ag.id (fun j : Jb => decide (j.state = 1)) oH) R.ag.id) } { P with J := bS P.J 0 R.ag.id (fun j : Jb => decide (j.state = 1)) oH }) := by
 have zJ := bB
 obtain ⟨k, hk1⟩ : ∃ k, k = 10 := ⟨_, rfl⟩
 rw [← hk1] at zJ
 have hk0 : ¬ k = 0 := by omega
 have hS := Lib.hid h
 have hcon := fun (W : World) (v1 : Value) (g1 : Nat) (R1 : Wk) (hW : SW W b c t d p v1 g1 a m R1 P) => Ci hW.cw R.ag.id
 obtain ⟨L1, hL1⟩ : ∃ L1, L1 = bS P.J 0 R.ag.id (fun j : Jb => decide (j.state = 1)) oH := ⟨_, rfl⟩
 rw [← hL1]
 rw [← hL1, hE] at hcon
 replace hE := Lib.hid hE
 replace hL1 := Lib.hid hL1
 have hget := gz h.drew.cw.dW R.ag.id
 unfold iw at hget
 obtain ⟨x, hx⟩ : ∃ x, x = bE P.J R.ag.id := ⟨_, rfl⟩
 rw [← hx] at hget
 rw [← hx]
 replace hx := Lib.hid hx
 have lJ := ax x
 rw [← hk1] at lJ
 have hj := fun (W : World) (hW : SW W b c t d p v g a m R P) => hW.wk.rW x
 generalize ah x = cJ at *
 have c0 := h.cw.c0
 have q1 := h.wk.at 1 (.int .i64 R.ag.id) rfl
 obtain ⟨W9, jM⟩ : ∃ W9, W9 = fH { R with aA := x } := ⟨_, rfl⟩
 rw [← jM] at hj
 replace jM := Lib.hid jM
 replace hk1 := Lib.hid hk1
 clear h
 go_enter Tryz.func119, Tryz.ntmps119
 go_wp2_with fail
 go_region_with (go_at_call 70; go_must (refine hget.mono ?_); rintro e w' ⟨rfl, hgr⟩; have qG := hS.out.drew.kept hgr.below; obtain ⟨yO, oz⟩ := hj w' qG)
 all_goals
  have fC := qG.work oz (cu w' W9.toArray)
  have hfr : WS w (w'.setRow b W9.toArray) b c t d p v g v g := ((WS.of_below hgr.below : WS w.drew w' b c t d p v g v g).trans (WS.bu (cu w' W9.toArray))).xq
  clear yO oz qG hgr hget c0 q1
  generalize w'.setRow b W9.toArray = w9 at *
  replace fC := Lib.hid fC
  go_wp2_with fail
  refine Reg2.rd w9 9 45 [[],[ae],[ae,ae],[ae,ae,ae],[af,af,af,af],[af,af,af,af,ae],[af,af,af,af,ae,ae],[af,af,af,af,ae,ae,ae],[af,af,af,af,ae,ae,ae,ae]] [0, 0, 0, 1, 0, 0, 0, 0, 1] [.pure, .pure, .pure, .mU (.pointer (some ⟨t, 0, none⟩)), .pure, .pure, .pure, .pure, .mU (.int .i64 R.ag.id)] (by kernel_rfl) (by kernel_rfl) rfl rfl ⟨trivial, trivial, trivial, Reg2.tt, trivial, trivial, trivial, trivial, Reg2.tt, trivial⟩ ⟨rfl, rfl, rfl, Nat.le_refl _, fun _ _ => rfl⟩ ?_
  dsimp only [Reg2.mk, List.zip, List.zipWith, List.take]
  repeat (refine' Reg2.ai _ (by rfl) (fun wz => ?_) ?_; rotate_left; (go_simp; first | rfl | rw [if_neg (by omega)]); simp only [Act.put, xA, xB, xC]; (try simp only [xD]); (try simp only [xE]); (try simp only [id]))
  refine Reg2.pm (fun wz hI hF => ?_) (fun r3 => ?_) (by rfl)
  ·have c0 := (fC.out.cw.kept hI).c0
   go_wp2_with fail
   first | exact ⟨_, rfl, rfl, Reg2.Ext.refl _⟩ | exact ⟨_, rfl, ⟨(), rfl, trivial⟩, Reg2.Ext.refl _⟩
  simp only [Act.put, xA, xB, xC]; (try simp only [xD]); (try simp only [xE]); (try simp only [id])
  repeat (refine' Reg2.ai _ (by rfl) (fun wz => ?_) ?_; rotate_left; (go_simp; first | rfl | rw [if_neg (by omega)]); simp only [Act.put, xA, xB, xC]; (try simp only [xD]); (try simp only [xE]); (try simp only [id]))
  refine Reg2.pm (fun wz hI hF => ?_) (fun r8 => ?_) (by rfl)
  ·have q0 := (fC.out.kept hI).wk.at 1 (.int .i64 R.ag.id) rfl
   go_wp2_with fail
   first | exact ⟨_, rfl, rfl, Reg2.Ext.refl _⟩ | exact ⟨_, rfl, ⟨(), rfl, trivial⟩, Reg2.Ext.refl _⟩
  simp only [Act.put, xA, xB, xC]; (try simp only [xD]); (try simp only [xE]); (try simp only [id])
  refine Reg2.az ?_
  intro w4 HI4 _ eu
  clear eu
  dsimp only [List.drop]
  have bC := fC.out.kept HI4
  have hc4 := hcon w4 _ _ _ bC
  go_wp2_with fail
  go_at_call 138
  refine hc4.mono ?_
  clear hc4
  rintro e w5 ⟨rfl, v5, g5, fZ, hS5⟩
  have dP := bC.core fZ hS5
  have rZ := (hfr.trans (WS.of_below HI4)).trans (WS.bZ hS5)
  have jN := mX dP R.ag.id
  have q1 := dP.wk.at 1 (.int .i64 R.ag.id) rfl
  go_wp2_with fail
  go_at_call 112
  refine jN.mono ?_
  clear jN
  rintro e w8 ⟨rfl, dH, fB⟩
  have fQ := dP.work dH fB
  have Je := rZ.trans (WS.bu fB)
  go_wp2_with fail
  go_ret
  exact ⟨rfl, v5, g5, fQ, Je⟩
theorem vY (h : SW w b c t d p v g a m R P) (e1 : Int) (he1 : e1 ≠ 0) (hE : bD P.J 0 R.ag.id (fun j : Jb => decide (j.state = 2)) = e1) :
  Calls Tryz.prog 120 #[.pointer (some ⟨b, 0, none⟩), .pointer (some ⟨c, 0, none⟩)] w (au w b c t d p v g a m .nilFunc { R with rep := jL e1, ok := false } P) := by
 have zJ := bB
 obtain ⟨k, hk1⟩ : ∃ k, k = 10 := ⟨_, rfl⟩
 rw [← hk1] at zJ
 have hk0 : ¬ k = 0 := by omega
 have hS := Lib.hid h
 have hcon := fun (W : World) (v1 : Value) (g1 : Nat) (R1 : Wk) (hW : SW W b c t d p v1 g1 a m R1 P) => Cj hW.cw R.ag.id
 obtain ⟨L1, hL1⟩ : ∃ L1, L1 = bS P.J 0 R.ag.id (fun j : Jb => decide (j.state = 2)) nH := ⟨_, rfl⟩
 have hL2 : L1 = P.J := hL1.trans (uY (by rw [hE]; exact he1))
 rw [← hL1, hE, hL2, show ({ P with J := P.J } : Pg) = P from rfl] at hcon
 have d0 : (e1 != 0) = true := by simp [he1]
 replace hL2 := Lib.hid hL2
 replace he1 := Lib.hid he1
 replace hE := Lib.hid hE
 replace hL1 := Lib.hid hL1
 replace hk1 := Lib.hid hk1
 clear h
 go_enter Tryz.func120, Tryz.ntmps120
 go_wp2_with fail
 have fC := Lib.hid hS.out
 have hfr : WS w w b c t d p v g v g := WS.refl _
 refine Reg2.rd w 9 32 [[],[ae],[ae,ae],[ae,ae,ae],[af,af,af,af],[af,af,af,af,ae],[af,af,af,af,ae,ae],[af,af,af,af,ae,ae,ae],[af,af,af,af,ae,ae,ae,ae]] [0, 0, 0, 1, 0, 0, 0, 0, 1] [.pure, .pure, .pure, .mU (.pointer (some ⟨t, 0, none⟩)), .pure, .pure, .pure, .pure, .mU (.int .i64 R.ag.id)] (by kernel_rfl) (by kernel_rfl) rfl rfl ⟨trivial, trivial, trivial, Reg2.tt, trivial, trivial, trivial, trivial, Reg2.tt, trivial⟩ ⟨rfl, rfl, rfl, Nat.le_refl _, fun _ _ => rfl⟩ ?_
 dsimp only [Reg2.mk, List.zip, List.zipWith, List.take]
 repeat (refine' Reg2.ai _ (by rfl) (fun wz => ?_) ?_; rotate_left; (go_simp; first | rfl | rw [if_neg (by omega)]); simp only [Act.put, xA, xB, xC]; (try simp only [xD]); (try simp only [xE]); (try simp only [id]))
 refine Reg2.pm (fun wz hI hF => ?_) (fun r3 => ?_) (by rfl)
 ·have c0 := (fC.out.cw.kept hI).c0
  go_wp2_with fail
  first | exact ⟨_, rfl, rfl, Reg2.Ext.refl _⟩ | exact ⟨_, rfl, ⟨(), rfl, trivial⟩, Reg2.Ext.refl _⟩
 simp only [Act.put, xA, xB, xC]; (try simp only [xD]); (try simp only [xE]); (try simp only [id])
 repeat (refine' Reg2.ai _ (by rfl) (fun wz => ?_) ?_; rotate_left; (go_simp; first | rfl | rw [if_neg (by omega)]); simp only [Act.put, xA, xB, xC]; (try simp only [xD]); (try simp only [xE]); (try simp only [id]))
 refine Reg2.pm (fun wz hI hF => ?_) (fun r8 => ?_) (by rfl)
 ·have q0 := (fC.out.kept hI).wk.at 1 (.int .i64 R.ag.id) rfl
  go_wp2_with fail
  first | exact ⟨_, rfl, rfl, Reg2.Ext.refl _⟩ | exact ⟨_, rfl, ⟨(), rfl, trivial⟩, Reg2.Ext.refl _⟩
 simp only [Act.put, xA, xB, xC]; (try simp only [xD]); (try simp only [xE]); (try simp only [id])
 refine Reg2.az ?_
 intro w4 HI4 _ eu
 clear eu
 dsimp only [List.drop]
 have bC := fC.out.kept HI4
 have hc4 := hcon w4 _ _ _ bC
 go_wp2_with fail
 go_at_call 140
 refine hc4.mono ?_
 clear hc4
 rintro e w5 ⟨rfl, v5, g5, fZ, hS5⟩
 have dP := bC.core fZ hS5
 have rZ := (hfr.trans (WS.of_below HI4)).trans (WS.bZ hS5)
 have hf := gV dP.wk e1
 go_wp2_with (go_at_call 67; go_must (refine hf.mono ?_); rintro e w8 ⟨rfl, dH, fB⟩)
 go_ret
 exact ⟨rfl, v5, g5, dP.work dH fB, rZ.trans (WS.bu fB)⟩
theorem Gz (h : SW w b c t d p v g a m R P) (hE : bD P.J 0 R.ag.id (fun j : Jb => decide (j.state = 2)) = 0) :
  Calls Tryz.prog 120 #[.pointer (some ⟨b, 0, none⟩), .pointer (some ⟨c, 0, none⟩)] w (au w b c t d p v g a m (eU 135) { R with aA := bE (bS P.J 0 R.ag.id (fun j : Jb => decide (j.state = 2)) nH) R.ag.id, rep := iB (bE (bS P.J 0 R.ag.id (fun j : Jb => decide (j.state = 2)) nH) R.ag.id) } { P with J := bS P.J 0 R.ag.id (fun j : Jb => decide (j.state = 2)) nH }) := by
 have zJ := bB
 obtain ⟨k, hk1⟩ : ∃ k, k = 10 := ⟨_, rfl⟩
 rw [← hk1] at zJ
 have hk0 : ¬ k = 0 := by omega
 have hS := Lib.hid h
 have hcon := fun (W : World) (v1 : Value) (g1 : Nat) (R1 : Wk) (hW : SW W b c t d p v1 g1 a m R1 P) => Cj hW.cw R.ag.id
 obtain ⟨L1, hL1⟩ : ∃ L1, L1 = bS P.J 0 R.ag.id (fun j : Jb => decide (j.state = 2)) nH := ⟨_, rfl⟩
 rw [← hL1]
 rw [← hL1, hE] at hcon
 replace hE := Lib.hid hE
 replace hL1 := Lib.hid hL1
 replace hk1 := Lib.hid hk1
 clear h
 go_enter Tryz.func120, Tryz.ntmps120
 go_wp2_with fail
 have fC := Lib.hid hS.out
 have hfr : WS w w b c t d p v g v g := WS.refl _
 refine Reg2.rd w 9 32 [[],[ae],[ae,ae],[ae,ae,ae],[af,af,af,af],[af,af,af,af,ae],[af,af,af,af,ae,ae],[af,af,af,af,ae,ae,ae],[af,af,af,af,ae,ae,ae,ae]] [0, 0, 0, 1, 0, 0, 0, 0, 1] [.pure, .pure, .pure, .mU (.pointer (some ⟨t, 0, none⟩)), .pure, .pure, .pure, .pure, .mU (.int .i64 R.ag.id)] (by kernel_rfl) (by kernel_rfl) rfl rfl ⟨trivial, trivial, trivial, Reg2.tt, trivial, trivial, trivial, trivial, Reg2.tt, trivial⟩ ⟨rfl, rfl, rfl, Nat.le_refl _, fun _ _ => rfl⟩ ?_
 dsimp only [Reg2.mk, List.zip, List.zipWith, List.take]
 repeat (refine' Reg2.ai _ (by rfl) (fun wz => ?_) ?_; rotate_left; (go_simp; first | rfl | rw [if_neg (by omega)]); simp only [Act.put, xA, xB, xC]; (try simp only [xD]); (try simp only [xE]); (try simp only [id]))
 refine Reg2.pm (fun wz hI hF => ?_) (fun r3 => ?_) (by rfl)
 ·have c0 := (fC.out.cw.kept hI).c0
  go_wp2_with fail
  first | exact ⟨_, rfl, rfl, Reg2.Ext.refl _⟩ | exact ⟨_, rfl, ⟨(), rfl, trivial⟩, Reg2.Ext.refl _⟩
 simp only [Act.put, xA, xB, xC]; (try simp only [xD]); (try simp only [xE]); (try simp only [id])
 repeat (refine' Reg2.ai _ (by rfl) (fun wz => ?_) ?_; rotate_left; (go_simp; first | rfl | rw [if_neg (by omega)]); simp only [Act.put, xA, xB, xC]; (try simp only [xD]); (try simp only [xE]); (try simp only [id]))
 refine Reg2.pm (fun wz hI hF => ?_) (fun r8 => ?_) (by rfl)
 ·have q0 := (fC.out.kept hI).wk.at 1 (.int .i64 R.ag.id) rfl
  go_wp2_with fail
  first | exact ⟨_, rfl, rfl, Reg2.Ext.refl _⟩ | exact ⟨_, rfl, ⟨(), rfl, trivial⟩, Reg2.Ext.refl _⟩
 simp only [Act.put, xA, xB, xC]; (try simp only [xD]); (try simp only [xE]); (try simp only [id])
 refine Reg2.az ?_
 intro w4 HI4 _ eu
 clear eu
 dsimp only [List.drop]
 have bC := fC.out.kept HI4
 have hc4 := hcon w4 _ _ _ bC
 go_wp2_with fail
 go_at_call 140
 refine hc4.mono ?_
 clear hc4
 rintro e w5 ⟨rfl, v5, g5, fZ, hS5⟩
 have dP := bC.core fZ hS5
 have rZ := (hfr.trans (WS.of_below HI4)).trans (WS.bZ hS5)
 have jN := mX dP R.ag.id
 have q1 := dP.wk.at 1 (.int .i64 R.ag.id) rfl
 go_wp2_with fail
 go_at_call 112
 refine jN.mono ?_
 clear jN
 rintro e w8 ⟨rfl, dH, fB⟩
 have fQ := dP.work dH fB
 have Je := rZ.trans (WS.bu fB)
 obtain ⟨y, hy⟩ : ∃ y, y = bE L1 R.ag.id := ⟨_, rfl⟩
 rw [show bE ({ P with J := L1 } : Pg).J R.ag.id = y from hy.symm] at fQ dH ⊢
 replace hy := Lib.hid hy
 obtain ⟨TE, jM⟩ := dH.rW y
 have lY := ax y
 rw [← hk1.out] at lY
 have OV := fQ.work jM (cu w8 _)
 have hfin := Je.trans (WS.bu (cu w8 (fH { ({ R with rep := iB y } : Wk) with aA := y }).toArray))
 generalize fH { ({ R with rep := iB y } : Wk) with aA := y } = W9 at *
 generalize ah y = cY at *
 go_wp2_with fail
 go_ret
 have ey := hy.out
 clear hy
 subst ey
 exact ⟨rfl, v5, g5, OV, hfin⟩
theorem yA (h : SW w b c t d p v g a m R P) (hk : PK P) (s : Int) (e1 : Int) (he1 : e1 ≠ 0) (hE : bD P.J (bg s P.now) R.ag.id (dS s) = e1) :
  Calls Tryz.prog 118 #[.pointer (some ⟨b, 0, none⟩), .pointer (some ⟨c, 0, none⟩), .int .i64 s] w (au w b c t d p v g a m .nilFunc { ({ R with aA := bE P.J R.ag.id } : Wk) with rep := jL e1, ok := false } P) := by
 have zJ := bB
 obtain ⟨k, hk1⟩ : ∃ k, k = 10 := ⟨_, rfl⟩
 rw [← hk1] at zJ
 have hk0 : ¬ k = 0 := by omega
 have hS := Lib.hid h
 have hcon := fun (W : World) (v1 : Value) (g1 : Nat) (R1 : Wk) (hW : SW W b c t d p v1 g1 a m R1 P) => rU hW.cw hk R.ag.id s P.now
 obtain ⟨L1, hL1⟩ : ∃ L1, L1 = bS P.J (bg s P.now) R.ag.id (dS s) (bG s P.now) := ⟨_, rfl⟩
 have hL2 : L1 = P.J := hL1.trans (uY (by rw [hE]; exact he1))
 rw [← hL1, hE, hL2, show ({ P with J := P.J } : Pg) = P from rfl] at hcon
 have d0 : (e1 != 0) = true := by simp [he1]
 replace hL2 := Lib.hid hL2
 replace he1 := Lib.hid he1
 replace hE := Lib.hid hE
 replace hL1 := Lib.hid hL1
 have hget := gz h.drew.cw.dW R.ag.id
 unfold iw at hget
 obtain ⟨x, hx⟩ : ∃ x, x = bE P.J R.ag.id := ⟨_, rfl⟩
 rw [← hx] at hget
 rw [← hx]
 replace hx := Lib.hid hx
 have lJ := ax x
 rw [← hk1] at lJ
 have hj := fun (W : World) (hW : SW W b c t d p v g a m R P) => hW.wk.rW x
 generalize ah x = cJ at *
 have c0 := h.cw.c0
 have q1 := h.wk.at 1 (.int .i64 R.ag.id) rfl
 obtain ⟨W9, jM⟩ : ∃ W9, W9 = fH { R with aA := x } := ⟨_, rfl⟩
 rw [← jM] at hj
 replace jM := Lib.hid jM
 replace hk1 := Lib.hid hk1
 clear h
 go_enter Tryz.func118, Tryz.ntmps118
 go_wp2_with fail
 go_region_with (go_at_call 70; go_must (refine hget.mono ?_); rintro e w' ⟨rfl, hgr⟩; have qG := hS.out.drew.kept hgr.below; obtain ⟨yO, oz⟩ := hj w' qG)
 all_goals
  have fC := qG.work oz (cu w' W9.toArray)
  have hfr : WS w (w'.setRow b W9.toArray) b c t d p v g v g := ((WS.of_below hgr.below : WS w.drew w' b c t d p v g v g).trans (WS.bu (cu w' W9.toArray))).xq
  clear yO oz qG hgr hget c0 q1
  generalize w'.setRow b W9.toArray = w9 at *
  replace fC := Lib.hid fC
  go_wp2_with fail
  refine Reg2.rd w9 15 53 [[],[ae],[ae,ae],[ae,ae,ae],[af,af,af,af],[af,af,af,af,ae],[af,af,af,af,ae,ae],[af,af,af,af,ae,ae,ae],[af,af,af,af,ae,ae,ae,ae],[af,af,af,af,af,af,af,af,af],[af,af,af,af,af,af,af,af,af,af],[af,af,af,af,af,af,af,af,af,af,ae],[af,af,af,af,af,af,af,af,af,af,ae,ae],[af,af,af,af,af,af,af,af,af,af,ae,ae,ae],[af,af,af,af,af,af,af,af,af,af,ae,ae,ae,ae]] [0, 0, 0, 1, 0, 0, 0, 0, 1, 0, 0, 0, 0, 1, 1] [.pure, .pure, .pure, .mU (.pointer (some ⟨t, 0, none⟩)), .pure, .pure, .pure, .pure, .mU (.int .i64 R.ag.id), .pure, .pure, .pure, .pure, .mU (.pointer (some ⟨p, 0, none⟩)), .mU (.int .i64 P.now)] (by kernel_rfl) (by kernel_rfl) rfl rfl ⟨trivial, trivial, trivial, Reg2.tt, trivial, trivial, trivial, trivial, Reg2.tt, trivial, trivial, trivial, trivial, Reg2.tt, Reg2.tt, trivial⟩ ⟨rfl, rfl, rfl, Nat.le_refl _, fun _ _ => rfl⟩ ?_
  dsimp only [Reg2.mk, List.zip, List.zipWith, List.take]
  repeat (refine' Reg2.ai _ (by rfl) (fun wz => ?_) ?_; rotate_left; (go_simp; first | rfl | rw [if_neg (by omega)]); simp only [Act.put, xA, xB, xC]; (try simp only [xD]); (try simp only [xE]); (try simp only [id]))
  refine Reg2.pm (fun wz hI hF => ?_) (fun r3 => ?_) (by rfl)
  ·have c0 := (fC.out.cw.kept hI).c0
   go_wp2_with fail
   first | exact ⟨_, rfl, rfl, Reg2.Ext.refl _⟩ | exact ⟨_, rfl, ⟨(), rfl, trivial⟩, Reg2.Ext.refl _⟩
  simp only [Act.put, xA, xB, xC]; (try simp only [xD]); (try simp only [xE]); (try simp only [id])
  repeat (refine' Reg2.ai _ (by rfl) (fun wz => ?_) ?_; rotate_left; (go_simp; first | rfl | rw [if_neg (by omega)]); simp only [Act.put, xA, xB, xC]; (try simp only [xD]); (try simp only [xE]); (try simp only [id]))
  refine Reg2.pm (fun wz hI hF => ?_) (fun r8 => ?_) (by rfl)
  ·have q0 := (fC.out.kept hI).wk.at 1 (.int .i64 R.ag.id) rfl
   go_wp2_with fail
   first | exact ⟨_, rfl, rfl, Reg2.Ext.refl _⟩ | exact ⟨_, rfl, ⟨(), rfl, trivial⟩, Reg2.Ext.refl _⟩
  simp only [Act.put, xA, xB, xC]; (try simp only [xD]); (try simp only [xE]); (try simp only [id])
  repeat (refine' Reg2.ai _ (by rfl) (fun wz => ?_) ?_; rotate_left; (go_simp; first | rfl | rw [if_neg (by omega)]); simp only [Act.put, xA, xB, xC]; (try simp only [xD]); (try simp only [xE]); (try simp only [id]))
  refine Reg2.pm (fun wz hI hF => ?_) (fun Em => ?_) (by rfl)
  ·have c0 := (fC.out.cw.kept hI).c2
   go_wp2_with fail
   first | exact ⟨_, rfl, rfl, Reg2.Ext.refl _⟩ | exact ⟨_, rfl, ⟨(), rfl, trivial⟩, Reg2.Ext.refl _⟩
  simp only [Act.put, xA, xB, xC]; (try simp only [xD]); (try simp only [xE]); (try simp only [id])
  refine Reg2.pm (fun wz hI hF => ?_) (fun Ej => ?_) (by rfl)
  ·go_wp2_with (go_at_call 43; go_must (refine (fO (fC.out.kept hI).cw).mono ?_); rintro e w' ⟨rfl, rfl⟩)
   first | exact ⟨_, rfl, rfl, Reg2.Ext.refl _⟩ | exact ⟨_, rfl, ⟨(), rfl, trivial⟩, Reg2.Ext.refl _⟩
  simp only [Act.put, xA, xB, xC]; (try simp only [xD]); (try simp only [xE]); (try simp only [id])
  refine Reg2.az ?_
  intro w4 HI4 _ eu
  clear eu
  dsimp only [List.drop]
  have bC := fC.out.kept HI4
  have hc4 := hcon w4 _ _ _ bC
  go_wp2_with fail
  go_at_call 136
  refine hc4.mono ?_
  clear hc4
  rintro e w5 ⟨rfl, v5, g5, fZ, hS5⟩
  have dP := bC.core fZ hS5
  have rZ := (hfr.trans (WS.of_below HI4)).trans (WS.bZ hS5)
  have hf := gV dP.wk e1
  go_wp2_with (go_at_call 67; go_must (refine hf.mono ?_); rintro e w8 ⟨rfl, dH, fB⟩)
  go_ret
  exact ⟨rfl, v5, g5, dP.work dH fB, rZ.trans (WS.bu fB)⟩
theorem Jf (h : SW w b c t d p v g a m R P) (hk : PK P) (s : Int) (hE : bD P.J (bg s P.now) R.ag.id (dS s) = 0) :
  Calls Tryz.prog 118 #[.pointer (some ⟨b, 0, none⟩), .pointer (some ⟨c, 0, none⟩), .int .i64 s] w (au w b c t d p v g a m (eU 137) { R with aA := bE P.J R.ag.id, rep := iB (bE (bS P.J (bg s P.now) R.ag.id (dS s) (bG s P.now)) R.ag.id) } { P with J := bS P.J (bg s P.now) R.ag.id (dS s) (bG s P.now) }) := by
 have zJ := bB
 obtain ⟨k, hk1⟩ : ∃ k, k = 10 := ⟨_, rfl⟩
 rw [← hk1] at zJ
 have hk0 : ¬ k = 0 := by omega
 have hS := Lib.hid h
 have hcon := fun (W : World) (v1 : Value) (g1 : Nat) (R1 : Wk) (hW : SW W b c t d p v1 g1 a m R1 P) => rU hW.cw hk R.ag.id s P.now
 obtain ⟨L1, hL1⟩ : ∃ L1, L1 = bS P.J (bg s P.now) R.ag.id (dS s) (bG s P.now) := ⟨_, rfl⟩
 rw [← hL1]
 rw [← hL1, hE] at hcon
 replace hE := Lib.hid hE
 replace hL1 := Lib.hid hL1
 have hget := gz h.drew.cw.dW R.ag.id
 unfold iw at hget
 obtain ⟨x, hx⟩ : ∃ x, x = bE P.J R.ag.id := ⟨_, rfl⟩
 rw [← hx] at hget
 rw [← hx]
 replace hx := Lib.hid hx
 have lJ := ax x
 rw [← hk1] at lJ
 have hj := fun (W : World) (hW : SW W b c t d p v g a m R P) => hW.wk.rW x
 generalize ah x = cJ at *
 have c0 := h.cw.c0
 have q1 := h.wk.at 1 (.int .i64 R.ag.id) rfl
 obtain ⟨W9, jM⟩ : ∃ W9, W9 = fH { R with aA := x } := ⟨_, rfl⟩
 rw [← jM] at hj
 replace jM := Lib.hid jM
 replace hk1 := Lib.hid hk1
 clear h
 go_enter Tryz.func118, Tryz.ntmps118
 go_wp2_with fail
 go_region_with (go_at_call 70; go_must (refine hget.mono ?_); rintro e w' ⟨rfl, hgr⟩; have qG := hS.out.drew.kept hgr.below; obtain ⟨yO, oz⟩ := hj w' qG)
 all_goals
  have fC := qG.work oz (cu w' W9.toArray)
  have hfr : WS w (w'.setRow b W9.toArray) b c t d p v g v g := ((WS.of_below hgr.below : WS w.drew w' b c t d p v g v g).trans (WS.bu (cu w' W9.toArray))).xq
  clear yO oz qG hgr hget c0 q1
  generalize w'.setRow b W9.toArray = w9 at *
  replace fC := Lib.hid fC
  go_wp2_with fail
  refine Reg2.rd w9 15 53 [[],[ae],[ae,ae],[ae,ae,ae],[af,af,af,af],[af,af,af,af,ae],[af,af,af,af,ae,ae],[af,af,af,af,ae,ae,ae],[af,af,af,af,ae,ae,ae,ae],[af,af,af,af,af,af,af,af,af],[af,af,af,af,af,af,af,af,af,af],[af,af,af,af,af,af,af,af,af,af,ae],[af,af,af,af,af,af,af,af,af,af,ae,ae],[af,af,af,af,af,af,af,af,af,af,ae,ae,ae],[af,af,af,af,af,af,af,af,af,af,ae,ae,ae,ae]] [0, 0, 0, 1, 0, 0, 0, 0, 1, 0, 0, 0, 0, 1, 1] [.pure, .pure, .pure, .mU (.pointer (some ⟨t, 0, none⟩)), .pure, .pure, .pure, .pure, .mU (.int .i64 R.ag.id), .pure, .pure, .pure, .pure, .mU (.pointer (some ⟨p, 0, none⟩)), .mU (.int .i64 P.now)] (by kernel_rfl) (by kernel_rfl) rfl rfl ⟨trivial, trivial, trivial, Reg2.tt, trivial, trivial, trivial, trivial, Reg2.tt, trivial, trivial, trivial, trivial, Reg2.tt, Reg2.tt, trivial⟩ ⟨rfl, rfl, rfl, Nat.le_refl _, fun _ _ => rfl⟩ ?_
  dsimp only [Reg2.mk, List.zip, List.zipWith, List.take]
  repeat (refine' Reg2.ai _ (by rfl) (fun wz => ?_) ?_; rotate_left; (go_simp; first | rfl | rw [if_neg (by omega)]); simp only [Act.put, xA, xB, xC]; (try simp only [xD]); (try simp only [xE]); (try simp only [id]))
  refine Reg2.pm (fun wz hI hF => ?_) (fun r3 => ?_) (by rfl)
  ·have c0 := (fC.out.cw.kept hI).c0
   go_wp2_with fail
   first | exact ⟨_, rfl, rfl, Reg2.Ext.refl _⟩ | exact ⟨_, rfl, ⟨(), rfl, trivial⟩, Reg2.Ext.refl _⟩
  simp only [Act.put, xA, xB, xC]; (try simp only [xD]); (try simp only [xE]); (try simp only [id])
  repeat (refine' Reg2.ai _ (by rfl) (fun wz => ?_) ?_; rotate_left; (go_simp; first | rfl | rw [if_neg (by omega)]); simp only [Act.put, xA, xB, xC]; (try simp only [xD]); (try simp only [xE]); (try simp only [id]))
  refine Reg2.pm (fun wz hI hF => ?_) (fun r8 => ?_) (by rfl)
  ·have q0 := (fC.out.kept hI).wk.at 1 (.int .i64 R.ag.id) rfl
   go_wp2_with fail
   first | exact ⟨_, rfl, rfl, Reg2.Ext.refl _⟩ | exact ⟨_, rfl, ⟨(), rfl, trivial⟩, Reg2.Ext.refl _⟩
  simp only [Act.put, xA, xB, xC]; (try simp only [xD]); (try simp only [xE]); (try simp only [id])
  repeat (refine' Reg2.ai _ (by rfl) (fun wz => ?_) ?_; rotate_left; (go_simp; first | rfl | rw [if_neg (by omega)]); simp only [Act.put, xA, xB, xC]; (try simp only [xD]); (try simp only [xE]); (try simp only [id]))
  refine Reg2.pm (fun wz hI hF => ?_) (fun Em => ?_) (by rfl)
  ·have c0 := (fC.out.cw.kept hI).c2
   go_wp2_with fail
   first | exact ⟨_, rfl, rfl, Reg2.Ext.refl _⟩ | exact ⟨_, rfl, ⟨(), rfl, trivial⟩, Reg2.Ext.refl _⟩
  simp only [Act.put, xA, xB, xC]; (try simp only [xD]); (try simp only [xE]); (try simp only [id])
  refine Reg2.pm (fun wz hI hF => ?_) (fun Ej => ?_) (by rfl)
  ·go_wp2_with (go_at_call 43; go_must (refine (fO (fC.out.kept hI).cw).mono ?_); rintro e w' ⟨rfl, rfl⟩)
   first | exact ⟨_, rfl, rfl, Reg2.Ext.refl _⟩ | exact ⟨_, rfl, ⟨(), rfl, trivial⟩, Reg2.Ext.refl _⟩
  simp only [Act.put, xA, xB, xC]; (try simp only [xD]); (try simp only [xE]); (try simp only [id])
  refine Reg2.az ?_
  intro w4 HI4 _ eu
  clear eu
  dsimp only [List.drop]
  have bC := fC.out.kept HI4
  have hc4 := hcon w4 _ _ _ bC
  go_wp2_with fail
  go_at_call 136
  refine hc4.mono ?_
  clear hc4
  rintro e w5 ⟨rfl, v5, g5, fZ, hS5⟩
  have dP := bC.core fZ hS5
  have rZ := (hfr.trans (WS.of_below HI4)).trans (WS.bZ hS5)
  have jN := mX dP R.ag.id
  have q1 := dP.wk.at 1 (.int .i64 R.ag.id) rfl
  go_wp2_with fail
  go_at_call 112
  refine jN.mono ?_
  clear jN
  rintro e w8 ⟨rfl, dH, fB⟩
  have fQ := dP.work dH fB
  have Je := rZ.trans (WS.bu fB)
  go_wp2_with fail
  go_ret
  exact ⟨rfl, v5, g5, fQ, Je⟩
end
end Go.Proofs.YtkhfejihijdipaaGreat
