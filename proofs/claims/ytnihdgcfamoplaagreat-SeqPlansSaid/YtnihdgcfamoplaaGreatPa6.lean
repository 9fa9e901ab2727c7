/-
 Own words and walks, merged: part 6 of 9.
-/
import Derived.Deep.RegionWith
import Derived.Test.YtnihdgcfamoplaaGreatPa5
set_option maxRecDepth 1000000
set_option maxHeartbeats 8000000
set_option linter.all false
namespace Go.Proofs.YtnihdgcfamoplaaGreat
open Go.RowKit Go.Lib Go.Sort
def l9 (n : Int) (r : Rq) : Int := if r.kind = 1 ∧ n < r.width ∧ r.width ≤ 64 ∧ aS r ≠ 1 then 9 else 0
section
variable {w : World} {c t d p g a : Nat} {v : Value} {m : Int} {P : Pg}
theorem GH (h : CW w c t d p v g a m P) (hl : gU P.T) (r : Rq) (hk : r.kind ≠ 1) : Calls Tryz.prog 136 #[.pointer (some ⟨c, 0, none⟩), .agg (encR r).toArray] w fun e w' => e = .returned (.int .i64 0) ∧ Below w.heap.size w w' := by
 have zR := kM
 obtain ⟨k9, bW⟩ : ∃ k, k = 9 := ⟨_, rfl⟩
 rw [← bW] at zR
 have hk0 : ¬ k9 = 0 := by omega
 have lR := iE r
 rw [← bW] at lR
 replace bW := Lib.hid bW
 obtain ⟨wA, aB⟩ : ∃ wA, wA = w.alloc (.cells (encR r).toArray 32) := ⟨_, rfl⟩
 have bC : Hid (Below w.heap.size w wA) := by show Below _ _ _; rw [aB]; exact (Below.refl _ _).alloc (Nat.le_refl _) _
 have ic : Hid (wA.heap[w.heap.size]? = some (.cells (encR r).toArray 32 (0, 0))) := by show _ = _; rw [aB]; exact heap_alloc_new w _
 have iI := Lib.hid (h.kept bC.out)
 have hno := fun (W : World) (hW : Below wA.heap.size wA W) => kW (iI.out.kept hW)
 have hsz := fun (W : World) (hW : Below wA.heap.size wA W) => p8 (iI.out.kept hW).nodes hl
 have Mx := fun (W : World) => nk r W
 have e0 : (encR r)[0]? = some (.int .i64 r.kind) := rfl
 have e3 : (encR r)[3]? = some (.int .i64 r.width) := rfl
 generalize r.kind = rk at *
 generalize r.width = rw at *
 generalize aS r = rf at *
 generalize encR r = cR at *
 generalize (P.T.length : Int) = nl at *
 have d1 : (rk != 1) = true := by simp [hk]
 clear h
 go_enter Tryz.func136, Tryz.ntmps136
 go_wp2_with fail
 rw [← aB]
 replace aB := Lib.hid aB
 refine Reg2.rd wA 20 30 [[],[ae],[ae,ae],[ae,ae,ae],[ae,ae,ae,ae],[ae,ae,ae,ae,ae],[ae,ae,ae,ae,ae,ae],[ae,ae,ae,ae,ae,ae,ae],[ae,ae,ae,ae,ae,ae,ae,ae],[ae,ae,ae,ae,ae,ae,ae,ae,ae],[ae,ae,ae,ae,ae,ae,ae,ae,ae,ae],[ae,ae,ae,ae,ae,ae,ae,ae,ae,ae,ae],[ae,ae,ae,ae,ae,ae,ae,ae,ae,ae,ae,ae],[ae,ae,ae,ae,ae,ae,ae,ae,ae,ae,ae,ae,ae],[ae,ae,ae,ae,ae,ae,ae,ae,ae,ae,ae,ae,ae,ae],[ae,ae,ae,ae,ae,ae,ae,ae,ae,ae,ae,ae,ae,af,af],[ae,ae,ae,ae,ae,ae,ae,ae,ae,ae,ae,ae,ae,af,af,ae],[ae,ae,ae,ae,ae,ae,ae,ae,ae,ae,ae,ae,ae,af,af,ae,ae],[ae,ae,ae,ae,ae,ae,ae,ae,ae,ae,ae,ae,ae,af,af,ae,ae,ae],[ae,ae,ae,ae,ae,ae,ae,ae,ae,ae,ae,ae,ae,af,af,ae,ae,ae,ae]] [0, 1, 0, 0, 1, 0, 0, 0, 0, 1, 0, 0, 0, 0, 1, 0, 0, 0, 1, 1] [.pure, .mU (.bool false), .pure, .pure, .mU (.int .i64 rk), .pure, .pure, .pure, .pure, .mU (.int .i64 rw), .pure, .pure, .pure, .pure, .mU (.int .i64 rw), .pure, .pure, .pure, .mU (.pointer (some ⟨d, 0, none⟩)), .mU (.int .i64 nl)] (by kernel_rfl) (by kernel_rfl) rfl rfl ⟨trivial, Reg2.tt, trivial, trivial, Reg2.tt, trivial, trivial, trivial, trivial, Reg2.tt, trivial, trivial, trivial, trivial, Reg2.tt, trivial, trivial, trivial, Reg2.tt, Reg2.tt, trivial⟩ ⟨rfl, rfl, rfl, Nat.le_refl _, fun _ _ => rfl⟩ ?_
 dsimp only [Reg2.mk, List.zip, List.zipWith, List.take]
 repeat (refine' Reg2.ai _ (by rfl) (fun wz => ?_) ?_; rotate_left; (go_simp; first | rfl | rw [if_neg (by omega)]); simp only [Act.put, xA, xB, xC]; (try simp only [xD]); (try simp only [xE]); (try simp only [id]))
 refine Reg2.pm (fun wz hI hF => ?_) (fun r1 => ?_) (by rfl)
 ·go_wp2_with (go_at_call 51; go_must (refine (hno wz hI).mono ?_); rintro e w' ⟨rfl, rfl⟩)
  first | exact ⟨_, rfl, rfl, Reg2.Ext.refl _⟩ | exact ⟨_, rfl, ⟨(), rfl, trivial⟩, Reg2.Ext.refl _⟩
 simp only [Act.put, xA, xB, xC]; (try simp only [xD]); (try simp only [xE]); (try simp only [id])
 repeat (refine' Reg2.ai _ (by rfl) (fun wz => ?_) ?_; rotate_left; (go_simp; first | rfl | rw [if_neg (by omega)]); simp only [Act.put, xA, xB, xC]; (try simp only [xD]); (try simp only [xE]); (try simp only [id]))
 refine Reg2.pm (fun wz hI hF => ?_) (fun r4 => ?_) (by rfl)
 ·have q0 : wz.cell? ⟨w.heap.size, 0, none⟩ = some (.int .i64 rk) := by simp [World.cell?, (hI.block _ (ay ic.out)).trans ic.out, e0]
  go_wp2_with fail
  first | exact ⟨_, rfl, rfl, Reg2.Ext.refl _⟩ | exact ⟨_, rfl, ⟨(), rfl, trivial⟩, Reg2.Ext.refl _⟩
 simp only [Act.put, xA, xB, xC]; (try simp only [xD]); (try simp only [xE]); (try simp only [id])
 repeat (refine' Reg2.ai _ (by rfl) (fun wz => ?_) ?_; rotate_left; (go_simp; first | rfl | rw [if_neg (by omega)]); simp only [Act.put, xA, xB, xC]; (try simp only [xD]); (try simp only [xE]); (try simp only [id]))
 refine Reg2.aL (by rfl) ?_
 simp only [Act.put, xA, xB, xC]; (try simp only [xD]); (try simp only [xE]); (try simp only [id])
 refine Reg2.aH (by rfl) ?_
 simp only [Act.put, xA, xB, xC]; (try simp only [xD]); (try simp only [xE]); (try simp only [id])
 refine Reg2.aL (by rfl) ?_
 simp only [Act.put, xA, xB, xC]; (try simp only [xD]); (try simp only [xE]); (try simp only [id])
 repeat (refine' Reg2.ai _ (by rfl) (fun wz => ?_) ?_; rotate_left; (go_simp; first | rfl | rw [if_neg (by omega)]); simp only [Act.put, xA, xB, xC]; (try simp only [xD]); (try simp only [xE]); (try simp only [id]))
 refine Reg2.aL (by rfl) ?_
 simp only [Act.put, xA, xB, xC]; (try simp only [xD]); (try simp only [xE]); (try simp only [id])
 refine Reg2.aH (by rfl) ?_
 simp only [Act.put, xA, xB, xC]; (try simp only [xD]); (try simp only [xE]); (try simp only [id])
 refine Reg2.aL (by rfl) ?_
 simp only [Act.put, xA, xB, xC]; (try simp only [xD]); (try simp only [xE]); (try simp only [id])
 refine Reg2.aL (by rfl) ?_
 simp only [Act.put, xA, xB, xC]; (try simp only [xD]); (try simp only [xE]); (try simp only [id])
 refine Reg2.aL (by rfl) ?_
 simp only [Act.put, xA, xB, xC]; (try simp only [xD]); (try simp only [xE]); (try simp only [id])
 refine Reg2.aH (by rfl) ?_
 simp only [Act.put, xA, xB, xC]; (try simp only [xD]); (try simp only [xE]); (try simp only [id])
 refine Reg2.aH (by rfl) ?_
 simp only [Act.put, xA, xB, xC]; (try simp only [xD]); (try simp only [xE]); (try simp only [id])
 refine Reg2.aA ?_
 intro w7 jN _ jW
 clear jW
 dsimp only [List.drop]
 have lq := bC.out.trans (jN.mono bC.out.size)
 go_wp2_with fail
 go_ret
 exact ⟨rfl, lq⟩
theorem GI (h : CW w c t d p v g a m P) (hl : gU P.T) (r : Rq) (hk : r.kind = 1) (hw : 64 < r.width) : Calls Tryz.prog 136 #[.pointer (some ⟨c, 0, none⟩), .agg (encR r).toArray] w fun e w' => e = .returned (.int .i64 0) ∧ Below w.heap.size w w' := by
 have zR := kM
 obtain ⟨k9, bW⟩ : ∃ k, k = 9 := ⟨_, rfl⟩
 rw [← bW] at zR
 have hk0 : ¬ k9 = 0 := by omega
 have lR := iE r
 rw [← bW] at lR
 replace bW := Lib.hid bW
 obtain ⟨wA, aB⟩ : ∃ wA, wA = w.alloc (.cells (encR r).toArray 32) := ⟨_, rfl⟩
 have bC : Hid (Below w.heap.size w wA) := by show Below _ _ _; rw [aB]; exact (Below.refl _ _).alloc (Nat.le_refl _) _
 have ic : Hid (wA.heap[w.heap.size]? = some (.cells (encR r).toArray 32 (0, 0))) := by show _ = _; rw [aB]; exact heap_alloc_new w _
 have iI := Lib.hid (h.kept bC.out)
 have hno := fun (W : World) (hW : Below wA.heap.size wA W) => kW (iI.out.kept hW)
 have hsz := fun (W : World) (hW : Below wA.heap.size wA W) => p8 (iI.out.kept hW).nodes hl
 have Mx := fun (W : World) => nk r W
 have e0 : (encR r)[0]? = some (.int .i64 r.kind) := rfl
 have e3 : (encR r)[3]? = some (.int .i64 r.width) := rfl
 generalize r.kind = rk at *
 generalize r.width = rw at *
 generalize aS r = rf at *
 generalize encR r = cR at *
 generalize (P.T.length : Int) = nl at *
 have d1 : (rk != 1) = false := by simp [hk]
 replace hk := Lib.hid hk
 have d2 : decide (rw > 64) = true := decide_eq_true hw
 clear h
 go_enter Tryz.func136, Tryz.ntmps136
 go_wp2_with fail
 rw [← aB]
 replace aB := Lib.hid aB
 refine Reg2.rd wA 20 30 [[],[ae],[ae,ae],[ae,ae,ae],[ae,ae,ae,ae],[ae,ae,ae,ae,ae],[ae,ae,ae,ae,ae,ae],[ae,ae,ae,ae,ae,ae,ae],[ae,ae,ae,ae,ae,ae,ae,ae],[ae,ae,ae,ae,ae,ae,ae,ae,ae],[ae,ae,ae,ae,ae,ae,ae,ae,ae,ae],[ae,ae,ae,ae,ae,ae,ae,ae,ae,ae,ae],[ae,ae,ae,ae,ae,ae,ae,ae,ae,ae,ae,ae],[ae,ae,ae,ae,ae,ae,ae,ae,ae,ae,ae,ae,ae],[ae,ae,ae,ae,ae,ae,ae,ae,ae,ae,ae,ae,ae,ae],[ae,ae,ae,ae,ae,ae,ae,ae,ae,ae,ae,ae,ae,af,af],[ae,ae,ae,ae,ae,ae,ae,ae,ae,ae,ae,ae,ae,af,af,ae],[ae,ae,ae,ae,ae,ae,ae,ae,ae,ae,ae,ae,ae,af,af,ae,ae],[ae,ae,ae,ae,ae,ae,ae,ae,ae,ae,ae,ae,ae,af,af,ae,ae,ae],[ae,ae,ae,ae,ae,ae,ae,ae,ae,ae,ae,ae,ae,af,af,ae,ae,ae,ae]] [0, 1, 0, 0, 1, 0, 0, 0, 0, 1, 0, 0, 0, 0, 1, 0, 0, 0, 1, 1] [.pure, .mU (.bool false), .pure, .pure, .mU (.int .i64 rk), .pure, .pure, .pure, .pure, .mU (.int .i64 rw), .pure, .pure, .pure, .pure, .mU (.int .i64 rw), .pure, .pure, .pure, .mU (.pointer (some ⟨d, 0, none⟩)), .mU (.int .i64 nl)] (by kernel_rfl) (by kernel_rfl) rfl rfl ⟨trivial, Reg2.tt, trivial, trivial, Reg2.tt, trivial, trivial, trivial, trivial, Reg2.tt, trivial, trivial, trivial, trivial, Reg2.tt, trivial, trivial, trivial, Reg2.tt, Reg2.tt, trivial⟩ ⟨rfl, rfl, rfl, Nat.le_refl _, fun _ _ => rfl⟩ ?_
 dsimp only [Reg2.mk, List.zip, List.zipWith, List.take]
 repeat (refine' Reg2.ai _ (by rfl) (fun wz => ?_) ?_; rotate_left; (go_simp; first | rfl | rw [if_neg (by omega)]); simp only [Act.put, xA, xB, xC]; (try simp only [xD]); (try simp only [xE]); (try simp only [id]))
 refine Reg2.pm (fun wz hI hF => ?_) (fun r1 => ?_) (by rfl)
 ·go_wp2_with (go_at_call 51; go_must (refine (hno wz hI).mono ?_); rintro e w' ⟨rfl, rfl⟩)
  first | exact ⟨_, rfl, rfl, Reg2.Ext.refl _⟩ | exact ⟨_, rfl, ⟨(), rfl, trivial⟩, Reg2.Ext.refl _⟩
 simp only [Act.put, xA, xB, xC]; (try simp only [xD]); (try simp only [xE]); (try simp only [id])
 repeat (refine' Reg2.ai _ (by rfl) (fun wz => ?_) ?_; rotate_left; (go_simp; first | rfl | rw [if_neg (by omega)]); simp only [Act.put, xA, xB, xC]; (try simp only [xD]); (try simp only [xE]); (try simp only [id]))
 refine Reg2.pm (fun wz hI hF => ?_) (fun r4 => ?_) (by rfl)
 ·have q0 : wz.cell? ⟨w.heap.size, 0, none⟩ = some (.int .i64 rk) := by simp [World.cell?, (hI.block _ (ay ic.out)).trans ic.out, e0]
  go_wp2_with fail
  first | exact ⟨_, rfl, rfl, Reg2.Ext.refl _⟩ | exact ⟨_, rfl, ⟨(), rfl, trivial⟩, Reg2.Ext.refl _⟩
 simp only [Act.put, xA, xB, xC]; (try simp only [xD]); (try simp only [xE]); (try simp only [id])
 repeat (refine' Reg2.ai _ (by rfl) (fun wz => ?_) ?_; rotate_left; (go_simp; first | rfl | rw [if_neg (by omega)]); simp only [Act.put, xA, xB, xC]; (try simp only [xD]); (try simp only [xE]); (try simp only [id]))
 refine Reg2.pm (fun wz hI hF => ?_) (fun r9 => ?_) (by rfl)
 ·have q0 : wz.cell? ⟨w.heap.size, 3, none⟩ = some (.int .i64 rw) := by simp [World.cell?, (hI.block _ (ay ic.out)).trans ic.out, e3]
  go_wp2_with fail
  first | exact ⟨_, rfl, rfl, Reg2.Ext.refl _⟩ | exact ⟨_, rfl, ⟨(), rfl, trivial⟩, Reg2.Ext.refl _⟩
 simp only [Act.put, xA, xB, xC]; (try simp only [xD]); (try simp only [xE]); (try simp only [id])
 repeat (refine' Reg2.ai _ (by rfl) (fun wz => ?_) ?_; rotate_left; (go_simp; first | rfl | rw [if_neg (by omega)]); simp only [Act.put, xA, xB, xC]; (try simp only [xD]); (try simp only [xE]); (try simp only [id]))
 refine Reg2.aL (by rfl) ?_
 simp only [Act.put, xA, xB, xC]; (try simp only [xD]); (try simp only [xE]); (try simp only [id])
 refine Reg2.aH (by rfl) ?_
 simp only [Act.put, xA, xB, xC]; (try simp only [xD]); (try simp only [xE]); (try simp only [id])
 refine Reg2.aL (by rfl) ?_
 simp only [Act.put, xA, xB, xC]; (try simp only [xD]); (try simp only [xE]); (try simp only [id])
 refine Reg2.aL (by rfl) ?_
 simp only [Act.put, xA, xB, xC]; (try simp only [xD]); (try simp only [xE]); (try simp only [id])
 refine Reg2.aL (by rfl) ?_
 simp only [Act.put, xA, xB, xC]; (try simp only [xD]); (try simp only [xE]); (try simp only [id])
 refine Reg2.aH (by rfl) ?_
 simp only [Act.put, xA, xB, xC]; (try simp only [xD]); (try simp only [xE]); (try simp only [id])
 refine Reg2.aH (by rfl) ?_
 simp only [Act.put, xA, xB, xC]; (try simp only [xD]); (try simp only [xE]); (try simp only [id])
 refine Reg2.aA ?_
 intro w7 jN _ jW
 clear jW
 dsimp only [List.drop]
 have lq := bC.out.trans (jN.mono bC.out.size)
 go_wp2_with fail
 go_ret
 exact ⟨rfl, lq⟩
theorem GJ (h : CW w c t d p v g a m P) (hl : gU P.T) (r : Rq) (hk : r.kind = 1) (hw : r.width ≤ 64) (hn : r.width ≤ P.T.length) : Calls Tryz.prog 136 #[.pointer (some ⟨c, 0, none⟩), .agg (encR r).toArray] w fun e w' => e = .returned (.int .i64 0) ∧ Below w.heap.size w w' := by
 have zR := kM
 obtain ⟨k9, bW⟩ : ∃ k, k = 9 := ⟨_, rfl⟩
 rw [← bW] at zR
 have hk0 : ¬ k9 = 0 := by omega
 have lR := iE r
 rw [← bW] at lR
 replace bW := Lib.hid bW
 obtain ⟨wA, aB⟩ : ∃ wA, wA = w.alloc (.cells (encR r).toArray 32) := ⟨_, rfl⟩
 have bC : Hid (Below w.heap.size w wA) := by show Below _ _ _; rw [aB]; exact (Below.refl _ _).alloc (Nat.le_refl _) _
 have ic : Hid (wA.heap[w.heap.size]? = some (.cells (encR r).toArray 32 (0, 0))) := by show _ = _; rw [aB]; exact heap_alloc_new w _
 have iI := Lib.hid (h.kept bC.out)
 have hno := fun (W : World) (hW : Below wA.heap.size wA W) => kW (iI.out.kept hW)
 have hsz := fun (W : World) (hW : Below wA.heap.size wA W) => p8 (iI.out.kept hW).nodes hl
 have Mx := fun (W : World) => nk r W
 have e0 : (encR r)[0]? = some (.int .i64 r.kind) := rfl
 have e3 : (encR r)[3]? = some (.int .i64 r.width) := rfl
 generalize r.kind = rk at *
 generalize r.width = rw at *
 generalize aS r = rf at *
 generalize encR r = cR at *
 generalize (P.T.length : Int) = nl at *
 have d1 : (rk != 1) = false := by simp [hk]
 replace hk := Lib.hid hk
 have d2 : decide (rw > 64) = false := decide_eq_false (by omega)
 have d3 : decide (rw ≤ nl) = true := decide_eq_true hn
 clear h
 go_enter Tryz.func136, Tryz.ntmps136
 go_wp2_with fail
 rw [← aB]
 replace aB := Lib.hid aB
 refine Reg2.rd wA 20 30 [[],[ae],[ae,ae],[ae,ae,ae],[ae,ae,ae,ae],[ae,ae,ae,ae,ae],[ae,ae,ae,ae,ae,ae],[ae,ae,ae,ae,ae,ae,ae],[ae,ae,ae,ae,ae,ae,ae,ae],[ae,ae,ae,ae,ae,ae,ae,ae,ae],[ae,ae,ae,ae,ae,ae,ae,ae,ae,ae],[ae,ae,ae,ae,ae,ae,ae,ae,ae,ae,ae],[ae,ae,ae,ae,ae,ae,ae,ae,ae,ae,ae,ae],[ae,ae,ae,ae,ae,ae,ae,ae,ae,ae,ae,ae,ae],[ae,ae,ae,ae,ae,ae,ae,ae,ae,ae,ae,ae,ae,ae],[ae,ae,ae,ae,ae,ae,ae,ae,ae,ae,ae,ae,ae,af,af],[ae,ae,ae,ae,ae,ae,ae,ae,ae,ae,ae,ae,ae,af,af,ae],[ae,ae,ae,ae,ae,ae,ae,ae,ae,ae,ae,ae,ae,af,af,ae,ae],[ae,ae,ae,ae,ae,ae,ae,ae,ae,ae,ae,ae,ae,af,af,ae,ae,ae],[ae,ae,ae,ae,ae,ae,ae,ae,ae,ae,ae,ae,ae,af,af,ae,ae,ae,ae]] [0, 1, 0, 0, 1, 0, 0, 0, 0, 1, 0, 0, 0, 0, 1, 0, 0, 0, 1, 1] [.pure, .mU (.bool false), .pure, .pure, .mU (.int .i64 rk), .pure, .pure, .pure, .pure, .mU (.int .i64 rw), .pure, .pure, .pure, .pure, .mU (.int .i64 rw), .pure, .pure, .pure, .mU (.pointer (some ⟨d, 0, none⟩)), .mU (.int .i64 nl)] (by kernel_rfl) (by kernel_rfl) rfl rfl ⟨trivial, Reg2.tt, trivial, trivial, Reg2.tt, trivial, trivial, trivial, trivial, Reg2.tt, trivial, trivial, trivial, trivial, Reg2.tt, trivial, trivial, trivial, Reg2.tt, Reg2.tt, trivial⟩ ⟨rfl, rfl, rfl, Nat.le_refl _, fun _ _ => rfl⟩ ?_
 dsimp only [Reg2.mk, List.zip, List.zipWith, List.take]
 repeat (refine' Reg2.ai _ (by rfl) (fun wz => ?_) ?_; rotate_left; (go_simp; first | rfl | rw [if_neg (by omega)]); simp only [Act.put, xA, xB, xC]; (try simp only [xD]); (try simp only [xE]); (try simp only [id]))
 refine Reg2.pm (fun wz hI hF => ?_) (fun r1 => ?_) (by rfl)
 ·go_wp2_with (go_at_call 51; go_must (refine (hno wz hI).mono ?_); rintro e w' ⟨rfl, rfl⟩)
  first | exact ⟨_, rfl, rfl, Reg2.Ext.refl _⟩ | exact ⟨_, rfl, ⟨(), rfl, trivial⟩, Reg2.Ext.refl _⟩
 simp only [Act.put, xA, xB, xC]; (try simp only [xD]); (try simp only [xE]); (try simp only [id])
 repeat (refine' Reg2.ai _ (by rfl) (fun wz => ?_) ?_; rotate_left; (go_simp; first | rfl | rw [if_neg (by omega)]); simp only [Act.put, xA, xB, xC]; (try simp only [xD]); (try simp only [xE]); (try simp only [id]))
 refine Reg2.pm (fun wz hI hF => ?_) (fun r4 => ?_) (by rfl)
 ·have q0 : wz.cell? ⟨w.heap.size, 0, none⟩ = some (.int .i64 rk) := by simp [World.cell?, (hI.block _ (ay ic.out)).trans ic.out, e0]
  go_wp2_with fail
  first | exact ⟨_, rfl, rfl, Reg2.Ext.refl _⟩ | exact ⟨_, rfl, ⟨(), rfl, trivial⟩, Reg2.Ext.refl _⟩
 simp only [Act.put, xA, xB, xC]; (try simp only [xD]); (try simp only [xE]); (try simp only [id])
 repeat (refine' Reg2.ai _ (by rfl) (fun wz => ?_) ?_; rotate_left; (go_simp; first | rfl | rw [if_neg (by omega)]); simp only [Act.put, xA, xB, xC]; (try simp only [xD]); (try simp only [xE]); (try simp only [id]))
 refine Reg2.pm (fun wz hI hF => ?_) (fun r9 => ?_) (by rfl)
 ·have q0 : wz.cell? ⟨w.heap.size, 3, none⟩ = some (.int .i64 rw) := by simp [World.cell?, (hI.block _ (ay ic.out)).trans ic.out, e3]
  go_wp2_with fail
  first | exact ⟨_, rfl, rfl, Reg2.Ext.refl _⟩ | exact ⟨_, rfl, ⟨(), rfl, trivial⟩, Reg2.Ext.refl _⟩
 simp only [Act.put, xA, xB, xC]; (try simp only [xD]); (try simp only [xE]); (try simp only [id])
 repeat (refine' Reg2.ai _ (by rfl) (fun wz => ?_) ?_; rotate_left; (go_simp; first | rfl | rw [if_neg (by omega)]); simp only [Act.put, xA, xB, xC]; (try simp only [xD]); (try simp only [xE]); (try simp only [id]))
 refine Reg2.pm (fun wz hI hF => ?_) (fun JC => ?_) (by rfl)
 ·have q0 : wz.cell? ⟨w.heap.size, 3, none⟩ = some (.int .i64 rw) := by simp [World.cell?, (hI.block _ (ay ic.out)).trans ic.out, e3]
  go_wp2_with fail
  first | exact ⟨_, rfl, rfl, Reg2.Ext.refl _⟩ | exact ⟨_, rfl, ⟨(), rfl, trivial⟩, Reg2.Ext.refl _⟩
 simp only [Act.put, xA, xB, xC]; (try simp only [xD]); (try simp only [xE]); (try simp only [id])
 repeat (refine' Reg2.ai _ (by rfl) (fun wz => ?_) ?_; rotate_left; (go_simp; first | rfl | rw [if_neg (by omega)]); simp only [Act.put, xA, xB, xC]; (try simp only [xD]); (try simp only [xE]); (try simp only [id]))
 refine Reg2.pm (fun wz hI hF => ?_) (fun Us => ?_) (by rfl)
 ·have c0 := (iI.out.kept hI).c1
  go_wp2_with fail
  first | exact ⟨_, rfl, rfl, Reg2.Ext.refl _⟩ | exact ⟨_, rfl, ⟨(), rfl, trivial⟩, Reg2.Ext.refl _⟩
 simp only [Act.put, xA, xB, xC]; (try simp only [xD]); (try simp only [xE]); (try simp only [id])
 refine Reg2.pm (fun wz hI hF => ?_) (fun SG => ?_) (by rfl)
 ·go_wp2_with (go_at_call 52; go_must (refine (hsz wz hI).mono ?_); rintro e w' ⟨rfl, rfl⟩)
  first | exact ⟨_, rfl, rfl, Reg2.Ext.refl _⟩ | exact ⟨_, rfl, ⟨(), rfl, trivial⟩, Reg2.Ext.refl _⟩
 simp only [Act.put, xA, xB, xC]; (try simp only [xD]); (try simp only [xE]); (try simp only [id])
 refine Reg2.aA ?_
 intro w7 jN _ jW
 clear jW
 dsimp only [List.drop]
 have lq := bC.out.trans (jN.mono bC.out.size)
 go_wp2_with fail
 go_ret
 exact ⟨rfl, lq⟩
theorem JD (h : CW w c t d p v g a m P) (hl : gU P.T) (r : Rq) (hk : r.kind = 1) (hw : r.width ≤ 64) (hn : ¬ r.width ≤ P.T.length) (hrf : aS r = 1) : Calls Tryz.prog 136 #[.pointer (some ⟨c, 0, none⟩), .agg (encR r).toArray] w fun e w' => e = .returned (.int .i64 0) ∧ Below w.heap.size w w' := by
 have zR := kM
 obtain ⟨k9, bW⟩ : ∃ k, k = 9 := ⟨_, rfl⟩
 rw [← bW] at zR
 have hk0 : ¬ k9 = 0 := by omega
 have lR := iE r
 rw [← bW] at lR
 replace bW := Lib.hid bW
 obtain ⟨wA, aB⟩ : ∃ wA, wA = w.alloc (.cells (encR r).toArray 32) := ⟨_, rfl⟩
 have bC : Hid (Below w.heap.size w wA) := by show Below _ _ _; rw [aB]; exact (Below.refl _ _).alloc (Nat.le_refl _) _
 have ic : Hid (wA.heap[w.heap.size]? = some (.cells (encR r).toArray 32 (0, 0))) := by show _ = _; rw [aB]; exact heap_alloc_new w _
 have iI := Lib.hid (h.kept bC.out)
 have hno := fun (W : World) (hW : Below wA.heap.size wA W) => kW (iI.out.kept hW)
 have hsz := fun (W : World) (hW : Below wA.heap.size wA W) => p8 (iI.out.kept hW).nodes hl
 have Mx := fun (W : World) => nk r W
 have e0 : (encR r)[0]? = some (.int .i64 r.kind) := rfl
 have e3 : (encR r)[3]? = some (.int .i64 r.width) := rfl
 generalize r.kind = rk at *
 generalize r.width = rw at *
 generalize aS r = rf at *
 generalize encR r = cR at *
 generalize (P.T.length : Int) = nl at *
 have d1 : (rk != 1) = false := by simp [hk]
 replace hk := Lib.hid hk
 have d2 : decide (rw > 64) = false := decide_eq_false (by omega)
 have d3 : decide (rw ≤ nl) = false := decide_eq_false hn
 subst hrf
 clear h
 go_enter Tryz.func136, Tryz.ntmps136
 go_wp2_with fail
 rw [← aB]
 replace aB := Lib.hid aB
 refine Reg2.rd wA 20 30 [[],[ae],[ae,ae],[ae,ae,ae],[ae,ae,ae,ae],[ae,ae,ae,ae,ae],[ae,ae,ae,ae,ae,ae],[ae,ae,ae,ae,ae,ae,ae],[ae,ae,ae,ae,ae,ae,ae,ae],[ae,ae,ae,ae,ae,ae,ae,ae,ae],[ae,ae,ae,ae,ae,ae,ae,ae,ae,ae],[ae,ae,ae,ae,ae,ae,ae,ae,ae,ae,ae],[ae,ae,ae,ae,ae,ae,ae,ae,ae,ae,ae,ae],[ae,ae,ae,ae,ae,ae,ae,ae,ae,ae,ae,ae,ae],[ae,ae,ae,ae,ae,ae,ae,ae,ae,ae,ae,ae,ae,ae],[ae,ae,ae,ae,ae,ae,ae,ae,ae,ae,ae,ae,ae,af,af],[ae,ae,ae,ae,ae,ae,ae,ae,ae,ae,ae,ae,ae,af,af,ae],[ae,ae,ae,ae,ae,ae,ae,ae,ae,ae,ae,ae,ae,af,af,ae,ae],[ae,ae,ae,ae,ae,ae,ae,ae,ae,ae,ae,ae,ae,af,af,ae,ae,ae],[ae,ae,ae,ae,ae,ae,ae,ae,ae,ae,ae,ae,ae,af,af,ae,ae,ae,ae]] [0, 1, 0, 0, 1, 0, 0, 0, 0, 1, 0, 0, 0, 0, 1, 0, 0, 0, 1, 1] [.pure, .mU (.bool false), .pure, .pure, .mU (.int .i64 rk), .pure, .pure, .pure, .pure, .mU (.int .i64 rw), .pure, .pure, .pure, .pure, .mU (.int .i64 rw), .pure, .pure, .pure, .mU (.pointer (some ⟨d, 0, none⟩)), .mU (.int .i64 nl)] (by kernel_rfl) (by kernel_rfl) rfl rfl ⟨trivial, Reg2.tt, trivial, trivial, Reg2.tt, trivial, trivial, trivial, trivial, Reg2.tt, trivial, trivial, trivial, trivial, Reg2.tt, trivial, trivial, trivial, Reg2.tt, Reg2.tt, trivial⟩ ⟨rfl, rfl, rfl, Nat.le_refl _, fun _ _ => rfl⟩ ?_
 dsimp only [Reg2.mk, List.zip, List.zipWith, List.take]
 repeat (refine' Reg2.ai _ (by rfl) (fun wz => ?_) ?_; rotate_left; (go_simp; first | rfl | rw [if_neg (by omega)]); simp only [Act.put, xA, xB, xC]; (try simp only [xD]); (try simp only [xE]); (try simp only [id]))
 refine Reg2.pm (fun wz hI hF => ?_) (fun r1 => ?_) (by rfl)
 ·go_wp2_with (go_at_call 51; go_must (refine (hno wz hI).mono ?_); rintro e w' ⟨rfl, rfl⟩)
  first | exact ⟨_, rfl, rfl, Reg2.Ext.refl _⟩ | exact ⟨_, rfl, ⟨(), rfl, trivial⟩, Reg2.Ext.refl _⟩
 simp only [Act.put, xA, xB, xC]; (try simp only [xD]); (try simp only [xE]); (try simp only [id])
 repeat (refine' Reg2.ai _ (by rfl) (fun wz => ?_) ?_; rotate_left; (go_simp; first | rfl | rw [if_neg (by omega)]); simp only [Act.put, xA, xB, xC]; (try simp only [xD]); (try simp only [xE]); (try simp only [id]))
 refine Reg2.pm (fun wz hI hF => ?_) (fun r4 => ?_) (by rfl)
 ·have q0 : wz.cell? ⟨w.heap.size, 0, none⟩ = some (.int .i64 rk) := by simp [World.cell?, (hI.block _ (ay ic.out)).trans ic.out, e0]
  go_wp2_with fail
  first | exact ⟨_, rfl, rfl, Reg2.Ext.refl _⟩ | exact ⟨_, rfl, ⟨(), rfl, trivial⟩, Reg2.Ext.refl _⟩
 simp only [Act.put, xA, xB, xC]; (try simp only [xD]); (try simp only [xE]); (try simp only [id])
 repeat (refine' Reg2.ai _ (by rfl) (fun wz => ?_) ?_; rotate_left; (go_simp; first | rfl | rw [if_neg (by omega)]); simp only [Act.put, xA, xB, xC]; (try simp only [xD]); (try simp only [xE]); (try simp only [id]))
 refine Reg2.pm (fun wz hI hF => ?_) (fun r9 => ?_) (by rfl)
 ·have q0 : wz.cell? ⟨w.heap.size, 3, none⟩ = some (.int .i64 rw) := by simp [World.cell?, (hI.block _ (ay ic.out)).trans ic.out, e3]
  go_wp2_with fail
  first | exact ⟨_, rfl, rfl, Reg2.Ext.refl _⟩ | exact ⟨_, rfl, ⟨(), rfl, trivial⟩, Reg2.Ext.refl _⟩
 simp only [Act.put, xA, xB, xC]; (try simp only [xD]); (try simp only [xE]); (try simp only [id])
 repeat (refine' Reg2.ai _ (by rfl) (fun wz => ?_) ?_; rotate_left; (go_simp; first | rfl | rw [if_neg (by omega)]); simp only [Act.put, xA, xB, xC]; (try simp only [xD]); (try simp only [xE]); (try simp only [id]))
 refine Reg2.pm (fun wz hI hF => ?_) (fun JC => ?_) (by rfl)
 ·have q0 : wz.cell? ⟨w.heap.size, 3, none⟩ = some (.int .i64 rw) := by simp [World.cell?, (hI.block _ (ay ic.out)).trans ic.out, e3]
  go_wp2_with fail
  first | exact ⟨_, rfl, rfl, Reg2.Ext.refl _⟩ | exact ⟨_, rfl, ⟨(), rfl, trivial⟩, Reg2.Ext.refl _⟩
 simp only [Act.put, xA, xB, xC]; (try simp only [xD]); (try simp only [xE]); (try simp only [id])
 repeat (refine' Reg2.ai _ (by rfl) (fun wz => ?_) ?_; rotate_left; (go_simp; first | rfl | rw [if_neg (by omega)]); simp only [Act.put, xA, xB, xC]; (try simp only [xD]); (try simp only [xE]); (try simp only [id]))
 refine Reg2.pm (fun wz hI hF => ?_) (fun Us => ?_) (by rfl)
 ·have c0 := (iI.out.kept hI).c1
  go_wp2_with fail
  first | exact ⟨_, rfl, rfl, Reg2.Ext.refl _⟩ | exact ⟨_, rfl, ⟨(), rfl, trivial⟩, Reg2.Ext.refl _⟩
 simp only [Act.put, xA, xB, xC]; (try simp only [xD]); (try simp only [xE]); (try simp only [id])
 refine Reg2.pm (fun wz hI hF => ?_) (fun SG => ?_) (by rfl)
 ·go_wp2_with (go_at_call 52; go_must (refine (hsz wz hI).mono ?_); rintro e w' ⟨rfl, rfl⟩)
  first | exact ⟨_, rfl, rfl, Reg2.Ext.refl _⟩ | exact ⟨_, rfl, ⟨(), rfl, trivial⟩, Reg2.Ext.refl _⟩
 simp only [Act.put, xA, xB, xC]; (try simp only [xD]); (try simp only [xE]); (try simp only [id])
 refine Reg2.aA ?_
 intro w7 jN _ jW
 clear jW
 dsimp only [List.drop]
 have lq := bC.out.trans (jN.mono bC.out.size)
 have yQ : w7.heap[w.heap.size]? = some (.cells cR.toArray 32 (0, 0)) := (jN.block _ (ay ic.out)).trans ic.out
 have QX := eu yQ lR
 have SH := Mx w7
 go_wp2_with (go_at_call 156; go_must (refine SH.mono ?_); rintro e w8 ⟨rfl, ob, rfl⟩)
 go_ret
 exact ⟨rfl, lq.alloc lq.size _⟩
theorem GK (h : CW w c t d p v g a m P) (hl : gU P.T) (r : Rq) (hk : r.kind = 1) (hw : r.width ≤ 64) (hn : ¬ r.width ≤ P.T.length) (hrf : ¬ aS r = 1) : Calls Tryz.prog 136 #[.pointer (some ⟨c, 0, none⟩), .agg (encR r).toArray] w fun e w' => e = .returned (.int .i64 9) ∧ Below w.heap.size w w' := by
 have zR := kM
 obtain ⟨k9, bW⟩ : ∃ k, k = 9 := ⟨_, rfl⟩
 rw [← bW] at zR
 have hk0 : ¬ k9 = 0 := by omega
 have lR := iE r
 rw [← bW] at lR
 replace bW := Lib.hid bW
 obtain ⟨wA, aB⟩ : ∃ wA, wA = w.alloc (.cells (encR r).toArray 32) := ⟨_, rfl⟩
 have bC : Hid (Below w.heap.size w wA) := by show Below _ _ _; rw [aB]; exact (Below.refl _ _).alloc (Nat.le_refl _) _
 have ic : Hid (wA.heap[w.heap.size]? = some (.cells (encR r).toArray 32 (0, 0))) := by show _ = _; rw [aB]; exact heap_alloc_new w _
 have iI := Lib.hid (h.kept bC.out)
 have hno := fun (W : World) (hW : Below wA.heap.size wA W) => kW (iI.out.kept hW)
 have hsz := fun (W : World) (hW : Below wA.heap.size wA W) => p8 (iI.out.kept hW).nodes hl
 have Mx := fun (W : World) => nk r W
 have e0 : (encR r)[0]? = some (.int .i64 r.kind) := rfl
 have e3 : (encR r)[3]? = some (.int .i64 r.width) := rfl
 generalize r.kind = rk at *
 generalize r.width = rw at *
 generalize aS r = rf at *
 generalize encR r = cR at *
 generalize (P.T.length : Int) = nl at *
 have d1 : (rk != 1) = false := by simp [hk]
 replace hk := Lib.hid hk
 have d2 : decide (rw > 64) = false := decide_eq_false (by omega)
 have d3 : decide (rw ≤ nl) = false := decide_eq_false hn
 have d5 : (rf == 1) = false := by simp [hrf]
 clear h
 go_enter Tryz.func136, Tryz.ntmps136
 go_wp2_with fail
 rw [← aB]
 replace aB := Lib.hid aB
 refine Reg2.rd wA 20 30 [[],[ae],[ae,ae],[ae,ae,ae],[ae,ae,ae,ae],[ae,ae,ae,ae,ae],[ae,ae,ae,ae,ae,ae],[ae,ae,ae,ae,ae,ae,ae],[ae,ae,ae,ae,ae,ae,ae,ae],[ae,ae,ae,ae,ae,ae,ae,ae,ae],[ae,ae,ae,ae,ae,ae,ae,ae,ae,ae],[ae,ae,ae,ae,ae,ae,ae,ae,ae,ae,ae],[ae,ae,ae,ae,ae,ae,ae,ae,ae,ae,ae,ae],[ae,ae,ae,ae,ae,ae,ae,ae,ae,ae,ae,ae,ae],[ae,ae,ae,ae,ae,ae,ae,ae,ae,ae,ae,ae,ae,ae],[ae,ae,ae,ae,ae,ae,ae,ae,ae,ae,ae,ae,ae,af,af],[ae,ae,ae,ae,ae,ae,ae,ae,ae,ae,ae,ae,ae,af,af,ae],[ae,ae,ae,ae,ae,ae,ae,ae,ae,ae,ae,ae,ae,af,af,ae,ae],[ae,ae,ae,ae,ae,ae,ae,ae,ae,ae,ae,ae,ae,af,af,ae,ae,ae],[ae,ae,ae,ae,ae,ae,ae,ae,ae,ae,ae,ae,ae,af,af,ae,ae,ae,ae]] [0, 1, 0, 0, 1, 0, 0, 0, 0, 1, 0, 0, 0, 0, 1, 0, 0, 0, 1, 1] [.pure, .mU (.bool false), .pure, .pure, .mU (.int .i64 rk), .pure, .pure, .pure, .pure, .mU (.int .i64 rw), .pure, .pure, .pure, .pure, .mU (.int .i64 rw), .pure, .pure, .pure, .mU (.pointer (some ⟨d, 0, none⟩)), .mU (.int .i64 nl)] (by kernel_rfl) (by kernel_rfl) rfl rfl ⟨trivial, Reg2.tt, trivial, trivial, Reg2.tt, trivial, trivial, trivial, trivial, Reg2.tt, trivial, trivial, trivial, trivial, Reg2.tt, trivial, trivial, trivial, Reg2.tt, Reg2.tt, trivial⟩ ⟨rfl, rfl, rfl, Nat.le_refl _, fun _ _ => rfl⟩ ?_
 dsimp only [Reg2.mk, List.zip, List.zipWith, List.take]
 repeat (refine' Reg2.ai _ (by rfl) (fun wz => ?_) ?_; rotate_left; (go_simp; first | rfl | rw [if_neg (by omega)]); simp only [Act.put, xA, xB, xC]; (try simp only [xD]); (try simp only [xE]); (try simp only [id]))
 refine Reg2.pm (fun wz hI hF => ?_) (fun r1 => ?_) (by rfl)
 ·go_wp2_with (go_at_call 51; go_must (refine (hno wz hI).mono ?_); rintro e w' ⟨rfl, rfl⟩)
  first | exact ⟨_, rfl, rfl, Reg2.Ext.refl _⟩ | exact ⟨_, rfl, ⟨(), rfl, trivial⟩, Reg2.Ext.refl _⟩
 simp only [Act.put, xA, xB, xC]; (try simp only [xD]); (try simp only [xE]); (try simp only [id])
 repeat (refine' Reg2.ai _ (by rfl) (fun wz => ?_) ?_; rotate_left; (go_simp; first | rfl | rw [if_neg (by omega)]); simp only [Act.put, xA, xB, xC]; (try simp only [xD]); (try simp only [xE]); (try simp only [id]))
 refine Reg2.pm (fun wz hI hF => ?_) (fun r4 => ?_) (by rfl)
 ·have q0 : wz.cell? ⟨w.heap.size, 0, none⟩ = some (.int .i64 rk) := by simp [World.cell?, (hI.block _ (ay ic.out)).trans ic.out, e0]
  go_wp2_with fail
  first | exact ⟨_, rfl, rfl, Reg2.Ext.refl _⟩ | exact ⟨_, rfl, ⟨(), rfl, trivial⟩, Reg2.Ext.refl _⟩
 simp only [Act.put, xA, xB, xC]; (try simp only [xD]); (try simp only [xE]); (try simp only [id])
 repeat (refine' Reg2.ai _ (by rfl) (fun wz => ?_) ?_; rotate_left; (go_simp; first | rfl | rw [if_neg (by omega)]); simp only [Act.put, xA, xB, xC]; (try simp only [xD]); (try simp only [xE]); (try simp only [id]))
 refine Reg2.pm (fun wz hI hF => ?_) (fun r9 => ?_) (by rfl)
 ·have q0 : wz.cell? ⟨w.heap.size, 3, none⟩ = some (.int .i64 rw) := by simp [World.cell?, (hI.block _ (ay ic.out)).trans ic.out, e3]
  go_wp2_with fail
  first | exact ⟨_, rfl, rfl, Reg2.Ext.refl _⟩ | exact ⟨_, rfl, ⟨(), rfl, trivial⟩, Reg2.Ext.refl _⟩
 simp only [Act.put, xA, xB, xC]; (try simp only [xD]); (try simp only [xE]); (try simp only [id])
 repeat (refine' Reg2.ai _ (by rfl) (fun wz => ?_) ?_; rotate_left; (go_simp; first | rfl | rw [if_neg (by omega)]); simp only [Act.put, xA, xB, xC]; (try simp only [xD]); (try simp only [xE]); (try simp only [id]))
 refine Reg2.pm (fun wz hI hF => ?_) (fun JC => ?_) (by rfl)
 ·have q0 : wz.cell? ⟨w.heap.size, 3, none⟩ = some (.int .i64 rw) := by simp [World.cell?, (hI.block _ (ay ic.out)).trans ic.out, e3]
  go_wp2_with fail
  first | exact ⟨_, rfl, rfl, Reg2.Ext.refl _⟩ | exact ⟨_, rfl, ⟨(), rfl, trivial⟩, Reg2.Ext.refl _⟩
 simp only [Act.put, xA, xB, xC]; (try simp only [xD]); (try simp only [xE]); (try simp only [id])
 repeat (refine' Reg2.ai _ (by rfl) (fun wz => ?_) ?_; rotate_left; (go_simp; first | rfl | rw [if_neg (by omega)]); simp only [Act.put, xA, xB, xC]; (try simp only [xD]); (try simp only [xE]); (try simp only [id]))
 refine Reg2.pm (fun wz hI hF => ?_) (fun Us => ?_) (by rfl)
 ·have c0 := (iI.out.kept hI).c1
  go_wp2_with fail
  first | exact ⟨_, rfl, rfl, Reg2.Ext.refl _⟩ | exact ⟨_, rfl, ⟨(), rfl, trivial⟩, Reg2.Ext.refl _⟩
 simp only [Act.put, xA, xB, xC]; (try simp only [xD]); (try simp only [xE]); (try simp only [id])
 refine Reg2.pm (fun wz hI hF => ?_) (fun SG => ?_) (by rfl)
 ·go_wp2_with (go_at_call 52; go_must (refine (hsz wz hI).mono ?_); rintro e w' ⟨rfl, rfl⟩)
  first | exact ⟨_, rfl, rfl, Reg2.Ext.refl _⟩ | exact ⟨_, rfl, ⟨(), rfl, trivial⟩, Reg2.Ext.refl _⟩
 simp only [Act.put, xA, xB, xC]; (try simp only [xD]); (try simp only [xE]); (try simp only [id])
 refine Reg2.aA ?_
 intro w7 jN _ jW
 clear jW
 dsimp only [List.drop]
 have lq := bC.out.trans (jN.mono bC.out.size)
 have yQ : w7.heap[w.heap.size]? = some (.cells cR.toArray 32 (0, 0)) := (jN.block _ (ay ic.out)).trans ic.out
 have QX := eu yQ lR
 have SH := Mx w7
 go_wp2_with (go_at_call 156; go_must (refine SH.mono ?_); rintro e w8 ⟨rfl, ob, rfl⟩)
 go_ret
 exact ⟨rfl, lq.alloc lq.size _⟩
theorem tH (h : CW w c t d p v g a m P) (hl : gU P.T) (r : Rq) : Calls Tryz.prog 136 #[.pointer (some ⟨c, 0, none⟩), .agg (encR r).toArray] w fun e w' => e = .returned (.int .i64 (l9 P.T.length r)) ∧ Below w.heap.size w w' := by
 unfold l9
 by_cases h1 : r.kind = 1
 ·by_cases h2 : r.width ≤ 64
  ·by_cases h3 : r.width ≤ P.T.length
   ·rw [if_neg (by omega)]; exact GJ h hl r h1 h2 h3
   ·by_cases h4 : aS r = 1
    ·rw [if_neg (by simp [h4])]; exact JD h hl r h1 h2 h3 h4
    ·rw [if_pos ⟨h1, by omega, h2, h4⟩]; exact GK h hl r h1 h2 h3 h4
  ·rw [if_neg (by omega)]; exact GI h hl r h1 (by omega)
 ·rw [if_neg (by simp [h1])]; exact GH h hl r h1
end
end Go.Proofs.YtnihdgcfamoplaaGreat

namespace Go.Proofs.YtnihdgcfamoplaaGreat
open Go.RowKit Go.Lib Go.Sort
def gP (w : World) (b c t d p : Nat) (v : Value) (g a : Nat) (m : Int) (R : Wk) (P : Pg) (W : World) : Prop := ∃ v' g', SW W b c t d p v' g' a m R P ∧ WS w W b c t d p v g v' g'
theorem gP.ext {w : World} {b c t d p g a : Nat} {v : Value} {m : Int} {R : Wk} {P : Pg} : ∀ (x y : World), Reg2.Ext x y → gP w b c t d p v g a m R P x → gP w b c t d p v g a m R P y := by
 rintro x y h ⟨v', g', h1, h2⟩
 exact ⟨v', g', h1.kept h, h2.trans (WS.of_below h)⟩
def jQ (e : Int) : Ry := ⟨e, 0, 0, 0, 0, 0, 0, 0, 0⟩
def toW (r : Rq) : Rw := ⟨r.kind, r.id, r.user, r.width, r.limit, r.prio, r.held, r.node, r.till⟩
theorem CV {M : Md} (x : Jb) (h1 : x.st ≠ 3) (h2 : aj x = false) : ak { M with L := M.L ++ [x] } = { ak M with J := M.L ++ [x] } := by
 have e1 : dA { M with L := M.L ++ [x] } = dA M := by
  refine oh (by rw [bB, bB]) fun n hn => ?_
  rw [dm, dm]
  unfold aU
  rw [show ({ M with L := M.L ++ [x] } : Md).L = M.L ++ [x] from rfl, vF M.L x _ (by unfold aK; simp [h1])]
 have e2 : (fun t => az { M with L := M.L ++ [x] } t 0) = fun t => az M t 0 := funext fun t => zz x h1 h2 t 0
 unfold ak
 rw [e1, e2]
section
variable {w : World} {b c t d p g a : Nat} {v : Value} {m : Int} {M : Md} {R : Wk}
theorem BD (h : SW w b c t d p v g a m R (ak M)) (hk : PK (ak M)) (hw : l9 M.dr.length R.ah = 9) :
  Calls Tryz.prog 119 #[.pointer (some ⟨b, 0, none⟩), .pointer (some ⟨c, 0, none⟩)] w (au w b c t d p v g a m .nilFunc { R with rep := jQ 9, ok := false } (ak M)) := by
 have zR := kM
 have zJ := bG
 obtain ⟨k9, bW⟩ : ∃ k, k = 9 := ⟨_, rfl⟩
 obtain ⟨k, hkk⟩ : ∃ k, k = 10 := ⟨_, rfl⟩
 rw [← bW] at zR
 rw [← hkk] at zJ
 have hk0 : ¬ k9 = 0 := by omega
 have hk1 : ¬ k = 0 := by omega
 have lR := iE R.ah
 rw [← bW] at lR
 replace bW := Lib.hid bW
 replace hkk := Lib.hid hkk
 have hS := Lib.hid h
 have qb := h.wk.mr lR
 have MC : Hid (∀ W, Below w.heap.size w W → Sem.run Tryz.prog (loadCellsFrom ⟨b, 0, none⟩ 0 k9 #[]) W = .ok (encR R.ah).toArray W) := fun W hW => (h.kept hW).wk.mr lR
 have qJ := tH h.cw hk.qG R.ah
 have hsub := fun (W : World) (hW : Below w.heap.size w W) => oN (h.kept hW).cw hk R.ah
 have hn : (ak M).T.length = M.dr.length := bB
 rw [hn] at qJ
 replace hn := Lib.hid hn
 generalize encR R.ah = cR at *
 rw [hw] at qJ
 clear h hsub
 go_enter Tryz.func119, Tryz.ntmps119
 go_wp2_with fail
 go_at_call 136
 refine qJ.mono ?_
 clear qJ qb
 rintro e w1 ⟨rfl, hb1⟩
 have hS1 := hS.out.kept hb1
 have hf := ik hS1.wk 9
 go_wp2_with (go_at_call 95; go_must (refine hf.mono ?_); rintro e w9 ⟨rfl, jR, Pb⟩)
 go_ret
 exact ⟨rfl, v, g, hS1.work jR Pb, (WS.of_below hb1).trans (WS.bD Pb)⟩
theorem submit_bad (h : SW w b c t d p v g a m R (ak M)) (hk : PK (ak M)) (hw : l9 M.dr.length R.ah = 0) (e0 : Int) (he0 : e0 ≠ 0) (hE : iL M.L R.ah = e0) :
  Calls Tryz.prog 119 #[.pointer (some ⟨b, 0, none⟩), .pointer (some ⟨c, 0, none⟩)] w (au w b c t d p v g a m .nilFunc { R with rep := jQ e0, ok := false } (ak M)) := by
 have zR := kM
 have zJ := bG
 obtain ⟨k9, bW⟩ : ∃ k, k = 9 := ⟨_, rfl⟩
 obtain ⟨k, hkk⟩ : ∃ k, k = 10 := ⟨_, rfl⟩
 rw [← bW] at zR
 rw [← hkk] at zJ
 have hk0 : ¬ k9 = 0 := by omega
 have hk1 : ¬ k = 0 := by omega
 have lR := iE R.ah
 rw [← bW] at lR
 replace bW := Lib.hid bW
 replace hkk := Lib.hid hkk
 have hS := Lib.hid h
 have qb := h.wk.mr lR
 have MC : Hid (∀ W, Below w.heap.size w W → Sem.run Tryz.prog (loadCellsFrom ⟨b, 0, none⟩ 0 k9 #[]) W = .ok (encR R.ah).toArray W) := fun W hW => (h.kept hW).wk.mr lR
 have qJ := tH h.cw hk.qG R.ah
 have hsub := fun (W : World) (hW : Below w.heap.size w W) => oN (h.kept hW).cw hk R.ah
 have hn : (ak M).T.length = M.dr.length := bB
 rw [hn] at qJ
 replace hn := Lib.hid hn
 generalize encR R.ah = cR at *
 rw [hw] at qJ
 unfold fq at hsub
 obtain ⟨Pf, qc⟩ : ∃ x, x = kP (ak M).J R.ah := ⟨_, rfl⟩
 obtain ⟨se, hse⟩ : ∃ x, x = iL (ak M).J R.ah := ⟨_, rfl⟩
 rw [← qc, ← hse] at hsub
 have hL : oI (ak M).J R.ah = M.L := by
  have hE2 := hE
  unfold iL at hE2
  show oI M.L R.ah = M.L
  unfold oI
  split
  ·rfl
  ·rename_i h1
   rw [if_neg h1] at hE2
   split
   ·rfl
   ·rename_i h2
    rw [if_neg h2] at hE2
    omega
 rw [hL, show ({ ak M with J := M.L } : Pg) = ak M from rfl] at hsub
 have GL : se = e0 := hse.trans hE
 subst GL
 replace qc := Lib.hid qc
 replace hse := Lib.hid hse
 replace hL := Lib.hid hL
 have d0 : (se != 0) = true := by simp [he0]
 clear h
 go_enter Tryz.func119, Tryz.ntmps119
 go_wp2_with fail
 go_at_call 136
 refine qJ.mono ?_
 clear qJ qb
 rintro e w1 ⟨rfl, hb1⟩
 have hS1 := Lib.hid (hS.out.kept hb1)
 go_wp2_with fail
 refine Reg2.tO 13 49 [[],[ae],[ae,ae],[ae,ae,ae],[af,af,af,af],[af,af,af,af,ae],[af,af,af,af,ae,ae],[af,af,af,af,ae,ae,ae],[ae,ae,ae,ae,ae,ae,ae,ae],[ae,ae,ae,ae,ae,ae,ae,ae,ae],[ae,ae,ae,ae,ae,ae,ae,ae,ae,ae],[ae,ae,ae,ae,ae,ae,ae,ae,ae,ae,af],[ae,ae,ae,ae,ae,ae,ae,ae,ae,ae,ae,af]] [0, 0, 0, 2, 0, 0, 0, 2, 3, 0, 0, 0, 0]
  [.pure, .pure, .pure, .pinned Unit () (fun _ => .pointer (some ⟨t, 0, none⟩)) (fun _ _ => True), .pure, .pure, .pure, .pinned Unit () (fun _ => .agg cR.toArray) (fun _ _ => True), .major Unit () (fun _ => .tuple #[.int .i64 Pf, .int .i64 se]), .pure, .pure, .pure, .pure]
  (fun _ => True) (fun vs W => match vs with | [] => Below w1.heap.size w1 W | _ :: _ => (gP w b c t d p v g a m R (ak M)) W) (fun _ _ => True) (by kernel_rfl) (by kernel_rfl) rfl rfl (fun vs a b h hs => by cases vs with | nil => exact Below.trans hs (h.mono (Below.size hs)) | cons v vs => exact gP.ext a b h hs) ?_ ?_ ?_ ?_ ?_ ?_
 ·intro a b he hb; trivial
 ·intro a b he hb; trivial
 ·exact ⟨trivial, trivial, trivial, ⟨fun _ _ _ _ _ => trivial, fun _ _ _ _ _ => trivial⟩, trivial, trivial, trivial, ⟨fun _ _ _ _ _ => trivial, fun _ _ _ _ _ => trivial⟩, trivial, trivial, trivial, trivial, trivial, trivial⟩
 ·trivial
 ·exact ⟨rfl, rfl, rfl, Nat.le_refl _, fun _ _ => rfl⟩
 dsimp only [Reg2.mk, List.zip, List.zipWith, List.take]
 repeat (refine' Reg2.ai _ (by rfl) (fun wz => ?_) ?_; rotate_left; (go_simp; first | rfl | rw [if_neg (by omega)]); simp only [Act.put, xA, xB, xC]; (try simp only [xD]); (try simp only [xE]); (try simp only [id]))
 refine Reg2.pp (fun wz _ hI hF => ?_) (fun r3 => ?_) (by rfl)
 ·have c0 := (hS1.out.cw.kept hI).c0
  go_wp2_with fail
  first | exact ⟨_, rfl, rfl, Reg2.Ext.refl _⟩ | exact ⟨_, rfl, ⟨(), rfl, trivial⟩, Reg2.Ext.refl _⟩
 simp only [Act.put, xA, xB, xC]; (try simp only [xD]); (try simp only [xE]); (try simp only [id])
 repeat (refine' Reg2.ai _ (by rfl) (fun wz => ?_) ?_; rotate_left; (go_simp; first | rfl | rw [if_neg (by omega)]); simp only [Act.put, xA, xB, xC]; (try simp only [xD]); (try simp only [xE]); (try simp only [id]))
 refine Reg2.pp (fun wz _ hI hF => ?_) (fun r7 => ?_) (by rfl)
 ·have d0 := MC.out wz (hb1.trans (Below.mono hI hb1.size))
  go_wp2_with fail
  first | exact ⟨_, rfl, rfl, Reg2.Ext.refl _⟩ | exact ⟨_, rfl, ⟨(), rfl, trivial⟩, Reg2.Ext.refl _⟩
 simp only [Act.put, xA, xB, xC]; (try simp only [xD]); (try simp only [xE]); (try simp only [id])
 refine Reg2.pj (fun wz _ hI hF => ?_) (fun r8 => ?_) (by rfl)
 ·go_wp2_with (go_at_call 137; go_must (refine (hsub wz (hb1.trans (Below.mono hI hb1.size))).mono ?_); rintro e w' ⟨rfl, v4, g4, ow, bI⟩)
  have hpost : gP w b c t d p v g a m R (ak M) w' := ⟨v4, g4, (hS1.out.kept hI).core ow bI, (WS.of_below (hb1.trans (Below.mono hI hb1.size))).trans (WS.dC bI)⟩
  exact ⟨_, rfl, ⟨⟨(), rfl⟩, hpost⟩, trivial⟩
 simp only [Act.put, xA, xB, xC]; (try simp only [xD]); (try simp only [xE]); (try simp only [id])
 repeat (refine' Reg2.ai _ (by rfl) (fun wz => ?_) ?_; rotate_left; (go_simp; first | rfl | rw [if_neg (by omega)]); simp only [Act.put, xA, xB, xC]; (try simp only [xD]); (try simp only [xE]); (try simp only [id]))
 refine Reg2.aA ?_
 intro w7 _ rq jW
 clear jW
 dsimp only [List.drop]
 obtain ⟨v7, g7, gG, xn⟩ : gP w b c t d p v g a m R (ak M) w7 := rq
 have hf := ik gG.wk se
 go_wp2_with (go_at_call 95; go_must (refine hf.mono ?_); rintro e w9 ⟨rfl, jR, Pb⟩)
 go_ret
 exact ⟨rfl, v7, g7, gG.work jR Pb, xn.trans (WS.bD Pb)⟩
theorem AL (h : SW w b c t d p v g a m R (ak M)) (hk : PK (ak M)) (hw : l9 M.dr.length R.ah = 0) (hE : iL M.L R.ah = 0) (hh : R.ah.held = true) :
  Calls Tryz.prog 119 #[.pointer (some ⟨b, 0, none⟩), .pointer (some ⟨c, 0, none⟩)] w (au w b c t d p v g a m .nilFunc { R with rep := iG (aX M (toW R.ah)), aC := aX M (toW R.ah) } (ak { M with L := M.L ++ [aX M (toW R.ah)] })) := by
 have zR := kM
 have zJ := bG
 obtain ⟨k9, bW⟩ : ∃ k, k = 9 := ⟨_, rfl⟩
 obtain ⟨k, hkk⟩ : ∃ k, k = 10 := ⟨_, rfl⟩
 rw [← bW] at zR
 rw [← hkk] at zJ
 have hk0 : ¬ k9 = 0 := by omega
 have hk1 : ¬ k = 0 := by omega
 have lR := iE R.ah
 rw [← bW] at lR
 replace bW := Lib.hid bW
 replace hkk := Lib.hid hkk
 have hS := Lib.hid h
 have qb := h.wk.mr lR
 have MC : Hid (∀ W, Below w.heap.size w W → Sem.run Tryz.prog (loadCellsFrom ⟨b, 0, none⟩ 0 k9 #[]) W = .ok (encR R.ah).toArray W) := fun W hW => (h.kept hW).wk.mr lR
 have qJ := tH h.cw hk.qG R.ah
 have hsub := fun (W : World) (hW : Below w.heap.size w W) => oN (h.kept hW).cw hk R.ah
 have hn : (ak M).T.length = M.dr.length := bB
 rw [hn] at qJ
 replace hn := Lib.hid hn
 generalize encR R.ah = cR at *
 rw [hw] at qJ
 unfold fq at hsub
 obtain ⟨Pf, qc⟩ : ∃ x, x = kP (ak M).J R.ah := ⟨_, rfl⟩
 obtain ⟨se, hse⟩ : ∃ x, x = iL (ak M).J R.ah := ⟨_, rfl⟩
 rw [← qc, ← hse] at hsub
 have hL : oI (ak M).J R.ah = M.L ++ [aX M (toW R.ah)] := by
  have hE2 := hE
  unfold iL at hE2
  show oI M.L R.ah = _
  unfold oI
  split
  ·rename_i h1; rw [if_pos h1] at hE2; omega
  ·rename_i h1
   rw [if_neg h1] at hE2
   split
   ·rename_i h2; rw [if_pos h2] at hE2; omega
   ·rfl
 have hI0 : kP (ak M).J R.ah = (M.L.length : Int) + 1 := by
  have hE2 := hE
  unfold iL at hE2
  show kP M.L R.ah = _
  unfold kP
  split
  ·rename_i h1; rw [if_pos h1] at hE2; omega
  ·rename_i h1
   rw [if_neg h1] at hE2
   split
   ·rename_i h2; rw [if_pos h2] at hE2; omega
   ·rfl
 obtain ⟨x, hx⟩ : ∃ x, x = aX M (toW R.ah) := ⟨_, rfl⟩
 have hxs : x.st = if R.ah.held then 2 else 1 := by rw [hx]; rfl
 have hxp : x.aD = -1 := by rw [hx]; rfl
 have hcore := CV (M := M) x (by rw [hxs]; split <;> decide) (by unfold aj; rw [hxp]; simp)
 rw [hL, ← hx, show ({ ak M with J := M.L ++ [x] } : Pg) = ak { M with L := M.L ++ [x] } from hcore.symm] at hsub
 rw [← hx]
 have hget : bH (M.L ++ [x]) ((M.L.length : Int) + 1) = x := by
  unfold bH
  rw [if_neg (by omega), if_neg (by simp), show ((M.L.length : Int) + 1 - 1).toNat = M.L.length by omega]
  simp
 have GL : se = 0 := hse.trans hE
 have JE : Pf = (M.L.length : Int) + 1 := qc.trans hI0
 subst GL
 subst JE
 replace qc := Lib.hid qc
 replace hse := Lib.hid hse
 replace hL := Lib.hid hL
 replace hx := Lib.hid hx
 replace hcore := Lib.hid hcore
 replace hI0 := Lib.hid hI0
 clear h
 rw [hh] at hxs
 replace hxs : x.st = 2 := hxs
 go_enter Tryz.func119, Tryz.ntmps119
 go_wp2_with fail
 go_at_call 136
 refine qJ.mono ?_
 clear qJ qb
 rintro e w1 ⟨rfl, hb1⟩
 have hS1 := Lib.hid (hS.out.kept hb1)
 go_wp2_with fail
 refine Reg2.tO 13 49 [[],[ae],[ae,ae],[ae,ae,ae],[af,af,af,af],[af,af,af,af,ae],[af,af,af,af,ae,ae],[af,af,af,af,ae,ae,ae],[ae,ae,ae,ae,ae,ae,ae,ae],[ae,ae,ae,ae,ae,ae,ae,ae,ae],[ae,ae,ae,ae,ae,ae,ae,ae,ae,ae],[ae,ae,ae,ae,ae,ae,ae,ae,ae,ae,af],[ae,ae,ae,ae,ae,ae,ae,ae,ae,ae,ae,af]] [0, 0, 0, 2, 0, 0, 0, 2, 3, 0, 0, 0, 0]
  [.pure, .pure, .pure, .pinned Unit () (fun _ => .pointer (some ⟨t, 0, none⟩)) (fun _ _ => True), .pure, .pure, .pure, .pinned Unit () (fun _ => .agg cR.toArray) (fun _ _ => True), .major Unit () (fun _ => .tuple #[.int .i64 ((M.L.length : Int) + 1), .int .i64 0]), .pure, .pure, .pure, .pure]
  (fun _ => True) (fun vs W => match vs with | [] => Below w1.heap.size w1 W | _ :: _ => (gP w b c t d p v g a m R (ak { M with L := M.L ++ [x] })) W) (fun _ _ => True) (by kernel_rfl) (by kernel_rfl) rfl rfl (fun vs a b h hs => by cases vs with | nil => exact Below.trans hs (h.mono (Below.size hs)) | cons v vs => exact gP.ext a b h hs) ?_ ?_ ?_ ?_ ?_ ?_
 ·intro a b he hb; trivial
 ·intro a b he hb; trivial
 ·exact ⟨trivial, trivial, trivial, ⟨fun _ _ _ _ _ => trivial, fun _ _ _ _ _ => trivial⟩, trivial, trivial, trivial, ⟨fun _ _ _ _ _ => trivial, fun _ _ _ _ _ => trivial⟩, trivial, trivial, trivial, trivial, trivial, trivial⟩
 ·trivial
 ·exact ⟨rfl, rfl, rfl, Nat.le_refl _, fun _ _ => rfl⟩
 dsimp only [Reg2.mk, List.zip, List.zipWith, List.take]
 repeat (refine' Reg2.ai _ (by rfl) (fun wz => ?_) ?_; rotate_left; (go_simp; first | rfl | rw [if_neg (by omega)]); simp only [Act.put, xA, xB, xC]; (try simp only [xD]); (try simp only [xE]); (try simp only [id]))
 refine Reg2.pp (fun wz _ hI hF => ?_) (fun r3 => ?_) (by rfl)
 ·have c0 := (hS1.out.cw.kept hI).c0
  go_wp2_with fail
  first | exact ⟨_, rfl, rfl, Reg2.Ext.refl _⟩ | exact ⟨_, rfl, ⟨(), rfl, trivial⟩, Reg2.Ext.refl _⟩
 simp only [Act.put, xA, xB, xC]; (try simp only [xD]); (try simp only [xE]); (try simp only [id])
 repeat (refine' Reg2.ai _ (by rfl) (fun wz => ?_) ?_; rotate_left; (go_simp; first | rfl | rw [if_neg (by omega)]); simp only [Act.put, xA, xB, xC]; (try simp only [xD]); (try simp only [xE]); (try simp only [id]))
 refine Reg2.pp (fun wz _ hI hF => ?_) (fun r7 => ?_) (by rfl)
 ·have d0 := MC.out wz (hb1.trans (Below.mono hI hb1.size))
  go_wp2_with fail
  first | exact ⟨_, rfl, rfl, Reg2.Ext.refl _⟩ | exact ⟨_, rfl, ⟨(), rfl, trivial⟩, Reg2.Ext.refl _⟩
 simp only [Act.put, xA, xB, xC]; (try simp only [xD]); (try simp only [xE]); (try simp only [id])
 refine Reg2.pj (fun wz _ hI hF => ?_) (fun r8 => ?_) (by rfl)
 ·go_wp2_with (go_at_call 137; go_must (refine (hsub wz (hb1.trans (Below.mono hI hb1.size))).mono ?_); rintro e w' ⟨rfl, v4, g4, ow, bI⟩)
  have hpost : gP w b c t d p v g a m R (ak { M with L := M.L ++ [x] }) w' := ⟨v4, g4, (hS1.out.kept hI).core ow bI, (WS.of_below (hb1.trans (Below.mono hI hb1.size))).trans (WS.dC bI)⟩
  exact ⟨_, rfl, ⟨⟨(), rfl⟩, hpost⟩, trivial⟩
 simp only [Act.put, xA, xB, xC]; (try simp only [xD]); (try simp only [xE]); (try simp only [id])
 repeat (refine' Reg2.ai _ (by rfl) (fun wz => ?_) ?_; rotate_left; (go_simp; first | rfl | rw [if_neg (by omega)]); simp only [Act.put, xA, xB, xC]; (try simp only [xD]); (try simp only [xE]); (try simp only [id]))
 refine Reg2.aA ?_
 intro w7 _ rq jW
 clear jW
 dsimp only [List.drop]
 obtain ⟨v7, g7, gG, xn⟩ : gP w b c t d p v g a m R (ak { M with L := M.L ++ [x] }) w7 := rq
 have jS := nA gG ((M.L.length : Int) + 1)
 rw [show (ak { M with L := M.L ++ [x] }).J = M.L ++ [x] from rfl, hget] at jS
 go_wp2_with fail
 go_at_call 114
 refine jS.mono ?_
 clear jS
 rintro e w8 ⟨rfl, dS, fT⟩
 have gB := gG.work dS fT
 have Ph := xn.trans (WS.bD fT)
 obtain ⟨Ut, jR⟩ := dS.su x
 have lJ := ax x
 rw [← hkk.out] at lJ
 have fU := gB.work jR (cz w8 _)
 have hfin := Ph.trans (WS.bD (cz w8 (gm { ({ R with rep := iG x } : Wk) with aC := x }).toArray))
 have c17 := jR.at 17 (.int .i64 2) (by rw [← hxs]; rfl)
 generalize gm { ({ R with rep := iG x } : Wk) with aC := x } = W9 at *
 generalize ag x = cJ at *
 go_wp2_with fail
 go_ret
 exact ⟨rfl, v7, g7, fU, hfin⟩
theorem GM (h : SW w b c t d p v g a m R (ak M)) (hk : PK (ak M)) (hw : l9 M.dr.length R.ah = 0) (hE : iL M.L R.ah = 0) (hh : R.ah.held = false) :
  Calls Tryz.prog 119 #[.pointer (some ⟨b, 0, none⟩), .pointer (some ⟨c, 0, none⟩)] w (au w b c t d p v g a m (fH 138) { R with rep := iG (aX M (toW R.ah)), aC := aX M (toW R.ah) } (ak { M with L := M.L ++ [aX M (toW R.ah)] })) := by
 have zR := kM
 have zJ := bG
 obtain ⟨k9, bW⟩ : ∃ k, k = 9 := ⟨_, rfl⟩
 obtain ⟨k, hkk⟩ : ∃ k, k = 10 := ⟨_, rfl⟩
 rw [← bW] at zR
 rw [← hkk] at zJ
 have hk0 : ¬ k9 = 0 := by omega
 have hk1 : ¬ k = 0 := by omega
 have lR := iE R.ah
 rw [← bW] at lR
 replace bW := Lib.hid bW
 replace hkk := Lib.hid hkk
 have hS := Lib.hid h
 have qb := h.wk.mr lR
 have MC : Hid (∀ W, Below w.heap.size w W → Sem.run Tryz.prog (loadCellsFrom ⟨b, 0, none⟩ 0 k9 #[]) W = .ok (encR R.ah).toArray W) := fun W hW => (h.kept hW).wk.mr lR
 have qJ := tH h.cw hk.qG R.ah
 have hsub := fun (W : World) (hW : Below w.heap.size w W) => oN (h.kept hW).cw hk R.ah
 have hn : (ak M).T.length = M.dr.length := bB
 rw [hn] at qJ
 replace hn := Lib.hid hn
 generalize encR R.ah = cR at *
 rw [hw] at qJ
 unfold fq at hsub
 obtain ⟨Pf, qc⟩ : ∃ x, x = kP (ak M).J R.ah := ⟨_, rfl⟩
 obtain ⟨se, hse⟩ : ∃ x, x = iL (ak M).J R.ah := ⟨_, rfl⟩
 rw [← qc, ← hse] at hsub
 have hL : oI (ak M).J R.ah = M.L ++ [aX M (toW R.ah)] := by
  have hE2 := hE
  unfold iL at hE2
  show oI M.L R.ah = _
  unfold oI
  split
  ·rename_i h1; rw [if_pos h1] at hE2; omega
  ·rename_i h1
   rw [if_neg h1] at hE2
   split
   ·rename_i h2; rw [if_pos h2] at hE2; omega
   ·rfl
 have hI0 : kP (ak M).J R.ah = (M.L.length : Int) + 1 := by
  have hE2 := hE
  unfold iL at hE2
  show kP M.L R.ah = _
  unfold kP
  split
  ·rename_i h1; rw [if_pos h1] at hE2; omega
  ·rename_i h1
   rw [if_neg h1] at hE2
   split
   ·rename_i h2; rw [if_pos h2] at hE2; omega
   ·rfl
 obtain ⟨x, hx⟩ : ∃ x, x = aX M (toW R.ah) := ⟨_, rfl⟩
 have hxs : x.st = if R.ah.held then 2 else 1 := by rw [hx]; rfl
 have hxp : x.aD = -1 := by rw [hx]; rfl
 have hcore := CV (M := M) x (by rw [hxs]; split <;> decide) (by unfold aj; rw [hxp]; simp)
 rw [hL, ← hx, show ({ ak M with J := M.L ++ [x] } : Pg) = ak { M with L := M.L ++ [x] } from hcore.symm] at hsub
 rw [← hx]
 have hget : bH (M.L ++ [x]) ((M.L.length : Int) + 1) = x := by
  unfold bH
  rw [if_neg (by omega), if_neg (by simp), show ((M.L.length : Int) + 1 - 1).toNat = M.L.length by omega]
  simp
 have GL : se = 0 := hse.trans hE
 have JE : Pf = (M.L.length : Int) + 1 := qc.trans hI0
 subst GL
 subst JE
 replace qc := Lib.hid qc
 replace hse := Lib.hid hse
 replace hL := Lib.hid hL
 replace hx := Lib.hid hx
 replace hcore := Lib.hid hcore
 replace hI0 := Lib.hid hI0
 clear h
 rw [hh] at hxs
 replace hxs : x.st = 1 := hxs
 go_enter Tryz.func119, Tryz.ntmps119
 go_wp2_with fail
 go_at_call 136
 refine qJ.mono ?_
 clear qJ qb
 rintro e w1 ⟨rfl, hb1⟩
 have hS1 := Lib.hid (hS.out.kept hb1)
 go_wp2_with fail
 refine Reg2.tO 13 49 [[],[ae],[ae,ae],[ae,ae,ae],[af,af,af,af],[af,af,af,af,ae],[af,af,af,af,ae,ae],[af,af,af,af,ae,ae,ae],[ae,ae,ae,ae,ae,ae,ae,ae],[ae,ae,ae,ae,ae,ae,ae,ae,ae],[ae,ae,ae,ae,ae,ae,ae,ae,ae,ae],[ae,ae,ae,ae,ae,ae,ae,ae,ae,ae,af],[ae,ae,ae,ae,ae,ae,ae,ae,ae,ae,ae,af]] [0, 0, 0, 2, 0, 0, 0, 2, 3, 0, 0, 0, 0]
  [.pure, .pure, .pure, .pinned Unit () (fun _ => .pointer (some ⟨t, 0, none⟩)) (fun _ _ => True), .pure, .pure, .pure, .pinned Unit () (fun _ => .agg cR.toArray) (fun _ _ => True), .major Unit () (fun _ => .tuple #[.int .i64 ((M.L.length : Int) + 1), .int .i64 0]), .pure, .pure, .pure, .pure]
  (fun _ => True) (fun vs W => match vs with | [] => Below w1.heap.size w1 W | _ :: _ => (gP w b c t d p v g a m R (ak { M with L := M.L ++ [x] })) W) (fun _ _ => True) (by kernel_rfl) (by kernel_rfl) rfl rfl (fun vs a b h hs => by cases vs with | nil => exact Below.trans hs (h.mono (Below.size hs)) | cons v vs => exact gP.ext a b h hs) ?_ ?_ ?_ ?_ ?_ ?_
 ·intro a b he hb; trivial
 ·intro a b he hb; trivial
 ·exact ⟨trivial, trivial, trivial, ⟨fun _ _ _ _ _ => trivial, fun _ _ _ _ _ => trivial⟩, trivial, trivial, trivial, ⟨fun _ _ _ _ _ => trivial, fun _ _ _ _ _ => trivial⟩, trivial, trivial, trivial, trivial, trivial, trivial⟩
 ·trivial
 ·exact ⟨rfl, rfl, rfl, Nat.le_refl _, fun _ _ => rfl⟩
 dsimp only [Reg2.mk, List.zip, List.zipWith, List.take]
 repeat (refine' Reg2.ai _ (by rfl) (fun wz => ?_) ?_; rotate_left; (go_simp; first | rfl | rw [if_neg (by omega)]); simp only [Act.put, xA, xB, xC]; (try simp only [xD]); (try simp only [xE]); (try simp only [id]))
 refine Reg2.pp (fun wz _ hI hF => ?_) (fun r3 => ?_) (by rfl)
 ·have c0 := (hS1.out.cw.kept hI).c0
  go_wp2_with fail
  first | exact ⟨_, rfl, rfl, Reg2.Ext.refl _⟩ | exact ⟨_, rfl, ⟨(), rfl, trivial⟩, Reg2.Ext.refl _⟩
 simp only [Act.put, xA, xB, xC]; (try simp only [xD]); (try simp only [xE]); (try simp only [id])
 repeat (refine' Reg2.ai _ (by rfl) (fun wz => ?_) ?_; rotate_left; (go_simp; first | rfl | rw [if_neg (by omega)]); simp only [Act.put, xA, xB, xC]; (try simp only [xD]); (try simp only [xE]); (try simp only [id]))
 refine Reg2.pp (fun wz _ hI hF => ?_) (fun r7 => ?_) (by rfl)
 ·have d0 := MC.out wz (hb1.trans (Below.mono hI hb1.size))
  go_wp2_with fail
  first | exact ⟨_, rfl, rfl, Reg2.Ext.refl _⟩ | exact ⟨_, rfl, ⟨(), rfl, trivial⟩, Reg2.Ext.refl _⟩
 simp only [Act.put, xA, xB, xC]; (try simp only [xD]); (try simp only [xE]); (try simp only [id])
 refine Reg2.pj (fun wz _ hI hF => ?_) (fun r8 => ?_) (by rfl)
 ·go_wp2_with (go_at_call 137; go_must (refine (hsub wz (hb1.trans (Below.mono hI hb1.size))).mono ?_); rintro e w' ⟨rfl, v4, g4, ow, bI⟩)
  have hpost : gP w b c t d p v g a m R (ak { M with L := M.L ++ [x] }) w' := ⟨v4, g4, (hS1.out.kept hI).core ow bI, (WS.of_below (hb1.trans (Below.mono hI hb1.size))).trans (WS.dC bI)⟩
  exact ⟨_, rfl, ⟨⟨(), rfl⟩, hpost⟩, trivial⟩
 simp only [Act.put, xA, xB, xC]; (try simp only [xD]); (try simp only [xE]); (try simp only [id])
 repeat (refine' Reg2.ai _ (by rfl) (fun wz => ?_) ?_; rotate_left; (go_simp; first | rfl | rw [if_neg (by omega)]); simp only [Act.put, xA, xB, xC]; (try simp only [xD]); (try simp only [xE]); (try simp only [id]))
 refine Reg2.aA ?_
 intro w7 _ rq jW
 clear jW
 dsimp only [List.drop]
 obtain ⟨v7, g7, gG, xn⟩ : gP w b c t d p v g a m R (ak { M with L := M.L ++ [x] }) w7 := rq
 have jS := nA gG ((M.L.length : Int) + 1)
 rw [show (ak { M with L := M.L ++ [x] }).J = M.L ++ [x] from rfl, hget] at jS
 go_wp2_with fail
 go_at_call 114
 refine jS.mono ?_
 clear jS
 rintro e w8 ⟨rfl, dS, fT⟩
 have gB := gG.work dS fT
 have Ph := xn.trans (WS.bD fT)
 obtain ⟨Ut, jR⟩ := dS.su x
 have lJ := ax x
 rw [← hkk.out] at lJ
 have fU := gB.work jR (cz w8 _)
 have hfin := Ph.trans (WS.bD (cz w8 (gm { ({ R with rep := iG x } : Wk) with aC := x }).toArray))
 have c17 := jR.at 17 (.int .i64 1) (by rw [← hxs]; rfl)
 generalize gm { ({ R with rep := iG x } : Wk) with aC := x } = W9 at *
 generalize ag x = cJ at *
 go_wp2_with fail
 go_ret
 exact ⟨rfl, v7, g7, fU, hfin⟩
end
end Go.Proofs.YtnihdgcfamoplaaGreat

namespace Go.Proofs.YtnihdgcfamoplaaGreat
open Go.RowKit Go.Lib Go.Sort
section
variable {w : World} {b c t d p g a : Nat} {v : Value} {m : Int} {P : Pg} {R : Wk}
theorem SW.drew (h : SW w b c t d p v g a m R P) : SW w.drew b c t d p v g a m R P := h.kept (Below.refl _ _).drew
theorem WS.xq {w1 : World} {v1 : Value} {g1 : Nat} (h : WS w.drew w1 b c t d p v g v1 g1) : WS w w1 b c t d p v g v1 g1 := (WS.of_below (Below.refl _ _).drew).trans h
theorem CW.SI (h : CW w c t d p v g a m P) (F : Int → Int) (hf : ∀ t, P.now ≤ t → P.f t = F t) : CW w c t d p v g a m { P with f := F } := by
 obtain ⟨S, aO, hp, hC, hrest⟩ := h.mq
 exact ⟨h.cell, h.fe, h.nodes, S, aO, hp, hC.congr hf, hrest⟩
theorem ME (h : SW w b c t d p v g a m R P) (hk : PK P) (hr : R.aC.st = 3) (hn : 0 ≤ R.aC.bN ∧ R.aC.bN ≤ 18446744073709551615) :
  Calls Tryz.prog 140 #[.pointer (some ⟨b, 0, none⟩), .pointer (some ⟨c, 0, none⟩)] w fun e w' => ∃ (n x : Int) (T' : List Int), Ag P.T R.aC.bN.toNat n x T' ∧ au w b c t d p v g a m (fH 142) { R with idle := n } { P with T := T' } e w' := by
 have hS := Lib.hid h
 have hg := CL h.drew.cw hk R.aC.bN.toNat (by omega)
 rw [show ((R.aC.bN.toNat : Nat) : Int) = R.aC.bN by omega] at hg
 have c17 := h.wk.at 17 (.int .i64 R.aC.st) rfl
 have c21 := h.wk.at 21 (.int .u64 R.aC.bN) rfl
 have c1 := h.cw.c1
 rw [hr] at c17
 replace hn := Lib.hid hn
 clear h
 go_enter Tryz.func140, Tryz.ntmps140
 go_wp2_with fail
 go_region_with (go_at_call 164; go_must (refine hg.mono ?_); rintro e w' ⟨n, x, T', hG, hL, rfl, v4, g4, ow, bI⟩; have gB := hS.out.drew.core ow bI; have a22 := gB.wk.at 22 (.int .i64 R.idle) rfl; have f22 := gB.wk.free 22)
 all_goals
  have jR := gB.wk.idle n
  have fU := gB.work jR (dw w' 22 (.int .i64 n))
  have hfin := ((WS.dC bI : WS w.drew w' b c t d p v g v4 g4).trans (WS.bD (dw w' 22 (.int .i64 n)))).xq
  go_wp2_with fail
  go_ret
  exact ⟨n, x, T', hG, rfl, v4, g4, fU, hfin⟩
theorem Pj (h : SW w b c t d p v g a m R P) (hr : R.aC.st ≠ 3) :
  Calls Tryz.prog 140 #[.pointer (some ⟨b, 0, none⟩), .pointer (some ⟨c, 0, none⟩)] w (au w b c t d p v g a m (fH 142) R P) := by
 have c17 := h.wk.at 17 (.int .i64 R.aC.st) rfl
 have d0 : (R.aC.st == 3) = false := by simp [hr]
 generalize R.aC.st = s at *
 go_enter Tryz.func140, Tryz.ntmps140
 go_wp2_with fail
 go_ret
 exact ⟨rfl, v, g, h, WS.refl _⟩
theorem EC (h : SW w b c t d p v g a m R P) (hk : PK P) (ha : a ≤ 800) (hm : m ≤ 1000000) (hP : aj R.aC = true) (hb1 : R.aC.aD ≤ 1099511627776) (hb2 : 0 ≤ R.aC.lim ∧ R.aC.lim ≤ 1048576) (hb3 : 1 ≤ R.aC.lim) (hb4 : 0 ≤ R.aC.wid ∧ R.aC.wid ≤ 64) (F : Int → Int)
  (hF : ∀ t, P.now ≤ t → F t = P.f t + had (max R.aC.aD P.now) (R.aC.aD + R.aC.lim) R.aC.wid t) (hr : ∀ t, P.now ≤ t → 0 ≤ F t ∧ F t ≤ 64) :
  Calls Tryz.prog 142 #[.pointer (some ⟨b, 0, none⟩), .pointer (some ⟨c, 0, none⟩)] w (au w b c t d p v g (a + 2) (m + 1) .nilFunc R { P with f := F }) := by
 have zJ := bG
 have zS := jV
 obtain ⟨k, hk1⟩ : ∃ k, k = 10 := ⟨_, rfl⟩
 obtain ⟨k3, hk3⟩ : ∃ k, k = 3 := ⟨_, rfl⟩
 rw [← hk1] at zJ
 rw [← hk3] at zS
 have hk0 : ¬ k = 0 := by omega
 have yx : ¬ k3 = 0 := by omega
 have lJ := ax R.aC
 rw [← hk1] at lJ
 replace hk1 := Lib.hid hk1
 have hS := Lib.hid h
 have qb := h.wk.mD lJ
 have hpl := kE (w := w) R.aC hb1 hb2
 have lS : (aN R.aC).length = 3 := by unfold aN; split <;> rfl
 have oS : ∀ u ∈ aN R.aC, u.oneCell' = true := by unfold aN; split <;> (intro u hu; simp at hu; rcases hu with rfl | rfl | rfl <;> rfl)
 have ST : Hid (∀ W : World, Sem.run Tryz.prog (storeCells ⟨W.heap.size, 0, none⟩ (aN R.aC) 0) (W.alloc (.cells #[.int .i64 0, .int .i64 0, .int .i64 0] 152)) = .ok () (W.alloc (.cells (aN R.aC).toArray 152))) := fun W => dD W W.heap.size (aN R.aC) [.int .i64 0, .int .i64 0, .int .i64 0] 152 rfl lS oS
 rw [← hk3] at lS
 replace hk3 := Lib.hid hk3
 have hst : ∀ W, SW W b c t d p v g a m R P → W.cell? ⟨b, 17, none⟩ = some (.int .i64 R.aC.st) := fun W hW => hW.wk.at 17 (.int .i64 R.aC.st) rfl
 generalize kI : aN R.aC = cS at *
 replace kI := Lib.hid kI
 generalize ag R.aC = cJ at *
 clear h
 have Ch : R.aC.st = 1 := (aT.1 hP).1
 rw [Ch] at hst
 have lD : cS = [.int .i64 R.aC.aD, .int .i64 (R.aC.aD + R.aC.lim), .int .i64 R.aC.wid] := by rw [← kI.out]; unfold aN; rw [if_pos hP]
 rw [hP] at hpl
 replace hP := Lib.hid hP
 replace Ch := Lib.hid Ch
 replace lD := Lib.hid lD
 replace hst := Lib.hid hst
 go_enter Tryz.func142, Tryz.ntmps142
 go_wp2_with fail
 go_at_call 110
 refine hpl.mono ?_
 clear hpl qb
 rintro e w1 ⟨rfl, hb⟩
 have st1 := ST.out w1
 obtain ⟨w2, hw2⟩ : ∃ w2, w2 = w1.alloc (.cells cS.toArray 152) := ⟨_, rfl⟩
 rw [← hw2] at st1
 have hb2' : Below w.heap.size w w2 := by rw [hw2]; exact hb.alloc hb.size _
 have hy2 : Hid (w2.heap[w1.heap.size]? = some (.cells cS.toArray 152 (0, 0))) := by show _ = _; rw [hw2]; exact heap_alloc_new w1 _
 have hs2 : w2.heap.size = w1.heap.size + 1 := by rw [hw2]; simp
 replace hw2 := Lib.hid hw2
 have hS2 := Lib.hid (hS.out.kept hb2')
 go_wp2_with fail
 refine Reg2.rd w2 5 47 [[],[ae],[ae,ae],[ae,ae,ae],[af,af,af,af]] [0, 0, 0, 1, 1] [.pure, .pure, .pure, .mU (.pointer (some ⟨p, 0, none⟩)), .mU (.agg cS.toArray)] (by kernel_rfl) (by kernel_rfl) rfl rfl ⟨trivial, trivial, trivial, Reg2.tt, Reg2.tt, trivial⟩ ⟨rfl, rfl, rfl, Nat.le_refl _, fun _ _ => rfl⟩ ?_
 dsimp only [Reg2.mk, List.zip, List.zipWith, List.take]
 repeat (refine' Reg2.ai _ (by rfl) (fun wz => ?_) ?_; rotate_left; (go_simp; first | rfl | rw [if_neg (by omega)]); simp only [Act.put, xA, xB, xC]; (try simp only [xD]); (try simp only [xE]); (try simp only [id]))
 refine Reg2.pm (fun wz hI hF => ?_) (fun r3 => ?_) (by rfl)
 ·have c0 := (hS2.out.cw.kept hI).c2
  go_wp2_with fail
  first | exact ⟨_, rfl, rfl, Reg2.Ext.refl _⟩ | exact ⟨_, rfl, ⟨(), rfl, trivial⟩, Reg2.Ext.refl _⟩
 simp only [Act.put, xA, xB, xC]; (try simp only [xD]); (try simp only [xE]); (try simp only [id])
 refine Reg2.pm (fun wz hI hF => ?_) (fun r4 => ?_) (by rfl)
 ·have d0 := eu ((hI.block _ (ay hy2.out)).trans hy2.out) lS
  go_wp2_with fail
  first | exact ⟨_, rfl, rfl, Reg2.Ext.refl _⟩ | exact ⟨_, rfl, ⟨(), rfl, trivial⟩, Reg2.Ext.refl _⟩
 simp only [Act.put, xA, xB, xC]; (try simp only [xD]); (try simp only [xE]); (try simp only [id])
 refine Reg2.aA ?_
 intro w4 HI4 _ dI
 clear dI
 dsimp only [List.drop]
 have bI := hS2.out.kept HI4
 have hrel := rZ bI.cw hk ha hm R.aC.aD (R.aC.aD + R.aC.lim) R.aC.wid F (by omega) (by omega) hb4 hF hr
 have GN := lD.out
 clear kI lD
 subst GN
 go_wp2_with fail
 go_at_call 112
 refine hrel.mono ?_
 clear hrel
 rintro e w5 ⟨rfl, v5, g5, gu, hS5⟩
 have eH := bI.core gu hS5
 have hfin := (WS.of_below (hb2'.trans (HI4.mono hb2'.size)) : WS w w4 b c t d p v g v g).trans (WS.dC hS5)
 have c17 := eH.wk.at 17 (.int .i64 R.aC.st) rfl
 rw [Ch.out] at c17
 go_wp2_with fail
 go_ret
 exact ⟨rfl, v5, g5, eH, hfin⟩
theorem GQ (h : SW w b c t d p v g a m R P) (hk : PK P) (ha : a ≤ 800) (hm : m ≤ 1000000) (hP : R.aC.st = 3) (hb1 : R.aC.aD ≤ 1099511627776) (hb2 : 0 ≤ R.aC.lim ∧ R.aC.lim ≤ 1048576) (hb3 : P.now < R.aC.fin ∧ R.aC.fin ≤ 1099512676352) (hb4 : -64 ≤ R.idle ∧ R.idle ≤ 64) (F : Int → Int)
  (hF : ∀ t, P.now ≤ t → F t = P.f t + had (max P.now P.now) R.aC.fin R.idle t) (hr : ∀ t, P.now ≤ t → 0 ≤ F t ∧ F t ≤ 64) :
  Calls Tryz.prog 142 #[.pointer (some ⟨b, 0, none⟩), .pointer (some ⟨c, 0, none⟩)] w (au w b c t d p v g (a + 2) (m + 1) .nilFunc R { P with f := F }) := by
 have zJ := bG
 have zS := jV
 obtain ⟨k, hk1⟩ : ∃ k, k = 10 := ⟨_, rfl⟩
 obtain ⟨k3, hk3⟩ : ∃ k, k = 3 := ⟨_, rfl⟩
 rw [← hk1] at zJ
 rw [← hk3] at zS
 have hk0 : ¬ k = 0 := by omega
 have yx : ¬ k3 = 0 := by omega
 have lJ := ax R.aC
 rw [← hk1] at lJ
 replace hk1 := Lib.hid hk1
 have hS := Lib.hid h
 have qb := h.wk.mD lJ
 have hpl := kE (w := w) R.aC hb1 hb2
 have lS : (aN R.aC).length = 3 := by unfold aN; split <;> rfl
 have oS : ∀ u ∈ aN R.aC, u.oneCell' = true := by unfold aN; split <;> (intro u hu; simp at hu; rcases hu with rfl | rfl | rfl <;> rfl)
 have ST : Hid (∀ W : World, Sem.run Tryz.prog (storeCells ⟨W.heap.size, 0, none⟩ (aN R.aC) 0) (W.alloc (.cells #[.int .i64 0, .int .i64 0, .int .i64 0] 152)) = .ok () (W.alloc (.cells (aN R.aC).toArray 152))) := fun W => dD W W.heap.size (aN R.aC) [.int .i64 0, .int .i64 0, .int .i64 0] 152 rfl lS oS
 rw [← hk3] at lS
 replace hk3 := Lib.hid hk3
 have hst : ∀ W, SW W b c t d p v g a m R P → W.cell? ⟨b, 17, none⟩ = some (.int .i64 R.aC.st) := fun W hW => hW.wk.at 17 (.int .i64 R.aC.st) rfl
 generalize kI : aN R.aC = cS at *
 replace kI := Lib.hid kI
 generalize ag R.aC = cJ at *
 clear h
 have hno : aj R.aC = false := by unfold aj; rw [hP]; rfl
 rw [hP] at hst
 rw [hno] at hpl
 replace hP := Lib.hid hP
 replace hno := Lib.hid hno
 go_enter Tryz.func142, Tryz.ntmps142
 go_wp2_with fail
 go_at_call 110
 refine hpl.mono ?_
 clear hpl qb
 rintro e w1 ⟨rfl, hb⟩
 have st1 := ST.out w1
 obtain ⟨w2, hw2⟩ : ∃ w2, w2 = w1.alloc (.cells cS.toArray 152) := ⟨_, rfl⟩
 rw [← hw2] at st1
 have hb2' : Below w.heap.size w w2 := by rw [hw2]; exact hb.alloc hb.size _
 have hy2 : Hid (w2.heap[w1.heap.size]? = some (.cells cS.toArray 152 (0, 0))) := by show _ = _; rw [hw2]; exact heap_alloc_new w1 _
 have hs2 : w2.heap.size = w1.heap.size + 1 := by rw [hw2]; simp
 replace hw2 := Lib.hid hw2
 have hS2 := Lib.hid (hS.out.kept hb2')
 have c17 := hst w2 hS2.out
 replace hst := Lib.hid hst
 go_wp2_with fail
 refine Reg2.rd w2 18 47 [[],[ae],[ae,ae],[ae,ae,ae],[af,af,af,af],[af,af,af,af,ae],[af,af,af,af,ae,ae],[af,af,af,af,ae,ae,ae],[af,af,af,af,ae,ae,ae,ae],[af,af,af,af,af,af,af,af,af],[af,af,af,af,af,af,af,af,af,ae],[af,af,af,af,af,af,af,af,af,ae,ae],[af,af,af,af,af,af,af,af,af,ae,ae,ae],[af,af,af,af,af,af,af,af,af,ae,ae,ae,ae],[af,af,af,af,af,af,af,af,af,af,af,af,af,af],[af,af,af,af,af,af,af,af,af,af,af,af,af,af,ae],[af,af,af,af,af,af,af,af,af,af,af,af,af,af,ae,ae],[af,af,af,af,af,af,af,af,af,af,af,af,af,af,ae,ae,ae]] [0, 0, 0, 1, 0, 0, 0, 1, 1, 0, 0, 0, 0, 1, 0, 0, 0, 1] [.pure, .pure, .pure, .mU (.pointer (some ⟨p, 0, none⟩)), .pure, .pure, .pure, .mU (.pointer (some ⟨p, 0, none⟩)), .mU (.int .i64 P.now), .pure, .pure, .pure, .pure, .mU (.int .i64 R.aC.fin), .pure, .pure, .pure, .mU (.int .i64 R.idle)] (by kernel_rfl) (by kernel_rfl) rfl rfl ⟨trivial, trivial, trivial, Reg2.tt, trivial, trivial, trivial, Reg2.tt, Reg2.tt, trivial, trivial, trivial, trivial, Reg2.tt, trivial, trivial, trivial, Reg2.tt, trivial⟩ ⟨rfl, rfl, rfl, Nat.le_refl _, fun _ _ => rfl⟩ ?_
 dsimp only [Reg2.mk, List.zip, List.zipWith, List.take]
 repeat (refine' Reg2.ai _ (by rfl) (fun wz => ?_) ?_; rotate_left; (go_simp; first | rfl | rw [if_neg (by omega)]); simp only [Act.put, xA, xB, xC]; (try simp only [xD]); (try simp only [xE]); (try simp only [id]))
 refine Reg2.pm (fun wz hI hF => ?_) (fun r3 => ?_) (by rfl)
 ·have c0 := (hS2.out.cw.kept hI).c2
  go_wp2_with fail
  first | exact ⟨_, rfl, rfl, Reg2.Ext.refl _⟩ | exact ⟨_, rfl, ⟨(), rfl, trivial⟩, Reg2.Ext.refl _⟩
 simp only [Act.put, xA, xB, xC]; (try simp only [xD]); (try simp only [xE]); (try simp only [id])
 repeat (refine' Reg2.ai _ (by rfl) (fun wz => ?_) ?_; rotate_left; (go_simp; first | rfl | rw [if_neg (by omega)]); simp only [Act.put, xA, xB, xC]; (try simp only [xD]); (try simp only [xE]); (try simp only [id]))
 refine Reg2.pm (fun wz hI hF => ?_) (fun r7 => ?_) (by rfl)
 ·have c0 := (hS2.out.cw.kept hI).c2
  go_wp2_with fail
  first | exact ⟨_, rfl, rfl, Reg2.Ext.refl _⟩ | exact ⟨_, rfl, ⟨(), rfl, trivial⟩, Reg2.Ext.refl _⟩
 simp only [Act.put, xA, xB, xC]; (try simp only [xD]); (try simp only [xE]); (try simp only [id])
 refine Reg2.pm (fun wz hI hF => ?_) (fun r8 => ?_) (by rfl)
 ·go_wp2_with (go_at_call 25; go_must (refine (fP (hS2.out.kept hI).cw).mono ?_); rintro e w' ⟨rfl, rfl⟩)
  first | exact ⟨_, rfl, rfl, Reg2.Ext.refl _⟩ | exact ⟨_, rfl, ⟨(), rfl, trivial⟩, Reg2.Ext.refl _⟩
 simp only [Act.put, xA, xB, xC]; (try simp only [xD]); (try simp only [xE]); (try simp only [id])
 repeat (refine' Reg2.ai _ (by rfl) (fun wz => ?_) ?_; rotate_left; (go_simp; first | rfl | rw [if_neg (by omega)]); simp only [Act.put, xA, xB, xC]; (try simp only [xD]); (try simp only [xE]); (try simp only [id]))
 refine Reg2.pm (fun wz hI hF => ?_) (fun GR => ?_) (by rfl)
 ·have q0 := (hS2.out.kept hI).wk.at 19 (.int .i64 R.aC.fin) rfl
  go_wp2_with fail
  first | exact ⟨_, rfl, rfl, Reg2.Ext.refl _⟩ | exact ⟨_, rfl, ⟨(), rfl, trivial⟩, Reg2.Ext.refl _⟩
 simp only [Act.put, xA, xB, xC]; (try simp only [xD]); (try simp only [xE]); (try simp only [id])
 repeat (refine' Reg2.ai _ (by rfl) (fun wz => ?_) ?_; rotate_left; (go_simp; first | rfl | rw [if_neg (by omega)]); simp only [Act.put, xA, xB, xC]; (try simp only [xD]); (try simp only [xE]); (try simp only [id]))
 refine Reg2.pm (fun wz hI hF => ?_) (fun SK => ?_) (by rfl)
 ·have q0 := (hS2.out.kept hI).wk.at 22 (.int .i64 R.idle) rfl
  go_wp2_with fail
  first | exact ⟨_, rfl, rfl, Reg2.Ext.refl _⟩ | exact ⟨_, rfl, ⟨(), rfl, trivial⟩, Reg2.Ext.refl _⟩
 simp only [Act.put, xA, xB, xC]; (try simp only [xD]); (try simp only [xE]); (try simp only [id])
 refine Reg2.aA ?_
 intro w4 HI4 _ dI
 clear dI
 dsimp only [List.drop]
 have bI := hS2.out.kept HI4
 have hadd := KN bI.cw hk ha hm P.now R.aC.fin R.idle F hb3.1 (by omega) hb4 hF hr
 go_wp2_with fail
 go_at_call 152
 refine hadd.mono ?_
 clear hadd
 rintro e w5 ⟨rfl, v5, g5, gu, hS5⟩
 have eH := bI.core gu hS5
 have hfin := (WS.of_below (hb2'.trans (HI4.mono hb2'.size)) : WS w w4 b c t d p v g v g).trans (WS.dC hS5)
 go_wp2_with fail
 go_ret
 exact ⟨rfl, v5, g5, eH, hfin⟩
theorem ED (h : SW w b c t d p v g a m R P) (hk : PK P) (ha : a ≤ 800) (hm : m ≤ 1000000) (hP : aj R.aC = false) (hP2 : R.aC.st ≠ 3) (hb1 : R.aC.aD ≤ 1099511627776) (hb2 : 0 ≤ R.aC.lim ∧ R.aC.lim ≤ 1048576) :
  Calls Tryz.prog 142 #[.pointer (some ⟨b, 0, none⟩), .pointer (some ⟨c, 0, none⟩)] w (au w b c t d p v g a m .nilFunc R P) := by
 have zJ := bG
 have zS := jV
 obtain ⟨k, hk1⟩ : ∃ k, k = 10 := ⟨_, rfl⟩
 obtain ⟨k3, hk3⟩ : ∃ k, k = 3 := ⟨_, rfl⟩
 rw [← hk1] at zJ
 rw [← hk3] at zS
 have hk0 : ¬ k = 0 := by omega
 have yx : ¬ k3 = 0 := by omega
 have lJ := ax R.aC
 rw [← hk1] at lJ
 replace hk1 := Lib.hid hk1
 have hS := Lib.hid h
 have qb := h.wk.mD lJ
 have hpl := kE (w := w) R.aC hb1 hb2
 have lS : (aN R.aC).length = 3 := by unfold aN; split <;> rfl
 have oS : ∀ u ∈ aN R.aC, u.oneCell' = true := by unfold aN; split <;> (intro u hu; simp at hu; rcases hu with rfl | rfl | rfl <;> rfl)
 have ST : Hid (∀ W : World, Sem.run Tryz.prog (storeCells ⟨W.heap.size, 0, none⟩ (aN R.aC) 0) (W.alloc (.cells #[.int .i64 0, .int .i64 0, .int .i64 0] 152)) = .ok () (W.alloc (.cells (aN R.aC).toArray 152))) := fun W => dD W W.heap.size (aN R.aC) [.int .i64 0, .int .i64 0, .int .i64 0] 152 rfl lS oS
 rw [← hk3] at lS
 replace hk3 := Lib.hid hk3
 have hst : ∀ W, SW W b c t d p v g a m R P → W.cell? ⟨b, 17, none⟩ = some (.int .i64 R.aC.st) := fun W hW => hW.wk.at 17 (.int .i64 R.aC.st) rfl
 generalize kI : aN R.aC = cS at *
 replace kI := Lib.hid kI
 generalize ag R.aC = cJ at *
 clear h
 have d0 : (R.aC.st == 3) = false := by simp [hP2]
 rw [hP] at hpl
 generalize R.aC.st = s at *
 go_enter Tryz.func142, Tryz.ntmps142
 go_wp2_with fail
 go_at_call 110
 refine hpl.mono ?_
 clear hpl qb
 rintro e w1 ⟨rfl, hb⟩
 have st1 := ST.out w1
 obtain ⟨w2, hw2⟩ : ∃ w2, w2 = w1.alloc (.cells cS.toArray 152) := ⟨_, rfl⟩
 rw [← hw2] at st1
 have hb2' : Below w.heap.size w w2 := by rw [hw2]; exact hb.alloc hb.size _
 have hy2 : Hid (w2.heap[w1.heap.size]? = some (.cells cS.toArray 152 (0, 0))) := by show _ = _; rw [hw2]; exact heap_alloc_new w1 _
 have hs2 : w2.heap.size = w1.heap.size + 1 := by rw [hw2]; simp
 replace hw2 := Lib.hid hw2
 have hS2 := Lib.hid (hS.out.kept hb2')
 have c17 := hst w2 hS2.out
 replace hst := Lib.hid hst
 go_wp2_with fail
 go_ret
 exact ⟨rfl, v, g, hS2.out, WS.of_below hb2'⟩
end
end Go.Proofs.YtnihdgcfamoplaaGreat

namespace Go.Proofs.YtnihdgcfamoplaaGreat
open Go.RowKit Go.Lib
theorem EE {p : Jb → Bool} : ∀ {X : List Jb} {x : Jb} {r : List Jb}, X.filter p = x :: r → ∃ q, q < X.length ∧ X.getD q default = x ∧ (∀ k, k < q → p (X.getD k default) = false) ∧ (X.drop (q + 1)).filter p = r ∧ p x = true := by
 intro X
 induction X with
 | nil => intro x r h; cases h
 | cons y X ih =>
  intro x r h
  cases hp : p y with
  | true =>
   rw [List.filter_cons_of_pos hp] at h
   obtain ⟨rfl, rfl⟩ := List.cons.inj h
   exact ⟨0, by simp, rfl, fun k hk => absurd hk (Nat.not_lt_zero _), rfl, hp⟩
  | false =>
   rw [List.filter_cons_of_neg (by simp [hp])] at h
   obtain ⟨q, h1, h2, h3, h4, h5⟩ := ih h
   refine ⟨q + 1, by simp; omega, by simpa using h2, fun k hk => ?_, by simpa using h4, h5⟩
   cases k with
   | zero => simpa using hp
   | succ k => simpa using h3 k (by omega)
theorem filter_none {p : Jb → Bool} {X : List Jb} (h : X.filter p = []) (k : Nat) (hk : k < X.length) : p (X.getD k default) = false := by
 have h1 := List.filter_eq_nil_iff.1 h (X.getD k default) (bg hk)
 simpa using h1
theorem getD_drop {L : List Jb} {k q : Nat} : (L.drop k).getD q default = L.getD (k + q) default := by simp [List.getD]
theorem yz {f : Jb → Jb} {L : List Jb} {k : Nat} : ∀ {k' : Nat}, k ≤ k' → k' ≤ L.length → (∀ m, k ≤ m → m < k' → f (L.getD m default) = L.getD m default) → eB f L k = eB f L k' := by
 intro k'
 induction k' with
 | zero =>
  intro h _ _
  obtain rfl : k = 0 := by omega
  rfl
 | succ k' ih =>
  intro h1 h2 h3
  rcases Nat.lt_or_ge k' k with h4 | h4
  ·obtain rfl : k = k' + 1 := by omega
   rfl
  ·rw [ih h4 (by omega) fun m a b => h3 m a (by omega)]
   exact mg (by omega) (h3 k' h4 (by omega))
theorem uR {t : Int} {j : Jb} (h : ¬ (j.st = 3 ∧ j.fin = t)) : aR t j = j := if_neg h
theorem AO {t : Int} {j : Jb} (h : j.st = 3 ∧ j.fin = t) : aR t j = j.setSt 6 := if_pos h
def iU (M : Md) (k : Nat) : Md := { M with L := eB (aR M.now) M.L k }
section
variable {M : Md}
theorem vR (k : Nat) : (iU M k).L.length = M.L.length := nI M.L k
theorem Pk : iU M M.L.length = { M with L := M.L.map (aR M.now) } := by unfold iU; rw [qh]
theorem MF : iU M 0 = M := by unfold iU eB; simp
theorem Pm (h : aG M) (h1 : 1 ≤ M.dr.length) (h2 : M.L.length ≤ 900) {f0 : Int → Int} (hf : ∀ t, M.now ≤ t → 0 ≤ f0 t ∧ f0 t ≤ 64) : PK { ak M with f := f0 } := by
 have := fC h h1 h2
 exact ⟨this.now, this.few, this.st, this.lim, this.qG, hf⟩
theorem EF {x y : Jb} (h : x.id ≠ y.id) (hn : aJ y x = false) : aJ x y = true := by
 unfold aJ at *
 simp only [Bool.or_eq_false_iff, Bool.and_eq_false_iff, decide_eq_false_iff_not, Bool.or_eq_true, Bool.and_eq_true, decide_eq_true_eq] at *
 omega
theorem GU {L : List Jb} {now : Int} {f : Nat} (hd : dh now (L.getD f default) = true) (hf : ∀ q, q < L.length → q ≠ f → dh now (L.getD q default) = true → aJ (L.getD f default) (L.getD q default) = true) :
  ∀ k, k ≤ L.length → f < k → gX L now k = f := by
 have sp : ∀ q, dh now (L.getD q default) = true ↔ (aj (L.getD q default) = true ∧ (L.getD q default).aD = now) := fun q => by unfold dh; simp
 intro k
 induction k with
 | zero => intro _ h; omega
 | succ k ih =>
  intro hk WL
  unfold gX
  rcases Nat.lt_or_ge f k with h1 | h1
  ·rw [ih (by omega) h1, if_neg]
   rintro ⟨h2, h3, h4⟩
   have h5 := hf k (by omega) (by omega) ((sp k).2 ⟨h2, h3⟩)
   rcases h4 with h4 | h4
   ·omega
   ·rw [Int.toNat_natCast] at h4
    have := EU h5
    rw [this] at h4
    cases h4
  ·obtain rfl : f = k := by omega
   obtain ⟨h2, h3⟩ := (sp f).1 hd
   rw [if_pos]
   refine ⟨h2, h3, ?_⟩
   rcases jT L now f with ⟨h4, _⟩ | ⟨q, h4, h5, h6⟩
   ·exact .inl h4
   ·refine .inr ?_
    rw [h4, Int.toNat_natCast]
    exact hf q (by omega) (by omega) h6
theorem JF {f : Nat} (hfl : f < M.L.length) (hd : dh M.now (M.L.getD f default) = true) (hf : ∀ q, q < M.L.length → q ≠ f → dh M.now (M.L.getD q default) = true → aJ (M.L.getD f default) (M.L.getD q default) = true) : firstM M = f :=
 GU hd hf _ (Nat.le_refl _) hfl
theorem BF (n : Nat) (h : ∀ q, q < M.L.length → dh M.now (M.L.getD q default) = false) : startGo n M = M := by
 have hf : ¬ 0 ≤ firstM M := by
  unfold firstM
  rcases jT M.L M.now M.L.length with ⟨h4, _⟩ | ⟨q, h4, h5, h6⟩
  ·omega
  ·rw [h q h5] at h6; cases h6
 induction n with
 | zero => rfl
 | succ n ih => unfold startGo; rw [if_neg hf]; exact ih
structure Going (M F : Md) (r : List Jb) : Prop where
 inv : aG M
 run : ∀ j ∈ M.L, j.st = 3 → M.now < j.fin
 goes : ∃ n, startGo n M = F ∧ lu M ≤ n
 still : ∀ x ∈ r, 1 ≤ x.id ∧ x.id ≤ M.L.length ∧ M.L.getD (x.id - 1).toNat default = x
 due : ∀ q, q < M.L.length → dh M.now (M.L.getD q default) = true → M.L.getD q default ∈ r
 sorted : r.Pairwise (fun x y => aJ y x = false)
 nodup : r.Pairwise (fun x y => x.id ≠ y.id)
 pend : ∀ x ∈ r, x.st = 1
theorem Going.skip {F : Md} {x : Jb} {r : List Jb} (h : Going M F (x :: r)) (hx : dh M.now x = false) : Going M F r :=
 ⟨h.inv, h.run, h.goes, fun y hy => h.still y (List.mem_cons_of_mem _ hy), fun q hq hd => by
  rcases List.mem_cons.1 (h.due q hq hd) with e | e
  ·rw [e, hx] at hd; cases hd
  ·exact e, (List.pairwise_cons.1 h.sorted).2, (List.pairwise_cons.1 h.nodup).2, fun y hy => h.pend y (List.mem_cons_of_mem _ hy)⟩
theorem Going.last {F : Md} (h : Going M F []) : F = M := by
 obtain ⟨n, h1, _⟩ := h.goes
 rw [← h1]
 refine BF n fun q hq => ?_
 cases hd : dh M.now (M.L.getD q default) with
 | false => rfl
 | true => exact absurd (h.due q hq hd) (by simp)
theorem Going.next {F : Md} {x : Jb} {r : List Jb} (h : Going M F (x :: r)) (hx : dh M.now x = true) : (x.id - 1).toNat < M.L.length ∧ M.L.getD (x.id - 1).toNat default = x ∧ Going (aV M (x.id - 1).toNat) F r := by
 obtain ⟨i1, i2, i3⟩ := h.still x (List.mem_cons_self ..)
 obtain ⟨f, hf⟩ : ∃ f, f = (x.id - 1).toNat := ⟨_, rfl⟩
 have hfl : f < M.L.length := by omega
 rw [← hf] at i3 ⊢
 have hs := List.pairwise_cons.1 h.sorted
 have hn := List.pairwise_cons.1 h.nodup
 have hdf : dh M.now (M.L.getD f default) = true := by rw [i3]; exact hx
 have sQ : firstM M = f := JF hfl hdf fun q hq hne hd => by
  have hmem := h.due q hq hd
  have Pn := h.inv.ids q hq
  have Gz := h.inv.ids f hfl
  rcases List.mem_cons.1 hmem with e | e
  ·rw [e] at Pn; rw [i3] at Gz; omega
  ·rw [i3]
   exact EF (hn.1 _ e) (hs.1 _ e)
 obtain ⟨n, h1, h2⟩ := h.goes
 obtain ⟨s1, s2, s3, _⟩ := h.inv.start h.run hfl hdf
 have hpos : 1 ≤ lu M := by
  have h5 := zB (fun j => if dh M.now j = true then (1 : Int) else 0) M.L (fun j _ => by split <;> omega) (bg hfl)
  rw [if_pos hdf] at h5
  exact h5
 have hlen : (aV M f).L.length = M.L.length := by unfold aV; exact List.length_set
 have hget : ∀ q, (aV M f).L.getD q default = if f = q ∧ f < M.L.length then fA M (M.L.getD f default) else M.L.getD q default := fun q => df
 refine ⟨hfl, i3, s1, s2, ?_, ?_, ?_, hs.2, hn.2, fun y hy => h.pend y (List.mem_cons_of_mem _ hy)⟩
 ·cases n with
  | zero => omega
  | succ n =>
   refine ⟨n, ?_, by omega⟩
   unfold startGo at h1
   rw [sQ, if_pos (by omega), Int.toNat_natCast] at h1
   exact h1
 ·intro y hy
  obtain ⟨a1, a2, a3⟩ := h.still y (List.mem_cons_of_mem _ hy)
  refine ⟨a1, by rw [hlen]; exact a2, ?_⟩
  rw [hget, if_neg, a3]
  rintro ⟨e, _⟩
  exact hn.1 y hy (by omega)
 ·intro q hq hd
  rw [hlen] at hq
  rw [hget] at hd ⊢
  by_cases e : f = q ∧ f < M.L.length
  ·rw [if_pos e] at hd
   have : dh (aV M f).now (fA M (M.L.getD f default)) = false := by unfold dh aj; rfl
   rw [this] at hd; cases hd
  ·rw [if_neg e] at hd ⊢
   rcases List.mem_cons.1 (h.due q hq hd) with e2 | e2
   ·exfalso
    have Pn := h.inv.ids q hq
    rw [e2] at Pn
    exact e ⟨by omega, hfl⟩
   ·exact e2
end
end Go.Proofs.YtnihdgcfamoplaaGreat

namespace Go.Proofs.YtnihdgcfamoplaaGreat
open Go.RowKit Go.Lib Go.Sort
def xu (w : World) (c t d p : Nat) (v : Value) (g a : Nat) (m : Int) (P : Pg) (W : World) : Prop := ∃ v' g', CW W c t d p v' g' a m P ∧ CS w W c t d p v g v' g'
theorem xu.ext {w : World} {c t d p g a : Nat} {v : Value} {m : Int} {P : Pg} : ∀ (x y : World), Reg2.Ext x y → xu w c t d p v g a m P x → xu w c t d p v g a m P y := by
 rintro x y h ⟨v', g', h1, h2⟩
 exact ⟨v', g', h1.kept h, h2.trans (CS.of_below h)⟩
def tJ (w : World) (c t d p : Nat) (v : Value) (g a : Nat) (m : Int) (P : Pg) (T : List Int) (W : World) : Prop := xu w c t d p v g a m P W ∧ gU T
theorem tJ.ext {w : World} {c t d p g a : Nat} {v : Value} {m : Int} {P : Pg} {T : List Int} : ∀ (x y : World), Reg2.Ext x y → tJ w c t d p v g a m P T x → tJ w c t d p v g a m P T y := fun x y h hs => ⟨xu.ext x y h hs.1, hs.2⟩
section
variable {w : World} {c t d p g a : Nat} {v : Value} {m : Int} {P : Pg} {M : Md}
theorem launch_fn (h : CW w c t d p v g a m P) (hk : PK P) (j : Jb) (hj : -9223372036854775808 ≤ j.wid ∧ j.wid ≤ 9223372036854775807) {s : Nat} {T0 : List Int} (hT0 : oW P.T j.wid s 0 T0) :
  Calls Tryz.prog 153 #[.pointer (some ⟨c, 0, none⟩), .agg (ag j).toArray] w (fq w c t d p v g a m (.tuple #[]) { P with T := T0, J := cu P.J (fZ P.now) j.id (fun j : Jb => decide (j.state = 1)) (kQ P.now s) }) := by
 obtain ⟨wA, aB⟩ : ∃ wA, wA = w.alloc (.cells (ag j).toArray 63) := ⟨_, rfl⟩
 have bC : Below w.heap.size w wA := by rw [aB]; exact (Below.refl _ _).alloc (Nat.le_refl _) _
 have hsA : wA.heap.size = w.heap.size + 1 := by rw [aB]; simp
 have uS : Hid (wA.heap[w.heap.size]? = some (.cells (ag j).toArray 63 (0, 0))) := by show _ = _; rw [aB]; exact heap_alloc_new w _
 have iI := Lib.hid (h.kept bC)
 have hft : Hid (¬ dY c t d p v g w.heap.size) := fun hf => absurd (h.lt hf) (Nat.lt_irrefl _)
 have e0 : (ag j)[0]? = some (.int .i64 j.id) := rfl
 have e2 : (ag j)[2]? = some (.int .i64 j.wid) := rfl
 have zE := bG
 obtain ⟨k, hk1⟩ : ∃ k, k = 10 := ⟨_, rfl⟩
 rw [← hk1] at zE
 have hk0 : ¬ k = 0 := by omega
 replace hk1 := Lib.hid hk1
 have Po := fun (W : World) (hW : CW W c t d p v g a m P) => Ml hW hk j.wid hj
 have hbe := fun (W : World) (v1 : Value) (g1 : Nat) (hL : gU T0) (hW : CW W c t d p v1 g1 a m { P with T := T0 }) => Ju hW ⟨hk.now, hk.few, hk.st, hk.lim, hL, hk.f⟩ j.id P.now s
 rw [show ({ P with T := T0 } : Pg).J = P.J from rfl] at hbe
 have WM : Hid (∀ {T' : List Int}, gU T' → T0 = T' → gU T0) := fun h1 h2 => h2 ▸ h1
 generalize ag j = cJ at *
 generalize j.wid = jw at *
 generalize j.id = ji at *
 replace hT0 := Lib.hid hT0
 clear h
 go_enter Tryz.func153, Tryz.ntmps153
 go_wp2_with fail
 rw [← aB]
 replace aB := Lib.hid aB
 refine Reg2.tO 11 31 [[],[ae],[ae,ae],[ae,ae,ae],[af,af,af,af],[af,af,af,af,ae],[ae,ae,ae,ae,ae,ae],[ae,ae,ae,ae,ae,ae,ae],[ae,ae,ae,ae,ae,ae,ae,ae],[ae,ae,ae,ae,ae,ae,ae,ae,af],[ae,ae,ae,ae,ae,ae,ae,ae,ae,af]] [0, 0, 0, 2, 0, 2, 3, 0, 0, 0, 0]
  [.pure, .pure, .pure, .pinned Unit () (fun _ => .pointer (some ⟨d, 0, none⟩)) (fun _ _ => True), .pure, .pinned Unit () (fun _ => .int .i64 jw) (fun _ _ => True), .major Unit () (fun _ => .tuple #[.int .u64 s, .int .i64 0]), .pure, .pure, .pure, .pure]
  (fun _ => True) (fun vs W => match vs with | [] => Below wA.heap.size wA W | _ :: _ => (tJ wA c t d p v g a m { P with T := T0 } T0) W) (fun _ _ => True) (by kernel_rfl) (by kernel_rfl) rfl rfl (fun vs a b h hs => by cases vs with | nil => exact Below.trans hs (h.mono (Below.size hs)) | cons v vs => exact tJ.ext a b h hs) ?_ ?_ ?_ ?_ ?_ ?_
 ·intro a b he hb; trivial
 ·intro a b he hb; trivial
 ·exact ⟨trivial, trivial, trivial, ⟨fun _ _ _ _ _ => trivial, fun _ _ _ _ _ => trivial⟩, trivial, ⟨fun _ _ _ _ _ => trivial, fun _ _ _ _ _ => trivial⟩, trivial, trivial, trivial, trivial, trivial, trivial⟩
 ·trivial
 ·exact ⟨rfl, rfl, rfl, Nat.le_refl _, fun _ _ => rfl⟩
 dsimp only [Reg2.mk, List.zip, List.zipWith, List.take]
 repeat (refine' Reg2.ai _ (by rfl) (fun wz => ?_) ?_; rotate_left; (go_simp; first | rfl | rw [if_neg (by omega)]); simp only [Act.put, xA, xB, xC]; (try simp only [xD]); (try simp only [xE]); (try simp only [id]))
 refine Reg2.pp (fun wz _ hI hF => ?_) (fun r3 => ?_) (by rfl)
 ·have c0 := (iI.out.kept hI).c1
  go_wp2_with fail
  first | exact ⟨_, rfl, rfl, Reg2.Ext.refl _⟩ | exact ⟨_, rfl, ⟨(), rfl, trivial⟩, Reg2.Ext.refl _⟩
 simp only [Act.put, xA, xB, xC]; (try simp only [xD]); (try simp only [xE]); (try simp only [id])
 repeat (refine' Reg2.ai _ (by rfl) (fun wz => ?_) ?_; rotate_left; (go_simp; first | rfl | rw [if_neg (by omega)]); simp only [Act.put, xA, xB, xC]; (try simp only [xD]); (try simp only [xE]); (try simp only [id]))
 refine Reg2.pp (fun wz _ hI hF => ?_) (fun r5 => ?_) (by rfl)
 ·have q0 : wz.cell? ⟨w.heap.size, 2, none⟩ = some (.int .i64 jw) := by simp [World.cell?, (hI.block _ (ay uS.out)).trans uS.out, e2]
  go_wp2_with fail
  first | exact ⟨_, rfl, rfl, Reg2.Ext.refl _⟩ | exact ⟨_, rfl, ⟨(), rfl, trivial⟩, Reg2.Ext.refl _⟩
 simp only [Act.put, xA, xB, xC]; (try simp only [xD]); (try simp only [xE]); (try simp only [id])
 refine Reg2.pj (fun wz _ hI hF => ?_) (fun r6 => ?_) (by rfl)
 ·go_wp2_with (go_at_call 178; go_must (refine (Po wz (iI.out.kept hI)).mono ?_); rintro e w' ⟨s1, x1, T', hT, hL, rfl, v4, g4, ow, bI⟩)
  obtain ⟨rfl, rfl, rfl⟩ := hT0.out.uniq hT
  have hpost : tJ wA c t d p v g a m { P with T := T0 } T0 w' := ⟨⟨v4, g4, ow, (CS.of_below hI).trans bI⟩, hL⟩
  exact ⟨_, rfl, ⟨⟨(), rfl⟩, hpost⟩, trivial⟩
 simp only [Act.put, xA, xB, xC]; (try simp only [xD]); (try simp only [xE]); (try simp only [id])
 repeat (refine' Reg2.ai _ (by rfl) (fun wz => ?_) ?_; rotate_left; (go_simp; first | rfl | rw [if_neg (by omega)]); simp only [Act.put, xA, xB, xC]; (try simp only [xD]); (try simp only [xE]); (try simp only [id]))
 refine Reg2.aA ?_
 intro w7 _ rq jW
 clear jW
 dsimp only [List.drop]
 obtain ⟨⟨v7, g7, yP, gG⟩, hL7⟩ : xu wA c t d p v g a m { P with T := T0 } w7 ∧ gU T0 := rq
 have yQ : Hid (w7.heap[w.heap.size]? = some (.cells cJ.toArray 63 (0, 0))) := (gG.heap (ay uS.out) hft.out).trans uS.out
 replace yP := Lib.hid yP
 go_wp2_with fail
 refine Reg2.rd w7 12 31 [[],[ae],[ae,ae],[ae,ae,ae],[af,af,af,af],[af,af,af,af,ae],[af,af,af,af,af,af],[af,af,af,af,af,af,ae],[af,af,af,af,af,af,ae,ae],[af,af,af,af,af,af,ae,ae,ae],[af,af,af,af,af,af,ae,ae,ae,ae],[af,af,af,af,af,af,af,af,af,af,af]] [0, 0, 0, 1, 0, 1, 0, 0, 0, 1, 1, 0] [.pure, .pure, .pure, .mU (.pointer (some ⟨t, 0, none⟩)), .pure, .mU (.int .i64 ji), .pure, .pure, .pure, .mU (.pointer (some ⟨p, 0, none⟩)), .mU (.int .i64 P.now), .pure] (by kernel_rfl) (by kernel_rfl) rfl rfl ⟨trivial, trivial, trivial, Reg2.tt, trivial, Reg2.tt, trivial, trivial, trivial, Reg2.tt, Reg2.tt, trivial, trivial⟩ ⟨rfl, rfl, rfl, Nat.le_refl _, fun _ _ => rfl⟩ ?_
 dsimp only [Reg2.mk, List.zip, List.zipWith, List.take]
 repeat (refine' Reg2.ai _ (by rfl) (fun wz => ?_) ?_; rotate_left; (go_simp; first | rfl | rw [if_neg (by omega)]); simp only [Act.put, xA, xB, xC]; (try simp only [xD]); (try simp only [xE]); (try simp only [id]))
 refine Reg2.pm (fun wz hI hF => ?_) (fun r3 => ?_) (by rfl)
 ·have c0 := (yP.out.kept hI).c0
  go_wp2_with fail
  first | exact ⟨_, rfl, rfl, Reg2.Ext.refl _⟩ | exact ⟨_, rfl, ⟨(), rfl, trivial⟩, Reg2.Ext.refl _⟩
 simp only [Act.put, xA, xB, xC]; (try simp only [xD]); (try simp only [xE]); (try simp only [id])
 repeat (refine' Reg2.ai _ (by rfl) (fun wz => ?_) ?_; rotate_left; (go_simp; first | rfl | rw [if_neg (by omega)]); simp only [Act.put, xA, xB, xC]; (try simp only [xD]); (try simp only [xE]); (try simp only [id]))
 refine Reg2.pm (fun wz hI hF => ?_) (fun r5 => ?_) (by rfl)
 ·have q0 : wz.cell? ⟨w.heap.size, 0, none⟩ = some (.int .i64 ji) := by simp [World.cell?, (hI.block _ (ay yQ.out)).trans yQ.out, e0]
  go_wp2_with fail
  first | exact ⟨_, rfl, rfl, Reg2.Ext.refl _⟩ | exact ⟨_, rfl, ⟨(), rfl, trivial⟩, Reg2.Ext.refl _⟩
 simp only [Act.put, xA, xB, xC]; (try simp only [xD]); (try simp only [xE]); (try simp only [id])
 repeat (refine' Reg2.ai _ (by rfl) (fun wz => ?_) ?_; rotate_left; (go_simp; first | rfl | rw [if_neg (by omega)]); simp only [Act.put, xA, xB, xC]; (try simp only [xD]); (try simp only [xE]); (try simp only [id]))
 refine Reg2.pm (fun wz hI hF => ?_) (fun r9 => ?_) (by rfl)
 ·have c0 := (yP.out.kept hI).c2
  go_wp2_with fail
  first | exact ⟨_, rfl, rfl, Reg2.Ext.refl _⟩ | exact ⟨_, rfl, ⟨(), rfl, trivial⟩, Reg2.Ext.refl _⟩
 simp only [Act.put, xA, xB, xC]; (try simp only [xD]); (try simp only [xE]); (try simp only [id])
 refine Reg2.pm (fun wz hI hF => ?_) (fun wR => ?_) (by rfl)
 ·go_wp2_with (go_at_call 25; go_must (refine (fP (yP.out.kept hI)).mono ?_); rintro e w' ⟨rfl, rfl⟩)
  first | exact ⟨_, rfl, rfl, Reg2.Ext.refl _⟩ | exact ⟨_, rfl, ⟨(), rfl, trivial⟩, Reg2.Ext.refl _⟩
 simp only [Act.put, xA, xB, xC]; (try simp only [xD]); (try simp only [xE]); (try simp only [id])
 repeat (refine' Reg2.ai _ (by rfl) (fun wz => ?_) ?_; rotate_left; (go_simp; first | rfl | rw [if_neg (by omega)]); simp only [Act.put, xA, xB, xC]; (try simp only [xD]); (try simp only [xE]); (try simp only [id]))
 refine Reg2.aA ?_
 intro w8 Uu _ dI
 clear dI
 dsimp only [List.drop]
 have SF := yP.out.kept Uu
 have tY := hbe w8 v7 g7 hL7 SF
 go_wp2_with fail
 go_at_call 179
 refine tY.mono ?_
 clear tY
 rintro e w9 ⟨rfl, v9, g9, GV, fU⟩
 have hfin := (((CS.of_below bC : CS w wA c t d p v g v g).trans gG).trans (CS.of_below Uu)).trans fU
 go_wp2_with fail
 go_end0
 exact ⟨rfl, v9, g9, GV, hfin⟩
theorem boxed (wr : World) (x : Jb) : Sem.run Tryz.prog (storeCells ⟨wr.heap.size, 0, none⟩ (ag x) 0) (wr.alloc (.cells #[.int .i64 0, .int .i64 0, .int .i64 0, .int .i64 0, .int .i64 0, .int .i64 0, .int .i64 0, .int .i64 0, .int .i64 0, .int .u64 0] 63)) = .ok () (wr.alloc (.cells (ag x).toArray 63)) :=
 dD wr wr.heap.size (ag x) (ag gW) 63 rfl rfl (dJ x)
theorem mo.off {w w1 : World} {gb off : Nat} {l : List Jb} {v1 : Value} {g1 : Nat} (hJ : mo w gb off l) (hs : CS w w1 c t d p v g v1 g1) (hg : ¬ dY c t d p v g gb) : mo w1 gb off l := by
 have hb : w1.heap[gb]? = w.heap[gb]? := hs.heap hJ.1 hg
 exact ⟨Nat.lt_of_lt_of_le hJ.1 hs.off.size, fun i s j u hi hj => by
  have := hJ.2 i s j u hi hj
  simp only [World.cell?, World.frozen?, hb] at this ⊢
  exact this⟩
theorem JG (f0 : Int → Int) (h : CW w c t d p v g a m { ak M with f := f0 }) (hI : aG M) (h1 : 1 ≤ M.dr.length) (hll : M.L.length ≤ 900) (hf0 : ∀ u, M.now ≤ u → 0 ≤ f0 u ∧ f0 u ≤ 64) :
  Calls Tryz.prog 171 #[.pointer (some ⟨c, 0, none⟩), .int .i64 M.now] w (fq w c t d p v g a m (.tuple #[]) { ak ({ M with L := M.L.map (aR M.now) } : Md) with f := f0 }) := by
 have zE := bG
 obtain ⟨k, hk⟩ : ∃ k, k = 10 := ⟨_, rfl⟩
 rw [← hk] at zE
 have hk0 : ¬ k = 0 := by omega
 replace hk := Lib.hid hk
 obtain ⟨wA, aB⟩ : ∃ wA, wA = w.alloc (.cells #[.int .i64 3] 3) := ⟨_, rfl⟩
 have bC : Below w.heap.size w wA := by rw [aB]; exact (Below.refl _ _).alloc (Nat.le_refl _) _
 have JH : aF enc1 1 wA (.slice (some ⟨w.heap.size, 0, none⟩) 1 1) [3] := by rw [aB]; exact fV w w.heap.size [3] rfl (by decide)
 have iI := h.kept bC
 have hin := uH iI.fe (by show M.L.length ≤ 1000; omega) JH
 rw [show ({ ak M with f := f0 } : Pg).J = M.L from rfl] at hin
 have c0 := h.c0
 have hlt : Hid (∀ k, dY c t d p v g k → k < w.heap.size) := fun k hk => h.lt hk
 have Uv : Hid (∀ {W : World}, CW W c t d p v g a m { ak M with f := f0 } → CW W c t d p v g a m { ak (iU M 0) with f := f0 }) := fun hW => by rw [MF]; exact hW
 generalize hL1 : (M.L.filter fun j : Jb => decide (j.state ∈ [(3 : Int)])) = l at *
 have hn1 : l.length ≤ 900 := by rw [← hL1]; exact Nat.le_trans (List.length_filter_le _ _) hll
 obtain ⟨tn, htn⟩ : ∃ tn, tn = M.now := ⟨_, rfl⟩
 rw [← htn]
 have htb := hI.mb.now
 rw [← htn] at htb
 replace htn := Lib.hid htn
 replace hL1 := Lib.hid hL1
 rw [aB] at hin
 clear h
 go_enter Tryz.func171, Tryz.ntmps171
 go_wp2_with fail
 go_at_call 64
 refine hin.mono ?_
 clear hin c0
 rw [← aB]
 rintro e w0 ⟨u, rfl, ho, hb0⟩
 have hbw0 : Below w.heap.size w w0 := bC.trans (hb0.mono bC.size)
 have hC0 := Uv.out (iI.kept hb0)
 replace aB := Lib.hid aB
 have hsh : Hid (∀ {ao : Option Addr} {n cap : Nat}, u = .slice ao n cap → 0 < l.length → ∃ g0, ao = some ⟨g0, 0, none⟩ ∧ wA.heap.size ≤ g0) := fun {ao n cap} e hp => by
  obtain ⟨K6, cap', e0, hp'⟩ := gJ ho
  obtain ⟨g0, e4⟩ := hp' hp
  subst e4
  rw [e] at e0
  injection e0 with e0 _ _
  exact ⟨g0, e0, (ho.lt g0 (by rw [e, e0]; rfl)).1⟩
 have hr := aF.jh ho ax rfl rfl
 obtain ⟨ao, cap, rfl, q1, q2, q3⟩ := hr
 obtain ⟨n, hn⟩ : ∃ n, l.length = n := ⟨_, rfl⟩
 rw [hn] at q1 q3 hn1 ho ⊢
 have HQ : Hid (0 < n → ∃ b, ao = some ⟨b, 0, none⟩ ∧ mo w0 b 0 l ∧ w.heap.size ≤ b) := fun hp => by
  obtain ⟨b, off, e1, e2, e3⟩ := q3 hp
  obtain ⟨g0, e4, e5⟩ := hsh.out rfl (by have := hn; omega)
  rw [e4] at e1
  injection e1 with e1
  injection e1 with e6 e7
  subst e6; subst e7
  exact ⟨g0, e4, ⟨e2, e3⟩, by have := bC.size; omega⟩
 have Eb : cap ≤ 9223372036854775807 := by unfold maxLen at q2; omega
 replace hn := Lib.hid hn
 clear q2 q3 ho hb0 iI
 go_wp2_with fail
 go_loopw [13] (fun ii wr => ∃ (i kk : Nat) (vr : Value) (gr : Nat), i ≤ n ∧ ii = .int .i64 i ∧ CW wr c t d p vr gr a m { ak (iU M kk) with f := f0 } ∧ CS w0 wr c t d p v g vr gr ∧ Hid (kk ≤ M.L.length ∧ (M.L.drop kk).filter (fun j : Jb => decide (j.state ∈ [(3 : Int)])) = l.drop i)) (fun ii _ => n - (intOf ii).toNat)
 case atStart => exact ⟨0, 0, v, g, Nat.zero_le _, rfl, hC0, CS.refl _, Lib.hid ⟨Nat.zero_le _, by rw [List.drop_zero, List.drop_zero, hL1.out]⟩⟩
 case round =>
  obtain ⟨i, kk, vr, gr, hin, rfl, EG, hSr, hpos⟩ := hrel
  by_cases hlt2 : i < n
  ·have b2 : (i : Int) < (n : Int) := by omega
   have wi : IntKind.i64.wrap ((i : Int) + 1) = (i : Int) + 1 := by rw [IntKind.wrap_i64]; omega
   obtain ⟨gb, rfl, hJ, hgb⟩ := HQ.out (by omega)
   have hgf : ¬ dY c t d p v g gb := fun hf => absurd (hlt.out gb hf) (by omega)
   have qX := hJ.off hSr hgf
   have iO : i < l.length := by have := hn.out; omega
   have LI := qX.load hk.out iO
   obtain ⟨x, hx⟩ : ∃ x, x = l[i]! := ⟨_, rfl⟩
   rw [← hx, Nat.zero_add] at LI
   replace hx := Lib.hid hx
   have hdrop : l.drop i = x :: l.drop (i + 1) := by rw [hx.out, getElem!_pos l i iO]; exact List.drop_eq_getElem_cons iO
   obtain ⟨hkk, hfil⟩ := hpos.out
   rw [hdrop] at hfil
   obtain ⟨q, a1, a2, a3, a4, a5⟩ := EE hfil
   have hq : kk + q < M.L.length := by rw [List.length_drop] at a1; omega
   rw [getD_drop] at a2
   have Pp : eB (aR M.now) M.L kk = eB (aR M.now) M.L (kk + q) := yz (by omega) (by omega) fun mm b1 b2 => uR fun hh => by
    have := a3 (mm - kk) (by omega)
    rw [getD_drop, show kk + (mm - kk) = mm by omega] at this
    exact absurd this (by show ¬ (decide ((M.L.getD mm default).state ∈ [(3 : Int)]) = false); rw [show (M.L.getD mm default).state = 3 from hh.1]; decide)
   have hov : iU M kk = iU M (kk + q) := by unfold iU; rw [Pp]
   rw [hov] at EG
   have hx3 : x.st = 3 := (show x.state = 3 by simpa using a5)
   have EH : (M.L.drop (kk + q + 1)).filter (fun j : Jb => decide (j.state ∈ [(3 : Int)])) = l.drop (i + 1) := by rw [← a4, List.drop_drop]; rfl
   have Pq := hI.yY (kk + q) (by omega)
   have Rv := hI.yY (kk + q + 1) (by omega)
   have xw : (iU M (kk + q)).L.getD (kk + q) default = x := (pJ hq).trans a2
   have hxm := bg hq
   rw [a2] at hxm
   have GX := hI.ids (kk + q) hq
   rw [a2] at GX
   have Ku := hI.mb.bN x hxm
   have Uw := Lib.hid (Pm Pq h1 (by show (iU M (kk + q)).L.length ≤ 900; rw [vR]; exact hll) hf0)
   have SL := Lib.hid (Pm Rv h1 (by show (iU M (kk + q + 1)).L.length ≤ 900; rw [vR]; exact hll) hf0)
   have Ux := Lib.hid (Gq (M := iU M (kk + q)) Pq h1)
   replace EH := Lib.hid EH
   replace xw := Lib.hid xw
   replace a2 := Lib.hid a2
   replace GX := Lib.hid GX
   replace Pq := Lib.hid Pq
   clear hfil hdrop a3 a4 a5 a1 Pp hpos hov Rv
   have lI := ax x
   rw [← hk.out] at lI
   have e0 : (ag x)[0]? = some (.int .i64 x.id) := rfl
   have e7 : (ag x)[7]? = some (.int .i64 x.fin) := rfl
   have e9 : (ag x)[9]? = some (.int .u64 x.bN) := rfl
   have st := boxed wr x
   obtain ⟨w1, hw1⟩ : ∃ w1, w1 = wr.alloc (.cells (ag x).toArray 63) := ⟨_, rfl⟩
   have hb1 : Below wr.heap.size wr w1 := by rw [hw1]; exact (Below.refl _ _).alloc (Nat.le_refl _) _
   have hz1 : w1.heap[wr.heap.size]? = some (.cells (ag x).toArray 63 (0, 0)) := by rw [hw1]; exact heap_alloc_new wr _
   have hft : ¬ dY c t d p vr gr wr.heap.size := fun hf => absurd (EG.lt hf) (Nat.lt_irrefl _)
   have c7 : w1.cell? ⟨wr.heap.size, 7, none⟩ = some (.int .i64 x.fin) := by simp [World.cell?, hz1, e7]
   replace hz1 := Lib.hid hz1
   have xe := Lib.hid (EG.kept hb1)
   have hS1 := hSr.trans (CS.of_below hb1)
   generalize hcI : ag x = cI at *
   replace hcI := Lib.hid hcI
   rw [← hw1] at st
   replace hw1 := Lib.hid hw1
   by_cases hfin : x.fin = tn
   ·have Cr : x.st = 3 ∧ x.fin = M.now := ⟨hx3, hfin.trans htn.out⟩
    have d1 : (x.fin == tn) = true := by simp [hfin]
    have hset : Hid (cu (iU M (kk + q)).L (bA 6 tn) x.id (eU 6) (bO 6 tn) = (iU M (kk + q + 1)).L) := by
     have hle := vR (M := M) (kk + q)
     have D9 : bM (iU M (kk + q)).L (bA 6 tn) x.id (eU 6) = 0 := by
      have e1 : bA 6 tn = 0 := by unfold bA; rw [if_neg (by decide), if_neg (by decide), if_neg (by omega), if_neg (by omega)]
      unfold bM
      rw [GX.out, e1, if_neg (by decide), if_neg (by omega), if_neg (by omega), show ((((kk + q : Nat) : Int)) + 1 - 1).toNat = kk + q by omega, if_pos]
      rw [getElem!_pos _ _ (by omega)]
      have : (iU M (kk + q)).L[kk + q]'(by omega) = x := by rw [← xw.out]; simp [List.getD, show kk + q < (iU M (kk + q)).L.length by omega]
      rw [this]
      unfold eU
      rw [show x.state = 3 from hx3]
      rfl
     show cu _ _ _ _ _ = _
     unfold cu
     rw [if_pos D9, GX.out, show ((((kk + q : Nat) : Int)) + 1 - 1).toNat = kk + q by omega, getElem!_pos _ _ (by omega)]
     have e2 : (iU M (kk + q)).L[kk + q]'(by omega) = x := by rw [← xw.out]; simp [List.getD, show kk + q < (iU M (kk + q)).L.length by omega]
     rw [e2]
     have e3 : bO 6 tn x = aR M.now (M.L.getD (kk + q) default) := by
      rw [a2.out, AO Cr]
      have h8 := hI.rest x hxm (by omega)
      obtain ⟨x1, x2, x3, x4, x5, x6, x7, x8, x9, x0⟩ := x
      obtain rfl : x6 = 3 := hx3
      obtain rfl : x8 = tn := hfin
      obtain rfl : x9 = -1 := h8
      rfl
     rw [e3]
     exact iN hq
    have hfi := fun (W : World) (hW : CW W c t d p vr gr a m { ak (iU M (kk + q)) with f := f0 }) => si hW Uw.out x.id 6 tn
    rw [show ({ ak (iU M (kk + q)) with f := f0 } : Pg).J = (iU M (kk + q)).L from rfl, hset.out] at hfi
    have hgi := fun (W : World) (v1 : Value) (g1 : Nat) (hW : CW W c t d p v1 g1 a m { ({ ak (iU M (kk + q)) with f := f0 } : Pg) with J := (iU M (kk + q + 1)).L }) => CL hW (by
     have h9 := SL.out
     exact ⟨h9.now, h9.few, h9.st, h9.lim, Ux.out, h9.f⟩) x.bN.toNat (by omega)
    rw [show ((x.bN.toNat : Nat) : Int) = x.bN by omega] at hgi
    have hge : Hid (∀ {n1 x1 : Int} {T' : List Int}, Ag (dA (iU M (kk + q))) x.bN.toNat n1 x1 T' → T' = dA (iU M (kk + q + 1))) := fun {n1 x1 T'} hG => by
     have h8 := CO (M := iU M (kk + q)) Pq.out (i := kk + q) (y := aR M.now (M.L.getD (kk + q) default)) (by rw [vR]; exact hq) (by rw [xw.out]; exact hx3) (by rw [a2.out, AO Cr]; show (6 : Int) ≠ 3; decide) (n := n1) (x := x1) (T' := T') (by rw [xw.out]; exact hG)
     rw [h8.2.2]
     have e4 : ({ iU M (kk + q) with L := (iU M (kk + q)).L.set (kk + q) (aR M.now (M.L.getD (kk + q) default)) } : Md) = iU M (kk + q + 1) := by unfold iU; rw [iN hq]
     rw [e4]
    replace hfin := Lib.hid hfin
    go_wp2_with fail
    refine Reg2.rd w1 7 37 [[],[ae],[ae,ae],[ae,ae,ae],[af,af,af,af],[af,af,af,af,ae],[af,af,af,af,af,af]] [0, 0, 0, 1, 0, 1, 0] [.pure, .pure, .pure, .mU (.pointer (some ⟨t, 0, none⟩)), .pure, .mU (.int .i64 x.id), .pure] (by kernel_rfl) (by kernel_rfl) rfl rfl ⟨trivial, trivial, trivial, Reg2.tt, trivial, Reg2.tt, trivial, trivial⟩ ⟨rfl, rfl, rfl, Nat.le_refl _, fun _ _ => rfl⟩ ?_
    dsimp only [Reg2.mk, List.zip, List.zipWith, List.take]
    repeat (refine' Reg2.ai _ (by rfl) (fun wz => ?_) ?_; rotate_left; (go_simp; first | rfl | rw [if_neg (by omega)]); simp only [Act.put, xA, xB, xC]; (try simp only [xD]); (try simp only [xE]); (try simp only [id]))
    refine Reg2.pm (fun wz hI hF => ?_) (fun r3 => ?_) (by rfl)
    ·have c0 := (xe.out.kept hI).c0
     go_wp2_with fail
     first | exact ⟨_, rfl, rfl, Reg2.Ext.refl _⟩ | exact ⟨_, rfl, ⟨(), rfl, trivial⟩, Reg2.Ext.refl _⟩
    simp only [Act.put, xA, xB, xC]; (try simp only [xD]); (try simp only [xE]); (try simp only [id])
    repeat (refine' Reg2.ai _ (by rfl) (fun wz => ?_) ?_; rotate_left; (go_simp; first | rfl | rw [if_neg (by omega)]); simp only [Act.put, xA, xB, xC]; (try simp only [xD]); (try simp only [xE]); (try simp only [id]))
    refine Reg2.pm (fun wz hI hF => ?_) (fun r5 => ?_) (by rfl)
    ·have q0 : wz.cell? ⟨wr.heap.size, 0, none⟩ = some (.int .i64 x.id) := by simp [World.cell?, (hI.block _ (ay hz1.out)).trans hz1.out, e0]
     go_wp2_with fail
     first | exact ⟨_, rfl, rfl, Reg2.Ext.refl _⟩ | exact ⟨_, rfl, ⟨(), rfl, trivial⟩, Reg2.Ext.refl _⟩
    simp only [Act.put, xA, xB, xC]; (try simp only [xD]); (try simp only [xE]); (try simp only [id])
    repeat (refine' Reg2.ai _ (by rfl) (fun wz => ?_) ?_; rotate_left; (go_simp; first | rfl | rw [if_neg (by omega)]); simp only [Act.put, xA, xB, xC]; (try simp only [xD]); (try simp only [xE]); (try simp only [id]))
    refine Reg2.aA ?_
    intro w4 HI4 _ dI
    clear dI
    dsimp only [List.drop]
    have ow := xe.out.kept HI4
    have Uy := hfi w4 ow
    have yO : w4.heap[wr.heap.size]? = some (.cells cI.toArray 63 (0, 0)) := (HI4.block _ (ay hz1.out)).trans hz1.out
    go_wp2_with fail
    go_at_call 139
    refine Uy.mono ?_
    clear Uy
    rintro e w5 ⟨rfl, v5, g5, gu, hS5⟩
    have FQ : Hid (w5.heap[wr.heap.size]? = some (.cells cI.toArray 63 (0, 0))) := (hS5.heap (ay yO) hft).trans yO
    replace gu := Lib.hid gu
    go_wp2_with fail
    refine Reg2.rd w5 6 37 [[],[ae],[ae,ae],[ae,ae,ae],[af,af,af,af],[af,af,af,af,ae]] [0, 0, 0, 1, 0, 1] [.pure, .pure, .pure, .mU (.pointer (some ⟨d, 0, none⟩)), .pure, .mU (.int .u64 x.bN)] (by kernel_rfl) (by kernel_rfl) rfl rfl ⟨trivial, trivial, trivial, Reg2.tt, trivial, Reg2.tt, trivial⟩ ⟨rfl, rfl, rfl, Nat.le_refl _, fun _ _ => rfl⟩ ?_
    dsimp only [Reg2.mk, List.zip, List.zipWith, List.take]
    repeat (refine' Reg2.ai _ (by rfl) (fun wz => ?_) ?_; rotate_left; (go_simp; first | rfl | rw [if_neg (by omega)]); simp only [Act.put, xA, xB, xC]; (try simp only [xD]); (try simp only [xE]); (try simp only [id]))
    refine Reg2.pm (fun wz hI hF => ?_) (fun r3 => ?_) (by rfl)
    ·have c0 := (gu.out.kept hI).c1
     go_wp2_with fail
     first | exact ⟨_, rfl, rfl, Reg2.Ext.refl _⟩ | exact ⟨_, rfl, ⟨(), rfl, trivial⟩, Reg2.Ext.refl _⟩
    simp only [Act.put, xA, xB, xC]; (try simp only [xD]); (try simp only [xE]); (try simp only [id])
    repeat (refine' Reg2.ai _ (by rfl) (fun wz => ?_) ?_; rotate_left; (go_simp; first | rfl | rw [if_neg (by omega)]); simp only [Act.put, xA, xB, xC]; (try simp only [xD]); (try simp only [xE]); (try simp only [id]))
    refine Reg2.pm (fun wz hI hF => ?_) (fun r5 => ?_) (by rfl)
    ·have q0 : wz.cell? ⟨wr.heap.size, 9, none⟩ = some (.int .u64 x.bN) := by simp [World.cell?, (hI.block _ (ay FQ.out)).trans FQ.out, e9]
     go_wp2_with fail
     first | exact ⟨_, rfl, rfl, Reg2.Ext.refl _⟩ | exact ⟨_, rfl, ⟨(), rfl, trivial⟩, Reg2.Ext.refl _⟩
    simp only [Act.put, xA, xB, xC]; (try simp only [xD]); (try simp only [xE]); (try simp only [id])
    refine Reg2.aA ?_
    intro w6 GA _ dI
    clear dI
    dsimp only [List.drop]
    have GD := gu.out.kept GA
    have Uz := hgi w6 v5 g5 GD
    go_wp2_with fail
    go_at_call 164
    refine Uz.mono ?_
    clear Uz
    rintro e w7 ⟨n1, x1, T', hG, _, rfl, v7, g7, yP, gG⟩
    obtain rfl := hge.out hG
    have fU := (hS1.trans (CS.of_below HI4)).trans (hS5.trans ((CS.of_below GA).trans gG))
    go_wp2_with fail
    go_roundw
    case rel => exact ⟨i + 1, kk + q + 1, v7, g7, by omega, by go_num, yP, fU, Lib.hid ⟨by omega, EH.out⟩⟩
    case measure => simp [intOf]; omega
   ·have d1 : (x.fin == tn) = false := by simp [hfin]
    have hsame : iU M (kk + q) = iU M (kk + q + 1) := by
     unfold iU
     rw [mg hq (uR fun hh => hfin (by rw [← a2.out]; exact hh.2.trans htn.out.symm))]
    have GV := xe.out
    rw [hsame] at GV
    go_wp2_with fail
    go_roundw
    case rel => exact ⟨i + 1, kk + q + 1, vr, gr, by omega, by go_num, GV, hS1, Lib.hid ⟨by omega, EH.out⟩⟩
    case measure => simp [intOf]; omega
  ·have e : i = n := by omega
   subst e
   obtain ⟨hkk, hfil⟩ := hpos.out
   have hend : l.drop i = [] := List.drop_eq_nil_of_le (by have := hn.out; omega)
   rw [hend] at hfil
   have hall : iU M kk = { M with L := M.L.map (aR M.now) } := by
    rw [← Pk]
    unfold iU
    rw [yz (k' := M.L.length) hkk (Nat.le_refl _) fun mm b1 b2 => uR fun hh => by
     have := filter_none hfil (mm - kk) (by rw [List.length_drop]; omega)
     rw [getD_drop, show kk + (mm - kk) = mm by omega] at this
     exact absurd this (by show ¬ (decide ((M.L.getD mm default).state ∈ [(3 : Int)]) = false); rw [show (M.L.getD mm default).state = 3 from hh.1]; decide)]
   rw [hall] at EG
   have hfin := (CS.of_below hbw0 : CS w w0 c t d p v g v g).trans hSr
   go_wp2_with fail
   go_end0
   have e9 := htn.out
   clear htn
   subst e9
   exact ⟨rfl, vr, gr, EG, hfin⟩
end
end Go.Proofs.YtnihdgcfamoplaaGreat

namespace Go.Proofs.YtnihdgcfamoplaaGreat
open Go.RowKit Go.Lib Go.Sort
theorem MG {w : World} {base base' : Nat} {e : TypeId} {sz n : Nat} {v : Value} {xs : List Value} (h : w.ownsRow base e sz v n xs) (hb : base' ≤ base) : w.ownsRow base' e sz v n xs := by
 obtain ⟨h0, h1⟩ := h
 refine ⟨h0, ?_⟩
 rcases h1 with h1 | ⟨g, cap, cur, e0, h2, h3, h4⟩
 ·exact .inl h1
 ·exact .inr ⟨g, cap, cur, e0, by omega, h3, h4⟩
theorem MH (v : Value) (l : List Jb) (w : World) (hr : aF ag 10 w v l) (hl : l.length ≤ 1000) : Calls Tryz.prog 63 #[v] w fun e w' => ∃ (v' : Value) (r : List Jb), e = .returned v' ∧ w'.ownsRow w.heap.size 63 10 v' r.length (r.flatMap ag) ∧ r.length = l.length ∧ r.Perm l ∧ r.Pairwise (fun x y => aJ y x = false) ∧ Below w.heap.size w w' := by
 have hc := Ct hr (by omega)
 have hso := fun (v : Value) (w1 : World) (h : w1.ownsRow w.heap.size 63 10 v l.length (l.flatMap ag)) (hb : w.heap.size ≤ w1.heap.size) => Ls v l w1 h (by omega) hb
 clear hr
 replace hso := Lib.hid hso
 go_enter Tryz.func63, Tryz.ntmps63
 go_wp2_with fail
 go_at_call 57
 refine hc.mono ?_
 clear hc
 rintro e w1 ⟨v1, rfl, ho, hb⟩
 have hs := hso.out v1 w1 ho hb.size
 clear hso ho
 go_wp2_with fail
 go_at_call 90
 refine hs.mono ?_
 clear hs
 rintro e w2 ⟨rfl, r, ⟨h1, _, h2, h5⟩, h3, h4⟩
 have hfin : Hid (∃ (v' : Value) (r : List Jb), Ending.returned v1 = .returned v' ∧ w2.ownsRow w.heap.size 63 10 v' r.length (r.flatMap ag) ∧ r.length = l.length ∧ r.Perm l ∧ r.Pairwise (fun x y => aJ y x = false) ∧ Below w.heap.size w w2) :=
  ⟨v1, r, rfl, h3, h1, h2, h5, hb.trans h4⟩
 clear h1 h2 h3 h4 h5 hb
 go_wp2_with fail
 go_ret
 exact hfin.out
section
variable {w w' : World} {p : Nat} {v : Value} {L : List Jb}
theorem EI (h : TV w p v L) (hL : L.length ≤ 1000) : Calls Tryz.prog 28 #[.pointer (some ⟨p, 0, none⟩)] w fun e w' => ∃ (v' : Value) (r : List Jb), e = .returned v' ∧ w'.ownsRow w.heap.size 63 10 v' r.length (r.flatMap ag) ∧ r.Perm (L.filter fun j => decide (j.state = 1)) ∧ r.Pairwise (fun x y => aJ y x = false) ∧ Below w.heap.size w w' := by
 have hb1 := (Below.refl w.heap.size w).alloc (Nat.le_refl _) (.cells #[.int .i64 1] 3)
 have hr : aF enc1 1 (w.alloc (.cells #[.int .i64 1] 3)) (.slice (some ⟨w.heap.size, 0, none⟩) 1 1) [1] := fV w w.heap.size [1] rfl (by decide)
 have hI := uH (h.kept hb1) hL hr
 have ef : (L.filter fun j => decide (j.state ∈ ([1] : List Int))) = L.filter fun j => decide (j.state = 1) := by
  congr 1
  funext j
  simp
 rw [ef] at hI
 have hF : (L.filter fun j => decide (j.state = 1)).length ≤ 1000 := Nat.le_trans (List.length_filter_le _ _) hL
 clear ef h hr
 generalize (L.filter fun j => decide (j.state = 1)) = F at *
 replace hb1 := Lib.hid hb1
 go_enter Tryz.func28, Tryz.ntmps28
 go_wp2_with fail
 go_at_call 64
 refine hI.mono ?_
 clear hI
 rintro e w2 ⟨v2, rfl, ho, hb⟩
 have hs := MH v2 F w2 (aF.jh ho ax rfl rfl) hF
 have hb2 := hb1.out.trans (hb.mono hb1.out.size)
 replace hb2 := Lib.hid hb2
 clear ho hb hb1
 go_wp2_with fail
 go_at_call 63
 refine hs.mono ?_
 clear hs
 rintro e w3 ⟨v3, r, rfl, h1, _, h2, h3, h4⟩
 have hfin : Hid (∃ (v' : Value) (r : List Jb), Ending.returned v3 = .returned v' ∧ w3.ownsRow w.heap.size 63 10 v' r.length (r.flatMap ag) ∧ r.Perm F ∧ r.Pairwise (fun x y => aJ y x = false) ∧ Below w.heap.size w w3) := ⟨v3, r, rfl, MG h1 hb2.out.size, h2, h3, hb2.out.trans (h4.mono hb2.out.size)⟩
 clear h1 h2 h3 h4 hb2
 go_wp2_with fail
 go_ret
 exact hfin.out
end
section
variable {w : World} {c t d p g a : Nat} {v : Value} {m : Int} {M : Md}
theorem GY (hrun : ∀ j ∈ M.L, j.st = 3 → M.now < j.fin) : aM M M.now M.dr.length = (((List.range M.dr.length).countP fun n : Nat => decide (aU M n = 1) : Nat) : Int) := by
 unfold aM
 congr 1
 refine List.countP_congr fun n hn => ?_
 have hn := List.mem_range.1 hn
 have hs := jA (M := M) hn
 unfold bT
 rcases fD M.L n with g | ⟨q, g, hq, g2⟩
 ·rw [decide_eq_true_iff, hs]
  simp [g]
 ·have hr : (M.L.getD q default).st = 3 := by unfold aK at g2; simp at g2; exact g2.1
  have := hrun _ (bg hq) hr
  rw [decide_eq_true_iff, hs, g, Int.toNat_natCast]
  have e1 : ¬ ((q : Int) < 0) := by omega
  have e2 : decide ((M.L.getD q default).fin ≤ M.now) = false := decide_eq_false (by omega)
  rw [e2, decide_eq_false e1, Bool.or_false, Bool.and_false]
  exact ⟨fun e => (nomatch e), fun e => absurd e.1 e1⟩
theorem MI (hI : aG M) (hrun : ∀ j ∈ M.L, j.st = 3 → M.now < j.fin) {f : Nat} (hf : f < M.L.length) (hd : dh M.now (M.L.getD f default) = true) : (M.L.getD f default).wid ≤ ((List.range M.dr.length).countP fun n : Nat => decide (aU M n = 1) : Nat) := by
 have hm := bg hf
 have bo := hI.one _ hm
 unfold dh at hd
 rw [Bool.and_eq_true, decide_eq_true_iff, aT] at hd
 have hpl : aj (M.L.getD f default) = true := aT.2 hd.1
 have hid := hI.ids f hf
 have hc := fun t => lF (t := t) (but := 0) hpl (by rw [hid]; omega)
 have h0 := hI.free M.now (Int.le_refl _)
 have hge := uA (L := M.L) (fun j hj => (hI.mb.wid j hj).1) M.now 0 hm
 rw [hc, if_pos (by omega)] at hge
 rw [← GY hrun]
 unfold az at h0
 omega
theorem GZ (hI : aG M) {f : Nat} (hf : f < M.L.length) (hs : (M.L.getD f default).st ≠ 3) (hidle : (M.L.getD f default).wid ≤ ((List.range M.dr.length).countP fun n : Nat => decide (aU M n = 1) : Nat)) : oW (dA M) (M.L.getD f default).wid (iy M (M.L.getD f default).wid) 0 (dA (aV M f)) := by
 have hw := (hI.one _ (bg hf)).1
 have hc : (M.L.getD f default).wid ≤ aQ (gT (dA M)) (dA M).length := by
  rw [qH, bB]
  have e : gT (dA M) = fun n : Nat => decide (aU M n = 1) := funext tC
  rw [e]; exact hidle
 have hT : oW (dA M) (M.L.getD f default).wid (aP (gV (dA M) (M.L.getD f default).wid)) 0 (eY (dA M) (M.L.getD f default).wid) := ⟨fun h => by omega, fun _ h => by omega, fun _ _ => ⟨rfl, rfl, rfl⟩⟩
 obtain ⟨e1, _, e3⟩ := Jy hf hs hI.mb.nn hw hidle hT
 rw [e1, e3] at hT
 exact hT
theorem yA (hI : aG M) {f : Nat} (hf : f < M.L.length) (hs : (M.L.getD f default).st = 1) : cu M.L (fZ M.now) (M.L.getD f default).id (fun j : Jb => decide (j.state = 1)) (kQ M.now (iy M (M.L.getD f default).wid : Int)) = (aV M f).L := by
 have hid := hI.ids f hf
 have jr := hI.mb.now
 have e2 : M.L[f]! = M.L.getD f default := by rw [getElem!_pos M.L f hf]; simp [List.getD, hf]
 have D9 : bM M.L (fZ M.now) (M.L.getD f default).id (fun j : Jb => decide (j.state = 1)) = 0 := by
  have e1 : fZ M.now = 0 := by unfold fZ; rw [if_neg (by omega), if_neg (by omega)]
  unfold bM
  rw [hid, e1, if_neg (by decide), if_neg (by omega), if_neg (by omega), show ((f : Int) + 1 - 1).toNat = f by omega, e2]
  exact if_pos (decide_eq_true hs)
 unfold cu
 rw [if_pos D9, hid, show ((f : Int) + 1 - 1).toNat = f by omega, e2]
 rfl
theorem MJ (f0 : Int → Int) (h : CW w c t d p v g a m { ak M with f := f0 }) (hI : aG M) (hrun : ∀ j ∈ M.L, j.st = 3 → M.now < j.fin) (n0 : Nat) (Fw : lu M ≤ n0) (h1 : 1 ≤ M.dr.length) (hll : M.L.length ≤ 900) (hf0 : ∀ u, M.now ≤ u → 0 ≤ f0 u ∧ f0 u ≤ 64) :
  Calls Tryz.prog 172 #[.pointer (some ⟨c, 0, none⟩), .int .i64 M.now] w (fq w c t d p v g a m (.tuple #[]) { ak (startGo n0 M) with f := f0 }) := by
 have zE := bG
 obtain ⟨k, hk⟩ : ∃ k, k = 10 := ⟨_, rfl⟩
 rw [← hk] at zE
 have hk0 : ¬ k = 0 := by omega
 replace hk := Lib.hid hk
 have hwt := EI h.fe (by show M.L.length ≤ 1000; omega)
 rw [show ({ ak M with f := f0 } : Pg).J = M.L from rfl] at hwt
 have c0 := h.c0
 have hlt : Hid (∀ k, dY c t d p v g k → k < w.heap.size) := fun k hk => h.lt hk
 have hC := Lib.hid h
 obtain ⟨tn, htn⟩ : ∃ tn, tn = M.now := ⟨_, rfl⟩
 obtain ⟨F, hF⟩ : ∃ F, F = startGo n0 M := ⟨_, rfl⟩
 rw [← hF]
 have hg0 : Hid (∀ {r : List Jb}, r.Perm (M.L.filter fun j => decide (j.state = 1)) → r.Pairwise (fun x y => aJ y x = false) → Going M F r) := fun {r} hp hs => by
  have hin : ∀ x ∈ r, x ∈ M.L := fun x hx => (List.mem_filter.1 (hp.mem_iff.1 hx)).1
  refine ⟨hI, hrun, ⟨n0, hF.symm, Fw⟩, fun x hx => ?_, fun q hq hd => ?_, hs, ?_, fun x hx => by have := (List.mem_filter.1 (hp.mem_iff.1 hx)).2; exact of_decide_eq_true this⟩
  ·obtain ⟨q, hq, e⟩ := List.getElem_of_mem (hin x hx)
   have e2 : M.L.getD q default = x := by simp [List.getD, hq, e]
   have := hI.ids q hq
   rw [e2] at this
   refine ⟨by omega, by omega, ?_⟩
   rw [show (x.id - 1).toNat = q by omega]
   exact e2
  ·refine hp.mem_iff.2 (List.mem_filter.2 ⟨bg hq, ?_⟩)
   unfold dh at hd
   rw [Bool.and_eq_true] at hd
   exact decide_eq_true (aT.1 hd.1).1
  ·refine (hp.pairwise_iff (fun {x y} hxy => Ne.symm hxy)).2 (List.Pairwise.filter _ ?_)
   refine List.pairwise_iff_getElem.2 fun i q hi hq hlt2 e => ?_
   have e1 := hI.ids i hi
   have e2 := hI.ids q hq
   rw [show M.L.getD i default = M.L[i] by simp [List.getD, hi]] at e1
   rw [show M.L.getD q default = M.L[q] by simp [List.getD, hq]] at e2
   omega
 have hM : Hid (∃ N : Md, N = M) := ⟨M, rfl⟩
 have hdl : Hid (1 ≤ M.dr.length ∧ M.dr.length ≤ 64) := ⟨h1, hI.mb.nn⟩
 have hlen : (M.L.filter fun j : Jb => decide (j.state = 1)).length ≤ 900 := Nat.le_trans (List.length_filter_le _ _) hll
 rw [← htn] at hf0 ⊢
 have htb := hI.mb.now
 rw [← htn] at htb
 clear h hrun Fw
 replace hF := Lib.hid hF
 replace htn := Lib.hid htn
 go_enter Tryz.func172, Tryz.ntmps172
 go_wp2_with fail
 go_at_call 28
 refine hwt.mono ?_
 clear hwt c0
 rintro e w0 ⟨u, l, rfl, ho, hp, hs, hb0⟩
 have hG0 := hg0.out hp hs
 have hC0 := hC.out.kept hb0
 have hn1 : l.length ≤ 900 := by rw [hp.length_eq]; exact hlen
 clear hp hs hlen hg0
 have hsh : Hid (∀ {ao : Option Addr} {n cap : Nat}, u = .slice ao n cap → 0 < l.length → ∃ g0, ao = some ⟨g0, 0, none⟩ ∧ w.heap.size ≤ g0) := fun {ao n cap} e hp => by
  obtain ⟨K6, cap', e0, hp'⟩ := gJ ho
  obtain ⟨g0, e4⟩ := hp' hp
  subst e4
  rw [e] at e0
  injection e0 with e0 _ _
  exact ⟨g0, e0, (ho.lt g0 (by rw [e, e0]; rfl)).1⟩
 have hr := aF.jh ho ax rfl rfl
 obtain ⟨ao, cap, rfl, q1, q2, q3⟩ := hr
 obtain ⟨n, hn⟩ : ∃ n, l.length = n := ⟨_, rfl⟩
 rw [hn] at q1 q3 hn1 ho ⊢
 have HQ : Hid (0 < n → ∃ b, ao = some ⟨b, 0, none⟩ ∧ mo w0 b 0 l ∧ w.heap.size ≤ b) := fun hp => by
  obtain ⟨b, off, e1, e2, e3⟩ := q3 hp
  obtain ⟨g0, e4, e5⟩ := hsh.out rfl (by have := hn; omega)
  rw [e4] at e1
  injection e1 with e1
  injection e1 with e6 e7
  subst e6; subst e7
  exact ⟨g0, e4, ⟨e2, e3⟩, e5⟩
 have Eb : cap ≤ 9223372036854775807 := by unfold maxLen at q2; omega
 replace hn := Lib.hid hn
 clear q2 q3 ho
 go_wp2_with fail
 go_loopw [12] (fun ii wr => ∃ (i : Nat) (N : Md) (vr : Value) (gr : Nat), i ≤ n ∧ ii = .int .i64 i ∧ CW wr c t d p vr gr a m { ak N with f := f0 } ∧ CS w0 wr c t d p v g vr gr ∧ Hid (Going N F (l.drop i) ∧ N.now = tn ∧ N.dr.length = M.dr.length ∧ N.L.length = M.L.length)) (fun ii _ => n - (intOf ii).toNat)
 case atStart => exact ⟨0, M, v, g, Nat.zero_le _, rfl, hC0, CS.refl _, Lib.hid ⟨by rw [List.drop_zero]; exact hG0, htn.out.symm, rfl, rfl⟩⟩
 case round =>
  obtain ⟨i, N, vr, gr, hin, rfl, EG, hSr, hgo⟩ := hrel
  by_cases hlt2 : i < n
  ·have b2 : (i : Int) < (n : Int) := by omega
   have wi : IntKind.i64.wrap ((i : Int) + 1) = (i : Int) + 1 := by rw [IntKind.wrap_i64]; omega
   obtain ⟨gb, rfl, hJ, hgb⟩ := HQ.out (by omega)
   have hgf : ¬ dY c t d p v g gb := fun hf => absurd (hlt.out gb hf) (by omega)
   have qX := hJ.off hSr hgf
   have iO : i < l.length := by have := hn.out; omega
   have LI := qX.load hk.out iO
   obtain ⟨x, hx⟩ : ∃ x, x = l[i]! := ⟨_, rfl⟩
   rw [← hx, Nat.zero_add] at LI
   replace hx := Lib.hid hx
   have hdrop : l.drop i = x :: l.drop (i + 1) := by rw [hx.out, getElem!_pos l i iO]; exact List.drop_eq_getElem_cons iO
   obtain ⟨sD, jr, hdr, QY⟩ := hgo.out
   rw [hdrop] at sD
   replace sD := Lib.hid sD
   clear hgo
   have lI := ax x
   rw [← hk.out] at lI
   have e8 : (ag x)[8]? = some (.int .i64 x.aD) := rfl
   have st := boxed wr x
   obtain ⟨w1, hw1⟩ : ∃ w1, w1 = wr.alloc (.cells (ag x).toArray 63) := ⟨_, rfl⟩
   have hb1 : Below wr.heap.size wr w1 := by rw [hw1]; exact (Below.refl _ _).alloc (Nat.le_refl _) _
   have hz1 : w1.heap[wr.heap.size]? = some (.cells (ag x).toArray 63 (0, 0)) := by rw [hw1]; exact heap_alloc_new wr _
   have c8 : w1.cell? ⟨wr.heap.size, 8, none⟩ = some (.int .i64 x.aD) := by simp [World.cell?, hz1, e8]
   have ld1 := eu hz1 lI
   replace hz1 := Lib.hid hz1
   have xe := EG.kept hb1
   have hS1 := hSr.trans (CS.of_below hb1)
   rw [← hw1] at st
   replace hw1 := Lib.hid hw1
   by_cases hpl : x.aD = tn
   ·have d1 : (x.aD == tn) = true := by simp [hpl]
    have Rx := sD.out.pend x (List.mem_cons_self ..)
    have hxd : dh N.now x = true := by
     unfold dh
     rw [aT.2 ⟨Rx, by omega⟩, jr, decide_eq_true hpl]
     rfl
    obtain ⟨a1, a2, a3⟩ := sD.out.next hxd
    obtain ⟨f, hf⟩ : ∃ f, f = (x.id - 1).toNat := ⟨_, rfl⟩
    rw [← hf] at a1 a2 a3
    have MK := sD.out.inv
    have UA := sD.out.run
    have Po := GZ MK a1 (by rw [a2]; omega) (MI MK UA a1 (by rw [a2]; exact hxd))
    have hbs := yA MK a1 (by rw [a2]; exact Rx)
    rw [a2] at Po hbs
    have hla := launch_fn xe (Pm MK (by rw [hdr]; exact h1) (by rw [QY]; exact hll) (by rw [jr]; exact hf0)) x (by have := MK.mb.wid x (by rw [← a2]; exact bg a1); omega) Po
    rw [show ({ ak N with f := f0 } : Pg).J = N.L from rfl, show ({ ak N with f := f0 } : Pg).now = N.now from rfl, hbs] at hla
    have Ps : (aV N f).L.length = M.L.length := by unfold aV; rw [List.length_set]; exact QY
    have Pt := Lib.hid (show Going (aV N f) F (l.drop (i + 1)) ∧ (aV N f).now = tn ∧ (aV N f).dr.length = M.dr.length ∧ (aV N f).L.length = M.L.length from ⟨a3, jr, hdr, Ps⟩)
    replace hpl := Lib.hid hpl
    replace hf := Lib.hid hf
    clear a1 a2 a3 Po hbs MK UA hxd Ps
    generalize ag x = cI at *
    go_wp2_with fail
    go_at_call 153
    refine hla.mono ?_
    clear hla
    rintro e w5 ⟨rfl, v5, g5, gu, hS5⟩
    have fU := hS1.trans hS5
    go_wp2_with fail
    go_roundw
    case rel => exact ⟨i + 1, aV N f, v5, g5, by omega, by go_num, (show CW _ _ _ _ _ _ _ _ _ { ak (aV N f) with f := f0 } from gu), fU, Pt⟩
    case measure => simp [intOf]; omega
   ·have d1 : (x.aD == tn) = false := by simp [hpl]
    have Pt := Lib.hid (show Going N F (l.drop (i + 1)) ∧ N.now = tn ∧ N.dr.length = M.dr.length ∧ N.L.length = M.L.length from ⟨sD.out.skip (by unfold dh; rw [jr, decide_eq_false hpl, Bool.and_false]), jr, hdr, QY⟩)
    generalize ag x = cI at *
    go_wp2_with fail
    go_roundw
    case rel => exact ⟨i + 1, N, vr, gr, by omega, by go_num, xe, hS1, Pt⟩
    case measure => simp [intOf]; omega
  ·have e : i = n := by omega
   subst e
   obtain ⟨sD, jr, hdr, QY⟩ := hgo.out
   have hend : l.drop i = [] := List.drop_eq_nil_of_le (by have := hn.out; omega)
   rw [hend] at sD
   have SN := sD.last
   have hfin := (CS.of_below hb0 : CS w w0 c t d p v g v g).trans hSr
   rw [← SN] at EG
   replace SN := Lib.hid SN
   go_wp2_with fail
   go_end0
   have e9 := htn.out
   clear htn
   exact ⟨rfl, vr, gr, EG, hfin⟩
end
end Go.Proofs.YtnihdgcfamoplaaGreat

namespace Go.Proofs.YtnihdgcfamoplaaGreat
open Go.RowKit Go.Lib Go.Sort
def JI (now : Int) (j : Jb) : List Int := [j.fin, j.aD].filter fun t => decide (now < t)
def qK (now : Int) (l : List Jb) : List Int := l.flatMap (JI now)
theorem Pv (now : Int) (j : Jb) : (JI now j).length ≤ 2 := Nat.le_trans (List.length_filter_le _ _) (by simp)
theorem Pw (now : Int) (l : List Jb) : (qK now l).length ≤ 2 * l.length := by
 unfold qK
 induction l with
 | nil => simp
 | cons a l ih => rw [List.flatMap_cons, List.length_append, List.length_cons]; have := Pv now a; omega
theorem Px : (Tryz.prog.info? 2).map (fun i => (i.zero, i.size, i.bytes)) = some (some (.int .i64 0), 1, 8) := by kernel_rfl
theorem ML (now : Int) {l : List Jb} {i : Nat} (hi : i < l.length) : qK now (l.take (i + 1)) = qK now (l.take i) ++ JI now l[i]! := by
 unfold qK
 rw [List.take_succ_eq_append_getElem hi, List.flatMap_append, getElem!_pos l i hi]
 simp
theorem AP (a b : List Int) : nV (a ++ b) = nV a ++ nV b := by simp [nV]
theorem Py (l : List Int) : nV l = l.flatMap fun x : Int => [Value.int .i64 x] := by
 induction l with
 | nil => rfl
 | cons a l ih => rw [List.flatMap_cons, ← ih]; rfl
theorem MM {w : World} {base : Nat} {v : Value} {n : Nat} {l : List Int} {e : TypeId} (h : w.ownsRow base e 1 v n (nV l)) (hn : n = l.length) (hf : ∀ z ∈ l, -9223372036854775808 ≤ z ∧ z ≤ 9223372036854775807) : oL w v l := by
 subst hn
 refine ⟨?_, hf⟩
 obtain ⟨ao, cap, rfl, hg⟩ := gJ h
 have hr : aF (fun x : Int => [Value.int .i64 x]) 1 w (.slice ao l.length cap) l := aF.jh h (fun _ => rfl) (Py l) rfl
 obtain ⟨K6, cap', e0, q1, q2, q3⟩ := hr
 injection e0 with e1 _ e2
 subst e1; subst e2
 refine ⟨ao, cap, rfl, q1, q2, fun hz => ?_⟩
 obtain ⟨b, off, e3, e4, e5⟩ := q3 (List.length_pos_iff.2 hz)
 refine ⟨b, off, e3, e4, fun i hi => ?_⟩
 have := (e5 i (l.getD i 0) 0 (.int .i64 (l.getD i 0)) (by simp [List.getD, hi]) rfl)
 simpa using this
section
variable {w : World} {c t d p g a : Nat} {v : Value} {m : Int} {P : Pg}
theorem CX (h : CW w c t d p v g a m P) (hk : PK P) (hfn : ∀ j ∈ P.J, -1 ≤ j.fin ∧ j.fin ≤ 1099512676352) (hpn : ∀ j ∈ P.J, -1 ≤ j.aD ∧ j.aD ≤ 1099511627776) :
  Calls Tryz.prog 169 #[.pointer (some ⟨c, 0, none⟩)] w fun e w' => e = .returned (.int .i64 (jZ (qK P.now (P.J.filter fun j : Jb => decide (j.state ∈ [(1 : Int), 3]))))) ∧ Below w.heap.size w w' := by
 have zE := bG
 obtain ⟨k, hk1⟩ : ∃ k, k = 10 := ⟨_, rfl⟩
 rw [← hk1] at zE
 have hk0 : ¬ k = 0 := by omega
 replace hk1 := Lib.hid hk1
 obtain ⟨i0, hi0, hz0, hz1, hz2⟩ := info_parts Px
 obtain ⟨wA, aB⟩ : ∃ wA, wA = w.alloc (.cells #[.int .i64 1, .int .i64 3] 3) := ⟨_, rfl⟩
 have bC : Below w.heap.size w wA := by rw [aB]; exact (Below.refl _ _).alloc (Nat.le_refl _) _
 have JH : aF enc1 1 wA (.slice (some ⟨w.heap.size, 0, none⟩) 2 2) [1, 3] := by rw [aB]; exact fV w w.heap.size [1, 3] rfl (by decide)
 have hin := uH (h.kept bC).fe (by have := hk.few; omega) JH
 have c0 := h.c0
 generalize hL1 : (P.J.filter fun j : Jb => decide (j.state ∈ [(1 : Int), 3])) = l at *
 have hn1 : l.length ≤ 900 := by rw [← hL1]; exact Nat.le_trans (List.length_filter_le _ _) hk.few
 have hmem : Hid (∀ i, i < l.length → l[i]! ∈ P.J) := fun i hi => by
  have h1 : l[i]! ∈ l := by rw [getElem!_pos l i hi]; exact List.getElem_mem _
  have h2 : l[i]! ∈ P.J.filter fun j : Jb => decide (j.state ∈ [(1 : Int), 3]) := hL1 ▸ h1
  exact (List.mem_filter.1 h2).1
 have hfit : Hid (∀ z ∈ qK P.now l, -9223372036854775808 ≤ z ∧ z ≤ 9223372036854775807) := fun z hz => by
  unfold qK at hz
  obtain ⟨j, hj, hz⟩ := List.mem_flatMap.1 hz
  rw [← hL1] at hj
  have hj := (List.mem_filter.1 hj).1
  have h1 := hfn j hj
  have h2 := hpn j hj
  have hz := (List.mem_filter.1 hz).1
  simp at hz
  rcases hz with rfl | rfl <;> omega
 have hC := Lib.hid (fun (W : World) (hW : Below w.heap.size w W) => h.kept hW)
 replace hL1 := Lib.hid hL1
 rw [aB] at hin
 clear h
 go_enter Tryz.func169, Tryz.ntmps169
 go_wp2_with fail
 go_at_call 64
 refine hin.mono ?_
 clear hin c0
 rw [← aB]
 rintro e w0 ⟨u, rfl, ho, hb0⟩
 have hbw0 : Below w.heap.size w w0 := bC.trans (hb0.mono bC.size)
 replace aB := Lib.hid aB
 have hr := aF.jh ho ax rfl rfl
 obtain ⟨ao, cap, rfl, q1, q2, q3⟩ := hr
 obtain ⟨n, hn⟩ : ∃ n, l.length = n := ⟨_, rfl⟩
 rw [hn] at q1 q3 hn1 ho ⊢
 have HQ : Hid (0 < n → ∃ b off, ao = some ⟨b, off, none⟩ ∧ mo w0 b off l) := fun hp => by
  obtain ⟨b, off, e1, e2, e3⟩ := q3 hp
  exact ⟨b, off, e1, e2, e3⟩
 have Eb : cap ≤ 9223372036854775807 := by unfold maxLen at q2; omega
 replace hn := Lib.hid hn
 clear q2 q3 ho hb0
 go_wp2_with fail
 go_loopw [3, 15] (fun tt ii wr => ∃ (i : Nat), i ≤ n ∧ ii = .int .i64 i ∧ wr.ownsRow w0.heap.size 2 1 tt (qK P.now (l.take i)).length (nV (qK P.now (l.take i))) ∧ Below w0.heap.size w0 wr) (fun _ ii _ => n - (intOf ii).toNat)
 case atStart => exact ⟨0, Nat.zero_le _, rfl, World.ownsRow_nil w0 w0.heap.size 2 1, Below.refl _ _⟩
 case round =>
  obtain ⟨i, hin, rfl, hown, hbr⟩ := hrel
  by_cases hlt2 : i < n
  ·have b2 : (i : Int) < (n : Int) := by omega
   have wi : IntKind.i64.wrap ((i : Int) + 1) = (i : Int) + 1 := by rw [IntKind.wrap_i64]; omega
   obtain ⟨gb, off, rfl, hJ⟩ := HQ.out (by omega)
   have qX := hJ.below hbr
   have iO : i < l.length := by have := hn.out; omega
   have LI := qX.load hk1.out iO
   have hsn := Lib.hid (ML P.now iO)
   have UB := Pw P.now (l.take i)
   rw [List.length_take] at UB
   have hxm := hmem.out i iO
   obtain ⟨x, hx⟩ : ∃ x, x = l[i]! := ⟨_, rfl⟩
   rw [← hx] at LI hsn hxm
   replace hx := Lib.hid hx
   obtain ⟨T, hT⟩ : ∃ T, T = qK P.now (l.take i) := ⟨_, rfl⟩
   rw [← hT] at hsn hown UB
   replace hT := Lib.hid hT
   have lI := ax x
   rw [← hk1.out] at lI
   have e7 : (ag x)[7]? = some (.int .i64 x.fin) := rfl
   have e8 : (ag x)[8]? = some (.int .i64 x.aD) := rfl
   have st := boxed wr x
   obtain ⟨w1, hw1⟩ : ∃ w1, w1 = wr.alloc (.cells (ag x).toArray 63) := ⟨_, rfl⟩
   have hb1 : Below w0.heap.size w0 w1 := by rw [hw1]; exact hbr.alloc hbr.size _
   have hown1 := hown.alloc (.cells (ag x).toArray 63)
   rw [← hw1] at hown1
   have hz1 : w1.heap[wr.heap.size]? = some (.cells (ag x).toArray 63 (0, 0)) := by rw [hw1]; exact heap_alloc_new wr _
   have c7 : w1.cell? ⟨wr.heap.size, 7, none⟩ = some (.int .i64 x.fin) := by simp [World.cell?, hz1, e7]
   have c8 : w1.cell? ⟨wr.heap.size, 8, none⟩ = some (.int .i64 x.aD) := by simp [World.cell?, hz1, e8]
   clear hz1 hown
   rw [← hw1] at st
   replace hw1 := Lib.hid hw1
   have Vx : Hid (JI P.now x = [x.fin, x.aD].filter fun t => decide (P.now < t)) := rfl
   generalize x.fin = xf at *
   generalize x.aD = xp at *
   generalize ag x = cI at *
   have V6 : ∀ W, Sem.run Tryz.prog (Instr.index 203 (.agg #[.int .i64 xf, .int .i64 xp]) (.int .i64 0)) W = .ok (.int .i64 xf) W := fun W => rfl
   have V7 : ∀ W, Sem.run Tryz.prog (Instr.index 203 (.agg #[.int .i64 xf, .int .i64 xp]) (.int .i64 1)) W = .ok (.int .i64 xp) W := fun W => rfl
   go_wp2_with fail
   go_loopw [3, 24] (fun tt mm ws => ∃ (q : Nat), q ≤ 2 ∧ mm = .int .i64 q ∧ ws.ownsRow w0.heap.size 2 1 tt (T ++ ([xf, xp].take q).filter fun t => decide (P.now < t)).length (nV (T ++ ([xf, xp].take q).filter fun t => decide (P.now < t))) ∧ Below w0.heap.size w0 ws) (fun _ mm _ => 2 - (intOf mm).toNat)
   case atStart => exact ⟨0, Nat.zero_le _, rfl, by simpa using hown1, hb1⟩
   case round =>
    obtain ⟨q, hq, rfl, hoq, hbq⟩ := hrel
    by_cases hq2 : q < 2
    ·have UC := hC.out wr (hbw0.trans (hbq.mono hbw0.size))
     have c2 := UC.c2
     have jr := fP UC
     obtain ⟨X, hX⟩ : ∃ X, X = T ++ ([xf, xp].take q).filter fun t => decide (P.now < t) := ⟨_, rfl⟩
     have TJ : X.length ≤ 2000 := by
      rw [hX, List.length_append]
      have := List.length_filter_le (fun t => decide (P.now < t)) ([xf, xp].take q)
      have h9 : ([xf, xp].take q).length ≤ 2 := by rw [List.length_take]; exact Nat.min_le_right _ _
      omega
     obtain ⟨y, hy⟩ : ∃ y, y = if q = 0 then xf else xp := ⟨_, rfl⟩
     have htk : Hid ((T ++ ([xf, xp].take (q + 1)).filter fun t => decide (P.now < t)) = X ++ [y].filter fun t => decide (P.now < t)) := by
      show _ = _
      rw [hX, hy]
      rcases (show q = 0 ∨ q = 1 by omega) with rfl | rfl
      ·rw [if_pos rfl, List.append_assoc, ← List.filter_append]; rfl
      ·rw [if_neg (by decide), List.append_assoc, ← List.filter_append]; rfl
     rw [← hX] at hoq
     replace hX := Lib.hid hX
     have UD : Hid (y = if q = 0 then xf else xp) := hy
     rcases (show q = 0 ∨ q = 1 by omega) with rfl | rfl
     ·clear hy
      have hyv := UD.out
      rw [if_pos rfl] at hyv
      subst hyv
      by_cases hgt : P.now < y
      ·have d1 : decide (y > P.now) = true := decide_eq_true hgt
       have hF : Hid ([y].filter (fun t => decide (P.now < t)) = [y]) := by show _ = _; simp [hgt]
       replace hgt := Lib.hid hgt
       go_wp2_with (first | (go_at_call 25; go_must (refine jr.mono ?_); rintro e w' ⟨rfl, rfl⟩) | (at_builtin; go_must (refine wpList_append_own _ rfl (.tmp 34) (.tmp 36) 133 rfl w0.heap.size 2 i0 (.int .i64 0) 1 8 Tryz.underlying133 hi0 hz0 hz1 hz2 rfl (by decide) u3 X.length (nV X) rfl (hoq.alloc _) ⟨wr.heap.size, 0, none⟩ 1 1 [.int .i64 y] rfl rfl ?_ ?_ ?_ ?_ ?_ ?_)))
       ·exact um (vs := [.int .i64 y]) rfl
       ·simp [Value.oneCell']
       ·unfold maxLen; omega
       ·omega
       ·have hh : ∀ o, (wr.alloc o).heap.size = wr.heap.size + 1 := fun o => by simp
        have hsz := hbq.size
        first | omega | (rw [hh]; omega)
       ·intro v' w2 hown3 hgrow _
        have hb2 : Below w0.heap.size w0 w2 := (hbq.alloc hbq.size _).grown hgrow (by
         have hh : ∀ o, (wr.alloc o).heap.size = wr.heap.size + 1 := fun o => by simp
         have hsz := hbq.size
         first | omega | (rw [hh]; omega)) (fun z hz => (hoq.lt z hz).1)
        have hfin : Hid (w2.ownsRow w0.heap.size 2 1 v' (T ++ ([y, xp].take (0 + 1)).filter fun t => decide (P.now < t)).length (nV (T ++ ([y, xp].take (0 + 1)).filter fun t => decide (P.now < t)))) := by
         show World.ownsRow _ _ _ _ _ _ _
         rw [htk.out, hF.out, AP, List.length_append]
         exact hown3
        clear hown3 hgrow hoq hbq
        go_wp2_with fail
        go_roundw
        case rel => exact ⟨1, by omega, by go_num, hfin.out, hb2⟩
        case measure => simp [intOf]
      ·have d1 : decide (y > P.now) = false := decide_eq_false hgt
       have hF : Hid ([y].filter (fun t => decide (P.now < t)) = []) := by show _ = _; simp [hgt]
       have hfin : Hid (wr.ownsRow w0.heap.size 2 1 u3 (T ++ ([y, xp].take (0 + 1)).filter fun t => decide (P.now < t)).length (nV (T ++ ([y, xp].take (0 + 1)).filter fun t => decide (P.now < t)))) := by
        show World.ownsRow _ _ _ _ _ _ _
        rw [htk.out, hF.out, List.append_nil]
        exact hoq
       replace hgt := Lib.hid hgt
       go_wp2_with (first | (go_at_call 25; go_must (refine jr.mono ?_); rintro e w' ⟨rfl, rfl⟩))
       go_roundw
       case rel => exact ⟨1, by omega, by go_num, hfin.out, hbq⟩
       case measure => simp [intOf]
     ·clear hy
      have hyv := UD.out
      rw [if_neg (by decide)] at hyv
      subst hyv
      by_cases hgt : P.now < y
      ·have d1 : decide (y > P.now) = true := decide_eq_true hgt
       have hF : Hid ([y].filter (fun t => decide (P.now < t)) = [y]) := by show _ = _; simp [hgt]
       replace hgt := Lib.hid hgt
       go_wp2_with (first | (go_at_call 25; go_must (refine jr.mono ?_); rintro e w' ⟨rfl, rfl⟩) | (at_builtin; go_must (refine wpList_append_own _ rfl (.tmp 34) (.tmp 36) 133 rfl w0.heap.size 2 i0 (.int .i64 0) 1 8 Tryz.underlying133 hi0 hz0 hz1 hz2 rfl (by decide) u3 X.length (nV X) rfl (hoq.alloc _) ⟨wr.heap.size, 0, none⟩ 1 1 [.int .i64 y] rfl rfl ?_ ?_ ?_ ?_ ?_ ?_)))
       ·exact um (vs := [.int .i64 y]) rfl
       ·simp [Value.oneCell']
       ·unfold maxLen; omega
       ·omega
       ·have hh : ∀ o, (wr.alloc o).heap.size = wr.heap.size + 1 := fun o => by simp
        have hsz := hbq.size
        first | omega | (rw [hh]; omega)
       ·intro v' w2 hown3 hgrow _
        have hb2 : Below w0.heap.size w0 w2 := (hbq.alloc hbq.size _).grown hgrow (by
         have hh : ∀ o, (wr.alloc o).heap.size = wr.heap.size + 1 := fun o => by simp
         have hsz := hbq.size
         first | omega | (rw [hh]; omega)) (fun z hz => (hoq.lt z hz).1)
        have hfin : Hid (w2.ownsRow w0.heap.size 2 1 v' (T ++ ([xf, y].take (1 + 1)).filter fun t => decide (P.now < t)).length (nV (T ++ ([xf, y].take (1 + 1)).filter fun t => decide (P.now < t)))) := by
         show World.ownsRow _ _ _ _ _ _ _
         rw [htk.out, hF.out, AP, List.length_append]
         exact hown3
        clear hown3 hgrow hoq hbq
        go_wp2_with fail
        go_roundw
        case rel => exact ⟨2, by omega, by go_num, hfin.out, hb2⟩
        case measure => simp [intOf]
      ·have d1 : decide (y > P.now) = false := decide_eq_false hgt
       have hF : Hid ([y].filter (fun t => decide (P.now < t)) = []) := by show _ = _; simp [hgt]
       have hfin : Hid (wr.ownsRow w0.heap.size 2 1 u3 (T ++ ([xf, y].take (1 + 1)).filter fun t => decide (P.now < t)).length (nV (T ++ ([xf, y].take (1 + 1)).filter fun t => decide (P.now < t)))) := by
        show World.ownsRow _ _ _ _ _ _ _
        rw [htk.out, hF.out, List.append_nil]
        exact hoq
       replace hgt := Lib.hid hgt
       go_wp2_with (first | (go_at_call 25; go_must (refine jr.mono ?_); rintro e w' ⟨rfl, rfl⟩))
       go_roundw
       case rel => exact ⟨2, by omega, by go_num, hfin.out, hbq⟩
       case measure => simp [intOf]
    ·obtain rfl : q = 2 := by omega
     have hfin : Hid (wr.ownsRow w0.heap.size 2 1 u3 (qK P.now (l.take (i + 1))).length (nV (qK P.now (l.take (i + 1))))) := by
      show World.ownsRow _ _ _ _ _ _ _
      rw [hsn.out, Vx.out]
      exact hoq
     go_wp2_with fail
     go_roundw
     case rel => exact ⟨i + 1, by omega, by go_num, hfin.out, hbq⟩
     case measure => simp [intOf]; omega
  ·have e : i = n := by omega
   subst e
   have e1 : l.take i = l := List.take_of_length_le (by rw [hn.out]; exact Nat.le_refl _)
   rw [e1] at hown
   have hle := Jz u3 (qK P.now l) wr (MM hown rfl hfit.out)
   have hfin := hbw0.trans (hbr.mono hbw0.size)
   replace e1 := Lib.hid e1
   go_wp2_with (go_at_call 184; go_must (refine hle.mono ?_); rintro e w' ⟨rfl, rfl⟩)
   go_ret
   exact ⟨rfl, hfin⟩
end
end Go.Proofs.YtnihdgcfamoplaaGreat

namespace Go.Proofs.YtnihdgcfamoplaaGreat
open Go.RowKit Go.Lib Go.Sort
def CY (n : Int) (j : Jb) : Bool := qQ j.bN.toNat n
def kg (L : List Jb) (n : Int) : Jb := match L.findIdx? (fun j => decide (j.state ∈ [(3 : Int)]) && CY n j) with | some i => L.getD i default | none => gW
section
variable {w : World} {c t d p g a : Nat} {v : Value} {m : Int} {P : Pg}
theorem G5 (h : CW w c t d p v g a m P) (hll : P.J.length ≤ 900) (hnd : ∀ j ∈ P.J, 0 ≤ j.bN ∧ j.bN ≤ 18446744073709551615) (x : Int) (hx : -9223372036854775808 ≤ x ∧ x ≤ 9223372036854775807) :
  Calls Tryz.prog 182 #[.pointer (some ⟨c, 0, none⟩), .int .i64 x] w fun e w' => e = .returned (.agg (ag (kg P.J x)).toArray) ∧ Below w.heap.size w w' := by
 have zE := bG
 obtain ⟨k, hk⟩ : ∃ k, k = 10 := ⟨_, rfl⟩
 rw [← hk] at zE
 have hk0 : ¬ k = 0 := by omega
 replace hk := Lib.hid hk
 obtain ⟨wA, aB⟩ : ∃ wA, wA = w.alloc (.cells #[.int .i64 0, .int .i64 0, .int .i64 0, .int .i64 0, .int .i64 0, .int .i64 0, .int .i64 0, .int .i64 0, .int .i64 0, .int .u64 0] 63) := ⟨_, rfl⟩
 have bC : Hid (Below w.heap.size w wA) := by show Below _ _ _; rw [aB]; exact (Below.refl _ _).alloc (Nat.le_refl _) _
 have hsA : wA.heap.size = w.heap.size + 1 := by rw [aB]; simp
 have SA : Hid (wA.heap[w.heap.size]? = some (.cells (ag gW).toArray 63 (0, 0))) := by show _ = _; rw [aB]; exact heap_alloc_new w _
 have hA := h.kept bC.out
 have hno := kW hA
 obtain ⟨wB, yN⟩ : ∃ wB, wB = wA.alloc (.cells #[.int .i64 3] 3) := ⟨_, rfl⟩
 have MN : Below wA.heap.size wA wB := by rw [yN]; exact (Below.refl _ _).alloc (Nat.le_refl _) _
 have Vy : aF enc1 1 wB (.slice (some ⟨w.heap.size + 1, 0, none⟩) 1 1) [3] := by rw [← hsA, yN]; exact fV wA wA.heap.size [3] rfl (by decide)
 have hin := uH (hA.kept MN).fe (by omega) Vy
 have c0 := hA.c0
 generalize hL1 : (P.J.filter fun j : Jb => decide (j.state ∈ [(3 : Int)])) = l at *
 have hn1 : l.length ≤ 900 := by rw [← hL1]; exact Nat.le_trans (List.length_filter_le _ _) hll
 have hmem : Hid (∀ i, i < l.length → l[i]! ∈ P.J) := fun i hi => by
  have h1 : l[i]! ∈ l := by rw [getElem!_pos l i hi]; exact List.getElem_mem _
  have h2 : l[i]! ∈ P.J.filter fun j : Jb => decide (j.state ∈ [(3 : Int)]) := hL1 ▸ h1
  exact (List.mem_filter.1 h2).1
 replace hL1 := Lib.hid hL1
 rw [aB] at hno c0
 rw [yN, aB] at hin
 clear h
 go_enter Tryz.func182, Tryz.ntmps182
 go_wp2_with (first | (go_at_call 51; go_must (refine hno.mono ?_); rintro e w' ⟨rfl, rfl⟩))
 go_at_call 64
 refine hin.mono ?_
 clear hin hno c0
 rw [← aB, ← yN]
 rintro e w0 ⟨u, rfl, ho, hb0⟩
 have hbw0 : Hid (Below w.heap.size w w0) := bC.out.trans ((MN.trans (hb0.mono MN.size)).mono bC.out.size)
 have hx0 : w0.heap[w.heap.size]? = some (.cells (ag gW).toArray 63 (0, 0)) := (hb0.block _ (by have := MN.size; omega)).trans ((MN.block _ (by omega)).trans SA.out)
 have hsz0 : w.heap.size < w0.heap.size := ay hx0
 replace aB := Lib.hid aB
 replace yN := Lib.hid yN
 have hr := aF.jh ho ax rfl rfl
 obtain ⟨ao, cap, rfl, q1, q2, q3⟩ := hr
 obtain ⟨n, hn⟩ : ∃ n, l.length = n := ⟨_, rfl⟩
 rw [hn] at q1 q3 hn1 ⊢
 have HQ : Hid (0 < n → ∃ b off, ao = some ⟨b, off, none⟩ ∧ mo w0 b off l) := fun hp => by
  obtain ⟨b, off, e1, e2, e3⟩ := q3 hp
  exact ⟨b, off, e1, e2, e3⟩
 have Eb : cap ≤ 9223372036854775807 := by unfold maxLen at q2; omega
 replace hn := Lib.hid hn
 clear q2 q3 ho hb0 MN
 go_wp2_with fail
 go_loopw [17] (fun ii wr => ∃ (i : Nat), i ≤ n ∧ ii = .int .i64 i ∧ Below w0.heap.size w0 wr ∧ Hid (∀ j, j < i → CY x l[j]! = false)) (fun ii _ => n - (intOf ii).toNat)
 case atStart => exact ⟨0, Nat.zero_le _, rfl, Below.refl _ _, Lib.hid fun j hj => absurd hj (Nat.not_lt_zero _)⟩
 case round =>
  obtain ⟨i, hin, rfl, hbr, hno⟩ := hrel
  have pW : wr.heap[w.heap.size]? = some (.cells (ag gW).toArray 63 (0, 0)) := (hbr.block _ hsz0).trans hx0
  have Pz := hbw0.out.trans (hbr.mono (Nat.le_of_lt hsz0))
  by_cases hlt2 : i < n
  ·have b2 : (i : Int) < (n : Int) := by omega
   have wi : IntKind.i64.wrap ((i : Int) + 1) = (i : Int) + 1 := by rw [IntKind.wrap_i64]; omega
   obtain ⟨gb, off, rfl, hJ⟩ := HQ.out (by omega)
   have qX := hJ.below hbr
   have iO : i < l.length := by have := hn.out; omega
   have LI := qX.load hk.out iO
   have hxm := hmem.out i iO
   obtain ⟨y, hy⟩ : ∃ y, y = l[i]! := ⟨_, rfl⟩
   rw [← hy] at LI hxm
   replace hy := Lib.hid hy
   have lI := ax y
   have hny := hnd y hxm
   rw [← hk.out] at lI
   have st : Sem.run Tryz.prog (storeCells ⟨wr.heap.size, 0, none⟩ (ag y) 0) (wr.alloc (.cells #[.int .i64 0, .int .i64 0, .int .i64 0, .int .i64 0, .int .i64 0, .int .i64 0, .int .i64 0, .int .i64 0, .int .i64 0, .int .u64 0] 63)) = .ok () (wr.alloc (.cells (ag y).toArray 63)) := dD wr wr.heap.size (ag y) (ag gW) 63 rfl rfl (dJ y)
   obtain ⟨w1, hw1⟩ : ∃ w1, w1 = wr.alloc (.cells (ag y).toArray 63) := ⟨_, rfl⟩
   have hb1 : Below wr.heap.size wr w1 := by rw [hw1]; exact (Below.refl _ _).alloc (Nat.le_refl _) _
   have hz1 : w1.heap[wr.heap.size]? = some (.cells (ag y).toArray 63 (0, 0)) := by rw [hw1]; exact heap_alloc_new wr _
   have WN := hbr.size
   have hx1 : w1.heap[w.heap.size]? = some (.cells (ag gW).toArray 63 (0, 0)) := (hb1.block _ (by omega)).trans pW
   have ld1 := eu hz1 lI
   have c9 : w1.cell? ⟨wr.heap.size, 9, none⟩ = some (.int .u64 y.bN) := by simp [World.cell?, hz1]; rfl
   have hhas := sU y.bN.toNat (by omega) x w1 hx
   rw [show ((y.bN.toNat : Nat) : Int) = y.bN by omega] at hhas
   have JS : Sem.run Tryz.prog (storeCells ⟨w.heap.size, 0, none⟩ (ag y) 0) w1 = .ok () (w1.setRow w.heap.size (ag y).toArray) := nH hx1
   have hx2 := vO hx1 (ag y).toArray
   have SB := Lib.hid (show (ag y).toArray.size = 10 from rfl)
   have hb2 : Below w.heap.size w (w1.setRow w.heap.size (ag y).toArray) := qa (Pz.trans (hb1.mono Pz.size)) (Nat.le_refl _) _
   generalize hcI : ag y = cI at *
   replace hcI := Lib.hid hcI
   rw [← hw1] at st
   replace hw1 := Lib.hid hw1
   replace hz1 := Lib.hid hz1
   cases hP : qQ y.bN.toNat x with
   | false =>
    rw [hP] at hhas
    go_wp2_with (go_at_call 86; go_must (refine hhas.mono ?_); rintro e w' ⟨rfl, rfl⟩)
    go_roundw
    case rel => exact ⟨i + 1, by omega, by go_num, hbr.trans (hb1.mono hbr.size), Lib.hid fun j hj => by
     rcases Nat.lt_succ_iff_lt_or_eq.1 hj with h5 | h5
     ·exact hno.out j h5
     ·subst h5; rw [← hy.out]; exact hP⟩
    case measure => simp [intOf]; omega
   | true =>
    rw [hP] at hhas
    obtain ⟨f, hf1, hf2, hf3⟩ := CQ (q := fun j : Jb => decide (j.state ∈ [(3 : Int)])) (p := CY x) (L := P.J) (i := i) (by rw [hL1.out]; exact iO) (fun j hj => by rw [hL1.out]; exact hno.out j hj) (by rw [hL1.out, ← hy.out]; exact hP)
    rw [hL1.out, ← hy.out] at hf3
    have hres : Hid (kg P.J x = y) := by show _ = _; unfold kg; rw [hf1]; exact hf3
    go_wp2_with (go_at_call 86; go_must (refine hhas.mono ?_); rintro e w' ⟨rfl, rfl⟩)
    refine fB rfl rfl rfl hx2 Tryz.underlying63 rfl (by rw [SB.out]; kernel_rfl) ⟨?_, hb2⟩
    rw [hres.out, hcI.out]
  ·have e : i = n := by omega
   subst e
   have hfi := Gy (q := fun j : Jb => decide (j.state ∈ [(3 : Int)])) (p := CY x) (L := P.J) (fun j hj => by rw [hL1.out]; exact hno.out j (by rw [← hn.out]; rw [hL1.out] at hj; exact hj))
   have hres : Hid (kg P.J x = gW) := by show _ = _; unfold kg; rw [hfi]
   obtain ⟨k0, f0, s0⟩ := bF pW 0 (.int .i64 0) rfl
   obtain ⟨k1, f1, s1⟩ := bF pW 1 (.int .i64 0) rfl
   obtain ⟨k2, f2, s2⟩ := bF pW 2 (.int .i64 0) rfl
   obtain ⟨k3, f3, s3⟩ := bF pW 3 (.int .i64 0) rfl
   obtain ⟨k4, f4, s4⟩ := bF pW 4 (.int .i64 0) rfl
   obtain ⟨k5, f5, s5⟩ := bF pW 5 (.int .i64 0) rfl
   obtain ⟨k6, f6, s6⟩ := bF pW 6 (.int .i64 0) rfl
   obtain ⟨k7, f7, s7⟩ := bF pW 7 (.int .i64 0) rfl
   obtain ⟨k8, f8, s8⟩ := bF pW 8 (.int .i64 0) rfl
   obtain ⟨k9, f9, s9⟩ := bF pW 9 (.int .u64 0) rfl
   obtain rfl := hk.out
   replace pW := Lib.hid pW
   go_wp2_with fail
   refine fB rfl rfl rfl pW.out Tryz.underlying63 rfl (by kernel_rfl) ⟨?_, Pz⟩
   rw [hres.out]
end
end Go.Proofs.YtnihdgcfamoplaaGreat

namespace Go.Proofs.YtnihdgcfamoplaaGreat
open Go.RowKit Go.Lib Go.Sort
theorem uT {L : List Jb} {e0 id : Int} {ok : Jb → Bool} {ch : Jb → Jb} (h : bM L e0 id ok ≠ 0) : cu L e0 id ok ch = L := by unfold cu; rw [if_neg h]
section
variable {w : World} {b c t d p g a : Nat} {v : Value} {m : Int} {P : Pg} {R : Wk}
theorem CZ (h : SW w b c t d p v g a m R P) (e1 : Int) (he1 : e1 ≠ 0) (hE : bM P.J 0 R.ah.id (fun j : Jb => decide (j.state = 1)) = e1) :
  Calls Tryz.prog 121 #[.pointer (some ⟨b, 0, none⟩), .pointer (some ⟨c, 0, none⟩)] w (au w b c t d p v g a m .nilFunc { ({ R with aC := bH P.J R.ah.id } : Wk) with rep := jQ e1, ok := false } P) := by
 have zJ := bG
 obtain ⟨k, hk1⟩ : ∃ k, k = 10 := ⟨_, rfl⟩
 rw [← hk1] at zJ
 have hk0 : ¬ k = 0 := by omega
 have hS := Lib.hid h
 have hcon := fun (W : World) (v1 : Value) (g1 : Nat) (R1 : Wk) (hW : SW W b c t d p v1 g1 a m R1 P) => CG hW.cw R.ah.id
 obtain ⟨L1, hL1⟩ : ∃ L1, L1 = cu P.J 0 R.ah.id (fun j : Jb => decide (j.state = 1)) oU := ⟨_, rfl⟩
 have hL2 : L1 = P.J := hL1.trans (uT (by rw [hE]; exact he1))
 rw [← hL1, hE, hL2, show ({ P with J := P.J } : Pg) = P from rfl] at hcon
 have d0 : (e1 != 0) = true := by simp [he1]
 replace hL2 := Lib.hid hL2
 replace he1 := Lib.hid he1
 replace hE := Lib.hid hE
 replace hL1 := Lib.hid hL1
 have hget := gq h.drew.cw.fe R.ah.id
 unfold gZ at hget
 obtain ⟨x, hx⟩ : ∃ x, x = bH P.J R.ah.id := ⟨_, rfl⟩
 rw [← hx] at hget
 rw [← hx]
 replace hx := Lib.hid hx
 have lJ := ax x
 rw [← hk1] at lJ
 have hj := fun (W : World) (hW : SW W b c t d p v g a m R P) => hW.wk.su x
 generalize ag x = cJ at *
 have c0 := h.cw.c0
 have q1 := h.wk.at 1 (.int .i64 R.ah.id) rfl
 obtain ⟨W9, jR⟩ : ∃ W9, W9 = gm { R with aC := x } := ⟨_, rfl⟩
 rw [← jR] at hj
 replace jR := Lib.hid jR
 replace hk1 := Lib.hid hk1
 clear h
 go_enter Tryz.func121, Tryz.ntmps121
 go_wp2_with fail
 go_region_with (go_at_call 33; go_must (refine hget.mono ?_); rintro e w' ⟨rfl, hgr⟩; have qL := hS.out.drew.kept hgr.below; obtain ⟨yR, oO⟩ := hj w' qL)
 all_goals
  have fU := qL.work oO (cz w' W9.toArray)
  have hfr : WS w (w'.setRow b W9.toArray) b c t d p v g v g := ((WS.of_below hgr.below : WS w.drew w' b c t d p v g v g).trans (WS.bD (cz w' W9.toArray))).xq
  clear yR oO qL hgr hget c0 q1
  generalize w'.setRow b W9.toArray = w9 at *
  replace fU := Lib.hid fU
  go_wp2_with fail
  refine Reg2.rd w9 9 45 [[],[ae],[ae,ae],[ae,ae,ae],[af,af,af,af],[af,af,af,af,ae],[af,af,af,af,ae,ae],[af,af,af,af,ae,ae,ae],[af,af,af,af,ae,ae,ae,ae]] [0, 0, 0, 1, 0, 0, 0, 0, 1] [.pure, .pure, .pure, .mU (.pointer (some ⟨t, 0, none⟩)), .pure, .pure, .pure, .pure, .mU (.int .i64 R.ah.id)] (by kernel_rfl) (by kernel_rfl) rfl rfl ⟨trivial, trivial, trivial, Reg2.tt, trivial, trivial, trivial, trivial, Reg2.tt, trivial⟩ ⟨rfl, rfl, rfl, Nat.le_refl _, fun _ _ => rfl⟩ ?_
  dsimp only [Reg2.mk, List.zip, List.zipWith, List.take]
  repeat (refine' Reg2.ai _ (by rfl) (fun wz => ?_) ?_; rotate_left; (go_simp; first | rfl | rw [if_neg (by omega)]); simp only [Act.put, xA, xB, xC]; (try simp only [xD]); (try simp only [xE]); (try simp only [id]))
  refine Reg2.pm (fun wz hI hF => ?_) (fun r3 => ?_) (by rfl)
  ·have c0 := (fU.out.cw.kept hI).c0
   go_wp2_with fail
   first | exact ⟨_, rfl, rfl, Reg2.Ext.refl _⟩ | exact ⟨_, rfl, ⟨(), rfl, trivial⟩, Reg2.Ext.refl _⟩
  simp only [Act.put, xA, xB, xC]; (try simp only [xD]); (try simp only [xE]); (try simp only [id])
  repeat (refine' Reg2.ai _ (by rfl) (fun wz => ?_) ?_; rotate_left; (go_simp; first | rfl | rw [if_neg (by omega)]); simp only [Act.put, xA, xB, xC]; (try simp only [xD]); (try simp only [xE]); (try simp only [id]))
  refine Reg2.pm (fun wz hI hF => ?_) (fun r8 => ?_) (by rfl)
  ·have q0 := (fU.out.kept hI).wk.at 1 (.int .i64 R.ah.id) rfl
   go_wp2_with fail
   first | exact ⟨_, rfl, rfl, Reg2.Ext.refl _⟩ | exact ⟨_, rfl, ⟨(), rfl, trivial⟩, Reg2.Ext.refl _⟩
  simp only [Act.put, xA, xB, xC]; (try simp only [xD]); (try simp only [xE]); (try simp only [id])
  refine Reg2.aA ?_
  intro w4 HI4 _ dI
  clear dI
  dsimp only [List.drop]
  have bI := fU.out.kept HI4
  have hc4 := hcon w4 _ _ _ bI
  go_wp2_with fail
  go_at_call 141
  refine hc4.mono ?_
  clear hc4
  rintro e w5 ⟨rfl, v5, g5, gu, hS5⟩
  have eH := bI.core gu hS5
  have sF := (hfr.trans (WS.of_below HI4)).trans (WS.dC hS5)
  have hf := ik eH.wk e1
  go_wp2_with (go_at_call 95; go_must (refine hf.mono ?_); rintro e w8 ⟨rfl, dS, fT⟩)
  go_ret
  exact ⟨rfl, v5, g5, eH.work dS fT, sF.trans (WS.bD fT)⟩
theorem PD (h : SW w b c t d p v g a m R P) (hE : bM P.J 0 R.ah.id (fun j : Jb => decide (j.state = 1)) = 0) :
  Calls Tryz.prog 121 #[.pointer (some ⟨b, 0, none⟩), .pointer (some ⟨c, 0, none⟩)] w (au w b c t d p v g a m (fH 142) { R with aC := bH P.J R.ah.id, rep := iG (bH (cu P.J 0 R.ah.id (fun j : Jb => decide (j.state = 1)) oU) R.ah.id) } { P with J := cu P.J 0 R.ah.id (fun j : Jb => decide (j.state = 1)) oU }) := by
 have zJ := bG
 obtain ⟨k, hk1⟩ : ∃ k, k = 10 := ⟨_, rfl⟩
 rw [← hk1] at zJ
 have hk0 : ¬ k = 0 := by omega
 have hS := Lib.hid h
 have hcon := fun (W : World) (v1 : Value) (g1 : Nat) (R1 : Wk) (hW : SW W b c t d p v1 g1 a m R1 P) => CG hW.cw R.ah.id
 obtain ⟨L1, hL1⟩ : ∃ L1, L1 = cu P.J 0 R.ah.id (fun j : Jb => decide (j.state = 1)) oU := ⟨_, rfl⟩
 rw [← hL1]
 rw [← hL1, hE] at hcon
 replace hE := Lib.hid hE
 replace hL1 := Lib.hid hL1
 have hget := gq h.drew.cw.fe R.ah.id
 unfold gZ at hget
 obtain ⟨x, hx⟩ : ∃ x, x = bH P.J R.ah.id := ⟨_, rfl⟩
 rw [← hx] at hget
 rw [← hx]
 replace hx := Lib.hid hx
 have lJ := ax x
 rw [← hk1] at lJ
 have hj := fun (W : World) (hW : SW W b c t d p v g a m R P) => hW.wk.su x
 generalize ag x = cJ at *
 have c0 := h.cw.c0
 have q1 := h.wk.at 1 (.int .i64 R.ah.id) rfl
 obtain ⟨W9, jR⟩ : ∃ W9, W9 = gm { R with aC := x } := ⟨_, rfl⟩
 rw [← jR] at hj
 replace jR := Lib.hid jR
 replace hk1 := Lib.hid hk1
 clear h
 go_enter Tryz.func121, Tryz.ntmps121
 go_wp2_with fail
 go_region_with (go_at_call 33; go_must (refine hget.mono ?_); rintro e w' ⟨rfl, hgr⟩; have qL := hS.out.drew.kept hgr.below; obtain ⟨yR, oO⟩ := hj w' qL)
 all_goals
  have fU := qL.work oO (cz w' W9.toArray)
  have hfr : WS w (w'.setRow b W9.toArray) b c t d p v g v g := ((WS.of_below hgr.below : WS w.drew w' b c t d p v g v g).trans (WS.bD (cz w' W9.toArray))).xq
  clear yR oO qL hgr hget c0 q1
  generalize w'.setRow b W9.toArray = w9 at *
  replace fU := Lib.hid fU
  go_wp2_with fail
  refine Reg2.rd w9 9 45 [[],[ae],[ae,ae],[ae,ae,ae],[af,af,af,af],[af,af,af,af,ae],[af,af,af,af,ae,ae],[af,af,af,af,ae,ae,ae],[af,af,af,af,ae,ae,ae,ae]] [0, 0, 0, 1, 0, 0, 0, 0, 1] [.pure, .pure, .pure, .mU (.pointer (some ⟨t, 0, none⟩)), .pure, .pure, .pure, .pure, .mU (.int .i64 R.ah.id)] (by kernel_rfl) (by kernel_rfl) rfl rfl ⟨trivial, trivial, trivial, Reg2.tt, trivial, trivial, trivial, trivial, Reg2.tt, trivial⟩ ⟨rfl, rfl, rfl, Nat.le_refl _, fun _ _ => rfl⟩ ?_
  dsimp only [Reg2.mk, List.zip, List.zipWith, List.take]
  repeat (refine' Reg2.ai _ (by rfl) (fun wz => ?_) ?_; rotate_left; (go_simp; first | rfl | rw [if_neg (by omega)]); simp only [Act.put, xA, xB, xC]; (try simp only [xD]); (try simp only [xE]); (try simp only [id]))
  refine Reg2.pm (fun wz hI hF => ?_) (fun r3 => ?_) (by rfl)
  ·have c0 := (fU.out.cw.kept hI).c0
   go_wp2_with fail
   first | exact ⟨_, rfl, rfl, Reg2.Ext.refl _⟩ | exact ⟨_, rfl, ⟨(), rfl, trivial⟩, Reg2.Ext.refl _⟩
  simp only [Act.put, xA, xB, xC]; (try simp only [xD]); (try simp only [xE]); (try simp only [id])
  repeat (refine' Reg2.ai _ (by rfl) (fun wz => ?_) ?_; rotate_left; (go_simp; first | rfl | rw [if_neg (by omega)]); simp only [Act.put, xA, xB, xC]; (try simp only [xD]); (try simp only [xE]); (try simp only [id]))
  refine Reg2.pm (fun wz hI hF => ?_) (fun r8 => ?_) (by rfl)
  ·have q0 := (fU.out.kept hI).wk.at 1 (.int .i64 R.ah.id) rfl
   go_wp2_with fail
   first | exact ⟨_, rfl, rfl, Reg2.Ext.refl _⟩ | exact ⟨_, rfl, ⟨(), rfl, trivial⟩, Reg2.Ext.refl _⟩
  simp only [Act.put, xA, xB, xC]; (try simp only [xD]); (try simp only [xE]); (try simp only [id])
  refine Reg2.aA ?_
  intro w4 HI4 _ dI
  clear dI
  dsimp only [List.drop]
  have bI := fU.out.kept HI4
  have hc4 := hcon w4 _ _ _ bI
  go_wp2_with fail
  go_at_call 141
  refine hc4.mono ?_
  clear hc4
  rintro e w5 ⟨rfl, v5, g5, gu, hS5⟩
  have eH := bI.core gu hS5
  have sF := (hfr.trans (WS.of_below HI4)).trans (WS.dC hS5)
  have jS := nA eH R.ah.id
  have q1 := eH.wk.at 1 (.int .i64 R.ah.id) rfl
  go_wp2_with fail
  go_at_call 114
  refine jS.mono ?_
  clear jS
  rintro e w8 ⟨rfl, dS, fT⟩
  have gB := eH.work dS fT
  have JJ := sF.trans (WS.bD fT)
  go_wp2_with fail
  go_ret
  exact ⟨rfl, v5, g5, gB, JJ⟩
theorem vS (h : SW w b c t d p v g a m R P) (e1 : Int) (he1 : e1 ≠ 0) (hE : bM P.J 0 R.ah.id (fun j : Jb => decide (j.state = 2)) = e1) :
  Calls Tryz.prog 122 #[.pointer (some ⟨b, 0, none⟩), .pointer (some ⟨c, 0, none⟩)] w (au w b c t d p v g a m .nilFunc { R with rep := jQ e1, ok := false } P) := by
 have zJ := bG
 obtain ⟨k, hk1⟩ : ∃ k, k = 10 := ⟨_, rfl⟩
 rw [← hk1] at zJ
 have hk0 : ¬ k = 0 := by omega
 have hS := Lib.hid h
 have hcon := fun (W : World) (v1 : Value) (g1 : Nat) (R1 : Wk) (hW : SW W b c t d p v1 g1 a m R1 P) => CJ hW.cw R.ah.id
 obtain ⟨L1, hL1⟩ : ∃ L1, L1 = cu P.J 0 R.ah.id (fun j : Jb => decide (j.state = 2)) nS := ⟨_, rfl⟩
 have hL2 : L1 = P.J := hL1.trans (uT (by rw [hE]; exact he1))
 rw [← hL1, hE, hL2, show ({ P with J := P.J } : Pg) = P from rfl] at hcon
 have d0 : (e1 != 0) = true := by simp [he1]
 replace hL2 := Lib.hid hL2
 replace he1 := Lib.hid he1
 replace hE := Lib.hid hE
 replace hL1 := Lib.hid hL1
 replace hk1 := Lib.hid hk1
 clear h
 go_enter Tryz.func122, Tryz.ntmps122
 go_wp2_with fail
 have fU := Lib.hid hS.out
 have hfr : WS w w b c t d p v g v g := WS.refl _
 refine Reg2.rd w 9 32 [[],[ae],[ae,ae],[ae,ae,ae],[af,af,af,af],[af,af,af,af,ae],[af,af,af,af,ae,ae],[af,af,af,af,ae,ae,ae],[af,af,af,af,ae,ae,ae,ae]] [0, 0, 0, 1, 0, 0, 0, 0, 1] [.pure, .pure, .pure, .mU (.pointer (some ⟨t, 0, none⟩)), .pure, .pure, .pure, .pure, .mU (.int .i64 R.ah.id)] (by kernel_rfl) (by kernel_rfl) rfl rfl ⟨trivial, trivial, trivial, Reg2.tt, trivial, trivial, trivial, trivial, Reg2.tt, trivial⟩ ⟨rfl, rfl, rfl, Nat.le_refl _, fun _ _ => rfl⟩ ?_
 dsimp only [Reg2.mk, List.zip, List.zipWith, List.take]
 repeat (refine' Reg2.ai _ (by rfl) (fun wz => ?_) ?_; rotate_left; (go_simp; first | rfl | rw [if_neg (by omega)]); simp only [Act.put, xA, xB, xC]; (try simp only [xD]); (try simp only [xE]); (try simp only [id]))
 refine Reg2.pm (fun wz hI hF => ?_) (fun r3 => ?_) (by rfl)
 ·have c0 := (fU.out.cw.kept hI).c0
  go_wp2_with fail
  first | exact ⟨_, rfl, rfl, Reg2.Ext.refl _⟩ | exact ⟨_, rfl, ⟨(), rfl, trivial⟩, Reg2.Ext.refl _⟩
 simp only [Act.put, xA, xB, xC]; (try simp only [xD]); (try simp only [xE]); (try simp only [id])
 repeat (refine' Reg2.ai _ (by rfl) (fun wz => ?_) ?_; rotate_left; (go_simp; first | rfl | rw [if_neg (by omega)]); simp only [Act.put, xA, xB, xC]; (try simp only [xD]); (try simp only [xE]); (try simp only [id]))
 refine Reg2.pm (fun wz hI hF => ?_) (fun r8 => ?_) (by rfl)
 ·have q0 := (fU.out.kept hI).wk.at 1 (.int .i64 R.ah.id) rfl
  go_wp2_with fail
  first | exact ⟨_, rfl, rfl, Reg2.Ext.refl _⟩ | exact ⟨_, rfl, ⟨(), rfl, trivial⟩, Reg2.Ext.refl _⟩
 simp only [Act.put, xA, xB, xC]; (try simp only [xD]); (try simp only [xE]); (try simp only [id])
 refine Reg2.aA ?_
 intro w4 HI4 _ dI
 clear dI
 dsimp only [List.drop]
 have bI := fU.out.kept HI4
 have hc4 := hcon w4 _ _ _ bI
 go_wp2_with fail
 go_at_call 143
 refine hc4.mono ?_
 clear hc4
 rintro e w5 ⟨rfl, v5, g5, gu, hS5⟩
 have eH := bI.core gu hS5
 have sF := (hfr.trans (WS.of_below HI4)).trans (WS.dC hS5)
 have hf := ik eH.wk e1
 go_wp2_with (go_at_call 95; go_must (refine hf.mono ?_); rintro e w8 ⟨rfl, dS, fT⟩)
 go_ret
 exact ⟨rfl, v5, g5, eH.work dS fT, sF.trans (WS.bD fT)⟩
theorem G6 (h : SW w b c t d p v g a m R P) (hE : bM P.J 0 R.ah.id (fun j : Jb => decide (j.state = 2)) = 0) :
  Calls Tryz.prog 122 #[.pointer (some ⟨b, 0, none⟩), .pointer (some ⟨c, 0, none⟩)] w (au w b c t d p v g a m (fH 138) { R with aC := bH (cu P.J 0 R.ah.id (fun j : Jb => decide (j.state = 2)) nS) R.ah.id, rep := iG (bH (cu P.J 0 R.ah.id (fun j : Jb => decide (j.state = 2)) nS) R.ah.id) } { P with J := cu P.J 0 R.ah.id (fun j : Jb => decide (j.state = 2)) nS }) := by
 have zJ := bG
 obtain ⟨k, hk1⟩ : ∃ k, k = 10 := ⟨_, rfl⟩
 rw [← hk1] at zJ
 have hk0 : ¬ k = 0 := by omega
 have hS := Lib.hid h
 have hcon := fun (W : World) (v1 : Value) (g1 : Nat) (R1 : Wk) (hW : SW W b c t d p v1 g1 a m R1 P) => CJ hW.cw R.ah.id
 obtain ⟨L1, hL1⟩ : ∃ L1, L1 = cu P.J 0 R.ah.id (fun j : Jb => decide (j.state = 2)) nS := ⟨_, rfl⟩
 rw [← hL1]
 rw [← hL1, hE] at hcon
 replace hE := Lib.hid hE
 replace hL1 := Lib.hid hL1
 replace hk1 := Lib.hid hk1
 clear h
 go_enter Tryz.func122, Tryz.ntmps122
 go_wp2_with fail
 have fU := Lib.hid hS.out
 have hfr : WS w w b c t d p v g v g := WS.refl _
 refine Reg2.rd w 9 32 [[],[ae],[ae,ae],[ae,ae,ae],[af,af,af,af],[af,af,af,af,ae],[af,af,af,af,ae,ae],[af,af,af,af,ae,ae,ae],[af,af,af,af,ae,ae,ae,ae]] [0, 0, 0, 1, 0, 0, 0, 0, 1] [.pure, .pure, .pure, .mU (.pointer (some ⟨t, 0, none⟩)), .pure, .pure, .pure, .pure, .mU (.int .i64 R.ah.id)] (by kernel_rfl) (by kernel_rfl) rfl rfl ⟨trivial, trivial, trivial, Reg2.tt, trivial, trivial, trivial, trivial, Reg2.tt, trivial⟩ ⟨rfl, rfl, rfl, Nat.le_refl _, fun _ _ => rfl⟩ ?_
 dsimp only [Reg2.mk, List.zip, List.zipWith, List.take]
 repeat (refine' Reg2.ai _ (by rfl) (fun wz => ?_) ?_; rotate_left; (go_simp; first | rfl | rw [if_neg (by omega)]); simp only [Act.put, xA, xB, xC]; (try simp only [xD]); (try simp only [xE]); (try simp only [id]))
 refine Reg2.pm (fun wz hI hF => ?_) (fun r3 => ?_) (by rfl)
 ·have c0 := (fU.out.cw.kept hI).c0
  go_wp2_with fail
  first | exact ⟨_, rfl, rfl, Reg2.Ext.refl _⟩ | exact ⟨_, rfl, ⟨(), rfl, trivial⟩, Reg2.Ext.refl _⟩
 simp only [Act.put, xA, xB, xC]; (try simp only [xD]); (try simp only [xE]); (try simp only [id])
 repeat (refine' Reg2.ai _ (by rfl) (fun wz => ?_) ?_; rotate_left; (go_simp; first | rfl | rw [if_neg (by omega)]); simp only [Act.put, xA, xB, xC]; (try simp only [xD]); (try simp only [xE]); (try simp only [id]))
 refine Reg2.pm (fun wz hI hF => ?_) (fun r8 => ?_) (by rfl)
 ·have q0 := (fU.out.kept hI).wk.at 1 (.int .i64 R.ah.id) rfl
  go_wp2_with fail
  first | exact ⟨_, rfl, rfl, Reg2.Ext.refl _⟩ | exact ⟨_, rfl, ⟨(), rfl, trivial⟩, Reg2.Ext.refl _⟩
 simp only [Act.put, xA, xB, xC]; (try simp only [xD]); (try simp only [xE]); (try simp only [id])
 refine Reg2.aA ?_
 intro w4 HI4 _ dI
 clear dI
 dsimp only [List.drop]
 have bI := fU.out.kept HI4
 have hc4 := hcon w4 _ _ _ bI
 go_wp2_with fail
 go_at_call 143
 refine hc4.mono ?_
 clear hc4
 rintro e w5 ⟨rfl, v5, g5, gu, hS5⟩
 have eH := bI.core gu hS5
 have sF := (hfr.trans (WS.of_below HI4)).trans (WS.dC hS5)
 have jS := nA eH R.ah.id
 have q1 := eH.wk.at 1 (.int .i64 R.ah.id) rfl
 go_wp2_with fail
 go_at_call 114
 refine jS.mono ?_
 clear jS
 rintro e w8 ⟨rfl, dS, fT⟩
 have gB := eH.work dS fT
 have JJ := sF.trans (WS.bD fT)
 obtain ⟨y, hy⟩ : ∃ y, y = bH L1 R.ah.id := ⟨_, rfl⟩
 rw [show bH ({ P with J := L1 } : Pg).J R.ah.id = y from hy.symm] at gB dS ⊢
 replace hy := Lib.hid hy
 obtain ⟨Ut, jR⟩ := dS.su y
 have lY := ax y
 rw [← hk1.out] at lY
 have PE := gB.work jR (cz w8 _)
 have hfin := JJ.trans (WS.bD (cz w8 (gm { ({ R with rep := iG y } : Wk) with aC := y }).toArray))
 generalize gm { ({ R with rep := iG y } : Wk) with aC := y } = W9 at *
 generalize ag y = cY at *
 go_wp2_with fail
 go_ret
 have ey := hy.out
 clear hy
 subst ey
 exact ⟨rfl, v5, g5, PE, hfin⟩
theorem yB (h : SW w b c t d p v g a m R P) (hk : PK P) (s : Int) (e1 : Int) (he1 : e1 ≠ 0) (hE : bM P.J (bA s P.now) R.ah.id (eU s) = e1) :
  Calls Tryz.prog 120 #[.pointer (some ⟨b, 0, none⟩), .pointer (some ⟨c, 0, none⟩), .int .i64 s] w (au w b c t d p v g a m .nilFunc { ({ R with aC := bH P.J R.ah.id } : Wk) with rep := jQ e1, ok := false } P) := by
 have zJ := bG
 obtain ⟨k, hk1⟩ : ∃ k, k = 10 := ⟨_, rfl⟩
 rw [← hk1] at zJ
 have hk0 : ¬ k = 0 := by omega
 have hS := Lib.hid h
 have hcon := fun (W : World) (v1 : Value) (g1 : Nat) (R1 : Wk) (hW : SW W b c t d p v1 g1 a m R1 P) => si hW.cw hk R.ah.id s P.now
 obtain ⟨L1, hL1⟩ : ∃ L1, L1 = cu P.J (bA s P.now) R.ah.id (eU s) (bO s P.now) := ⟨_, rfl⟩
 have hL2 : L1 = P.J := hL1.trans (uT (by rw [hE]; exact he1))
 rw [← hL1, hE, hL2, show ({ P with J := P.J } : Pg) = P from rfl] at hcon
 have d0 : (e1 != 0) = true := by simp [he1]
 replace hL2 := Lib.hid hL2
 replace he1 := Lib.hid he1
 replace hE := Lib.hid hE
 replace hL1 := Lib.hid hL1
 have hget := gq h.drew.cw.fe R.ah.id
 unfold gZ at hget
 obtain ⟨x, hx⟩ : ∃ x, x = bH P.J R.ah.id := ⟨_, rfl⟩
 rw [← hx] at hget
 rw [← hx]
 replace hx := Lib.hid hx
 have lJ := ax x
 rw [← hk1] at lJ
 have hj := fun (W : World) (hW : SW W b c t d p v g a m R P) => hW.wk.su x
 generalize ag x = cJ at *
 have c0 := h.cw.c0
 have q1 := h.wk.at 1 (.int .i64 R.ah.id) rfl
 obtain ⟨W9, jR⟩ : ∃ W9, W9 = gm { R with aC := x } := ⟨_, rfl⟩
 rw [← jR] at hj
 replace jR := Lib.hid jR
 replace hk1 := Lib.hid hk1
 clear h
 go_enter Tryz.func120, Tryz.ntmps120
 go_wp2_with fail
 go_region_with (go_at_call 33; go_must (refine hget.mono ?_); rintro e w' ⟨rfl, hgr⟩; have qL := hS.out.drew.kept hgr.below; obtain ⟨yR, oO⟩ := hj w' qL)
 all_goals
  have fU := qL.work oO (cz w' W9.toArray)
  have hfr : WS w (w'.setRow b W9.toArray) b c t d p v g v g := ((WS.of_below hgr.below : WS w.drew w' b c t d p v g v g).trans (WS.bD (cz w' W9.toArray))).xq
  clear yR oO qL hgr hget c0 q1
  generalize w'.setRow b W9.toArray = w9 at *
  replace fU := Lib.hid fU
  go_wp2_with fail
  refine Reg2.rd w9 15 53 [[],[ae],[ae,ae],[ae,ae,ae],[af,af,af,af],[af,af,af,af,ae],[af,af,af,af,ae,ae],[af,af,af,af,ae,ae,ae],[af,af,af,af,ae,ae,ae,ae],[af,af,af,af,af,af,af,af,af],[af,af,af,af,af,af,af,af,af,af],[af,af,af,af,af,af,af,af,af,af,ae],[af,af,af,af,af,af,af,af,af,af,ae,ae],[af,af,af,af,af,af,af,af,af,af,ae,ae,ae],[af,af,af,af,af,af,af,af,af,af,ae,ae,ae,ae]] [0, 0, 0, 1, 0, 0, 0, 0, 1, 0, 0, 0, 0, 1, 1] [.pure, .pure, .pure, .mU (.pointer (some ⟨t, 0, none⟩)), .pure, .pure, .pure, .pure, .mU (.int .i64 R.ah.id), .pure, .pure, .pure, .pure, .mU (.pointer (some ⟨p, 0, none⟩)), .mU (.int .i64 P.now)] (by kernel_rfl) (by kernel_rfl) rfl rfl ⟨trivial, trivial, trivial, Reg2.tt, trivial, trivial, trivial, trivial, Reg2.tt, trivial, trivial, trivial, trivial, Reg2.tt, Reg2.tt, trivial⟩ ⟨rfl, rfl, rfl, Nat.le_refl _, fun _ _ => rfl⟩ ?_
  dsimp only [Reg2.mk, List.zip, List.zipWith, List.take]
  repeat (refine' Reg2.ai _ (by rfl) (fun wz => ?_) ?_; rotate_left; (go_simp; first | rfl | rw [if_neg (by omega)]); simp only [Act.put, xA, xB, xC]; (try simp only [xD]); (try simp only [xE]); (try simp only [id]))
  refine Reg2.pm (fun wz hI hF => ?_) (fun r3 => ?_) (by rfl)
  ·have c0 := (fU.out.cw.kept hI).c0
   go_wp2_with fail
   first | exact ⟨_, rfl, rfl, Reg2.Ext.refl _⟩ | exact ⟨_, rfl, ⟨(), rfl, trivial⟩, Reg2.Ext.refl _⟩
  simp only [Act.put, xA, xB, xC]; (try simp only [xD]); (try simp only [xE]); (try simp only [id])
  repeat (refine' Reg2.ai _ (by rfl) (fun wz => ?_) ?_; rotate_left; (go_simp; first | rfl | rw [if_neg (by omega)]); simp only [Act.put, xA, xB, xC]; (try simp only [xD]); (try simp only [xE]); (try simp only [id]))
  refine Reg2.pm (fun wz hI hF => ?_) (fun r8 => ?_) (by rfl)
  ·have q0 := (fU.out.kept hI).wk.at 1 (.int .i64 R.ah.id) rfl
   go_wp2_with fail
   first | exact ⟨_, rfl, rfl, Reg2.Ext.refl _⟩ | exact ⟨_, rfl, ⟨(), rfl, trivial⟩, Reg2.Ext.refl _⟩
  simp only [Act.put, xA, xB, xC]; (try simp only [xD]); (try simp only [xE]); (try simp only [id])
  repeat (refine' Reg2.ai _ (by rfl) (fun wz => ?_) ?_; rotate_left; (go_simp; first | rfl | rw [if_neg (by omega)]); simp only [Act.put, xA, xB, xC]; (try simp only [xD]); (try simp only [xE]); (try simp only [id]))
  refine Reg2.pm (fun wz hI hF => ?_) (fun GR => ?_) (by rfl)
  ·have c0 := (fU.out.cw.kept hI).c2
   go_wp2_with fail
   first | exact ⟨_, rfl, rfl, Reg2.Ext.refl _⟩ | exact ⟨_, rfl, ⟨(), rfl, trivial⟩, Reg2.Ext.refl _⟩
  simp only [Act.put, xA, xB, xC]; (try simp only [xD]); (try simp only [xE]); (try simp only [id])
  refine Reg2.pm (fun wz hI hF => ?_) (fun JC => ?_) (by rfl)
  ·go_wp2_with (go_at_call 25; go_must (refine (fP (fU.out.kept hI).cw).mono ?_); rintro e w' ⟨rfl, rfl⟩)
   first | exact ⟨_, rfl, rfl, Reg2.Ext.refl _⟩ | exact ⟨_, rfl, ⟨(), rfl, trivial⟩, Reg2.Ext.refl _⟩
  simp only [Act.put, xA, xB, xC]; (try simp only [xD]); (try simp only [xE]); (try simp only [id])
  refine Reg2.aA ?_
  intro w4 HI4 _ dI
  clear dI
  dsimp only [List.drop]
  have bI := fU.out.kept HI4
  have hc4 := hcon w4 _ _ _ bI
  go_wp2_with fail
  go_at_call 139
  refine hc4.mono ?_
  clear hc4
  rintro e w5 ⟨rfl, v5, g5, gu, hS5⟩
  have eH := bI.core gu hS5
  have sF := (hfr.trans (WS.of_below HI4)).trans (WS.dC hS5)
  have hf := ik eH.wk e1
  go_wp2_with (go_at_call 95; go_must (refine hf.mono ?_); rintro e w8 ⟨rfl, dS, fT⟩)
  go_ret
  exact ⟨rfl, v5, g5, eH.work dS fT, sF.trans (WS.bD fT)⟩
theorem JK (h : SW w b c t d p v g a m R P) (hk : PK P) (s : Int) (hE : bM P.J (bA s P.now) R.ah.id (eU s) = 0) :
  Calls Tryz.prog 120 #[.pointer (some ⟨b, 0, none⟩), .pointer (some ⟨c, 0, none⟩), .int .i64 s] w (au w b c t d p v g a m (fH 140) { R with aC := bH P.J R.ah.id, rep := iG (bH (cu P.J (bA s P.now) R.ah.id (eU s) (bO s P.now)) R.ah.id) } { P with J := cu P.J (bA s P.now) R.ah.id (eU s) (bO s P.now) }) := by
 have zJ := bG
 obtain ⟨k, hk1⟩ : ∃ k, k = 10 := ⟨_, rfl⟩
 rw [← hk1] at zJ
 have hk0 : ¬ k = 0 := by omega
 have hS := Lib.hid h
 have hcon := fun (W : World) (v1 : Value) (g1 : Nat) (R1 : Wk) (hW : SW W b c t d p v1 g1 a m R1 P) => si hW.cw hk R.ah.id s P.now
 obtain ⟨L1, hL1⟩ : ∃ L1, L1 = cu P.J (bA s P.now) R.ah.id (eU s) (bO s P.now) := ⟨_, rfl⟩
 rw [← hL1]
 rw [← hL1, hE] at hcon
 replace hE := Lib.hid hE
 replace hL1 := Lib.hid hL1
 have hget := gq h.drew.cw.fe R.ah.id
 unfold gZ at hget
 obtain ⟨x, hx⟩ : ∃ x, x = bH P.J R.ah.id := ⟨_, rfl⟩
 rw [← hx] at hget
 rw [← hx]
 replace hx := Lib.hid hx
 have lJ := ax x
 rw [← hk1] at lJ
 have hj := fun (W : World) (hW : SW W b c t d p v g a m R P) => hW.wk.su x
 generalize ag x = cJ at *
 have c0 := h.cw.c0
 have q1 := h.wk.at 1 (.int .i64 R.ah.id) rfl
 obtain ⟨W9, jR⟩ : ∃ W9, W9 = gm { R with aC := x } := ⟨_, rfl⟩
 rw [← jR] at hj
 replace jR := Lib.hid jR
 replace hk1 := Lib.hid hk1
 clear h
 go_enter Tryz.func120, Tryz.ntmps120
 go_wp2_with fail
 go_region_with (go_at_call 33; go_must (refine hget.mono ?_); rintro e w' ⟨rfl, hgr⟩; have qL := hS.out.drew.kept hgr.below; obtain ⟨yR, oO⟩ := hj w' qL)
 all_goals
  have fU := qL.work oO (cz w' W9.toArray)
  have hfr : WS w (w'.setRow b W9.toArray) b c t d p v g v g := ((WS.of_below hgr.below : WS w.drew w' b c t d p v g v g).trans (WS.bD (cz w' W9.toArray))).xq
  clear yR oO qL hgr hget c0 q1
  generalize w'.setRow b W9.toArray = w9 at *
  replace fU := Lib.hid fU
  go_wp2_with fail
  refine Reg2.rd w9 15 53 [[],[ae],[ae,ae],[ae,ae,ae],[af,af,af,af],[af,af,af,af,ae],[af,af,af,af,ae,ae],[af,af,af,af,ae,ae,ae],[af,af,af,af,ae,ae,ae,ae],[af,af,af,af,af,af,af,af,af],[af,af,af,af,af,af,af,af,af,af],[af,af,af,af,af,af,af,af,af,af,ae],[af,af,af,af,af,af,af,af,af,af,ae,ae],[af,af,af,af,af,af,af,af,af,af,ae,ae,ae],[af,af,af,af,af,af,af,af,af,af,ae,ae,ae,ae]] [0, 0, 0, 1, 0, 0, 0, 0, 1, 0, 0, 0, 0, 1, 1] [.pure, .pure, .pure, .mU (.pointer (some ⟨t, 0, none⟩)), .pure, .pure, .pure, .pure, .mU (.int .i64 R.ah.id), .pure, .pure, .pure, .pure, .mU (.pointer (some ⟨p, 0, none⟩)), .mU (.int .i64 P.now)] (by kernel_rfl) (by kernel_rfl) rfl rfl ⟨trivial, trivial, trivial, Reg2.tt, trivial, trivial, trivial, trivial, Reg2.tt, trivial, trivial, trivial, trivial, Reg2.tt, Reg2.tt, trivial⟩ ⟨rfl, rfl, rfl, Nat.le_refl _, fun _ _ => rfl⟩ ?_
  dsimp only [Reg2.mk, List.zip, List.zipWith, List.take]
  repeat (refine' Reg2.ai _ (by rfl) (fun wz => ?_) ?_; rotate_left; (go_simp; first | rfl | rw [if_neg (by omega)]); simp only [Act.put, xA, xB, xC]; (try simp only [xD]); (try simp only [xE]); (try simp only [id]))
  refine Reg2.pm (fun wz hI hF => ?_) (fun r3 => ?_) (by rfl)
  ·have c0 := (fU.out.cw.kept hI).c0
   go_wp2_with fail
   first | exact ⟨_, rfl, rfl, Reg2.Ext.refl _⟩ | exact ⟨_, rfl, ⟨(), rfl, trivial⟩, Reg2.Ext.refl _⟩
  simp only [Act.put, xA, xB, xC]; (try simp only [xD]); (try simp only [xE]); (try simp only [id])
  repeat (refine' Reg2.ai _ (by rfl) (fun wz => ?_) ?_; rotate_left; (go_simp; first | rfl | rw [if_neg (by omega)]); simp only [Act.put, xA, xB, xC]; (try simp only [xD]); (try simp only [xE]); (try simp only [id]))
  refine Reg2.pm (fun wz hI hF => ?_) (fun r8 => ?_) (by rfl)
  ·have q0 := (fU.out.kept hI).wk.at 1 (.int .i64 R.ah.id) rfl
   go_wp2_with fail
   first | exact ⟨_, rfl, rfl, Reg2.Ext.refl _⟩ | exact ⟨_, rfl, ⟨(), rfl, trivial⟩, Reg2.Ext.refl _⟩
  simp only [Act.put, xA, xB, xC]; (try simp only [xD]); (try simp only [xE]); (try simp only [id])
  repeat (refine' Reg2.ai _ (by rfl) (fun wz => ?_) ?_; rotate_left; (go_simp; first | rfl | rw [if_neg (by omega)]); simp only [Act.put, xA, xB, xC]; (try simp only [xD]); (try simp only [xE]); (try simp only [id]))
  refine Reg2.pm (fun wz hI hF => ?_) (fun GR => ?_) (by rfl)
  ·have c0 := (fU.out.cw.kept hI).c2
   go_wp2_with fail
   first | exact ⟨_, rfl, rfl, Reg2.Ext.refl _⟩ | exact ⟨_, rfl, ⟨(), rfl, trivial⟩, Reg2.Ext.refl _⟩
  simp only [Act.put, xA, xB, xC]; (try simp only [xD]); (try simp only [xE]); (try simp only [id])
  refine Reg2.pm (fun wz hI hF => ?_) (fun JC => ?_) (by rfl)
  ·go_wp2_with (go_at_call 25; go_must (refine (fP (fU.out.kept hI).cw).mono ?_); rintro e w' ⟨rfl, rfl⟩)
   first | exact ⟨_, rfl, rfl, Reg2.Ext.refl _⟩ | exact ⟨_, rfl, ⟨(), rfl, trivial⟩, Reg2.Ext.refl _⟩
  simp only [Act.put, xA, xB, xC]; (try simp only [xD]); (try simp only [xE]); (try simp only [id])
  refine Reg2.aA ?_
  intro w4 HI4 _ dI
  clear dI
  dsimp only [List.drop]
  have bI := fU.out.kept HI4
  have hc4 := hcon w4 _ _ _ bI
  go_wp2_with fail
  go_at_call 139
  refine hc4.mono ?_
  clear hc4
  rintro e w5 ⟨rfl, v5, g5, gu, hS5⟩
  have eH := bI.core gu hS5
  have sF := (hfr.trans (WS.of_below HI4)).trans (WS.dC hS5)
  have jS := nA eH R.ah.id
  have q1 := eH.wk.at 1 (.int .i64 R.ah.id) rfl
  go_wp2_with fail
  go_at_call 114
  refine jS.mono ?_
  clear jS
  rintro e w8 ⟨rfl, dS, fT⟩
  have gB := eH.work dS fT
  have JJ := sF.trans (WS.bD fT)
  go_wp2_with fail
  go_ret
  exact ⟨rfl, v5, g5, gB, JJ⟩
end
end Go.Proofs.YtnihdgcfamoplaaGreat
