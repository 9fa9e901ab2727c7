/-
 CtrlCalls of the Go text returns true for every input, and each argument reads afterwards as it read before. No condition.
-/
import Derived.Test.YtbdfpbknckghgaaGreatRows
import Derived.ProofKit
import Derived.OpenShut
import Derived.Test.YtbdfpbknckghgaaGreatZc3
set_option maxRecDepth 1000000
set_option maxHeartbeats 8000000
set_option linter.all false
namespace Go.Proofs.YtbdfpbknckghgaaGreat
theorem nK {p : Prop} (f : p := by
 clear hrd
 go_at_call 10
 refine hcall.mono ?_
 clear hcall
 rintro e w4 ⟨Cm, rfl, C4, R4, G4, m4, bO, hv4⟩
 rw [e0.out.1]
 rw [e0.out.1] at C4 G4 m4
 rw [e0.out.2.2.1] at G4 bO
 have hb4 : Hid (Below w.heap.size w w4) := hb3.out.trans (bO.below (by
  have := eB.out
  rintro k' (e | e | e | e)
  ·omega
  ·omega
  ·simp [Value.ownBlock] at e
  ·omega) hb3.out.size)
 obtain ⟨C1, bY⟩ : ∃ C1 : Ct, C1 = { C0 with tasks := 0 + 1 } := ⟨_, rfl⟩
 rw [← bY] at C4
 have e1 : C1.tasks = 1 ∧ C1.live = .slice none 0 0 ∧ C1.log = lg ∧ C1.told = .map (some mp) := by
  rw [bY]
  exact ⟨rfl, e0.out.2.1, e0.out.2.2.1, e0.out.2.2.2⟩
 rw [e0.out.2.1] at R4
 have hev := kV G4 (by simp)
 have c1 := C4.c1
 rw [e1.2.2.1] at c1
 have hT := (jh.start).put 1 (dD qe)
 replace e1 := Lib.hid e1
 replace C4 := Lib.hid C4
 replace R4 := Lib.hid R4
 replace m4 := Lib.hid m4
 replace hT := Lib.hid hT
 clear bY bO hv4 qw hG3 uO rR hv3 hx e0 G4 hb3
 go_wp2_with fail
 go_at_call 11
 refine hev.mono ?_
 clear hev c1
 rintro e w5 ⟨vE, rfl, oP, hb5⟩
 have C5 := C4.out.below hb5 C4.out.lt
 have htk := bP C5
 rw [e1.out.1] at htk
 have htd := ji 1 C5 e1.out.2.2.2 (aR m4.out hb5) hT.out rfl
 rw [show yV (nH (fun _ => none) 1 (dD qe) 1) = .agg #[.int .i64 qe, .int .i64 0, .int .i64 0, .int .i64 0, .int .i64 0, .int .i64 0, .int .i64 0, .int .i64 0, .int .i64 0] from rfl, show (nH (fun _ => none) 1 (dD qe) 1).isSome = true from rfl] at htd
 have R5 := Lib.hid (Put.aF R4.out hb5)
 have m5 := Lib.hid (aR m4.out hb5)
 have gP : Hid (Below w.heap.size w w5) := hb4.out.trans (hb5.mono hb4.out.size)
 replace C5 := Lib.hid C5
 replace oP := Lib.hid oP
 clear hb5 C4 R4 m4 hb4
 go_wp2_with (go_at_call 12; go_must (refine htk.mono ?_); rintro e w' ⟨rfl, rfl⟩; clear htk)
 go_at_call 13
 refine htd.mono ?_
 clear htd
 rintro e w6 ⟨rfl, hb6⟩
 have d1 : (qe == 0) = false := by simp [hq]
 have v6 := oP.out.below hb6
 have v60 := Lib.hid v6
 obtain ⟨aE, cE, rfl, k1, k2, k3⟩ := v6
 obtain ⟨gE, oE, rfl, _⟩ := k3 (by simp)
 have Cn : cE ≤ 9223372036854775807 := by unfold maxLen at k2; omega
 clear k1 k2 k3
 obtain ⟨w7, hw7⟩ : ∃ w7, w7 = (w6.alloc (.cells #[.int .i64 qe, .int .i64 0, .int .i64 0, .int .i64 0, .int .i64 0, .int .i64 0, .int .i64 0, .int .i64 0, .int .i64 0] 44)).alloc (.cells #[.int .i64 qe, .int .i64 0, .int .i64 0, .int .i64 0, .int .i64 0, .int .i64 0, .int .i64 0, .int .i64 0, .int .i64 0] 44) := ⟨_, rfl⟩
 have b7 : Below w6.heap.size w6 w7 := by rw [hw7]; exact ((Below.refl _ _).alloc (Nat.le_refl _) _).alloc (by simp) _
 have fO : Below w5.heap.size w5 w7 := hb6.trans (b7.mono hb6.size)
 have C7 := Lib.hid (C5.out.below fO C5.out.lt)
 have R7 := Lib.hid (Put.aF R5.out fO)
 have m7 := Lib.hid (aR m5.out fO)
 have v70 := Lib.hid (v60.out.below b7)
 have jg : Hid (Below w.heap.size w w7) := gP.out.trans (fO.mono gP.out.size)
 have Y2 : w7.heap[w6.heap.size + 1]? = some (.cells (aI (dD qe)).toArray 44 (0, 0)) := by rw [hw7]; exact heap_alloc2_new w6 _ _
 have Y1 : w7.heap[w6.heap.size]? = some (.cells (aI (dD qe)).toArray 44 (0, 0)) := by
  rw [hw7]
  exact (((Below.refl _ (w6.alloc (.cells #[.int .i64 qe, .int .i64 0, .int .i64 0, .int .i64 0, .int .i64 0, .int .i64 0, .int .i64 0, .int .i64 0, .int .i64 0] 44))).alloc (Nat.le_refl _) _).block _ (by simp)).trans (heap_alloc_new w6 _)
 have hy1 : Hid (∀ W, Below w7.heap.size w7 W → ∀ j z, (aI (dD qe))[j]? = some z → W.cell? ⟨w6.heap.size, j, none⟩ = some z) := fun W hW j z hz => aZ ((hW.block _ (ae Y1)).trans Y1) j z hz
 have hy2 : Hid (∀ W, Below w7.heap.size w7 W → ∀ j z, (aI (dD qe))[j]? = some z → W.cell? ⟨w6.heap.size + 1, j, none⟩ = some z) := fun W hW j z hz => aZ ((hW.block _ (ae Y2)).trans Y2) j z hz
 have zE := qY
 obtain ⟨k24, hk⟩ : ∃ k, k = 24 := ⟨_, rfl⟩
 rw [← hk] at zE
 have Ab : Hid (∀ W, Below w7.heap.size w7 W → Sem.run Tryz.prog (loadCellsFrom ⟨gE, oE, none⟩ 0 k24 #[]) W = .ok #[.int .i64 0, .int .i64 1, .int .i64 1, .int .i64 0, .int .i64 0, .int .i64 0, .int .i64 0, .int .i64 0, .int .i64 0, .bool false, .int .i64 0, .int .i64 0, .int .i64 0, .int .i64 0, .int .i64 0, .int .i64 0, .int .i64 0, .int .i64 0, .int .i64 0, .int .i64 0, .int .i64 0, .int .i64 0, .int .i64 0, .bool false] W) := fun W hW => by
  have := iY (i := 0) (v70.out.below hW) hk (by simp)
  rw [Nat.zero_mul, Nat.add_zero] at this
  exact this
 have ld1 : Hid (∀ W, Below w7.heap.size w7 W → Sem.run Tryz.prog (loadCellsFrom ⟨gE, oE + 24, none⟩ 0 k24 #[]) W = .ok #[.int .i64 0, .int .i64 2, .int .i64 1, .int .i64 0, .int .i64 0, .int .i64 0, .int .i64 0, .int .i64 0, .int .i64 0, .bool false, .int .i64 0, .int .i64 0, .int .i64 qe, .int .i64 0, .int .i64 0, .int .i64 0, .int .i64 0, .int .i64 0, .int .i64 0, .int .i64 0, .int .i64 0, .int .i64 0, .int .i64 0, .bool false] W) := fun W hW => by
  have := iY (i := 1) (v70.out.below hW) hk (by simp)
  rw [show oE + 1 * k24 = oE + 24 by rw [hk]] at this
  exact this
 have Ac : Hid (∀ W, Below w7.heap.size w7 W → Sem.run Tryz.prog (loadCellsFrom ⟨gE, oE + 48, none⟩ 0 k24 #[]) W = .ok #[.int .i64 0, .int .i64 3, .int .i64 1, .int .i64 0, .int .i64 0, .int .i64 0, .int .i64 0, .int .i64 0, .int .i64 0, .bool false, .int .i64 0, .int .i64 0, .int .i64 qe, .int .i64 0, .int .i64 0, .int .i64 0, .int .i64 0, .int .i64 0, .int .i64 0, .int .i64 0, .int .i64 0, .int .i64 0, .int .i64 0, .bool false] W) := fun W hW => by
  have := iY (i := 2) (v70.out.below hW) hk (by simp)
  rw [show oE + 2 * k24 = oE + 48 by rw [hk]] at this
  exact this
 have hn0 : Hid (∀ W, (binOp .neq 50 (.agg #[.int .i64 0, .int .i64 1, .int .i64 1, .int .i64 0, .int .i64 0, .int .i64 0, .int .i64 0, .int .i64 0, .int .i64 0, .bool false, .int .i64 0, .int .i64 0, .int .i64 0, .int .i64 0, .int .i64 0, .int .i64 0, .int .i64 0, .int .i64 0, .int .i64 0, .int .i64 0, .int .i64 0, .int .i64 0, .int .i64 0, .bool false]) (.agg #[.int .i64 0, .int .i64 1, .int .i64 1, .int .i64 0, .int .i64 0, .int .i64 0, .int .i64 0, .int .i64 0, .int .i64 0, .bool false, .int .i64 0, .int .i64 0, .int .i64 0, .int .i64 0, .int .i64 0, .int .i64 0, .int .i64 0, .int .i64 0, .int .i64 0, .int .i64 0, .int .i64 0, .int .i64 0, .int .i64 0, .bool false])).run Tryz.prog W = .ok (.bool false) W) := fun W => j5 ⟨0, 1, 1, 0, 0, 0, 0, 0, 0, false, 0, 0, 0, 0, 0, 0, 0, 0, 0, 0, 0, 0, 0, false⟩ W
 have hn1 : Hid (∀ W, (binOp .neq 50 (.agg #[.int .i64 0, .int .i64 2, .int .i64 1, .int .i64 0, .int .i64 0, .int .i64 0, .int .i64 0, .int .i64 0, .int .i64 0, .bool false, .int .i64 0, .int .i64 0, .int .i64 qe, .int .i64 0, .int .i64 0, .int .i64 0, .int .i64 0, .int .i64 0, .int .i64 0, .int .i64 0, .int .i64 0, .int .i64 0, .int .i64 0, .bool false]) (.agg #[.int .i64 0, .int .i64 2, .int .i64 1, .int .i64 0, .int .i64 0, .int .i64 0, .int .i64 0, .int .i64 0, .int .i64 0, .bool false, .int .i64 0, .int .i64 0, .int .i64 qe, .int .i64 0, .int .i64 0, .int .i64 0, .int .i64 0, .int .i64 0, .int .i64 0, .int .i64 0, .int .i64 0, .int .i64 0, .int .i64 0, .bool false])).run Tryz.prog W = .ok (.bool false) W) := fun W => j5 ⟨0, 2, 1, 0, 0, 0, 0, 0, 0, false, 0, 0, qe, 0, 0, 0, 0, 0, 0, 0, 0, 0, 0, false⟩ W
 have hn2 : Hid (∀ W, (binOp .neq 50 (.agg #[.int .i64 0, .int .i64 3, .int .i64 1, .int .i64 0, .int .i64 0, .int .i64 0, .int .i64 0, .int .i64 0, .int .i64 0, .bool false, .int .i64 0, .int .i64 0, .int .i64 qe, .int .i64 0, .int .i64 0, .int .i64 0, .int .i64 0, .int .i64 0, .int .i64 0, .int .i64 0, .int .i64 0, .int .i64 0, .int .i64 0, .bool false]) (.agg #[.int .i64 0, .int .i64 3, .int .i64 1, .int .i64 0, .int .i64 0, .int .i64 0, .int .i64 0, .int .i64 0, .int .i64 0, .bool false, .int .i64 0, .int .i64 0, .int .i64 qe, .int .i64 0, .int .i64 0, .int .i64 0, .int .i64 0, .int .i64 0, .int .i64 0, .int .i64 0, .int .i64 0, .int .i64 0, .int .i64 0, .bool false])).run Tryz.prog W = .ok (.bool false) W) := fun W => j5 ⟨0, 3, 1, 0, 0, 0, 0, 0, 0, false, 0, 0, qe, 0, 0, 0, 0, 0, 0, 0, 0, 0, 0, false⟩ W
 replace hk := Lib.hid hk
 replace zE := Lib.hid zE
 clear b7 hb6 fO C5 R5 m5 oP gP Y1 Y2 v60
 go_wp2_with fail
 rw [← hw7]
 clear hw7
 refine Reg2.ro w7 29 189 [.p 0, .m 1, .p 3, .p 7, .p 15, .p 31, .m 63, .m 15, .p 255, .p 511, .p 1023, .p 2047, .p 4095, .m 8191, .m 2047, .m 18431, .p 65535, .p 131071, .p 262143, .p 524287, .p 1048575, .m 2097151, .m 524287, .m 4718591, .p 16777215, .p 33554431, .p 67108863, .m 134217727, .m 134217727] [.int .i64 3, .agg #[.int .i64 0, .int .i64 1, .int .i64 1, .int .i64 0, .int .i64 0, .int .i64 0, .int .i64 0, .int .i64 0, .int .i64 0, .bool false, .int .i64 0, .int .i64 0, .int .i64 0, .int .i64 0, .int .i64 0, .int .i64 0, .int .i64 0, .int .i64 0, .int .i64 0, .int .i64 0, .int .i64 0, .int .i64 0, .int .i64 0, .bool false], .agg #[.int .i64 0, .int .i64 1, .int .i64 1, .int .i64 0, .int .i64 0, .int .i64 0, .int .i64 0, .int .i64 0, .int .i64 0, .bool false, .int .i64 0, .int .i64 0, .int .i64 0, .int .i64 0, .int .i64 0, .int .i64 0, .int .i64 0, .int .i64 0, .int .i64 0, .int .i64 0, .int .i64 0, .int .i64 0, .int .i64 0, .bool false], .agg #[.int .i64 0, .int .i64 2, .int .i64 1, .int .i64 0, .int .i64 0, .int .i64 0, .int .i64 0, .int .i64 0, .int .i64 0, .bool false, .int .i64 0, .int .i64 0, .int .i64 qe, .int .i64 0, .int .i64 0, .int .i64 0, .int .i64 0, .int .i64 0, .int .i64 0, .int .i64 0, .int .i64 0, .int .i64 0, .int .i64 0, .bool false], .agg #[.int .i64 qe, .int .i64 0, .int .i64 0, .int .i64 0, .int .i64 0, .int .i64 0, .int .i64 0, .int .i64 0, .int .i64 0], .agg #[.int .i64 0, .int .i64 2, .int .i64 1, .int .i64 0, .int .i64 0, .int .i64 0, .int .i64 0, .int .i64 0, .int .i64 0, .bool false, .int .i64 0, .int .i64 0, .int .i64 qe, .int .i64 0, .int .i64 0, .int .i64 0, .int .i64 0, .int .i64 0, .int .i64 0, .int .i64 0, .int .i64 0, .int .i64 0, .int .i64 0, .bool false], .agg #[.int .i64 0, .int .i64 3, .int .i64 1, .int .i64 0, .int .i64 0, .int .i64 0, .int .i64 0, .int .i64 0, .int .i64 0, .bool false, .int .i64 0, .int .i64 0, .int .i64 qe, .int .i64 0, .int .i64 0, .int .i64 0, .int .i64 0, .int .i64 0, .int .i64 0, .int .i64 0, .int .i64 0, .int .i64 0, .int .i64 0, .bool false], .agg #[.int .i64 qe, .int .i64 0, .int .i64 0, .int .i64 0, .int .i64 0, .int .i64 0, .int .i64 0, .int .i64 0, .int .i64 0], .agg #[.int .i64 0, .int .i64 3, .int .i64 1, .int .i64 0, .int .i64 0, .int .i64 0, .int .i64 0, .int .i64 0, .int .i64 0, .bool false, .int .i64 0, .int .i64 0, .int .i64 qe, .int .i64 0, .int .i64 0, .int .i64 0, .int .i64 0, .int .i64 0, .int .i64 0, .int .i64 0, .int .i64 0, .int .i64 0, .int .i64 0, .bool false], .agg #[.int .i64 qe, .int .i64 0, .int .i64 0, .int .i64 0, .int .i64 0, .int .i64 0, .int .i64 0, .int .i64 0, .int .i64 0], .agg #[.int .i64 qe, .int .i64 0, .int .i64 0, .int .i64 0, .int .i64 0, .int .i64 0, .int .i64 0, .int .i64 0, .int .i64 0]] (by kernel_rfl) (by kernel_rfl) rfl rfl ⟨rfl, rfl, rfl, Nat.le_refl _, fun _ _ => rfl⟩ ?_
 dsimp only [Reg2.gJ]
 repeat ((first
  | (refine' Reg2.aO _ (by rfl) (fun wz => ?_) ?_; rotate_left; (have hn0 := hn0.out; have hn1 := hn1.out; have hn2 := hn2.out; go_simp; first | rfl | rw [if_neg (by omega)]))
  | (refine Reg2.aD (by rfl) (fun wz hI hF => ?_) (fun _ => ?_)
     ·unfold Reg2.One
      have zE := zE.out
      have Ab := Ab.out wz hI
      have ld1 := ld1.out wz hI
      have Ac := Ac.out wz hI
      have e0 := hy1.out wz hI 0 _ rfl
      have e1 := hy1.out wz hI 1 _ rfl
      have e2 := hy1.out wz hI 2 _ rfl
      have e3 := hy1.out wz hI 3 _ rfl
      have e4 := hy1.out wz hI 4 _ rfl
      have e5 := hy1.out wz hI 5 _ rfl
      have e6 := hy1.out wz hI 6 _ rfl
      have e7 := hy1.out wz hI 7 _ rfl
      have e8 := hy1.out wz hI 8 _ rfl
      have f0 := hy2.out wz hI 0 _ rfl
      have f1 := hy2.out wz hI 1 _ rfl
      have f2 := hy2.out wz hI 2 _ rfl
      have f3 := hy2.out wz hI 3 _ rfl
      have f4 := hy2.out wz hI 4 _ rfl
      have f5 := hy2.out wz hI 5 _ rfl
      have f6 := hy2.out wz hI 6 _ rfl
      have f7 := hy2.out wz hI 7 _ rfl
      have f8 := hy2.out wz hI 8 _ rfl
      simp only [dD] at e0 e1 e2 e3 e4 e5 e6 e7 e8 f0 f1 f2 f3 f4 f5 f6 f7 f8
      go_wp2_with fail
      first | exact ⟨_, rfl, rfl, Reg2.Ext.refl _⟩ | exact ⟨_, rfl, ⟨(), rfl, trivial⟩, Reg2.Ext.refl _⟩)); simp only [Act.put, xA, xB, xC, xD, xE])
 refine Reg2.aY ?_
 intro w8 oQ _ HF
 clear HF hy1 hy2 Ab ld1 Ac zE
 dsimp only [List.drop]
 have C8 := C7.out.below oQ C7.out.lt
 have R8 := Put.aF R7.out oQ
 have m8 := Lib.hid (aR m7.out oQ)
 have eu : Hid (Below w.heap.size w w8) := jg.out.trans (oQ.mono jg.out.size)
 have hbz : Calls Tryz.prog 14 #[.pointer (some ⟨q, 0, none⟩)] w8 fun e w' => e = .returned (.int .i64 (0 : Nat)) ∧ w8 = w' := by
  have ha := dX C8
  rw [e1.out.2.1] at ha
  exact iX ha
 rw [show ((0 : Nat) : Int) = 0 from rfl] at hbz
 replace C8 := Lib.hid C8
 replace R8 := Lib.hid R8
 have hn0 := hn0.out
 have hn1 := hn1.out
 have hn2 := hn2.out
 have hny : ∀ W, (binOp .neq 44 (.agg #[.int .i64 qe, .int .i64 0, .int .i64 0, .int .i64 0, .int .i64 0, .int .i64 0, .int .i64 0, .int .i64 0, .int .i64 0]) (.agg #[.int .i64 qe, .int .i64 0, .int .i64 0, .int .i64 0, .int .i64 0, .int .i64 0, .int .i64 0, .int .i64 0, .int .i64 0])).run Tryz.prog W = .ok (.bool false) W := fun W => by
  have := yf (dD qe) (dD qe) W
  simpa [dD, aI] using this
 clear C7 R7 m7 v70 jg
 go_wp2_with (go_at_call 14; go_must (refine hbz.mono ?_); rintro e w' ⟨rfl, rfl⟩)
 have hcase : so < 1 ∨ (1 ≤ so ∧ 64 < so) ∨ (1 ≤ so ∧ so ≤ 64 ∧ dep < 1) ∨ (1 ≤ so ∧ so ≤ 64 ∧ 1 ≤ dep ∧ 64 < dep) ∨ (1 ≤ so ∧ so ≤ 64 ∧ 1 ≤ dep ∧ dep ≤ 64) := by omega
 rcases hcase with hA | hA | hA | hA | hA
 ·have q1 : decide (so < 1) = true := decide_eq_true (by omega)
  have hps := dM C8.out (by rw [e1.out.2.1]; exact R8.out) (by decide) (by rw [e1.out.1]; decide) (by unfold outside; simp; omega : outside so dep = true)
  have htk := bP C8.out
  rw [e1.out.1] at htk
  have haw := bS w8
  clear hso hdp hA
  go_wp2_with (first
   | (go_at_call 15; go_must (refine hps.mono ?_); rintro e w' ⟨rfl, rfl⟩; clear hps)
   | (go_at_call 12; go_must (refine htk.mono ?_); rintro e w' ⟨rfl, rfl⟩; clear htk)
   | (go_at_call 16; go_must (refine haw.mono ?_); rintro e w9 ⟨rfl, eD⟩; clear haw))
  go_ret
  exact ⟨rfl, eu.out.trans (eD.mono eu.out.size)⟩
 ·have q1 : decide (so < 1) = false := decide_eq_false (by omega)
  have q2 : decide ((64 : Int) < so) = true := decide_eq_true (by omega)
  have hps := dM C8.out (by rw [e1.out.2.1]; exact R8.out) (by decide) (by rw [e1.out.1]; decide) (by unfold outside; simp; omega : outside so dep = true)
  have htk := bP C8.out
  rw [e1.out.1] at htk
  have haw := bS w8
  clear hso hdp hA
  go_wp2_with (first
   | (go_at_call 15; go_must (refine hps.mono ?_); rintro e w' ⟨rfl, rfl⟩; clear hps)
   | (go_at_call 12; go_must (refine htk.mono ?_); rintro e w' ⟨rfl, rfl⟩; clear htk)
   | (go_at_call 16; go_must (refine haw.mono ?_); rintro e w9 ⟨rfl, eD⟩; clear haw))
  go_ret
  exact ⟨rfl, eu.out.trans (eD.mono eu.out.size)⟩
 ·have q1 : decide (so < 1) = false := decide_eq_false (by omega)
  have q2 : decide ((64 : Int) < so) = false := decide_eq_false (by omega)
  have q3 : decide (dep < 1) = true := decide_eq_true (by omega)
  have hps := dM C8.out (by rw [e1.out.2.1]; exact R8.out) (by decide) (by rw [e1.out.1]; decide) (by unfold outside; simp; omega : outside so dep = true)
  have htk := bP C8.out
  rw [e1.out.1] at htk
  have haw := bS w8
  clear hso hdp hA
  go_wp2_with (first
   | (go_at_call 15; go_must (refine hps.mono ?_); rintro e w' ⟨rfl, rfl⟩; clear hps)
   | (go_at_call 12; go_must (refine htk.mono ?_); rintro e w' ⟨rfl, rfl⟩; clear htk)
   | (go_at_call 16; go_must (refine haw.mono ?_); rintro e w9 ⟨rfl, eD⟩; clear haw))
  go_ret
  exact ⟨rfl, eu.out.trans (eD.mono eu.out.size)⟩
 ·have q1 : decide (so < 1) = false := decide_eq_false (by omega)
  have q2 : decide ((64 : Int) < so) = false := decide_eq_false (by omega)
  have q3 : decide (dep < 1) = false := decide_eq_false (by omega)
  have q4 : decide ((64 : Int) < dep) = true := decide_eq_true (by omega)
  have hps := dM C8.out (by rw [e1.out.2.1]; exact R8.out) (by decide) (by rw [e1.out.1]; decide) (by unfold outside; simp; omega : outside so dep = true)
  have htk := bP C8.out
  rw [e1.out.1] at htk
  have haw := bS w8
  clear hso hdp hA
  go_wp2_with (first
   | (go_at_call 15; go_must (refine hps.mono ?_); rintro e w' ⟨rfl, rfl⟩; clear hps)
   | (go_at_call 12; go_must (refine htk.mono ?_); rintro e w' ⟨rfl, rfl⟩; clear htk)
   | (go_at_call 16; go_must (refine haw.mono ?_); rintro e w9 ⟨rfl, eD⟩; clear haw))
  go_ret
  exact ⟨rfl, eu.out.trans (eD.mono eu.out.size)⟩
 ·have q1 : decide (so < 1) = false := decide_eq_false (by omega)
  have q2 : decide ((64 : Int) < so) = false := decide_eq_false (by omega)
  have q3 : decide (dep < 1) = false := decide_eq_false (by omega)
  have q4 : decide ((64 : Int) < dep) = false := decide_eq_false (by omega)
  have hps := qp (B := lg) (so := so) (dep := dep) C8.out (by rw [e1.out.2.1]; exact R8.out) (by have := eB.out; have := C8.out.lt; omega) (by decide) (by rw [e1.out.1]; decide) (by omega) (by omega)
  clear hso hdp hA
  go_at_call 15
  refine hps.mono ?_
  clear hps
  rintro e w9 ⟨fp, pl, v9, rfl, C9, _, _, _, oU, _⟩
  rw [e1.out.1]
  rw [e1.out.2.1] at oU
  have eD : Hid (Below w.heap.size w w9) := eu.out.trans (oU.below (by
   have := eB.out
   rintro k (e | e)
   ·omega
   ·have := (R8.out.lt k e).1
    omega) eu.out.size)
  have m9 : w9.ownsMap Tryz.prog 3 RT mp (0 + 1) ((DataW.map [] : DataW Value).put (.int .i64 1) (.held (yV (some (dD qe))))) := by
   obtain ⟨es, ck, h1, h2⟩ := m8.out
   refine ⟨es, ck, (oU.block mp (Put.lt_of_heap h1) (fun e => ?_)).trans h1, h2⟩
   rcases e with e | e
   ·have := eB.out
    omega
   ·obtain ⟨cur, hc⟩ := df R8.out e
    rw [h1] at hc
    exact absurd hc (by simp)
  obtain ⟨C2, hC2⟩ : ∃ C2 : Ct, C2 = { C1 with tasks := C1.tasks + 1, live := v9 } := ⟨_, rfl⟩
  rw [← hC2] at C9
  have e2 : C2.tasks = 2 ∧ C2.told = .map (some mp) := by
   rw [hC2]
   exact ⟨by show C1.tasks + 1 = 2; rw [e1.out.1]; rfl, e1.out.2.2.2⟩
  have htd := ji 2 C9 e2.2 m9 (hT.out) rfl
  rw [show yV (nH (fun _ => none) 1 (dD qe) 2) = .agg #[.int .i64 0, .int .i64 0, .int .i64 0, .int .i64 0, .int .i64 0, .int .i64 0, .int .i64 0, .int .i64 0, .int .i64 0] from rfl, show ((nH (fun _ => none) 1 (dD qe) 2)).isSome = false from rfl] at htd
  replace e2 := Lib.hid e2
  replace C9 := Lib.hid C9
  clear hC2 oU m9 eu C8 R8 m8
  go_wp2_with fail
  go_at_call 13
  refine htd.mono ?_
  clear htd
  rintro e j3 ⟨rfl, je⟩
  obtain ⟨jO, jl⟩ : ∃ jO, jO = j3.alloc (.cells j4.toArray 44) := ⟨_, rfl⟩
  have b11 : Below j3.heap.size j3 jO := by rw [jl]; exact (Below.refl _ _).alloc (Nat.le_refl _) _
  have kZ : Below w9.heap.size w9 jO := je.trans (b11.mono je.size)
  have htk := bP (C9.out.below kZ C9.out.lt)
  rw [e2.out.1] at htk
  have haw := bS jO
  have ll : Hid (Below w.heap.size w jO) := eD.out.trans (kZ.mono eD.out.size)
  simp only [j4] at jl
  clear je b11 kZ C9 eD
  go_wp2_with fail
  rw [← jl]
  clear jl
  go_wp2_with (first
   | (go_at_call 12; go_must (refine htk.mono ?_); rintro e w' ⟨rfl, rfl⟩; clear htk)
   | (go_at_call 16; go_must (refine haw.mono ?_); rintro e Co ⟨rfl, yg⟩; clear haw))
  go_ret
  exact ⟨rfl, ll.out.trans (yg.mono ll.out.size)⟩) : p := f
theorem nL {p : Prop} (f : p := by
 clear hrd
 go_at_call 10
 refine hcall.mono ?_
 clear hcall
 rintro e w4 ⟨oA, hA, bA, v4, Cm, rfl, C4, R4, G4, _, _, _, zT, zU, zV, bO, hv4, hl4⟩
 rw [e0.out.1]
 rw [e0.out.1] at C4 R4 G4
 rw [e0.out.2.2.1] at G4 bO
 rw [e0.out.2.1] at bO
 have hof : ∀ k, zP q lg (.slice none 0 0) (.slice none 0 0) k → k = q ∨ k = lg := by
  rintro k (e | e | e | e)
  ·exact .inl e
  ·exact .inr e
  ·simp [Value.ownBlock] at e
  ·simp [Value.ownBlock] at e
 have hb4 : Hid (Below w.heap.size w w4) := hb3.out.trans (bO.below (by
  have := eB.out
  intro k e
  rcases hof k e with e | e <;> omega) hb3.out.size)
 have m4 : w4.ownsMap Tryz.prog 3 RT mp 0 (.map []) := by
  obtain ⟨es, ck, h1, h2⟩ := uO.out
  exact ⟨es, ck, (bO.block mp (Put.lt_of_heap h1) (fun e => by have := eB.out; rcases hof _ e with e | e <;> omega)).trans h1, h2⟩
 have X4 : w4.heap[w2.heap.size]? = some (.cells (encR ⟨y1, y2, y3, y4, y5, y6, y7, y8, y9⟩).toArray 28 (0, 0)) := (bO.block _ (ae rR.out) (fun e => by
  have h1 := qw.out
  have h2 := hG3.out.obj
  rcases hof _ e with e | e
  ·rw [← e] at h1
   exact absurd (rR.out.symm.trans h1) (by simp)
  ·rw [← e] at h2
   exact absurd (rR.out.symm.trans h2) (by simp))).trans rR.out
 obtain ⟨C1, bY⟩ : ∃ C1 : Ct, C1 = { C0 with tasks := 0 + 1, live := v4 } := ⟨_, rfl⟩
 rw [← bY] at C4
 have e1 : C1.tasks = 1 ∧ C1.live = v4 ∧ C1.log = lg ∧ C1.told = .map (some mp) := by
  rw [bY]
  exact ⟨rfl, rfl, e0.out.2.2.1, e0.out.2.2.2⟩
 have hev := kV G4 (by simp)
 have c1 := C4.c1
 rw [e1.2.2.1] at c1
 replace e1 := Lib.hid e1
 replace C4 := Lib.hid C4
 replace R4 := Lib.hid R4
 replace m4 := Lib.hid m4
 replace X4 := Lib.hid X4
 clear bY bO hv4 hl4 zT zU zV hof qw hG3 uO rR hv3 hx e0 G4 hb3
 go_wp2_with fail
 go_at_call 11
 refine hev.mono ?_
 clear hev c1
 rintro e w5 ⟨vE, rfl, oP, hb5⟩
 have C5 := C4.out.below hb5 C4.out.lt
 have htk := bP C5
 rw [e1.out.1] at htk
 have htd := ji 1 C5 e1.out.2.2.2 (aR m4.out hb5) jh.start rfl
 have R5 := Lib.hid (Put.aF R4.out hb5)
 have m5 := Lib.hid (aR m4.out hb5)
 have gP : Hid (Below w.heap.size w w5) := hb4.out.trans (hb5.mono hb4.out.size)
 have X5 : Hid (w5.heap[w2.heap.size]? = some (.cells (encR ⟨y1, y2, y3, y4, y5, y6, y7, y8, y9⟩).toArray 28 (0, 0))) := (hb5.block _ (ae X4.out)).trans X4.out
 replace C5 := Lib.hid C5
 replace oP := Lib.hid oP
 rw [show yV none = .agg #[.int .i64 0, .int .i64 0, .int .i64 0, .int .i64 0, .int .i64 0, .int .i64 0, .int .i64 0, .int .i64 0, .int .i64 0] from rfl] at htd
 clear hb5 C4 R4 m4 X4 hb4
 go_wp2_with (go_at_call 12; go_must (refine htk.mono ?_); rintro e w' ⟨rfl, rfl⟩; clear htk)
 go_at_call 13
 refine htd.mono ?_
 clear htd
 rintro e w6 ⟨rfl, hb6⟩
 obtain ⟨w7, hw7⟩ : ∃ w7, w7 = w6.alloc (.cells j4.toArray 44) := ⟨_, rfl⟩
 have b7 : Below w6.heap.size w6 w7 := by rw [hw7]; exact (Below.refl _ _).alloc (Nat.le_refl _) _
 have fO : Below w5.heap.size w5 w7 := hb6.trans (b7.mono hb6.size)
 have C7 := Lib.hid (C5.out.below fO C5.out.lt)
 have R7 := Lib.hid (Put.aF R5.out fO)
 have m7 := Lib.hid (aR m5.out fO)
 have v7 := oP.out.below fO
 have X7 : Hid (w7.heap[w2.heap.size]? = some (.cells (encR ⟨y1, y2, y3, y4, y5, y6, y7, y8, y9⟩).toArray 28 (0, 0))) := (fO.block _ (ae X5.out)).trans X5.out
 have jg : Hid (Below w.heap.size w w7) := gP.out.trans (fO.mono gP.out.size)
 simp only [j4] at hw7
 have v70 := Lib.hid v7
 obtain ⟨aE, cE, rfl, k1, k2, k3⟩ := v7
 obtain ⟨gE, oE, rfl, _⟩ := k3 (by simp)
 have Cn : cE ≤ 9223372036854775807 := by unfold maxLen at k2; omega
 clear k1 k2 k3 b7 hb6 fO C5 R5 m5 oP X5 gP
 have zE := qY
 obtain ⟨k24, hk⟩ : ∃ k, k = 24 := ⟨_, rfl⟩
 rw [← hk] at zE
 have yh : ∀ W, Below w7.heap.size w7 W → Sem.run Tryz.prog (loadCellsFrom ⟨gE, oE, none⟩ 0 k24 #[]) W = .ok #[.int .i64 0, .int .i64 1, .int .i64 1, .int .i64 y1, .int .i64 y2, .int .i64 y3, .int .i64 y4, .int .i64 y5, .int .i64 y6, .bool y7, .int .i64 y8, .int .i64 y9, .int .i64 0, .int .i64 0, .int .i64 0, .int .i64 0, .int .i64 0, .int .i64 0, .int .i64 0, .int .i64 0, .int .i64 0, .int .i64 0, .int .i64 0, .bool false] W := fun W hW => by
  have := iY (i := 0) (v70.out.below hW) hk (by simp)
  rw [Nat.zero_mul, Nat.add_zero] at this
  exact this
 have hne : ∀ W, (binOp .neq 50 (.agg #[.int .i64 0, .int .i64 1, .int .i64 1, .int .i64 y1, .int .i64 y2, .int .i64 y3, .int .i64 y4, .int .i64 y5, .int .i64 y6, .bool y7, .int .i64 y8, .int .i64 y9, .int .i64 0, .int .i64 0, .int .i64 0, .int .i64 0, .int .i64 0, .int .i64 0, .int .i64 0, .int .i64 0, .int .i64 0, .int .i64 0, .int .i64 0, .bool false]) (.agg #[.int .i64 0, .int .i64 1, .int .i64 1, .int .i64 y1, .int .i64 y2, .int .i64 y3, .int .i64 y4, .int .i64 y5, .int .i64 y6, .bool y7, .int .i64 y8, .int .i64 y9, .int .i64 0, .int .i64 0, .int .i64 0, .int .i64 0, .int .i64 0, .int .i64 0, .int .i64 0, .int .i64 0, .int .i64 0, .int .i64 0, .int .i64 0, .bool false])).run Tryz.prog W = .ok (.bool false) W := fun W => j5 ⟨0, 1, 1, y1, y2, y3, y4, y5, y6, y7, y8, y9, 0, 0, 0, 0, 0, 0, 0, 0, 0, 0, 0, false⟩ W
 have hrc : Hid (∀ W, Below w7.heap.size w7 W → ∀ j z, (encR ⟨y1, y2, y3, y4, y5, y6, y7, y8, y9⟩)[j]? = some z → W.cell? ⟨w2.heap.size, j, none⟩ = some z) := fun W hW j z hz => by
  have := (hW.block _ (ae X7.out)).trans X7.out
  exact ay this j z hz
 replace hk := Lib.hid hk
 replace zE := Lib.hid zE
 replace yh := Lib.hid yh
 replace hne := Lib.hid hne
 go_wp2_with fail
 rw [← hw7]
 clear hw7
 refine Reg2.ro w7 9 189 [.p 0, .m 1, .p 3, .p 7, .p 15, .p 31, .m 63, .m 15, .m 143] [.int .i64 1, .agg #[.int .i64 0, .int .i64 1, .int .i64 1, .int .i64 y1, .int .i64 y2, .int .i64 y3, .int .i64 y4, .int .i64 y5, .int .i64 y6, .bool y7, .int .i64 y8, .int .i64 y9, .int .i64 0, .int .i64 0, .int .i64 0, .int .i64 0, .int .i64 0, .int .i64 0, .int .i64 0, .int .i64 0, .int .i64 0, .int .i64 0, .int .i64 0, .bool false], .agg #[.int .i64 y1, .int .i64 y2, .int .i64 y3, .int .i64 y4, .int .i64 y5, .int .i64 y6, .bool y7, .int .i64 y8, .int .i64 y9], .agg #[.int .i64 0, .int .i64 1, .int .i64 1, .int .i64 y1, .int .i64 y2, .int .i64 y3, .int .i64 y4, .int .i64 y5, .int .i64 y6, .bool y7, .int .i64 y8, .int .i64 y9, .int .i64 0, .int .i64 0, .int .i64 0, .int .i64 0, .int .i64 0, .int .i64 0, .int .i64 0, .int .i64 0, .int .i64 0, .int .i64 0, .int .i64 0, .bool false]] (by kernel_rfl) (by kernel_rfl) rfl rfl ⟨rfl, rfl, rfl, Nat.le_refl _, fun _ _ => rfl⟩ ?_
 dsimp only [Reg2.gJ]
 repeat ((first
  | (refine' Reg2.aO _ (by rfl) (fun wz => ?_) ?_; rotate_left; (go_simp; first | rfl | rw [if_neg (by omega)]))
  | (refine Reg2.aD (by rfl) (fun wz hI hF => ?_) (fun _ => ?_)
     ·unfold Reg2.One
      have zE := zE.out
      have yh := yh.out wz hI
      have r0 := hrc.out wz hI 0 _ rfl
      have r1 := hrc.out wz hI 1 _ rfl
      have r2 := hrc.out wz hI 2 _ rfl
      have r3 := hrc.out wz hI 3 _ rfl
      have r4 := hrc.out wz hI 4 _ rfl
      have r5 := hrc.out wz hI 5 _ rfl
      have r6 := hrc.out wz hI 6 _ rfl
      have r7 := hrc.out wz hI 7 _ rfl
      have r8 := hrc.out wz hI 8 _ rfl
      go_wp2_with fail
      first | exact ⟨_, rfl, rfl, Reg2.Ext.refl _⟩ | exact ⟨_, rfl, ⟨(), rfl, trivial⟩, Reg2.Ext.refl _⟩)); simp only [Act.put, xA, xB, xC, xD, xE])
 refine Reg2.aY ?_
 intro w8 oQ _ HF
 clear HF hrc yh zE
 dsimp only [List.drop]
 have C8 := C7.out.below oQ C7.out.lt
 have R8 := Put.aF R7.out oQ
 have m8 := Lib.hid (aR m7.out oQ)
 have eu : Hid (Below w.heap.size w w8) := jg.out.trans (oQ.mono jg.out.size)
 have hbz : Calls Tryz.prog 14 #[.pointer (some ⟨q, 0, none⟩)] w8 fun e w' => e = .returned (.int .i64 (1 : Nat)) ∧ w8 = w' := by
  obtain ⟨aL, kL, hL, _⟩ := cz R8
  have ha := dX C8
  rw [e1.out.2.1, hL] at ha
  exact iX ha
 rw [show ((1 : Nat) : Int) = 1 from rfl] at hbz
 replace C8 := Lib.hid C8
 replace R8 := Lib.hid R8
 have hne := hne.out
 clear C7 R7 m7 v70 X7 jg
 go_wp2_with (go_at_call 14; go_must (refine hbz.mono ?_); rintro e w' ⟨rfl, rfl⟩)
 have hcase : so < 1 ∨ (1 ≤ so ∧ 64 < so) ∨ (1 ≤ so ∧ so ≤ 64 ∧ dep < 1) ∨ (1 ≤ so ∧ so ≤ 64 ∧ 1 ≤ dep ∧ 64 < dep) ∨ (1 ≤ so ∧ so ≤ 64 ∧ 1 ≤ dep ∧ dep ≤ 64) := by omega
 rcases hcase with hA | hA | hA | hA | hA
 ·have q1 : decide (so < 1) = true := decide_eq_true (by omega)
  have hps := dM C8.out (by rw [e1.out.2.1]; exact R8.out) (by decide) (by rw [e1.out.1]; decide) (by unfold outside; simp; omega : outside so dep = true)
  have htk := bP C8.out
  rw [e1.out.1] at htk
  have haw := bS w8
  clear hso hdp hA
  go_wp2_with (first
   | (go_at_call 15; go_must (refine hps.mono ?_); rintro e w' ⟨rfl, rfl⟩; clear hps)
   | (go_at_call 12; go_must (refine htk.mono ?_); rintro e w' ⟨rfl, rfl⟩; clear htk)
   | (go_at_call 16; go_must (refine haw.mono ?_); rintro e w9 ⟨rfl, eD⟩; clear haw))
  go_ret
  exact ⟨rfl, eu.out.trans (eD.mono eu.out.size)⟩
 ·have q1 : decide (so < 1) = false := decide_eq_false (by omega)
  have q2 : decide ((64 : Int) < so) = true := decide_eq_true (by omega)
  have hps := dM C8.out (by rw [e1.out.2.1]; exact R8.out) (by decide) (by rw [e1.out.1]; decide) (by unfold outside; simp; omega : outside so dep = true)
  have htk := bP C8.out
  rw [e1.out.1] at htk
  have haw := bS w8
  clear hso hdp hA
  go_wp2_with (first
   | (go_at_call 15; go_must (refine hps.mono ?_); rintro e w' ⟨rfl, rfl⟩; clear hps)
   | (go_at_call 12; go_must (refine htk.mono ?_); rintro e w' ⟨rfl, rfl⟩; clear htk)
   | (go_at_call 16; go_must (refine haw.mono ?_); rintro e w9 ⟨rfl, eD⟩; clear haw))
  go_ret
  exact ⟨rfl, eu.out.trans (eD.mono eu.out.size)⟩
 ·have q1 : decide (so < 1) = false := decide_eq_false (by omega)
  have q2 : decide ((64 : Int) < so) = false := decide_eq_false (by omega)
  have q3 : decide (dep < 1) = true := decide_eq_true (by omega)
  have hps := dM C8.out (by rw [e1.out.2.1]; exact R8.out) (by decide) (by rw [e1.out.1]; decide) (by unfold outside; simp; omega : outside so dep = true)
  have htk := bP C8.out
  rw [e1.out.1] at htk
  have haw := bS w8
  clear hso hdp hA
  go_wp2_with (first
   | (go_at_call 15; go_must (refine hps.mono ?_); rintro e w' ⟨rfl, rfl⟩; clear hps)
   | (go_at_call 12; go_must (refine htk.mono ?_); rintro e w' ⟨rfl, rfl⟩; clear htk)
   | (go_at_call 16; go_must (refine haw.mono ?_); rintro e w9 ⟨rfl, eD⟩; clear haw))
  go_ret
  exact ⟨rfl, eu.out.trans (eD.mono eu.out.size)⟩
 ·have q1 : decide (so < 1) = false := decide_eq_false (by omega)
  have q2 : decide ((64 : Int) < so) = false := decide_eq_false (by omega)
  have q3 : decide (dep < 1) = false := decide_eq_false (by omega)
  have q4 : decide ((64 : Int) < dep) = true := decide_eq_true (by omega)
  have hps := dM C8.out (by rw [e1.out.2.1]; exact R8.out) (by decide) (by rw [e1.out.1]; decide) (by unfold outside; simp; omega : outside so dep = true)
  have htk := bP C8.out
  rw [e1.out.1] at htk
  have haw := bS w8
  clear hso hdp hA
  go_wp2_with (first
   | (go_at_call 15; go_must (refine hps.mono ?_); rintro e w' ⟨rfl, rfl⟩; clear hps)
   | (go_at_call 12; go_must (refine htk.mono ?_); rintro e w' ⟨rfl, rfl⟩; clear htk)
   | (go_at_call 16; go_must (refine haw.mono ?_); rintro e w9 ⟨rfl, eD⟩; clear haw))
  go_ret
  exact ⟨rfl, eu.out.trans (eD.mono eu.out.size)⟩
 ·have q1 : decide (so < 1) = false := decide_eq_false (by omega)
  have q2 : decide ((64 : Int) < so) = false := decide_eq_false (by omega)
  have q3 : decide (dep < 1) = false := decide_eq_false (by omega)
  have q4 : decide ((64 : Int) < dep) = false := decide_eq_false (by omega)
  have hps := qp (B := lg) (so := so) (dep := dep) C8.out (by rw [e1.out.2.1]; exact R8.out) (by have := eB.out; have := C8.out.lt; omega) (by decide) (by rw [e1.out.1]; decide) (by omega) (by omega)
  clear hso hdp hA
  go_at_call 15
  refine hps.mono ?_
  clear hps
  rintro e w9 ⟨fp, pl, v9, rfl, C9, _, _, _, oU, _⟩
  rw [e1.out.1]
  rw [e1.out.2.1] at oU
  have eD : Hid (Below w.heap.size w w9) := eu.out.trans (oU.below (by
   have := eB.out
   rintro k (e | e)
   ·omega
   ·have := (R8.out.lt k e).1
    omega) eu.out.size)
  have m9 : w9.ownsMap Tryz.prog 3 RT mp 0 (.map []) := by
   obtain ⟨es, ck, h1, h2⟩ := m8.out
   refine ⟨es, ck, (oU.block mp (Put.lt_of_heap h1) (fun e => ?_)).trans h1, h2⟩
   rcases e with e | e
   ·have := eB.out
    omega
   ·obtain ⟨cur, hc⟩ := df R8.out e
    rw [h1] at hc
    exact absurd hc (by simp)
  obtain ⟨C2, hC2⟩ : ∃ C2 : Ct, C2 = { C1 with tasks := C1.tasks + 1, live := v9 } := ⟨_, rfl⟩
  rw [← hC2] at C9
  have e2 : C2.tasks = 2 ∧ C2.told = .map (some mp) := by
   rw [hC2]
   exact ⟨by show C1.tasks + 1 = 2; rw [e1.out.1]; rfl, e1.out.2.2.2⟩
  have htd := ji 2 C9 e2.2 m9 (jh.start) rfl
  rw [show yV (none : Option Ry) = .agg #[.int .i64 0, .int .i64 0, .int .i64 0, .int .i64 0, .int .i64 0, .int .i64 0, .int .i64 0, .int .i64 0, .int .i64 0] from rfl, show ((none : Option Ry)).isSome = false from rfl] at htd
  replace e2 := Lib.hid e2
  replace C9 := Lib.hid C9
  clear hC2 oU m9 eu C8 R8 m8
  go_wp2_with fail
  go_at_call 13
  refine htd.mono ?_
  clear htd
  rintro e j3 ⟨rfl, je⟩
  obtain ⟨jO, jl⟩ : ∃ jO, jO = j3.alloc (.cells j4.toArray 44) := ⟨_, rfl⟩
  have b11 : Below j3.heap.size j3 jO := by rw [jl]; exact (Below.refl _ _).alloc (Nat.le_refl _) _
  have kZ : Below w9.heap.size w9 jO := je.trans (b11.mono je.size)
  have htk := bP (C9.out.below kZ C9.out.lt)
  rw [e2.out.1] at htk
  have haw := bS jO
  have ll : Hid (Below w.heap.size w jO) := eD.out.trans (kZ.mono eD.out.size)
  simp only [j4] at jl
  clear je b11 kZ C9 eD
  go_wp2_with fail
  rw [← jl]
  clear jl
  go_wp2_with (first
   | (go_at_call 12; go_must (refine htk.mono ?_); rintro e w' ⟨rfl, rfl⟩; clear htk)
   | (go_at_call 16; go_must (refine haw.mono ?_); rintro e Co ⟨rfl, yg⟩; clear haw))
  go_ret
  exact ⟨rfl, ll.out.trans (yg.mono ll.out.size)⟩) : p := f
theorem nM {p : Prop} (f : p := by
 rcases hP with ⟨_, a, b⟩ | ⟨_, a, b⟩ | ⟨_, _, ⟨_, _, _, b⟩ | ⟨_, a, b⟩⟩
 ·exact .inr ⟨by omega, a⟩
 ·exact .inr ⟨by omega, a⟩
 ·exact .inl b
 ·exact .inr ⟨by omega, a⟩) : p := f
theorem nN {p : Prop} (f : p := by
 obtain ⟨x', q', rfl, hP', hb'⟩ := h
 obtain ⟨rfl, rfl⟩ := rQ hP hP'
 exact ⟨rfl, hb'⟩) : p := f
end Go.Proofs.YtbdfpbknckghgaaGreat
namespace Go.Proofs.YtbdfpbknckghgaaGreat
open Go.RowKit Go.Lib Go.Sort Go.Maps
theorem yf (x y : Ry) (w : World) : (binOp .neq 44 (.agg (aI x).toArray) (.agg (aI y).toArray)).run Tryz.prog w = .ok (.bool (!decide (x = y))) w := by
 rw [run_neq_struct, pU]; rfl
theorem lq (v0 : Value) (l : List UInt8) (so dep : Int) (w : World) (hr : ai cO 1 w v0 l) (hso : -9223372036854775808 ≤ so ∧ so ≤ 9223372036854775807) (hdp : -9223372036854775808 ≤ dep ∧ dep ≤ 9223372036854775807) :
 Calls Tryz.prog 3 #[v0, .int .i64 so, .int .i64 dep] w fun e w' => e = .returned (.bool true) ∧ Below w.heap.size w w' := by
 have hc := ny 3 w (by decide) (by decide)
 have hr0 := Lib.hid hr
 obtain ⟨ao, cap, rfl, h1, h2, h3⟩ := hr
 obtain ⟨nl, hnl⟩ : ∃ nl, l.length = nl := ⟨_, rfl⟩
 rw [hnl] at hr0 h1 h3 ⊢
 by_cases hcut : 100 < nl
 ·have d0 : decide ((100 : Int) < (nl : Int)) = true := decide_eq_true (by omega)
  have hvv : Hid (ai cO 1 w (.slice ao 100 cap) (l.take 100)) := ai.cut hr0.out (by omega)
  have hll : (l.take 100).length ≤ 100 := by simp; omega
  have hcp : cap ≤ 9223372036854775807 := by unfold maxLen at h2; omega
  obtain ⟨b0, sF, rfl, _⟩ := h3 (by omega)
  clear h2 h3
  go_enter Tryz.func3, Tryz.ntmps3
  go_wp2_with fail
  go_at_call 8
  refine hc.mono ?_
  clear hc
  rintro e w1 ⟨q, k, t, d, p, v, g, lg, s, mp, rfl, bY, _, _, hG1, _, hM1, o1, o2, o3, o4, hb1⟩
  have hv1 : ai cO 1 w1 (.slice (some ⟨b0, sF, none⟩) 100 cap) (l.take 100) := hvv.out.below hb1
  have hrd := gN hv1 hll
  obtain ⟨C0, hC0⟩ : ∃ C0 : Ct, C0 = ⟨k, lg, s, 0, .slice none 0 0, .map (some mp)⟩ := ⟨_, rfl⟩
  rw [← hC0] at bY
  have e0 : Hid (C0.tasks = 0 ∧ C0.live = .slice none 0 0 ∧ C0.log = lg ∧ C0.told = .map (some mp)) := by rw [hC0]; exact ⟨rfl, rfl, rfl, rfl⟩
  have hm1 : w1.ownsMap Tryz.prog 3 RT mp 0 (.map []) := ⟨#[], 0, hM1, ⟨by simp, MapKept.stamped_empty 0, by simp⟩, Nat.le_refl _, rfl⟩
  have eB : Hid (w.heap.size ≤ lg ∧ lg < s ∧ s < mp ∧ mp < q) := ⟨o4, o1, o2, o3⟩
  replace bY := Lib.hid bY
  replace hG1 := Lib.hid hG1
  replace hm1 := Lib.hid hm1
  replace hb1 := Lib.hid hb1
  replace hv1 := Lib.hid hv1
  clear hC0 o1 o2 o3 o4 hM1
  go_wp2_with fail
  go_at_call 9
  refine hrd.mono ?_
  clear hrd
  rintro e w2 ⟨x, qe, rfl, hP, hb2⟩
  obtain ⟨w3, hw3⟩ : ∃ w3, w3 = w2.alloc (.cells (encR x).toArray 28) := ⟨_, rfl⟩
  have b3 : Below w2.heap.size w2 w3 := by rw [hw3]; exact (Below.refl _ _).alloc (Nat.le_refl _) _
  have fQ : Below w1.heap.size w1 w3 := hb2.trans (b3.mono hb2.size)
  have rR : Hid (w3.heap[w2.heap.size]? = some (.cells (encR x).toArray 28 (0, 0))) := by show _ = _; rw [hw3]; exact heap_alloc_new w2 _
  have qw := Lib.hid (bY.out.below fQ bY.out.lt)
  have hG3 := Lib.hid (hG1.out.below fQ)
  have uO := Lib.hid (aR hm1.out fQ)
  have hv3 := Lib.hid (hv1.out.below fQ)
  have hb3 : Hid (Below w.heap.size w w3) := hb1.out.trans (fQ.mono hb1.out.size)
  have hrd : ∀ W, Below w3.heap.size w3 W → Calls Tryz.prog 9 #[(.slice (some ⟨b0, sF, none⟩) 100 cap)] W fun e w' => e = .returned (.tuple #[.agg (encR x).toArray, .int .i64 qe]) ∧ Below W.heap.size W w' := fun W hW => (gN (hv3.out.below hW) hll).mono fun e w' h => by
   exact nN
  have hx : Hid (qe = 0 ∨ qe ≠ 0 ∧ x = ag) := by
   exact nM
  replace hrd := Lib.hid hrd
  obtain ⟨y1, y2, y3, y4, y5, y6, y7, y8, y9⟩ := x
  rw [show (encR ⟨y1, y2, y3, y4, y5, y6, y7, y8, y9⟩).toArray = #[.int .i64 y1, .int .i64 y2, .int .i64 y3, .int .i64 y4, .int .i64 y5, .int .i64 y6, .bool y7, .int .i64 y8, .int .i64 y9] from rfl] at hw3 ⊢
  clear b3 fQ bY hG1 hm1 hv1 hb1 hb2 hP
  go_wp2_with fail
  rw [← hw3]
  clear hw3
  rcases hx.out with rfl | ⟨hq, hxz⟩
  ·have hcall := jc (B := lg) (C := C0) (L := []) (E := []) (vl := .slice none 0 0) (st := 0) qw.out (by rw [e0.out.2.1]; exact ⟨rfl, .inl ⟨rfl, rfl⟩⟩) (by rw [e0.out.2.2.1]; exact hG3.out) (by decide) (by decide) (by rw [e0.out.1]; decide) ⟨y1, y2, y3, y4, y5, y6, y7, y8, y9⟩ (.slice (some ⟨b0, sF, none⟩) 100 cap) hrd.out
   exact nL
  ·injection hxz with a1 a2 a3 a4 a5 a6 a7 a8 a9
   subst a1 a2 a3 a4 a5 a6 a7 a8 a9
   have hcall := nJ (B := lg) (C := C0) (L := []) (E := []) (vl := .slice none 0 0) (st := 0) (mp := mp) (n := 0) (D := .map []) qw.out (by rw [e0.out.2.1]; exact ⟨rfl, .inl ⟨rfl, rfl⟩⟩) (by rw [e0.out.2.2.1]; exact hG3.out) (by decide) (by decide) (by rw [e0.out.1]; decide) e0.out.2.2.2 uO.out (by decide) ⟨0, 0, 0, 0, 0, 0, false, 0, 0⟩ qe hq (.slice (some ⟨b0, sF, none⟩) 100 cap) (hrd.out w3 (Below.refl _ _))
   exact nK
 ·have d0 : decide ((100 : Int) < (nl : Int)) = false := decide_eq_false (by omega)
  have hvv : Hid (ai cO 1 w (.slice ao nl cap) l) := hr0
  have hll : l.length ≤ 100 := by omega
  clear h2 h3
  go_enter Tryz.func3, Tryz.ntmps3
  go_wp2_with fail
  go_at_call 8
  refine hc.mono ?_
  clear hc
  rintro e w1 ⟨q, k, t, d, p, v, g, lg, s, mp, rfl, bY, _, _, hG1, _, hM1, o1, o2, o3, o4, hb1⟩
  have hv1 : ai cO 1 w1 (.slice ao nl cap) l := hvv.out.below hb1
  have hrd := gN hv1 hll
  obtain ⟨C0, hC0⟩ : ∃ C0 : Ct, C0 = ⟨k, lg, s, 0, .slice none 0 0, .map (some mp)⟩ := ⟨_, rfl⟩
  rw [← hC0] at bY
  have e0 : Hid (C0.tasks = 0 ∧ C0.live = .slice none 0 0 ∧ C0.log = lg ∧ C0.told = .map (some mp)) := by rw [hC0]; exact ⟨rfl, rfl, rfl, rfl⟩
  have hm1 : w1.ownsMap Tryz.prog 3 RT mp 0 (.map []) := ⟨#[], 0, hM1, ⟨by simp, MapKept.stamped_empty 0, by simp⟩, Nat.le_refl _, rfl⟩
  have eB : Hid (w.heap.size ≤ lg ∧ lg < s ∧ s < mp ∧ mp < q) := ⟨o4, o1, o2, o3⟩
  replace bY := Lib.hid bY
  replace hG1 := Lib.hid hG1
  replace hm1 := Lib.hid hm1
  replace hb1 := Lib.hid hb1
  replace hv1 := Lib.hid hv1
  clear hC0 o1 o2 o3 o4 hM1
  go_wp2_with fail
  go_at_call 9
  refine hrd.mono ?_
  clear hrd
  rintro e w2 ⟨x, qe, rfl, hP, hb2⟩
  obtain ⟨w3, hw3⟩ : ∃ w3, w3 = w2.alloc (.cells (encR x).toArray 28) := ⟨_, rfl⟩
  have b3 : Below w2.heap.size w2 w3 := by rw [hw3]; exact (Below.refl _ _).alloc (Nat.le_refl _) _
  have fQ : Below w1.heap.size w1 w3 := hb2.trans (b3.mono hb2.size)
  have rR : Hid (w3.heap[w2.heap.size]? = some (.cells (encR x).toArray 28 (0, 0))) := by show _ = _; rw [hw3]; exact heap_alloc_new w2 _
  have qw := Lib.hid (bY.out.below fQ bY.out.lt)
  have hG3 := Lib.hid (hG1.out.below fQ)
  have uO := Lib.hid (aR hm1.out fQ)
  have hv3 := Lib.hid (hv1.out.below fQ)
  have hb3 : Hid (Below w.heap.size w w3) := hb1.out.trans (fQ.mono hb1.out.size)
  have hrd : ∀ W, Below w3.heap.size w3 W → Calls Tryz.prog 9 #[(.slice ao nl cap)] W fun e w' => e = .returned (.tuple #[.agg (encR x).toArray, .int .i64 qe]) ∧ Below W.heap.size W w' := fun W hW => (gN (hv3.out.below hW) hll).mono fun e w' h => by
   exact nN
  have hx : Hid (qe = 0 ∨ qe ≠ 0 ∧ x = ag) := by
   exact nM
  replace hrd := Lib.hid hrd
  obtain ⟨y1, y2, y3, y4, y5, y6, y7, y8, y9⟩ := x
  rw [show (encR ⟨y1, y2, y3, y4, y5, y6, y7, y8, y9⟩).toArray = #[.int .i64 y1, .int .i64 y2, .int .i64 y3, .int .i64 y4, .int .i64 y5, .int .i64 y6, .bool y7, .int .i64 y8, .int .i64 y9] from rfl] at hw3 ⊢
  clear b3 fQ bY hG1 hm1 hv1 hb1 hb2 hP
  go_wp2_with fail
  rw [← hw3]
  clear hw3
  rcases hx.out with rfl | ⟨hq, hxz⟩
  ·have hcall := jc (B := lg) (C := C0) (L := []) (E := []) (vl := .slice none 0 0) (st := 0) qw.out (by rw [e0.out.2.1]; exact ⟨rfl, .inl ⟨rfl, rfl⟩⟩) (by rw [e0.out.2.2.1]; exact hG3.out) (by decide) (by decide) (by rw [e0.out.1]; decide) ⟨y1, y2, y3, y4, y5, y6, y7, y8, y9⟩ (.slice ao nl cap) hrd.out
   exact nL
  ·injection hxz with a1 a2 a3 a4 a5 a6 a7 a8 a9
   subst a1 a2 a3 a4 a5 a6 a7 a8 a9
   have hcall := nJ (B := lg) (C := C0) (L := []) (E := []) (vl := .slice none 0 0) (st := 0) (mp := mp) (n := 0) (D := .map []) qw.out (by rw [e0.out.2.1]; exact ⟨rfl, .inl ⟨rfl, rfl⟩⟩) (by rw [e0.out.2.2.1]; exact hG3.out) (by decide) (by decide) (by rw [e0.out.1]; decide) e0.out.2.2.2 uO.out (by decide) ⟨0, 0, 0, 0, 0, 0, false, 0, 0⟩ qe hq (.slice ao nl cap) (hrd.out w3 (Below.refl _ _))
   exact nK
end Go.Proofs.YtbdfpbknckghgaaGreat


namespace Go.Proofs.YtbdfpbknckghgaaGreat.ctrlCalls
open Go.ChangeShapes Go.WideShapes Go.ChangeAt Go.RowKit
theorem own : ownKnob Tryz.prog.godebug = none := by kernel_rfl
theorem laid : laidOutB Tryz.prog = true := by kernel_rfl
theorem readable : (Tryz.f3.params.toList.all fun t => Tryz.prog.readableRec t && decide (t < Tryz.prog.types.size)) = true := by kernel_rfl
theorem lifted (os : Os) (started : os.Started) (H : Type) (enc : TypeId × Value → H) :
 ReturnsInHanded {} Tryz.checked os 3 .any (Rows.ctrlCallsSpec.pre6 enc Tryz.prog Tryz.f3 Rows.ctrlCallsRow.domain false) (Rows.ctrlCallsSpec.post enc Tryz.prog Tryz.f3 false true false false) := by
 refine returnsInHanded_of_change (C := Tryz.checked) own started (by kernel_rfl) Tryz.func3
  (ChangeSpec.witness6 (enc := enc) (C := Tryz.checked) false ⟨#[], #[.slice none 0 0, .int .i64 0, .int .i64 0], []⟩ 8 (by kernel_rfl) (by kernel_rfl) (by kernel_rfl) (by kernel_rfl)) ?_
 intro W base args ds gs before hval0 hW hcnd _
 have hval : ∀ (j : Nat) t v, Tryz.f3.params[j]? = some t → args[j]? = some v → Value.okWide Tryz.prog W .any base t v := hval0
 have hW' := hW
 obtain ⟨p, q, Bu, hV, hpq, hfz, hnd⟩ := hW
 have hA : DataW.TrodAll enc Tryz.prog W 0 (fun _ => true) true Tryz.f3.params.toList args.toList ds p := Bu
 rw [Tryz.params3] at hA hval
 obtain ⟨v0, CO, d0, ds0, p0, q0, hargs, rfl, rfl, h0, r0⟩ := trodAll_cons hA
 obtain ⟨v1, vs1, d1, ds1, p1, q1, rfl, rfl, rfl, h1, r1⟩ := trodAll_cons r0
 obtain ⟨v2, vs2, d2, CP, p2, q2, rfl, rfl, rfl, h2, r2⟩ := trodAll_cons r1
 obtain ⟨rfl, rfl, rfl⟩ := trodAll_nil r2
 obtain rfl : args = #[v0, v1, v2] := by cases args; simp_all
 obtain ⟨rfl, rfl⟩ := trodVars_none hV
 obtain ⟨l0, hl0⟩ := tK Tryz.underlying22 Tryz.underlying5 (by kernel_rfl) (hval 0 22 v0 rfl rfl) h0
 obtain ⟨a1, rfl, rfl, rfl, w1⟩ := open_int Tryz.underlying3 (hval 1 3 v1 rfl rfl) h1
 obtain ⟨a2, rfl, rfl, rfl, w2⟩ := open_int Tryz.underlying3 (hval 2 3 v2 rfl rfl) h2
 clear Bu hval0
 refine (lq v0 l0 a1 a2 W hl0 (bounds_i64 w1) (bounds_i64 w2)).mono fun e W' ⟨he, hg⟩ => ?_
 subst he
 exact ⟨_, rfl, sG hW' rfl rfl rfl Tryz.underlying4 laid (yj readable) hg⟩
theorem over : Rows.ctrlCallsRow.holds Tryz.pinned (OpenSpec.ofChange Rows.ctrlCallsSpec) :=
 OpenClaim.holds_of_wide 3 Tryz.f3 rfl rfl rfl rfl rfl rfl rfl ⟨rfl, rfl, rfl, rfl, rfl⟩ rfl rfl rfl rfl rfl (by kernel_rfl) Tryz.func3 (by kernel_rfl)
  (of_decide_eq_true (by kernel_rfl)) (by unfold Func.isWrapper; first | (rw [if_pos (by decide +kernel)]; kernel_rfl) | (rw [if_neg (by decide +kernel)]; exact ⟨rfl, rfl⟩))
  (fun os started H enc _ => lifted os started H enc)
theorem proved : Rows.CtrlCallsSaid := over
#print axioms proved
end Go.Proofs.YtbdfpbknckghgaaGreat.ctrlCalls
