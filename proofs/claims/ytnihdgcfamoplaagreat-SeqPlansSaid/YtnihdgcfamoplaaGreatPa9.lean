/-
 SeqPlans of the Go text returns true for every input, and each argument reads afterwards as it read before. No condition.
-/
import Derived.Deep.CutRange
import Derived.Test.YtnihdgcfamoplaaGreatRows
import Derived.ProofKit
import Derived.OpenShut
import Derived.Test.YtnihdgcfamoplaaGreatPa8
set_option maxRecDepth 1000000
set_option maxHeartbeats 8000000
set_option linter.all false
namespace Go.Proofs.YtnihdgcfamoplaaGreat
open Go.RowKit Go.Lib Go.Sort
theorem Qh {M : Md} (hI : aG M) (r : Rw) : M.L.length ≤ (dW M r).2.L.length := by
 unfold dW
 by_cases hc : M.cl = true
 ·rw [if_pos hc]; exact Nat.le_refl _
 rw [if_neg hc]
 by_cases k1 : r.kind = 1
 ·rw [if_pos k1]
  unfold gI
  split
  ·exact Nat.le_refl _
  split
  ·show M.L.length ≤ (M.L ++ [_]).length; simp
  ·rw [(nC _ _).1]
   show M.L.length ≤ (M.L ++ [_]).length
   simp
 rw [if_neg k1]
 by_cases k2 : r.kind = 2 ∨ r.kind = 5
 ·rw [if_pos k2]
  unfold ku
  simp only
  split
  ·exact Nat.le_refl _
  split
  ·exact Nat.le_refl _
  ·show M.L.length ≤ (M.L.set _ _).length; rw [List.length_set]; exact Nat.le_refl _
 rw [if_neg k2]
 by_cases k3 : r.kind = 3 ∨ r.kind = 4 ∨ r.kind = 6
 ·rw [if_pos k3]
  unfold fE
  simp only
  split
  ·exact Nat.le_refl _
  split
  ·exact Nat.le_refl _
  split
  ·rw [(nC _ _).1]
   show M.L.length ≤ (M.L.set _ _).length
   rw [List.length_set]; exact Nat.le_refl _
  ·show M.L.length ≤ (M.L.set _ _).length; rw [List.length_set]; exact Nat.le_refl _
 rw [if_neg k3]
 by_cases k7 : r.kind = 7 ∨ r.kind = 8
 ·rw [if_pos k7]
  unfold gF
  split
  ·exact Nat.le_refl _
  split
  ·exact Nat.le_refl _
  ·unfold fo
   split
   ·show M.L.length ≤ (fu M kF).L.length; rw [(nC _ _).1]; exact Nat.le_refl _
   ·exact Nat.le_refl _
 rw [if_neg k7]
 by_cases k9 : r.kind = 9
 ·rw [if_pos k9]
  unfold ko
  split
  ·exact Nat.le_refl _
  ·have hn := hI.mb.now
   have hk := vw (M.now + r.by') (2 * M.L.length + 1) hI.mb (by omega)
   show M.L.length ≤ (cZ _ _ M).L.length
   rw [hk.2.1]; exact Nat.le_refl _
 rw [if_neg k9]
 repeat' split
 all_goals exact Nat.le_refl _
theorem Qi {M : Md} (h : Ok M) (x : De) : M.L.length ≤ (mF M x).L.length := by
 unfold mF
 split
 ·rw [(yG M x.xi x.xt).1]; exact Nat.le_refl _
 ·exact Qh h.inv _
section
variable {w : World} {u : Value} {l : List De}
theorem Ih (h : aF jg 12 w u l) (hfit : ∀ x ∈ l, qN x) (x : De) (hx : qN x) (n : Int) : Calls Tryz.prog 5 #[.int .i64 n, u, .agg (jg x).toArray] w fun e w' => e = .returned (.bool true) ∧ Below w.heap.size w w' := by
 obtain ⟨wA, aB⟩ : ∃ wA, wA = w.alloc (.cells (jg x).toArray 36) := ⟨_, rfl⟩
 have bC : Hid (Below w.heap.size w wA) := by show Below _ _ _; rw [aB]; exact (Below.refl _ _).alloc (Nat.le_refl _) _
 have dG : wA.heap[w.heap.size]? = some (.cells (jg x).toArray 36 (0, 0)) := by rw [aB]; exact heap_alloc_new w _
 have hlA : w.heap.size < wA.heap.size := ay dG
 have hA := h.below bC.out
 by_cases hn : n < 1 ∨ 64 < n
 ·have hm := Np hA n hn
  have haw := A9 wA
  generalize jg x = cD at *
  go_enter Tryz.func5, Tryz.ntmps5
  go_wp2_with fail
  rw [← aB]
  replace aB := Lib.hid aB
  go_at_call 16
  refine hm.mono ?_
  clear hm
  rintro e w1 ⟨rfl, rfl⟩
  go_wp2_with fail
  go_at_call 9
  refine haw.mono ?_
  clear haw
  rintro e w2 ⟨rfl, hb2⟩
  go_wp2_with fail
  go_ret
  exact ⟨rfl, bC.out.trans (hb2.mono bC.out.size)⟩
 obtain ⟨N, rfl⟩ := Int.eq_ofNat_of_zero_le (show 0 ≤ n by omega)
 have hm := Qc hA hfit N (by omega) (by omega)
 obtain ⟨M, hM⟩ : ∃ M, M = lU (eF N) (l.take 60) := ⟨_, rfl⟩
 have hpl := Dl (Ok.new (show N ≤ 64 by omega)) (l.take 60)
 rw [← hM] at hm hpl
 have hdr : M.dr.length = N := by rw [hpl.2.2]; simp [eF]
 have hd1 : 1 ≤ M.dr.length := by omega
 have WY : M.L.length ≤ 60 := by
  have h1 := hpl.2.1
  have h2 : (eF N).L.length = 0 := rfl
  have h3 : (l.take 60).length ≤ 60 := by rw [List.length_take]; omega
  omega
 have hok := hpl.1
 obtain ⟨M2, hM2⟩ : ∃ M2, M2 = mF M x := ⟨_, rfl⟩
 have hok2 : Ok M2 := by rw [hM2]; exact hok.de x
 have hl2 : M.L.length ≤ M2.L.length ∧ M2.L.length ≤ M.L.length + 1 := by rw [hM2]; exact ⟨Qi hok x, (KW hok x).1⟩
 have U2 : Hid (∀ i, i < M.L.length → aj (M.L.getD i default) = true → qO x.ma x.r.kind x.r.id (M.L.getD i default) M.L M2.L = false → wu (M.L.getD i default) (M2.L.getD i default) M2.now = true ∨ wy (M.L.getD i default) (M2.L.getD i default) x.ma = true) := by
  intro i hi hp he
  rw [hM2] at he hok2 hl2 ⊢
  exact H9 hok.inv x hok2 hi (by omega) hp he
 have hSD : Hid (∀ W s c t d p v g, SO wA.heap.size W s c t d p v g 60000 M → wA.heap.size ≤ W.heap.size → (x.ma = true → Calls Tryz.prog 11 #[.pointer (some ⟨s, 0, none⟩), .agg #[.int .i64 x.xi, .int .i64 x.xt]] W (yZ wA.heap.size W s c t d p v g 60000 M2 (.bool (bu M x.xi x.xt).1))) ∧
   (x.ma = false → Calls Tryz.prog 14 #[.pointer (some ⟨s, 0, none⟩), .agg (encR x.r).toArray] W (yZ wA.heap.size W s c t d p v g 60000 M2 (.agg (bU (kY (yH M (toW x.r)).1)).toArray)))) := by
  intro W s c t d p v g hS hW
  refine ⟨fun hc => ?_, fun hc => ?_⟩
  ·rw [hM2, show mF M x = (bu M x.xi x.xt).2 by unfold mF; rw [if_pos hc]]
   exact sJ hS hW x.xi x.xt hok hd1 (by omega) (by decide) hx.2.2
  ·rw [hM2, show mF M x = (dW M (toW x.r)).2 by unfold mF; rw [if_neg (by rw [hc]; decide)]]
   exact za hS hW x.r hok hd1 (by omega) (by decide) hx.1.node
 have Tm : Hid (∀ W ua ub (y : Jb), aF ag 10 W ua M.L → aF ag 10 W ub M2.L → Calls Tryz.prog 24 #[.agg (jg x).toArray, .agg (ag y).toArray, ua, ub] W fun e w' => e = .returned (.bool (qO x.ma x.r.kind x.r.id y M.L M2.L)) ∧ Below W.heap.size W w') :=
  fun W ua ub y h1 h2 => Ig h1 h2 x y (by omega) (by omega)
 clear hpl hdr hfit h hM hA hM2
 obtain ⟨cm, ⟨y1, y2, y3, y4, y5, y6, y7, y8, y9⟩, xi, xt⟩ := x
 rw [show (jg ⟨cm, ⟨y1, y2, y3, y4, y5, y6, y7, y8, y9⟩, xi, xt⟩).toArray = #[.bool cm, .int .i64 y1, .int .i64 y2, .int .i64 y3, .int .i64 y4, .int .i64 y5, .int .i64 y6, .bool y7, .int .i64 y8, .int .i64 y9, .int .i64 xi, .int .i64 xt] from rfl] at aB dG Tm ⊢
 dsimp only at hSD Tm U2
 rw [show (encR ⟨y1, y2, y3, y4, y5, y6, y7, y8, y9⟩).toArray = #[.int .i64 y1, .int .i64 y2, .int .i64 y3, .int .i64 y4, .int .i64 y5, .int .i64 y6, .bool y7, .int .i64 y8, .int .i64 y9] from rfl] at hSD
 generalize (bU (kY (yH M (toW ⟨y1, y2, y3, y4, y5, y6, y7, y8, y9⟩)).1)).toArray = ry at *
 generalize (bu M xi xt).1 = rc at *
 replace hn := Lib.hid hn
 go_enter Tryz.func5, Tryz.ntmps5
 go_wp2_with fail
 rw [← aB]
 replace aB := Lib.hid aB
 replace dG := Lib.hid dG
 go_at_call 16
 refine hm.mono ?_
 clear hm
 rintro e w1 ⟨s, c, t, d, p, v, g, rfl, S1, hb1⟩
 have hf1 : ∀ k, dY c t d p v g k → k < w1.heap.size := fun k => S1.cw.lt
 replace hf1 := Lib.hid hf1
 have q0 := S1.at'.c0
 have q1 := S1.cw.c0
 have h1 := Ia S1.cw (by omega)
 go_wp2_with fail
 go_at_call 17
 refine h1.mono ?_
 clear h1 q0 q1
 rintro e w2 ⟨uJ, rfl, hJ2, hb2⟩
 have S2 := S1.kept hb2
 have K3 : Hid (Below wA.heap.size wA w2) := hb1.trans (hb2.mono hb1.size)
 have hsd := hSD.out w2 s c t d p v g S2 K3.out.size
 clear hb1 hb2 S1 hSD
 have xJ := (K3.out.block _ hlA).trans dG.out
 have k0 : w2.cell? ⟨w.heap.size, 0, none⟩ = some (.bool cm) := by simp [World.cell?, xJ]
 have k1 : w2.cell? ⟨w.heap.size, 1, none⟩ = some (.int .i64 y1) := by simp [World.cell?, xJ]
 have k2 : w2.cell? ⟨w.heap.size, 2, none⟩ = some (.int .i64 y2) := by simp [World.cell?, xJ]
 have k3 : w2.cell? ⟨w.heap.size, 3, none⟩ = some (.int .i64 y3) := by simp [World.cell?, xJ]
 have k4 : w2.cell? ⟨w.heap.size, 4, none⟩ = some (.int .i64 y4) := by simp [World.cell?, xJ]
 have k5 : w2.cell? ⟨w.heap.size, 5, none⟩ = some (.int .i64 y5) := by simp [World.cell?, xJ]
 have k6 : w2.cell? ⟨w.heap.size, 6, none⟩ = some (.int .i64 y6) := by simp [World.cell?, xJ]
 have k7 : w2.cell? ⟨w.heap.size, 7, none⟩ = some (.bool y7) := by simp [World.cell?, xJ]
 have k8 : w2.cell? ⟨w.heap.size, 8, none⟩ = some (.int .i64 y8) := by simp [World.cell?, xJ]
 have k9 : w2.cell? ⟨w.heap.size, 9, none⟩ = some (.int .i64 y9) := by simp [World.cell?, xJ]
 have k10 : w2.cell? ⟨w.heap.size, 10, none⟩ = some (.int .i64 xi) := by simp [World.cell?, xJ]
 have k11 : w2.cell? ⟨w.heap.size, 11, none⟩ = some (.int .i64 xt) := by simp [World.cell?, xJ]
 clear xJ
 go_upto_if 30 with fail
 go_cut [] from 29 (fun wc => ∃ v5 g5, Hid (SO wA.heap.size wc s c t d p v5 g5 (60000 + 1000) M2) ∧ Hid (aF ag 10 wc uJ M.L) ∧ Hid (Below wA.heap.size wA wc))
 case first =>
  cases cm with
  | true =>
   have hq := hsd.1 rfl
   clear hsd
   go_wp2_with fail
   go_at_call 11
   refine hq.mono ?_
   clear hq k0 k1 k2 k3 k4 k5 k6 k7 k8 k9 k10 k11
   rintro e w5 ⟨v5, g5, rfl, S5, oq, hb5⟩
   have Bd := Lib.hid (K3.out.trans hb5)
   have yM := Lib.hid (hJ2.cs oq hf1.out).now
   replace S5 := Lib.hid S5
   clear oq hb5
   go_wp2_with fail
   go_meet
   case rel => exact ⟨v5, g5, S5, yM, Bd⟩
  | false =>
   have hq := hsd.2 rfl
   clear hsd
   go_wp2_with fail
   go_at_call 14
   refine hq.mono ?_
   clear hq k0 k1 k2 k3 k4 k5 k6 k7 k8 k9 k10 k11
   rintro e w5 ⟨v5, g5, rfl, S5, oq, hb5⟩
   have Bd := Lib.hid (K3.out.trans hb5)
   have yM := Lib.hid (hJ2.cs oq hf1.out).now
   replace S5 := Lib.hid S5
   clear oq hb5
   go_wp2_with fail
   go_meet
   case rel => exact ⟨v5, g5, S5, yM, Bd⟩
 case rest =>
  obtain ⟨v5, g5, S5, yM, Bd⟩ := hcut
  clear hsd k0 k1 k2 k3 k4 k5 k6 k7 k8 k9 k10 k11 hJ2 S2
  have q0 := S5.out.at'.c0
  have q1 := S5.out.cw.c0
  have h1 := Ia S5.out.cw (by omega)
  go_wp2_with fail
  go_at_call 17
  refine h1.mono ?_
  clear h1 q0 q1
  rintro e w6 ⟨uK, rfl, Q9, hb6⟩
  have S6 := Lib.hid (S5.out.kept hb6)
  have U3 := Lib.hid (yM.out.below hb6)
  replace Q9 := Lib.hid Q9.now
  have Ii : Hid (Below wA.heap.size wA w6) := Bd.out.trans (hb6.mono Bd.out.size)
  have U4 := Lib.hid ((Ii.out.block _ hlA).trans dG.out)
  clear hb6 Bd yM S5
  obtain ⟨WZ, cJ, rfl, j1, j2, _⟩ := U3.out
  obtain ⟨Xa, cK, rfl, k1, k2, _⟩ := Q9.out
  have hcJ : cJ ≤ 9223372036854775807 := by unfold maxLen at j2; omega
  have hcK : cK ≤ 9223372036854775807 := by unfold maxLen at k2; omega
  have b1 : ¬ (M2.L.length : Int) < (M.L.length : Int) := by omega
  have d1 : decide ((M2.L.length : Int) < (M.L.length : Int)) = false := decide_eq_false b1
  have d1' : decide (M2.L.length < M.L.length) = false := decide_eq_false (by omega)
  go_wp2_with fail
  go_loopg [10] (M.L.length) (fun k ii wr => ∃ (i : Nat), i + k = M.L.length ∧ ii = .int .i64 i ∧ Hid (Below w6.heap.size w6 wr))
  case atStart => exact ⟨0, Nat.zero_add _, rfl, Below.refl _ _⟩
  case round =>
   obtain ⟨i, hin, rfl, hbr⟩ := hrel
   by_cases hlt : i < M.L.length
   ·have b2 : (i : Int) < (M.L.length : Int) := by omega
    have b3 : (i : Int) < (M2.L.length : Int) := by omega
    have wi : IntKind.i64.wrap ((i : Int) + 1) = (i : Int) + 1 := by rw [IntKind.wrap_i64]; omega
    have Ra := U3.out.below hbr.out
    have hKr := Q9.out.below hbr.out
    obtain ⟨bJ, oJ, Xb, eJ, _, _, Xc, LJ⟩ := Ra.Il i hlt
    obtain ⟨bK, oK, Xd, eK, _, _, Xe, LK⟩ := hKr.Il i (by omega)
    injection eJ with VO _ VP
    injection eK with VQ _ VR
    subst VO VP VQ VR
    have hpl := U2.out i hlt
    have hex : Hid (∀ W, Below wr.heap.size wr W → _) := fun W hW => Tm.out W _ _ (M.L.getD i default) (Ra.below hW) (hKr.below hW)
    generalize M.L.getD i default = x at *
    generalize M2.L.getD i default = y at *
    replace Ra := Lib.hid Ra
    replace hKr := Lib.hid hKr
    replace hpl := Lib.hid hpl
    go_upto_region 14 with fail
    go_cut [11, 12] from 52 to 140 (fun va vb wc => ∃ ra rb, va = .pointer (some ⟨ra, 0, none⟩) ∧ vb = .pointer (some ⟨rb, 0, none⟩) ∧ Hid (wc.heap[ra]? = some (.cells (ag x).toArray 63 (0, 0))) ∧ Hid (wc.heap[rb]? = some (.cells (ag y).toArray 63 (0, 0))) ∧ Hid (Below wr.heap.size wr wc))
    case first =>
     clear hpl hex
     obtain ⟨x1, x2, x3, x4, x5, x6, x7, x8, x9, x0⟩ := x
     obtain ⟨y1, y2, y3, y4, y5, y6, y7, y8, y9, y0⟩ := y
     have a0 := LJ 0 _ rfl
     have a1 := LJ 1 _ rfl
     have a2 := LJ 2 _ rfl
     have a3 := LJ 3 _ rfl
     have a4 := LJ 4 _ rfl
     have a5 := LJ 5 _ rfl
     have a6 := LJ 6 _ rfl
     have a7 := LJ 7 _ rfl
     have a8 := LJ 8 _ rfl
     have a9 := LJ 9 _ rfl
     have e0 := LK 0 _ rfl
     have e1 := LK 1 _ rfl
     have e2 := LK 2 _ rfl
     have e3 := LK 3 _ rfl
     have e4 := LK 4 _ rfl
     have e5 := LK 5 _ rfl
     have e6 := LK 6 _ rfl
     have e7 := LK 7 _ rfl
     have e8 := LK 8 _ rfl
     have e9 := LK 9 _ rfl
     rw [Nat.add_zero] at a0 e0
     clear LJ LK
     go_region
     all_goals
      (go_wp2_with fail
       go_meet
       case rel =>
        first
        | exact ⟨_, _, rfl, rfl, bP (heap_alloc_new wr _), heap_alloc2_new wr _ _, (((Below.refl wr.heap.size wr).alloc (Nat.le_refl _) _).alloc (by simp) _).drew⟩
        | exact ⟨_, _, rfl, rfl, heap_alloc2_new wr _ _, bP (heap_alloc_new wr _), (((Below.refl wr.heap.size wr).alloc (Nat.le_refl _) _).alloc (by simp) _).drew⟩)
    case rest =>
     obtain ⟨ra, rb, rfl, rfl, hA, hB, hbc⟩ := hcut
     clear LJ LK
     have Dm : Hid (Below w6.heap.size w6 wc) := hbr.out.trans (hbc.out.mono hbr.out.size)
     have xK := (Dm.out.block _ (ay U4.out)).trans U4.out
     have k0 : wc.cell? ⟨w.heap.size, 0, none⟩ = some (.bool cm) := by simp [World.cell?, xK]
     have k1 : wc.cell? ⟨w.heap.size, 1, none⟩ = some (.int .i64 y1) := by simp [World.cell?, xK]
     have k2 : wc.cell? ⟨w.heap.size, 2, none⟩ = some (.int .i64 y2) := by simp [World.cell?, xK]
     have k3 : wc.cell? ⟨w.heap.size, 3, none⟩ = some (.int .i64 y3) := by simp [World.cell?, xK]
     have k4 : wc.cell? ⟨w.heap.size, 4, none⟩ = some (.int .i64 y4) := by simp [World.cell?, xK]
     have k5 : wc.cell? ⟨w.heap.size, 5, none⟩ = some (.int .i64 y5) := by simp [World.cell?, xK]
     have k6 : wc.cell? ⟨w.heap.size, 6, none⟩ = some (.int .i64 y6) := by simp [World.cell?, xK]
     have k7 : wc.cell? ⟨w.heap.size, 7, none⟩ = some (.bool y7) := by simp [World.cell?, xK]
     have k8 : wc.cell? ⟨w.heap.size, 8, none⟩ = some (.int .i64 y8) := by simp [World.cell?, xK]
     have k9 : wc.cell? ⟨w.heap.size, 9, none⟩ = some (.int .i64 y9) := by simp [World.cell?, xK]
     have k10 : wc.cell? ⟨w.heap.size, 10, none⟩ = some (.int .i64 xi) := by simp [World.cell?, xK]
     have k11 : wc.cell? ⟨w.heap.size, 11, none⟩ = some (.int .i64 xt) := by simp [World.cell?, xK]
     clear xK
     obtain ⟨kz, hk⟩ : ∃ k, k = 10 := ⟨_, rfl⟩
     have zJ : ∀ w, Sem.run Tryz.prog (Go.sizeOf 63) w = .ok kz w := by rw [hk]; exact Tryz.sizeOf63
     have hk0 : ¬ kz = 0 := by omega
     have lX := ax x
     rw [← hk] at lX
     have ld := eu hA.out lX
     have a5 : wc.cell? ⟨ra, 5, none⟩ = some (.int .i64 x.st) := bZ hA.out 5 _ rfl
     have a8 : wc.cell? ⟨ra, 8, none⟩ = some (.int .i64 x.aD) := bZ hA.out 8 _ rfl
     have hE0 := hex.out wc hbc.out
     replace hk := Lib.hid hk
     by_cases hs : x.st = 1
     ·have s1 : decide (x.st = 1) = true := decide_eq_true hs
      have s2 : (x.st == 1) = true := by simp [hs]
      by_cases hp : x.aD < 0
      ·have p1 : decide (x.aD < 0) = true := decide_eq_true hp
       clear hE0 ld
       go_wp2_with fail
       go_roundg (gk - 1)
       case measure => omega
       case rel => exact ⟨i + 1, by omega, by go_num, Dm⟩
      ·have p1 : decide (x.aD < 0) = false := decide_eq_false hp
       have VS : aj x = true := aT.2 ⟨hs, by omega⟩
       have Rb := hpl.out VS
       generalize qO cm y1 y2 x M.L M2.L = ex at *
       generalize BQ : ag x = cX at *
       replace Rb := Lib.hid Rb
       replace BQ := Lib.hid BQ
       go_wp2_with fail
       go_at_call 24
       refine hE0.mono ?_
       clear hE0 ld k1 k2 k3 k4 k5 k6 k7 k8 k9 k10 k11
       rintro e wd ⟨rfl, hbd⟩
       have Be : Hid (Below w6.heap.size w6 wd) := Dm.out.trans (hbd.mono Dm.out.size)
       cases ex with
       | true =>
        go_wp2_with fail
        go_roundg (gk - 1)
        case measure => omega
        case rel => exact ⟨i + 1, by omega, by go_num, Be⟩
       | false =>
        have Qj := Lib.hid ((hbd.block _ (ay hA.out)).trans hA.out)
        have hBd := Lib.hid ((hbd.block _ (ay hB.out)).trans hB.out)
        have kd := (hbd.cell (p := ⟨w.heap.size, 0, none⟩) (Nat.lt_of_lt_of_le hlA (Nat.le_trans Ii.out.size Dm.out.size))).trans k0
        have Sd := Lib.hid (S6.out.kept Be.out)
        have hw := Rb.out rfl
        clear Rb k0 a5 a8 hbd
        rcases hw with hw | hw
        ·unfold wu at hw
         simp only [Bool.and_eq_true, decide_eq_true_eq] at hw
         obtain ⟨⟨⟨u1, u2⟩, u3⟩, u4⟩ := hw
         have e1 : decide (y.st = 1) = true := decide_eq_true u1
         have e2 : decide (0 ≤ y.aD) = true := decide_eq_true u2
         have e3 : decide (y.aD ≤ x.aD) = true := decide_eq_true u3
         have e4 : decide (M2.now < y.aD) = true := decide_eq_true u4
         have Dn : wd.cell? ⟨ra, 8, none⟩ = some (.int .i64 x.aD) := bZ (BQ.out ▸ Qj.out) 8 _ rfl
         have yI : wd.cell? ⟨rb, 5, none⟩ = some (.int .i64 y.st) := bZ hBd.out 5 _ rfl
         have Ij : wd.cell? ⟨rb, 6, none⟩ = some (.int .i64 y.eO) := bZ hBd.out 6 _ rfl
         have K4 : wd.cell? ⟨rb, 8, none⟩ = some (.int .i64 y.aD) := bZ hBd.out 8 _ rfl
         rw [u1] at yI
         clear u1 e1
         go_wp2_with fail
         refine Reg2.rd wd 26 142 [[],[ae],[ae,ae],[ae,ae,ae],[ae,ae,ae,ae],[ae,ae,ae,ae,ae],[ae,ae,ae,ae,ae,ae],[ae,ae,ae,ae,ae,ae,ae],[ae,ae,ae,ae,ae,ae,ae,ae],[ae,ae,ae,ae,ae,ae,ae,ae,ae],[ae,ae,ae,ae,ae,ae,ae,ae,ae,ae],[ae,ae,ae,ae,ae,ae,ae,ae,ae,af,af],[ae,ae,ae,ae,ae,ae,ae,ae,ae,af,af,ae],[ae,ae,ae,ae,ae,ae,ae,ae,ae,ae,ae,ae,ae],[ae,ae,ae,ae,ae,ae,ae,ae,ae,ae,ae,ae,ae,ae],[ae,ae,ae,ae,ae,ae,ae,ae,ae,ae,ae,ae,ae,ae,ae],[ae,ae,ae,ae,ae,ae,ae,ae,ae,ae,ae,ae,ae,ae,ae,ae],[ae,ae,ae,ae,ae,ae,ae,ae,ae,ae,ae,ae,ae,ae,ae,ae,ae],[ae,ae,ae,ae,ae,ae,ae,ae,ae,ae,ae,ae,ae,ae,ae,ae,af,af],[ae,ae,ae,ae,ae,ae,ae,ae,ae,ae,ae,ae,ae,ae,ae,ae,af,af,ae],[ae,ae,ae,ae,ae,ae,ae,ae,ae,ae,ae,ae,ae,ae,ae,ae,af,af,ae,ae],[ae,ae,ae,ae,ae,ae,ae,ae,ae,ae,ae,ae,ae,ae,ae,ae,af,af,ae,ae,ae],[ae,ae,ae,ae,ae,ae,ae,ae,ae,ae,ae,ae,ae,ae,ae,ae,af,af,ae,ae,ae,ae],[ae,ae,ae,ae,ae,ae,ae,ae,ae,ae,ae,ae,ae,ae,ae,ae,af,af,ae,ae,ae,ae,ae],[ae,ae,ae,ae,ae,ae,ae,ae,ae,ae,ae,ae,ae,ae,ae,ae,af,af,ae,ae,ae,ae,ae,ae],[ae,ae,ae,ae,ae,ae,ae,ae,ae,ae,ae,ae,ae,ae,ae,ae,af,af,ae,ae,ae,ae,ae,ae,ae]] [0, 1, 0, 0, 0, 1, 0, 0, 0, 0, 1, 0, 1, 0, 0, 0, 0, 1, 0, 0, 0, 1, 0, 0, 1, 1] [.pure, .mU (.int .i64 1), .pure, .pure, .pure, .mU (.int .i64 y.aD), .pure, .pure, .pure, .pure, .mU (.int .i64 y.aD), .pure, .mU (.int .i64 x.aD), .pure, .pure, .pure, .pure, .mU (.int .i64 y.aD), .pure, .pure, .pure, .mU (.pointer (some ⟨c, 0, none⟩)), .pure, .pure, .mU (.pointer (some ⟨p, 0, none⟩)), .mU (.int .i64 M2.now)] (by kernel_rfl) (by kernel_rfl) rfl rfl ⟨trivial, Reg2.tt, trivial, trivial, trivial, Reg2.tt, trivial, trivial, trivial, trivial, Reg2.tt, trivial, Reg2.tt, trivial, trivial, trivial, trivial, Reg2.tt, trivial, trivial, trivial, Reg2.tt, trivial, trivial, Reg2.tt, Reg2.tt, trivial⟩ ⟨rfl, rfl, rfl, Nat.le_refl _, fun _ _ => rfl⟩ ?_
         dsimp only [Reg2.mk, List.zip, List.zipWith, List.take]
         repeat (refine' Reg2.ai _ (by rfl) (fun wz => ?_) ?_; rotate_left; (go_simp; first | rfl | rw [if_neg (by omega)]); simp only [Act.put, xA, xB, xC]; (try simp only [xD]); (try simp only [xE]); (try simp only [id]))
         refine Reg2.pm (fun wz hI hF => ?_) (fun r1 => ?_) (by rfl)
         ·have q0 : wz.cell? ⟨rb, 5, none⟩ = some (.int .i64 1) := (hI.cell (p := ⟨rb, 5, none⟩) (ay hBd.out)).trans yI
          go_wp2_with fail
          first | exact ⟨_, rfl, rfl, Reg2.Ext.refl _⟩ | exact ⟨_, rfl, ⟨(), rfl, trivial⟩, Reg2.Ext.refl _⟩
         simp only [Act.put, xA, xB, xC]; (try simp only [xD]); (try simp only [xE]); (try simp only [id])
         repeat (refine' Reg2.ai _ (by rfl) (fun wz => ?_) ?_; rotate_left; (go_simp; first | rfl | rw [if_neg (by omega)]); simp only [Act.put, xA, xB, xC]; (try simp only [xD]); (try simp only [xE]); (try simp only [id]))
         refine Reg2.pm (fun wz hI hF => ?_) (fun r5 => ?_) (by rfl)
         ·have q0 : wz.cell? ⟨rb, 8, none⟩ = some (.int .i64 y.aD) := (hI.cell (p := ⟨rb, 8, none⟩) (ay hBd.out)).trans K4
          go_wp2_with fail
          first | exact ⟨_, rfl, rfl, Reg2.Ext.refl _⟩ | exact ⟨_, rfl, ⟨(), rfl, trivial⟩, Reg2.Ext.refl _⟩
         simp only [Act.put, xA, xB, xC]; (try simp only [xD]); (try simp only [xE]); (try simp only [id])
         repeat (refine' Reg2.ai _ (by rfl) (fun wz => ?_) ?_; rotate_left; (go_simp; first | rfl | rw [if_neg (by omega)]); simp only [Act.put, xA, xB, xC]; (try simp only [xD]); (try simp only [xE]); (try simp only [id]))
         refine Reg2.pm (fun wz hI hF => ?_) (fun wR => ?_) (by rfl)
         ·have q0 : wz.cell? ⟨rb, 8, none⟩ = some (.int .i64 y.aD) := (hI.cell (p := ⟨rb, 8, none⟩) (ay hBd.out)).trans K4
          go_wp2_with fail
          first | exact ⟨_, rfl, rfl, Reg2.Ext.refl _⟩ | exact ⟨_, rfl, ⟨(), rfl, trivial⟩, Reg2.Ext.refl _⟩
         simp only [Act.put, xA, xB, xC]; (try simp only [xD]); (try simp only [xE]); (try simp only [id])
         repeat (refine' Reg2.ai _ (by rfl) (fun wz => ?_) ?_; rotate_left; (go_simp; first | rfl | rw [if_neg (by omega)]); simp only [Act.put, xA, xB, xC]; (try simp only [xD]); (try simp only [xE]); (try simp only [id]))
         refine Reg2.pm (fun wz hI hF => ?_) (fun tT => ?_) (by rfl)
         ·have q0 : wz.cell? ⟨ra, 8, none⟩ = some (.int .i64 x.aD) := (hI.cell (p := ⟨ra, 8, none⟩) (ay Qj.out)).trans Dn
          go_wp2_with fail
          first | exact ⟨_, rfl, rfl, Reg2.Ext.refl _⟩ | exact ⟨_, rfl, ⟨(), rfl, trivial⟩, Reg2.Ext.refl _⟩
         simp only [Act.put, xA, xB, xC]; (try simp only [xD]); (try simp only [xE]); (try simp only [id])
         repeat (refine' Reg2.ai _ (by rfl) (fun wz => ?_) ?_; rotate_left; (go_simp; first | rfl | rw [if_neg (by omega)]); simp only [Act.put, xA, xB, xC]; (try simp only [xD]); (try simp only [xE]); (try simp only [id]))
         refine Reg2.pm (fun wz hI hF => ?_) (fun SK => ?_) (by rfl)
         ·have q0 : wz.cell? ⟨rb, 8, none⟩ = some (.int .i64 y.aD) := (hI.cell (p := ⟨rb, 8, none⟩) (ay hBd.out)).trans K4
          go_wp2_with fail
          first | exact ⟨_, rfl, rfl, Reg2.Ext.refl _⟩ | exact ⟨_, rfl, ⟨(), rfl, trivial⟩, Reg2.Ext.refl _⟩
         simp only [Act.put, xA, xB, xC]; (try simp only [xD]); (try simp only [xE]); (try simp only [id])
         repeat (refine' Reg2.ai _ (by rfl) (fun wz => ?_) ?_; rotate_left; (go_simp; first | rfl | rw [if_neg (by omega)]); simp only [Act.put, xA, xB, xC]; (try simp only [xD]); (try simp only [xE]); (try simp only [id]))
         refine Reg2.pm (fun wz hI hF => ?_) (fun Xf => ?_) (by rfl)
         ·have c0 := (Sd.out.kept hI).at'.c0
          go_wp2_with fail
          first | exact ⟨_, rfl, rfl, Reg2.Ext.refl _⟩ | exact ⟨_, rfl, ⟨(), rfl, trivial⟩, Reg2.Ext.refl _⟩
         simp only [Act.put, xA, xB, xC]; (try simp only [xD]); (try simp only [xE]); (try simp only [id])
         repeat (refine' Reg2.ai _ (by rfl) (fun wz => ?_) ?_; rotate_left; (go_simp; first | rfl | rw [if_neg (by omega)]); simp only [Act.put, xA, xB, xC]; (try simp only [xD]); (try simp only [xE]); (try simp only [id]))
         refine Reg2.pm (fun wz hI hF => ?_) (fun Xg => ?_) (by rfl)
         ·have c0 := (Sd.out.kept hI).cw.c2
          go_wp2_with fail
          first | exact ⟨_, rfl, rfl, Reg2.Ext.refl _⟩ | exact ⟨_, rfl, ⟨(), rfl, trivial⟩, Reg2.Ext.refl _⟩
         simp only [Act.put, xA, xB, xC]; (try simp only [xD]); (try simp only [xE]); (try simp only [id])
         refine Reg2.pm (fun wz hI hF => ?_) (fun Xh => ?_) (by rfl)
         ·have hc := fP (Sd.out.kept hI).cw
          rw [show (ak M2).now = M2.now from rfl] at hc
          go_wp2_with (go_at_call 25; go_must (refine hc.mono ?_); rintro e w' ⟨rfl, rfl⟩)
          first | exact ⟨_, rfl, rfl, Reg2.Ext.refl _⟩ | exact ⟨_, rfl, ⟨(), rfl, trivial⟩, Reg2.Ext.refl _⟩
         simp only [Act.put, xA, xB, xC]; (try simp only [xD]); (try simp only [xE]); (try simp only [id])
         refine Reg2.aA ?_
         intro we BR _ dI
         clear dI
         dsimp only [List.drop]
         have Dp : Hid (Below w6.heap.size w6 we) := Be.out.trans (BR.mono Be.out.size)
         have Dn := (BR.cell (p := ⟨ra, 8, none⟩) (ay Qj.out)).trans Dn
         have yI := (BR.cell (p := ⟨rb, 5, none⟩) (ay hBd.out)).trans yI
         have Ij := (BR.cell (p := ⟨rb, 6, none⟩) (ay hBd.out)).trans Ij
         by_cases t1 : 0 ≤ y.eO
         ·have f1 : decide (0 ≤ y.eO) = true := decide_eq_true t1
          by_cases t2 : y.eO ≤ x.aD
          ·have f2 : decide (y.eO ≤ x.aD) = true := decide_eq_true t2
           go_wp2_with fail
           go_roundg (gk - 1)
           case measure => omega
           case rel => exact ⟨i + 1, by omega, by go_num, Dp⟩
          ·have f2 : decide (y.eO ≤ x.aD) = false := decide_eq_false t2
           go_wp2_with fail
           go_roundg (gk - 1)
           case measure => omega
           case rel => exact ⟨i + 1, by omega, by go_num, Dp⟩
         ·have f1 : decide (0 ≤ y.eO) = false := decide_eq_false t1
          go_wp2_with fail
          go_roundg (gk - 1)
          case measure => omega
          case rel => exact ⟨i + 1, by omega, by go_num, Dp⟩
        ·unfold wy at hw
         simp only [Bool.and_eq_true, Bool.or_eq_true, decide_eq_true_eq] at hw
         obtain ⟨⟨⟨u1, u2⟩, u3⟩, u4⟩ := hw
         have e1 : decide (y.st = 1) = false := decide_eq_false (by omega)
         have Xi : (y.st == 1) = false := by simp; omega
         have Dn : wd.cell? ⟨ra, 8, none⟩ = some (.int .i64 x.aD) := bZ (BQ.out ▸ Qj.out) 8 _ rfl
         have yI : wd.cell? ⟨rb, 5, none⟩ = some (.int .i64 y.st) := bZ hBd.out 5 _ rfl
         have Ij : wd.cell? ⟨rb, 6, none⟩ = some (.int .i64 y.eO) := bZ hBd.out 6 _ rfl
         have K4 : wd.cell? ⟨rb, 8, none⟩ = some (.int .i64 y.aD) := bZ hBd.out 8 _ rfl
         go_wp2_with fail
         refine Reg2.rd wd 26 142 [[],[ae],[ae,ae],[ae,ae,ae],[ae,ae,ae,ae],[ae,ae,ae,ae,ae],[ae,ae,ae,ae,ae,ae],[ae,ae,ae,ae,ae,ae,ae],[ae,ae,ae,ae,ae,ae,ae,ae],[ae,ae,ae,ae,ae,ae,ae,ae,ae],[ae,ae,ae,ae,ae,ae,ae,ae,ae,ae],[ae,ae,ae,ae,ae,ae,ae,ae,ae,af,af],[ae,ae,ae,ae,ae,ae,ae,ae,ae,af,af,ae],[ae,ae,ae,ae,ae,ae,ae,ae,ae,ae,ae,ae,ae],[ae,ae,ae,ae,ae,ae,ae,ae,ae,ae,ae,ae,ae,ae],[ae,ae,ae,ae,ae,ae,ae,ae,ae,ae,ae,ae,ae,ae,ae],[ae,ae,ae,ae,ae,ae,ae,ae,ae,ae,ae,ae,ae,ae,ae,ae],[ae,ae,ae,ae,ae,ae,ae,ae,ae,ae,ae,ae,ae,ae,ae,ae,ae],[ae,ae,ae,ae,ae,ae,ae,ae,ae,ae,ae,ae,ae,ae,ae,ae,af,af],[ae,ae,ae,ae,ae,ae,ae,ae,ae,ae,ae,ae,ae,ae,ae,ae,af,af,ae],[ae,ae,ae,ae,ae,ae,ae,ae,ae,ae,ae,ae,ae,ae,ae,ae,af,af,ae,ae],[ae,ae,ae,ae,ae,ae,ae,ae,ae,ae,ae,ae,ae,ae,ae,ae,af,af,ae,ae,ae],[ae,ae,ae,ae,ae,ae,ae,ae,ae,ae,ae,ae,ae,ae,ae,ae,af,af,ae,ae,ae,ae],[ae,ae,ae,ae,ae,ae,ae,ae,ae,ae,ae,ae,ae,ae,ae,ae,af,af,ae,ae,ae,ae,ae],[ae,ae,ae,ae,ae,ae,ae,ae,ae,ae,ae,ae,ae,ae,ae,ae,af,af,ae,ae,ae,ae,ae,ae],[ae,ae,ae,ae,ae,ae,ae,ae,ae,ae,ae,ae,ae,ae,ae,ae,af,af,ae,ae,ae,ae,ae,ae,ae]] [0, 1, 0, 0, 0, 1, 0, 0, 0, 0, 1, 0, 1, 0, 0, 0, 0, 1, 0, 0, 0, 1, 0, 0, 1, 1] [.pure, .mU (.int .i64 y.st), .pure, .pure, .pure, .mU (.int .i64 y.aD), .pure, .pure, .pure, .pure, .mU (.int .i64 y.aD), .pure, .mU (.int .i64 x.aD), .pure, .pure, .pure, .pure, .mU (.int .i64 y.aD), .pure, .pure, .pure, .mU (.pointer (some ⟨c, 0, none⟩)), .pure, .pure, .mU (.pointer (some ⟨p, 0, none⟩)), .mU (.int .i64 M2.now)] (by kernel_rfl) (by kernel_rfl) rfl rfl ⟨trivial, Reg2.tt, trivial, trivial, trivial, Reg2.tt, trivial, trivial, trivial, trivial, Reg2.tt, trivial, Reg2.tt, trivial, trivial, trivial, trivial, Reg2.tt, trivial, trivial, trivial, Reg2.tt, trivial, trivial, Reg2.tt, Reg2.tt, trivial⟩ ⟨rfl, rfl, rfl, Nat.le_refl _, fun _ _ => rfl⟩ ?_
         dsimp only [Reg2.mk, List.zip, List.zipWith, List.take]
         repeat (refine' Reg2.ai _ (by rfl) (fun wz => ?_) ?_; rotate_left; (go_simp; first | rfl | rw [if_neg (by omega)]); simp only [Act.put, xA, xB, xC]; (try simp only [xD]); (try simp only [xE]); (try simp only [id]))
         refine Reg2.pm (fun wz hI hF => ?_) (fun r1 => ?_) (by rfl)
         ·have q0 : wz.cell? ⟨rb, 5, none⟩ = some (.int .i64 y.st) := (hI.cell (p := ⟨rb, 5, none⟩) (ay hBd.out)).trans yI
          go_wp2_with fail
          first | exact ⟨_, rfl, rfl, Reg2.Ext.refl _⟩ | exact ⟨_, rfl, ⟨(), rfl, trivial⟩, Reg2.Ext.refl _⟩
         simp only [Act.put, xA, xB, xC]; (try simp only [xD]); (try simp only [xE]); (try simp only [id])
         repeat (refine' Reg2.ai _ (by rfl) (fun wz => ?_) ?_; rotate_left; (go_simp; first | rfl | rw [if_neg (by omega)]); simp only [Act.put, xA, xB, xC]; (try simp only [xD]); (try simp only [xE]); (try simp only [id]))
         refine Reg2.aL (by rfl) ?_
         simp only [Act.put, xA, xB, xC]; (try simp only [xD]); (try simp only [xE]); (try simp only [id])
         refine Reg2.aH (by rfl) ?_
         simp only [Act.put, xA, xB, xC]; (try simp only [xD]); (try simp only [xE]); (try simp only [id])
         refine Reg2.aL (by rfl) ?_
         simp only [Act.put, xA, xB, xC]; (try simp only [xD]); (try simp only [xE]); (try simp only [id])
         repeat (refine' Reg2.ai _ (by rfl) (fun wz => ?_) ?_; rotate_left; (go_simp; first | rfl | rw [if_neg (by omega)]); simp only [Act.put, xA, xB, xC]; (try simp only [xD]); (try simp only [xE]); (try simp only [id]))
         refine Reg2.aL (by rfl) ?_
         simp only [Act.put, xA, xB, xC]; (try simp only [xD]); (try simp only [xE]); (try simp only [id])
         refine Reg2.aH (by rfl) ?_
         simp only [Act.put, xA, xB, xC]; (try simp only [xD]); (try simp only [xE]); (try simp only [id])
         refine Reg2.aL (by rfl) ?_
         simp only [Act.put, xA, xB, xC]; (try simp only [xD]); (try simp only [xE]); (try simp only [id])
         refine Reg2.aH (by rfl) ?_
         simp only [Act.put, xA, xB, xC]; (try simp only [xD]); (try simp only [xE]); (try simp only [id])
         refine Reg2.aL (by rfl) ?_
         simp only [Act.put, xA, xB, xC]; (try simp only [xD]); (try simp only [xE]); (try simp only [id])
         repeat (refine' Reg2.ai _ (by rfl) (fun wz => ?_) ?_; rotate_left; (go_simp; first | rfl | rw [if_neg (by omega)]); simp only [Act.put, xA, xB, xC]; (try simp only [xD]); (try simp only [xE]); (try simp only [id]))
         refine Reg2.aL (by rfl) ?_
         simp only [Act.put, xA, xB, xC]; (try simp only [xD]); (try simp only [xE]); (try simp only [id])
         refine Reg2.aH (by rfl) ?_
         simp only [Act.put, xA, xB, xC]; (try simp only [xD]); (try simp only [xE]); (try simp only [id])
         refine Reg2.aL (by rfl) ?_
         simp only [Act.put, xA, xB, xC]; (try simp only [xD]); (try simp only [xE]); (try simp only [id])
         refine Reg2.aL (by rfl) ?_
         simp only [Act.put, xA, xB, xC]; (try simp only [xD]); (try simp only [xE]); (try simp only [id])
         refine Reg2.aL (by rfl) ?_
         simp only [Act.put, xA, xB, xC]; (try simp only [xD]); (try simp only [xE]); (try simp only [id])
         refine Reg2.aH (by rfl) ?_
         simp only [Act.put, xA, xB, xC]; (try simp only [xD]); (try simp only [xE]); (try simp only [id])
         refine Reg2.aL (by rfl) ?_
         simp only [Act.put, xA, xB, xC]; (try simp only [xD]); (try simp only [xE]); (try simp only [id])
         refine Reg2.aL (by rfl) ?_
         simp only [Act.put, xA, xB, xC]; (try simp only [xD]); (try simp only [xE]); (try simp only [id])
         refine Reg2.aH (by rfl) ?_
         simp only [Act.put, xA, xB, xC]; (try simp only [xD]); (try simp only [xE]); (try simp only [id])
         refine Reg2.aH (by rfl) ?_
         simp only [Act.put, xA, xB, xC]; (try simp only [xD]); (try simp only [xE]); (try simp only [id])
         refine Reg2.aA ?_
         intro we BR _ dI
         clear dI
         dsimp only [List.drop]
         have Dp : Hid (Below w6.heap.size w6 we) := Be.out.trans (BR.mono Be.out.size)
         have Dn := (BR.cell (p := ⟨ra, 8, none⟩) (ay Qj.out)).trans Dn
         have yI := (BR.cell (p := ⟨rb, 5, none⟩) (ay hBd.out)).trans yI
         have Ij := (BR.cell (p := ⟨rb, 6, none⟩) (ay hBd.out)).trans Ij
         have ke := (BR.cell (p := ⟨w.heap.size, 0, none⟩) (Nat.lt_of_lt_of_le hlA (Nat.le_trans Ii.out.size Be.out.size))).trans kd
         have f1 : decide (0 ≤ y.eO) = true := decide_eq_true u1
         have f2 : decide (y.eO ≤ x.aD) = true := decide_eq_true u2
         have f3 : decide (3 ≤ y.st) = true := decide_eq_true u3
         by_cases t4 : y.eO = x.aD
         ·have f4 : decide (y.eO = x.aD) = true := decide_eq_true t4
          have VT : (y.eO == x.aD) = true := by simp [t4]
          go_wp2_with fail
          go_roundg (gk - 1)
          case measure => omega
          case rel => exact ⟨i + 1, by omega, by go_num, Dp⟩
         ·have f4 : decide (y.eO = x.aD) = false := decide_eq_false t4
          have VT : (y.eO == x.aD) = false := by simp [t4]
          have hcm : cm = true := u4.elim (fun e => absurd e t4) (fun e => e)
          rw [hcm] at ke
          go_wp2_with fail
          go_roundg (gk - 1)
          case measure => omega
          case rel => exact ⟨i + 1, by omega, by go_num, Dp⟩
     ·have s1 : decide (x.st = 1) = false := decide_eq_false hs
      have s2 : (x.st == 1) = false := by simp [hs]
      clear hE0 ld
      go_wp2_with fail
      go_roundg (gk - 1)
      case measure => omega
      case rel => exact ⟨i + 1, by omega, by go_num, Dm⟩
   ·have b2 : ¬ (i : Int) < (M.L.length : Int) := by omega
    have haw := A9 wr
    go_wp2_with fail
    go_at_call 9
    refine haw.mono ?_
    clear haw
    rintro e w' ⟨rfl, hbz⟩
    have hfin := bC.out.trans ((Ii.out.trans ((hbr.out.trans (hbz.mono hbr.out.size)).mono Ii.out.size)).mono bC.out.size)
    go_wp2_with fail
    go_ret
    exact ⟨rfl, hfin⟩
theorem Kn (n : Int) (u : Value) (l : List De) (x : De) (w : World) (_ : -9223372036854775808 ≤ n ∧ n ≤ 9223372036854775807) (h : aF jg 12 w u l) (hfit : ∀ x ∈ l, qN x) (hx : qN x) :
  Calls Tryz.prog 5 #[.int .i64 n, u, .agg (jg x).toArray] w fun e w' => e = .returned (.bool true) ∧ Below w.heap.size w w' := Ih h hfit x hx n
end
end Go.Proofs.YtnihdgcfamoplaaGreat


namespace Go.Proofs.YtnihdgcfamoplaaGreat.seqPlans
open Go.ChangeShapes Go.WideShapes Go.ChangeAt Go.RowKit
theorem own : ownKnob Tryz.prog.godebug = none := by kernel_rfl
theorem laid : laidOutB Tryz.prog = true := by kernel_rfl
theorem readable : (Tryz.f5.params.toList.all fun t => Tryz.prog.readableRec t && decide (t < Tryz.prog.types.size)) = true := by kernel_rfl
theorem lifted (os : Os) (started : os.Started) (H : Type) (enc : TypeId × Value → H) :
  ReturnsInHanded {} Tryz.checked os 5 .any (Rows.seqPlansSpec.pre6 enc Tryz.prog Tryz.f5 Rows.seqPlansRow.domain false) (Rows.seqPlansSpec.post enc Tryz.prog Tryz.f5 false true false false) := by
 refine returnsInHanded_of_change (C := Tryz.checked) own started (by kernel_rfl) Tryz.func5
  (ChangeSpec.witness6 (enc := enc) (C := Tryz.checked) false ⟨#[], #[.int .i64 0, .slice none 0 0, .agg #[.bool false, .int .i64 0, .int .i64 0, .int .i64 0, .int .i64 0, .int .i64 0, .int .i64 0, .bool false, .int .i64 0, .int .i64 0, .int .i64 0, .int .i64 0]], []⟩ 8 (by kernel_rfl) (by kernel_rfl) (by kernel_rfl) (by kernel_rfl)) ?_
 intro W base args ds gs before hval0 hW hcnd _
 have hval : ∀ (j : Nat) t v, Tryz.f5.params[j]? = some t → args[j]? = some v → Value.okWide Tryz.prog W .any base t v := hval0
 have hW' := hW
 obtain ⟨p, q, Qw, hV, hpq, hfz, hnd⟩ := hW
 have hA : DataW.TrodAll enc Tryz.prog W 0 (fun _ => true) true Tryz.f5.params.toList args.toList ds p := Qw
 rw [Tryz.params5] at hA hval
 obtain ⟨v0, Xj, d0, ds0, p0, q0, hargs, rfl, rfl, h0, r0⟩ := trodAll_cons hA
 obtain ⟨v1, vs1, d1, ds1, p1, q1, rfl, rfl, rfl, h1, r1⟩ := trodAll_cons r0
 obtain ⟨v2, vs2, d2, Xk, p2, q2, rfl, rfl, rfl, h2, r2⟩ := trodAll_cons r1
 obtain ⟨rfl, rfl, rfl⟩ := trodAll_nil r2
 obtain rfl : args = #[v0, v1, v2] := by cases args; simp_all
 obtain ⟨rfl, rfl⟩ := trodVars_none hV
 obtain ⟨a0, rfl, rfl, rfl, w0⟩ := open_int Tryz.underlying3 (hval 0 3 v0 rfl rfl) h0
 obtain ⟨l1, hl1, hf1⟩ := Ns (hval 1 22 v1 rfl rfl) h1
 obtain ⟨l2, rfl, hf2⟩ := Qf (hval 2 36 v2 rfl rfl) h2
 clear Qw hval0
 refine (Kn a0 v1 l1 l2 W (bounds_i64 w0) hl1 hf1 hf2).mono fun e W' ⟨he, hg⟩ => ?_
 subst he
 exact ⟨_, rfl, K5 hW' rfl rfl rfl Tryz.underlying4 laid (Qk readable) hg⟩
theorem over : Rows.seqPlansRow.holds Tryz.pinned (OpenSpec.ofChange Rows.seqPlansSpec) :=
 OpenClaim.holds_of_wide 5 Tryz.f5 rfl rfl rfl rfl rfl rfl rfl ⟨rfl, rfl, rfl, rfl, rfl⟩ rfl rfl rfl rfl rfl (by kernel_rfl) Tryz.func5 (by kernel_rfl)
  (of_decide_eq_true (by kernel_rfl)) (by unfold Func.isWrapper; first | (rw [if_pos (by decide +kernel)]; kernel_rfl) | (rw [if_neg (by decide +kernel)]; exact ⟨rfl, rfl⟩))
  (fun os started H enc _ => lifted os started H enc)
theorem proved : Rows.SeqPlansSaid := over
#print axioms proved
end Go.Proofs.YtnihdgcfamoplaaGreat.seqPlans
