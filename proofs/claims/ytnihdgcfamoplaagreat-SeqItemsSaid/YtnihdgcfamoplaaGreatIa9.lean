/-
 SeqItems of the Go text returns true for every input, and each argument reads afterwards as it read before. No condition.
-/
import Derived.Deep.CutRange
import Derived.Test.YtnihdgcfamoplaaGreatRows
import Derived.ProofKit
import Derived.OpenShut
import Derived.Test.YtnihdgcfamoplaaGreatIa8
set_option maxRecDepth 1000000
set_option maxHeartbeats 8000000
set_option linter.all false
namespace Go.Proofs.YtnihdgcfamoplaaGreat
open Go.RowKit Go.Lib Go.Sort
theorem CW.frame {w w1 : World} {c t d p g a : Nat} {v : Value} {m : Int} {P : Pg} (h : CW w c t d p v g a m P) (blk : ∀ k, dH c t d p v g k → w1.heap[k]? = w.heap[k]?) : CW w1 c t d p v g a m P := by
 obtain ⟨S, aJ, ⟨cap, hp1, hp2⟩, hrest⟩ := h.kT
 refine ⟨(blk c (.inl rfl)).trans h.cell, ⟨(blk t (.inr (.inl rfl))).trans h.dX.cell, bE h.dX.own fun k hk => blk k (.inr (.inr (.inr (.inr (.inl hk)))))⟩, (blk d (.inr (.inr (.inl rfl)))).trans h.nodes, S, aJ, ⟨cap, (blk p (.inr (.inr (.inr (.inl rfl))))).trans hp1, bE hp2 fun k hk => ?_⟩, hrest⟩
 have e : k = g := by simpa [Value.ownBlock] using hk.symm
 exact blk k (.inr (.inr (.inr (.inr (.inr e)))))
theorem SO.frame {B : Nat} {w w1 : World} {s c t d p g : Nat} {v : Value} {m : Int} {M : Md} (h : SO B w s c t d p v g m M) (hs : w1.heap[s]? = w.heap[s]?) (blk : ∀ k, dH c t d p v g k → w1.heap[k]? = w.heap[k]?) : SO B w1 s c t d p v g m M :=
 ⟨hs.trans h.at', h.Oa, h.cw.frame blk, h.lo⟩
theorem Sc (b1 b2 b3 b4 : Int) (w : World) : Sem.run Tryz.prog (binOp .neq 72 (.agg #[.int .i64 b1, .int .i64 b2, .int .i64 b3, .int .i64 b4]) (.agg #[.int .i64 b1, .int .i64 b2, .int .i64 b3, .int .i64 b4])) w = .ok (.bool false) w := by
 have u2 := Tryz.underlying2
 have a2 := Tryz.isAgg2
 have z2 := Tryz.sizeOf2
 have u3 := Tryz.underlying3
 have a3 := Tryz.isAgg3
 have z3 := Tryz.sizeOf3
 have u1 := Tryz.underlying72
 rw [run_neq_struct]
 go_simp
theorem az.LP {w : World} {v : Value} {L : List Jb} (h : az iB 4 w v L) (i : Nat) (hi : i < L.length) : ∃ b off cap, v = .slice (some ⟨b, off, none⟩) L.length cap ∧ b < w.heap.size ∧ ∀ j u, (iB (L.getD i default))[j]? = some u → w.cell? ⟨b, off + i * 4 + j, none⟩ = some u := by
 obtain ⟨ao, cap, rfl, h1, h2, h3⟩ := h
 obtain ⟨b, off, rfl, hb, hc⟩ := h3 (by omega)
 exact ⟨b, off, cap, rfl, hb, fun j u hj => by rw [Nat.add_assoc]; exact hc i (L.getD i default) j u (by simp [List.getD, hi]) hj⟩
section
variable {w : World} {u u2 : Value} {l : List De} {qs : List Rq}
theorem I4 (h : az qY 12 w u l) (hfit : ∀ x ∈ l, yo x) (hr : az encR 9 w u2 qs) (hfr : ∀ r ∈ qs, rR r) (n : Int) : Calls Tryz.prog 6 #[.int .i64 n, u, u2] w fun e w' => e = .returned (.bool true) ∧ Below w.heap.size w w' := by
 have n1 := Q0 w
 rw [show (bu ⟨8, 0, 0, 0, 0, 0, 0, 0, 0⟩).toArray = #[.int .i64 8, .int .i64 0, .int .i64 0, .int .i64 0, .int .i64 0, .int .i64 0, .int .i64 0, .int .i64 0, .int .i64 0] from rfl] at n1
 have Xj : ∀ W, Sem.run Tryz.prog (Instr.field 39 (.agg #[.int .i64 8, .int .i64 0, .int .i64 0, .int .i64 0, .int .i64 0, .int .i64 0, .int .i64 0, .int .i64 0, .int .i64 0]) 0) W = .ok (.int .i64 8) W := fun W => by kernel_rfl
 go_enter Tryz.func6, Tryz.ntmps6
 go_wp2_with fail
 go_at_call 14
 refine n1.mono ?_
 clear n1
 rintro e wa ⟨rfl, Uy⟩
 have n2 := FI wa
 go_wp2_with fail
 go_at_call 11
 refine n2.mono ?_
 clear n2
 rintro e wA ⟨rfl, hbb⟩
 have bR : Hid (Below w.heap.size w wA) := Uy.trans (hbb.mono Uy.size)
 have n3 := KY wA
 have n4 := I1 wA
 clear Uy hbb
 go_wp2_with fail
 go_at_call 26
 refine n3.mono ?_
 clear n3
 rintro e w' ⟨rfl, rfl⟩
 go_wp2_with fail
 go_at_call 27
 refine n4.mono ?_
 clear n4
 rintro e w' ⟨rfl, rfl⟩
 clear Xj
 have hA := h.below bR.out
 have Uz := Lib.hid (hr.below bR.out)
 clear hr
 by_cases hn : n < 1 ∨ 64 < n
 ·have hm := Oc hA n hn
  have haw := BD wA
  go_wp2_with fail
  go_at_call 16
  refine hm.mono ?_
  clear hm
  rintro e w1 ⟨rfl, rfl⟩
  go_wp2_with fail
  go_at_call 9
  refine haw.mono ?_
  clear haw
  rintro e w2 ⟨rfl, hb2⟩
  go_wp2_with fail
  go_ret
  exact ⟨rfl, bR.out.trans (hb2.mono bR.out.size)⟩
 obtain ⟨N, rfl⟩ := Int.eq_ofNat_of_zero_le (show 0 ≤ n by omega)
 have hm := QR hA hfit N (by omega) (by omega)
 obtain ⟨M, hM⟩ : ∃ M, M = kM (eZ N) (l.take 60) := ⟨_, rfl⟩
 have hpl := ym (Ok.new (show N ≤ 64 by omega)) (l.take 60)
 rw [← hM] at hm hpl
 have hdr : M.dr.length = N := by rw [hpl.2.2]; simp [eZ]
 have hd1 : 1 ≤ M.dr.length := by omega
 have Xk : M.L.length ≤ 60 := by
  have h1 := hpl.2.1
  have h2 : (eZ N).L.length = 0 := rfl
  have h3 : (l.take 60).length ≤ 60 := by rw [List.length_take]; omega
  omega
 have hok := hpl.1
 clear hpl hdr hfit h hM hA
 replace hn := Lib.hid hn
 go_wp2_with fail
 go_at_call 16
 refine hm.mono ?_
 clear hm
 rintro e w1 ⟨s, c, t, d, p, v, g, rfl, S1, hb1⟩
 have hf1 : ∀ k, dH c t d p v g k → k < w1.heap.size := fun k => S1.cw.lt
 have hs1 : s < w1.heap.size := S1.at'.lt
 replace hf1 := Lib.hid hf1
 have q0 := S1.at'.c0
 have q1 := S1.cw.c0
 have h1 := DY S1.cw (by omega)
 go_wp2_with fail
 go_at_call 28
 refine h1.mono ?_
 clear h1 q0 q1
 rintro e w2 ⟨uW, r, rfl, hW2, hr2, hb2⟩
 have S2 := S1.kept hb2
 have h1 := KX S2 (by omega)
 go_wp2_with fail
 go_at_call 27
 refine h1.mono ?_
 clear h1
 rintro e w3 ⟨uX, r', rfl, hr3, V5, hb3⟩
 obtain rfl := hr2.uniq hok.inv hr3
 have S3 := S2.kept hb3
 have hW3 := hW2.below hb3
 have hrl : r.length ≤ 60 := Nat.le_trans hr2.len Xk
 have h1 := BK hW3 (by omega)
 go_wp2_with fail
 go_at_call 29
 refine h1.mono ?_
 clear h1
 rintro e w4 ⟨uY, rfl, V6, hb4⟩
 have S4 := Lib.hid (S3.kept hb4)
 have Nc := Lib.hid (hW3.below hb4)
 have UA := Lib.hid (V5.below hb4)
 have Q4 : Hid (az iB 4 w4 uY r) := az.gB V6 BG rfl rfl
 have Q5 : Hid (Below wA.heap.size wA w4) := hb1.trans ((hb2.trans ((hb3.trans (hb4.mono hb3.size)).mono hb2.size)).mono hb1.size)
 have SY : w1.heap.size ≤ w4.heap.size := Nat.le_trans hb2.size (Nat.le_trans hb3.size hb4.size)
 clear S1 S2 S3 hb1 hb2 hb3 hb4 hW2 hW3 V5 V6 hr2 hr3
 obtain ⟨aW, cW, rfl, j1, j2, _⟩ := Nc.out
 obtain ⟨aX, cX, rfl, k1, k2, _⟩ := UA.out
 obtain ⟨aY, cY, rfl, i1, i2, _⟩ := Q4.out
 have hcW : cW ≤ 9223372036854775807 := by unfold maxLen at j2; omega
 have Yv : cX ≤ 9223372036854775807 := by unfold maxLen at k2; omega
 have xK : cY ≤ 9223372036854775807 := by unfold maxLen at i2; omega
 obtain ⟨aR, cR, rfl, e1, e2, _⟩ := Uz.out
 have hcR : cR ≤ 9223372036854775807 := by unfold maxLen at e2; omega
 go_wp2_with fail
 go_loopg [12] (r.length) (fun k ii wr => ∃ (i : Nat), i + k = r.length ∧ ii = .int .i64 i ∧ Hid (Below w4.heap.size w4 wr))
 case atStart => exact ⟨0, Nat.zero_add _, rfl, Below.refl _ _⟩
 case round =>
  obtain ⟨i, hin, rfl, hbr⟩ := hrel
  by_cases hlt : i < r.length
  ·have b2 : (i : Int) < (r.length : Int) := by omega
   have wi : IntKind.i64.wrap ((i : Int) + 1) = (i : Int) + 1 := by rw [IntKind.wrap_i64]; omega
   obtain ⟨bJ, oJ, Yw, eJ, _, _, Yx, LJ⟩ := (Nc.out.below hbr.out).D8 i hlt
   obtain ⟨bX, oX, Yy, eX, hbX, LX⟩ := (UA.out.below hbr.out).LP i hlt
   obtain ⟨bY, oY, Yz, eY, YA, LY⟩ := (Q4.out.below hbr.out).LP i hlt
   injection eJ with Uv _ Uw
   injection eX with Xl _ Xm
   injection eY with Xn _ Xo
   subst Uv Uw Xl Xm Xn Xo
   generalize r.getD i default = x at *
   obtain ⟨x1, x2, x3, x4, x5, x6, x7, x8, x9, x0⟩ := x
   have a0 := LJ 0 _ rfl
   have a2 := LJ 2 _ rfl
   have a3 := LJ 3 _ rfl
   have a8 := LJ 8 _ rfl
   have b0 : wr.cell? ⟨bX, oX + i * 4, none⟩ = some (.int .i64 x1) := LX 0 _ rfl
   have b1 : wr.cell? ⟨bX, oX + i * 4 + 1, none⟩ = some (.int .i64 x3) := LX 1 _ rfl
   have b2' : wr.cell? ⟨bX, oX + i * 4 + 2, none⟩ = some (.int .i64 x4) := LX 2 _ rfl
   have b3 : wr.cell? ⟨bX, oX + i * 4 + 3, none⟩ = some (.int .i64 x9) := LX 3 _ rfl
   have c0 : wr.cell? ⟨bY, oY + i * 4, none⟩ = some (.int .i64 x1) := LY 0 _ rfl
   have c1 : wr.cell? ⟨bY, oY + i * 4 + 1, none⟩ = some (.int .i64 x3) := LY 1 _ rfl
   have c2 : wr.cell? ⟨bY, oY + i * 4 + 2, none⟩ = some (.int .i64 x4) := LY 2 _ rfl
   have c3 : wr.cell? ⟨bY, oY + i * 4 + 3, none⟩ = some (.int .i64 x9) := LY 3 _ rfl
   have en := Sc x1 x3 x4 x9
   rw [Nat.add_zero] at a0
   clear LJ LX LY
   go_upto_region 15 with fail
   go_region
   go_wp2_with fail
   go_region
   go_wp2_with fail
   go_roundg (gk - 1)
   case measure => omega
   case rel => exact ⟨i + 1, by omega, by go_num, (hbr.out.alloc hbr.out.size _).drew.drew⟩
  ·have b2 : ¬ (i : Int) < (r.length : Int) := by omega
   obtain ⟨w5, rfl⟩ : ∃ w5 : World, w5 = wr := ⟨_, rfl⟩
   have S5 := Lib.hid (S4.out.kept hbr.out)
   have zh : Hid (Below wA.heap.size wA w5) := Q5.out.trans (hbr.out.mono Q5.out.size)
   have V7 : w1.heap.size ≤ w5.heap.size := Nat.le_trans SY hbr.out.size
   clear S4 Nc UA Q4 Q5 SY
   go_upto_if 111 with fail
   go_cut [2] from 109 (fun va wc => w5 = wc ∧ Hid (az encR 9 wA va (qs.take 20)))
   case first =>
    by_cases h20 : 20 < qs.length
    ·have d20 : (20 : Int) < (qs.length : Int) := by omega
     have hct := Lib.hid (Uz.out.cut (n := 20) (by omega))
     go_wp2_with fail
     go_meet
     case rel => exact ⟨rfl, hct⟩
    ·have d20 : ¬ (20 : Int) < (qs.length : Int) := by omega
     have hct : Hid (az encR 9 wA (.slice aR qs.length cR) (qs.take 20)) := by
      show az _ _ _ _ _
      rw [List.take_of_length_le (by omega)]
      exact Uz.out
     go_wp2_with fail
     go_meet
     case rel => exact ⟨rfl, hct⟩
   case rest =>
    obtain ⟨rfl, hq⟩ := hcut
    have Uc : ∀ r ∈ qs.take 20, rR r := fun r hr => hfr r (List.mem_of_mem_take hr)
    have hkl : (qs.take 20).length ≤ 20 := by rw [List.length_take]; omega
    generalize qs.take 20 = ks at *
    obtain ⟨aQ, cQ, rfl, Xi, e2', _⟩ := hq.out
    have YB : cQ ≤ 9223372036854775807 := by unfold maxLen at e2'; omega
    have h1 := Om S5.out hok.inv hd1 (by omega)
    go_wp2_with fail
    go_at_call 26
    refine h1.mono ?_
    clear h1
    rintro e w6 ⟨s2, c2, t2, d2, p2, v2, g2, rfl, T6, hb6⟩
    have S6 := S5.out.kept hb6
    have LQ : Hid (Below wA.heap.size wA w6) := zh.out.trans (hb6.mono zh.out.size)
    have h1 := QV S6 LQ.out.size (fun W hW => hq.out.below (LQ.out.trans hW)) Uc hok hd1 (by omega) (by omega)
    go_wp2_with fail
    go_at_call 30
    refine h1.mono ?_
    clear h1
    rintro e w7 ⟨uA, v7, g7, rfl, S7, Oo, FJ⟩
    have oL : ∀ k, dH c2 t2 d2 p2 v2 g2 k → w5.heap.size ≤ k ∧ k < w6.heap.size := fun k hk => ⟨T6.lo k hk, T6.cw.lt hk⟩
    have dR : ∀ k, dH c t d p v g k → k < w5.heap.size := fun k hk => Nat.lt_of_lt_of_le (hf1.out k hk) V7
    have T7 := Lib.hid (T6.frame (Oo.heap T6.at'.lt (fun hf => Nat.lt_irrefl _ (Nat.lt_of_lt_of_le (dR _ hf) T6.Oa))) (fun k hk => Oo.heap (oL k hk).2 (fun hf => Nat.lt_irrefl _ (Nat.lt_of_lt_of_le (dR _ hf) (oL k hk).1))))
    have Sd : Hid (wY w6.heap.size w7 (fun W => az bu 9 W uA (l8 M ks))) := fun W hW _ => az.gB (xk FJ fun k hk => hW k (FJ.lt k hk).1 (FJ.lt k hk).2) iC rfl rfl
    have hap : Hid (∀ k, dH c t d p v7 g7 k ∨ k = s → k < w7.heap.size ∧ ¬ dH c2 t2 d2 p2 v2 g2 k) := by
     rintro k (hk | rfl)
     ·refine ⟨S7.cw.lt hk, fun hf => ?_⟩
      have hh := oL k hf
      rcases Oo.grew k hk with h1 | h1
      ·have := dR k h1; omega
      ·omega
     ·exact ⟨S7.at'.lt, fun hf => by have := (oL _ hf).1; omega⟩
    have hsh : ∃ ao cap, uA = .slice ao ks.length cap ∧ cap ≤ 9223372036854775807 ∧ ks.length ≤ cap := by
     obtain ⟨ao, cap, h1, h2, h3, _⟩ := Sd.out.now
     rw [qA] at h1 h2
     exact ⟨ao, cap, h1, (by unfold maxLen at h3; omega), h2⟩
    have V8 : Hid (Below wA.heap.size wA w7) := LQ.out.trans (S6.below Oo LQ.out.size)
    have S9 := Oo.off.size
    have Ta := hb6.size
    have V9 := zh.out.size
    replace S7 := Lib.hid S7
    replace oL := Lib.hid oL
    clear FJ Oo S6 T6 hb6 S5 zh dR
    obtain ⟨aA, cA, rfl, hcA, XH⟩ := hsh
    go_wp2_with fail
    go_loopg [16] (ks.length) (fun k ii wq => ∃ (i : Nat) (vi : Value) (gi : Nat), i + k = ks.length ∧ ii = .int .i64 i ∧ Hid (SO w5.heap.size wq s2 c2 t2 d2 p2 vi gi (60000 + 1000 * i) (fU M (ks.take i))) ∧ Hid (CS w7 wq c2 t2 d2 p2 v2 g2 vi gi))
    case atStart => exact ⟨0, v2, g2, Nat.zero_add _, rfl, (by have := T7.out; show SO _ _ _ _ _ _ _ _ _ _ _; simpa [fU] using this), ⟨eO.refl _ _, iT.refl _ _⟩⟩
    case round =>
     obtain ⟨j, vi, gi, hjn, rfl, hT, hcs⟩ := hrel
     obtain ⟨LU, Wd, We⟩ := BI hok (ks.take j)
     have XI : (ks.take j).length ≤ 20 := by rw [List.length_take]; omega
     have hbj : Hid (Below wA.heap.size wA wr) := V8.out.trans ((T7.out.below hcs.out (Nat.le_trans Ta S9)).mono V9)
     have Wh := hcs.out.off.size
     by_cases hlt2 : j < ks.length
     ·have b3 : (j : Int) < (ks.length : Int) := by omega
      have wj : IntKind.i64.wrap ((j : Int) + 1) = (j : Int) + 1 := by rw [IntKind.wrap_i64]; omega
      obtain ⟨YC, YD, eQ, _, _, rQ⟩ := hq.out.below hbj.out
      injection eQ with Xp _ Xq
      subst Xp Xq
      obtain ⟨GQ, wZ, rfl, YE, Tc⟩ := rQ (by omega)
      have Cz := fun (n : Nat) (z : Value) (hz : (encR ks[j])[n]? = some z) => Tc j ks[j] n z (List.getElem?_eq_getElem hlt2) hz
      obtain ⟨YF, YG, eA, _, _, rA⟩ := (Sd.out.cs hcs.out (fun k hk => (oL.out k hk).2)).now
      rw [qA] at eA
      injection eA with Xr _ Xt
      subst Xr Xt
      obtain ⟨GA, Gy, rfl, YH, Td⟩ := rA (by rw [qA]; omega)
      have hxa := fun (n : Nat) (z : Value) (hz : (bu (jk (oI (fU M (ks.take j)) (toW ks[j])).1))[n]? = some z) => Td j _ n z (DX M hlt2) hz
      have hcells : Hid (∀ wn vn gn, CS wr.drew wn c2 t2 d2 p2 vi gi vn gn → ∀ (n : Nat) (z : Value), (bu (jk (oI (fU M (ks.take j)) (toW ks[j])).1))[n]? = some z → wn.cell? ⟨GA, Gy + j * 9 + n, none⟩ = some z) := by
       intro wn vn gn hcn n z hz
       obtain ⟨aB, cB, eB, _, _, rB⟩ := (Sd.out.cs ((hcs.out.later ((Below.refl _ _).drew)).trans hcn) (fun k hk => (oL.out k hk).2)).now
       injection eB with Ur _ Us
       subst Ur
       obtain ⟨GB, XJ, eG, _, hcB⟩ := rB (by rw [qA]; omega)
       cases eG
       rw [Nat.add_assoc]
       exact hcB j _ n z (DX M hlt2) hz
      have hsn := zi M hlt2
      have hfx := Uc ks[j] (List.getElem_mem hlt2)
      have hdo := wW (w := wr.drew) (hT.out.kept ((Below.refl _ _).drew)) (Nat.le_trans (Nat.le_trans Ta S9) Wh) ks[j] LU (by omega) (by omega) (by omega) hfx.node
      rw [← hsn] at hdo
      generalize jk (oI (fU M (ks.take j)) (toW ks[j])).1 = y at *
      generalize ks[j] = x at *
      obtain ⟨y1, y2, y3, y4, y5, y6, y7, y8, y9⟩ := x
      obtain ⟨z1, z2, z3, z4, z5, z6, z7, z8, z9⟩ := y
      rw [show (encR ⟨y1, y2, y3, y4, y5, y6, y7, y8, y9⟩).toArray = #[.int .i64 y1, .int .i64 y2, .int .i64 y3, .int .i64 y4, .int .i64 y5, .int .i64 y6, .bool y7, .int .i64 y8, .int .i64 y9] from rfl, show (bu ⟨z1, z2, z3, z4, z5, z6, z7, z8, z9⟩).toArray = #[.int .i64 z1, .int .i64 z2, .int .i64 z3, .int .i64 z4, .int .i64 z5, .int .i64 z6, .int .i64 z7, .int .i64 z8, .int .i64 z9] from rfl] at hdo
      have en : ∀ W, Sem.run Tryz.prog (binOp .neq 39 (.agg #[.int .i64 z1, .int .i64 z2, .int .i64 z3, .int .i64 z4, .int .i64 z5, .int .i64 z6, .int .i64 z7, .int .i64 z8, .int .i64 z9]) (.agg #[.int .i64 z1, .int .i64 z2, .int .i64 z3, .int .i64 z4, .int .i64 z5, .int .i64 z6, .int .i64 z7, .int .i64 z8, .int .i64 z9])) W = .ok (.bool false) W := fun W => by
       have e := Sa ⟨z1, z2, z3, z4, z5, z6, z7, z8, z9⟩ ⟨z1, z2, z3, z4, z5, z6, z7, z8, z9⟩ W
       rw [decide_eq_true rfl] at e
       exact e
      have k0 : wr.cell? ⟨GQ, wZ + j * 9, none⟩ = some (.int .i64 y1) := Cz 0 _ rfl
      have k1 : wr.cell? ⟨GQ, wZ + j * 9 + 1, none⟩ = some (.int .i64 y2) := (by rw [Nat.add_assoc]; exact Cz 1 _ rfl)
      have k2 : wr.cell? ⟨GQ, wZ + j * 9 + 2, none⟩ = some (.int .i64 y3) := (by rw [Nat.add_assoc]; exact Cz 2 _ rfl)
      have k3 : wr.cell? ⟨GQ, wZ + j * 9 + 3, none⟩ = some (.int .i64 y4) := (by rw [Nat.add_assoc]; exact Cz 3 _ rfl)
      have k4 : wr.cell? ⟨GQ, wZ + j * 9 + 4, none⟩ = some (.int .i64 y5) := (by rw [Nat.add_assoc]; exact Cz 4 _ rfl)
      have k5 : wr.cell? ⟨GQ, wZ + j * 9 + 5, none⟩ = some (.int .i64 y6) := (by rw [Nat.add_assoc]; exact Cz 5 _ rfl)
      have k6 : wr.cell? ⟨GQ, wZ + j * 9 + 6, none⟩ = some (.bool y7) := (by rw [Nat.add_assoc]; exact Cz 6 _ rfl)
      have k7 : wr.cell? ⟨GQ, wZ + j * 9 + 7, none⟩ = some (.int .i64 y8) := (by rw [Nat.add_assoc]; exact Cz 7 _ rfl)
      have k8 : wr.cell? ⟨GQ, wZ + j * 9 + 8, none⟩ = some (.int .i64 y9) := (by rw [Nat.add_assoc]; exact Cz 8 _ rfl)
      have m0 := hcells.out wr.drew vi gi ⟨eO.refl _ _, iT.refl _ _⟩ 0 _ rfl
      have m1 := hcells.out wr.drew vi gi ⟨eO.refl _ _, iT.refl _ _⟩ 1 _ rfl
      have m2 := hcells.out wr.drew vi gi ⟨eO.refl _ _, iT.refl _ _⟩ 2 _ rfl
      have m3 := hcells.out wr.drew vi gi ⟨eO.refl _ _, iT.refl _ _⟩ 3 _ rfl
      have m4 := hcells.out wr.drew vi gi ⟨eO.refl _ _, iT.refl _ _⟩ 4 _ rfl
      have m5 := hcells.out wr.drew vi gi ⟨eO.refl _ _, iT.refl _ _⟩ 5 _ rfl
      have m6 := hcells.out wr.drew vi gi ⟨eO.refl _ _, iT.refl _ _⟩ 6 _ rfl
      have m7 := hcells.out wr.drew vi gi ⟨eO.refl _ _, iT.refl _ _⟩ 7 _ rfl
      have m8 := hcells.out wr.drew vi gi ⟨eO.refl _ _, iT.refl _ _⟩ 8 _ rfl
      rw [Nat.add_zero] at m0
      clear Cz hxa Td Tc rQ rA
      replace hdo := Lib.hid hdo
      replace hsn := Lib.hid hsn
      go_upto_region 27 with fail
      go_cut [144] from 128 to 144 (fun vb wc => vb = .bool false ∧ ∃ v5 g5, Hid (SO w5.heap.size wc s2 c2 t2 d2 p2 v5 g5 (60000 + 1000 * ((j + 1 : Nat) : Int)) (fU M (ks.take (j + 1)))) ∧ Hid (CS w7 wc c2 t2 d2 p2 v2 g2 v5 g5))
      case first =>
       go_region_with (go_at_call 14; refine hdo.out.mono ?_; rintro e wn ⟨vn, gn, rfl, Sn, hcn, hbn⟩; have f0 := hcells.out wn vn gn hcn 0 _ rfl; have f1 := hcells.out wn vn gn hcn 1 _ rfl; have f2 := hcells.out wn vn gn hcn 2 _ rfl; have f3 := hcells.out wn vn gn hcn 3 _ rfl; have f4 := hcells.out wn vn gn hcn 4 _ rfl; have f5 := hcells.out wn vn gn hcn 5 _ rfl; have f6 := hcells.out wn vn gn hcn 6 _ rfl; have f7 := hcells.out wn vn gn hcn 7 _ rfl; have f8 := hcells.out wn vn gn hcn 8 _ rfl; rw [Nat.add_zero] at f0; replace Sn := Lib.hid Sn; replace hcn := Lib.hid hcn; clear hbn)
       all_goals
        (have Xu : Hid (SO w5.heap.size wn s2 c2 t2 d2 p2 vn gn (60000 + 1000 * ((j + 1 : Nat) : Int)) (fU M (ks.take (j + 1)))) := Sn.out.wider (by omega)
         have Wi : Hid (CS w7 wn c2 t2 d2 p2 v2 g2 vn gn) := (hcs.out.later ((Below.refl _ _).drew)).trans hcn.out
         clear Sn hcn
         go_wp2_with fail
         go_meet
         case rel => exact ⟨rfl, vn, gn, Xu, Wi⟩)
      case rest =>
       obtain ⟨rfl, v5, g5, Mw, oK⟩ := hcut
       go_wp2_with fail
       go_roundg (gk - 1)
       case measure => omega
       case rel => exact ⟨j + 1, v5, g5, by omega, by go_num, Mw, oK⟩
     ·have b3 : ¬ (j : Int) < (ks.length : Int) := by omega
      have ej : ks.take j = ks := List.take_of_length_le (by omega)
      rw [ej] at hT LU Wd We
      obtain ⟨w8, rfl⟩ : ∃ w8 : World, w8 = wr := ⟨_, rfl⟩
      have S8 : Hid (SO wA.heap.size w8 s c t d p v7 g7 (60000 + 1000 * ks.length) (fU M ks)) :=
       S7.out.frame (hcs.out.heap (hap.out s (.inr rfl)).1 (hap.out s (.inr rfl)).2) (fun k hk => hcs.out.heap (hap.out k (.inl hk)).1 (hap.out k (.inl hk)).2)
      have XK : (fU M ks).L.length ≤ 80 := by omega
      generalize fU M ks = M2 at *
      clear hq Sd oL hap hcs S7 T7
      go_wp2_with fail
      refine Reg2.rd w8 33 184 [[],[ae],[ae,ae],[ae,ae,ae],[ae,ae,ae,ae],[ae,ae,ae,ae,ae],[ae,ae,ae,ae,ae,ae],[ae,ae,ae,ae,ae,ae,ae],[af,af,af,af,af,af,af,af],[af,af,af,af,af,af,af,af,ae],[af,af,af,af,af,af,af,af,ae,ae],[af,af,af,af,af,af,af,af,ae,ae,ae],[af,af,af,af,af,af,af,af,ae,ae,ae,ae],[af,af,af,af,af,af,af,af,ae,ae,ae,ae,ae],[af,af,af,af,af,af,af,af,ae,ae,ae,ae,ae,ae],[ae,ae,ae,ae,ae,ae,ae,ae,ae,ae,ae,ae,ae,ae,ae],[ae,ae,ae,ae,ae,ae,ae,ae,ae,ae,ae,ae,ae,ae,ae,ae],[ae,ae,ae,ae,ae,ae,ae,ae,ae,ae,ae,ae,ae,ae,ae,ae,ae],[ae,ae,ae,ae,ae,ae,ae,ae,ae,ae,ae,ae,ae,ae,ae,ae,ae,ae],[ae,ae,ae,ae,ae,ae,ae,ae,ae,ae,ae,ae,ae,ae,ae,ae,ae,ae,ae],[ae,ae,ae,ae,ae,ae,ae,ae,ae,ae,ae,ae,ae,ae,ae,ae,ae,ae,ae,ae],[ae,ae,ae,ae,ae,ae,ae,ae,ae,ae,ae,ae,ae,ae,ae,ae,ae,ae,ae,ae,ae],[ae,ae,ae,ae,ae,ae,ae,ae,ae,ae,ae,ae,ae,ae,ae,ae,ae,ae,ae,ae,ae,ae],[ae,ae,ae,ae,ae,ae,ae,ae,ae,ae,ae,ae,ae,ae,ae,ae,ae,ae,ae,ae,ae,ae,ae],[ae,ae,ae,ae,ae,ae,ae,ae,ae,ae,ae,ae,ae,ae,ae,ae,ae,ae,ae,ae,ae,ae,ae,ae],[ae,ae,ae,ae,ae,ae,ae,ae,ae,ae,ae,ae,ae,ae,ae,ae,ae,ae,ae,ae,ae,ae,ae,ae,ae],[ae,ae,ae,ae,ae,ae,ae,ae,ae,ae,ae,ae,ae,ae,ae,ae,ae,ae,af,af,af,af,af,af,af,af],[ae,ae,ae,ae,ae,ae,ae,ae,ae,ae,ae,ae,ae,ae,ae,ae,ae,ae,af,af,af,af,af,af,af,af,ae],[ae,ae,ae,ae,ae,ae,ae,ae,ae,ae,ae,ae,ae,ae,ae,ae,ae,ae,af,af,af,af,af,af,af,af,ae,ae],[ae,ae,ae,ae,ae,ae,ae,ae,ae,ae,ae,ae,ae,ae,ae,ae,ae,ae,af,af,af,af,af,af,af,af,ae,ae,ae],[ae,ae,ae,ae,ae,ae,ae,ae,ae,ae,ae,ae,ae,ae,ae,ae,ae,ae,af,af,af,af,af,af,af,af,ae,ae,ae,ae],[ae,ae,ae,ae,ae,ae,ae,ae,ae,ae,ae,ae,ae,ae,ae,ae,ae,ae,af,af,af,af,af,af,af,af,ae,ae,ae,ae,ae],[ae,ae,ae,ae,ae,ae,ae,ae,ae,ae,ae,ae,ae,ae,ae,ae,ae,ae,af,af,af,af,af,af,af,af,ae,ae,ae,ae,ae,ae]] [0, 0, 0, 1, 0, 0, 1, 1, 0, 0, 0, 1, 0, 0, 1, 1, 1, 0, 0, 0, 0, 1, 0, 0, 1, 1, 0, 0, 0, 1, 0, 0, 1] [.pure, .pure, .pure, .mU (.pointer (some ⟨c, 0, none⟩)), .pure, .pure, .mU (.pointer (some ⟨t, 0, none⟩)), .minor Value (.bool false) (fun u => u) (fun u W => az ah 10 W u M2.L), .pure, .pure, .pure, .mU (.pointer (some ⟨c2, 0, none⟩)), .pure, .pure, .mU (.pointer (some ⟨t2, 0, none⟩)), .minor Value (.bool false) (fun u => u) (fun u W => az ah 10 W u M2.L), .mU (.bool true), .pure, .pure, .pure, .pure, .mU (.pointer (some ⟨c, 0, none⟩)), .pure, .pure, .mU (.pointer (some ⟨p, 0, none⟩)), .minor Value (.bool false) (fun u => u) (fun u W => az CB 2 W u (nz M2)), .pure, .pure, .pure, .mU (.pointer (some ⟨c2, 0, none⟩)), .pure, .pure, .mU (.pointer (some ⟨p2, 0, none⟩))] (by kernel_rfl) (by kernel_rfl) rfl rfl (by exact ⟨trivial, trivial, trivial, Reg2.tt, trivial, trivial, Reg2.tt, ⟨fun x a b he hx => az.below hx he, fun x a b he hx => az.below hx he⟩, trivial, trivial, trivial, Reg2.tt, trivial, trivial, Reg2.tt, ⟨fun x a b he hx => az.below hx he, fun x a b he hx => az.below hx he⟩, Reg2.tt, trivial, trivial, trivial, trivial, Reg2.tt, trivial, trivial, Reg2.tt, ⟨fun x a b he hx => az.below hx he, fun x a b he hx => az.below hx he⟩, trivial, trivial, trivial, Reg2.tt, trivial, trivial, Reg2.tt, trivial⟩) ⟨rfl, rfl, rfl, Nat.le_refl _, fun _ _ => rfl⟩ ?_
      dsimp only [Reg2.mk, List.zip, List.zipWith, List.take]
      repeat (refine' Reg2.ai _ (by rfl) (fun wz => ?_) ?_; rotate_left; (go_simp; first | rfl | rw [if_neg (by omega)]); simp only [Act.put, xA, xB, xC]; (try simp only [xD]); (try simp only [xE]); (try simp only [id]))
      refine Reg2.pm (fun wz hI hF => ?_) (fun r3 => ?_) (by rfl)
      ·have c0 := (S8.out.kept hI).at'.c0
       go_wp2_with fail
       first | exact ⟨_, rfl, rfl, Reg2.Ext.refl _⟩ | exact ⟨_, rfl, ⟨(), rfl, trivial⟩, Reg2.Ext.refl _⟩
      simp only [Act.put, xA, xB, xC]; (try simp only [xD]); (try simp only [xE]); (try simp only [id])
      repeat (refine' Reg2.ai _ (by rfl) (fun wz => ?_) ?_; rotate_left; (go_simp; first | rfl | rw [if_neg (by omega)]); simp only [Act.put, xA, xB, xC]; (try simp only [xD]); (try simp only [xE]); (try simp only [id]))
      refine Reg2.pm (fun wz hI hF => ?_) (fun r6 => ?_) (by rfl)
      ·have c0 := (S8.out.kept hI).cw.c0
       go_wp2_with fail
       first | exact ⟨_, rfl, rfl, Reg2.Ext.refl _⟩ | exact ⟨_, rfl, ⟨(), rfl, trivial⟩, Reg2.Ext.refl _⟩
      simp only [Act.put, xA, xB, xC]; (try simp only [xD]); (try simp only [xE]); (try simp only [id])
      refine Reg2.pm (fun wz hI hF => ?_) (fun r7 => ?_) (by rfl)
      ·have hc := IP (S8.out.kept hI).cw (by omega)
       go_wp2_with (go_at_call 17; go_must (refine hc.mono ?_); rintro e w' ⟨uu, rfl, hu, hb5⟩)
       exact ⟨_, rfl, ⟨uu, rfl, hu⟩, hb5⟩
      simp only [Act.put, xA, xB, xC]; (try simp only [xD]); (try simp only [xE]); (try simp only [id])
      repeat (refine' Reg2.ai _ (by rfl) (fun wz => ?_) ?_; rotate_left; (go_simp; first | rfl | rw [if_neg (by omega)]); simp only [Act.put, xA, xB, xC]; (try simp only [xD]); (try simp only [xE]); (try simp only [id]))
      refine Reg2.pm (fun wz hI hF => ?_) (fun Nh => ?_) (by rfl)
      ·have c0 := (hT.out.kept hI).at'.c0
       go_wp2_with fail
       first | exact ⟨_, rfl, rfl, Reg2.Ext.refl _⟩ | exact ⟨_, rfl, ⟨(), rfl, trivial⟩, Reg2.Ext.refl _⟩
      simp only [Act.put, xA, xB, xC]; (try simp only [xD]); (try simp only [xE]); (try simp only [id])
      repeat (refine' Reg2.ai _ (by rfl) (fun wz => ?_) ?_; rotate_left; (go_simp; first | rfl | rw [if_neg (by omega)]); simp only [Act.put, xA, xB, xC]; (try simp only [xD]); (try simp only [xE]); (try simp only [id]))
      refine Reg2.pm (fun wz hI hF => ?_) (fun Ck => ?_) (by rfl)
      ·have c0 := (hT.out.kept hI).cw.c0
       go_wp2_with fail
       first | exact ⟨_, rfl, rfl, Reg2.Ext.refl _⟩ | exact ⟨_, rfl, ⟨(), rfl, trivial⟩, Reg2.Ext.refl _⟩
      simp only [Act.put, xA, xB, xC]; (try simp only [xD]); (try simp only [xE]); (try simp only [id])
      refine Reg2.pm (fun wz hI hF => ?_) (fun Uf => ?_) (by rfl)
      ·have hc := IP (hT.out.kept hI).cw (by omega)
       go_wp2_with (go_at_call 17; go_must (refine hc.mono ?_); rintro e w' ⟨uu, rfl, hu, hb5⟩)
       exact ⟨_, rfl, ⟨uu, rfl, hu⟩, hb5⟩
      simp only [Act.put, xA, xB, xC]; (try simp only [xD]); (try simp only [xE]); (try simp only [id])
      refine Reg2.pm (fun wz hI hF => ?_) (fun r16 => ?_) (by rfl)
      ·have hj := hF.2.2.2.2.2.2.2.1
       have hk := hF.2.2.2.2.2.2.2.2.2.2.2.2.2.2.2.1
       have hc := FH hj hk (by omega)
       rw [decide_eq_true rfl] at hc
       go_wp2_with (go_at_call 22; go_must (refine hc.mono ?_); rintro e w' ⟨rfl, hb5⟩)
       first | exact ⟨_, rfl, ⟨(), rfl, trivial⟩, hb5⟩ | exact ⟨_, rfl, rfl, hb5⟩
      simp only [Act.put, xA, xB, xC]; (try simp only [xD]); (try simp only [xE]); (try simp only [id])
      repeat (refine' Reg2.ai _ (by rfl) (fun wz => ?_) ?_; rotate_left; (go_simp; first | rfl | rw [if_neg (by omega)]); simp only [Act.put, xA, xB, xC]; (try simp only [xD]); (try simp only [xE]); (try simp only [id]))
      refine Reg2.pm (fun wz hI hF => ?_) (fun YI => ?_) (by rfl)
      ·have c0 := (S8.out.kept hI).at'.c0
       go_wp2_with fail
       first | exact ⟨_, rfl, rfl, Reg2.Ext.refl _⟩ | exact ⟨_, rfl, ⟨(), rfl, trivial⟩, Reg2.Ext.refl _⟩
      simp only [Act.put, xA, xB, xC]; (try simp only [xD]); (try simp only [xE]); (try simp only [id])
      repeat (refine' Reg2.ai _ (by rfl) (fun wz => ?_) ?_; rotate_left; (go_simp; first | rfl | rw [if_neg (by omega)]); simp only [Act.put, xA, xB, xC]; (try simp only [xD]); (try simp only [xE]); (try simp only [id]))
      refine Reg2.pm (fun wz hI hF => ?_) (fun YJ => ?_) (by rfl)
      ·have c0 := (S8.out.kept hI).cw.c2
       go_wp2_with fail
       first | exact ⟨_, rfl, rfl, Reg2.Ext.refl _⟩ | exact ⟨_, rfl, ⟨(), rfl, trivial⟩, Reg2.Ext.refl _⟩
      simp only [Act.put, xA, xB, xC]; (try simp only [xD]); (try simp only [xE]); (try simp only [id])
      refine Reg2.pm (fun wz hI hF => ?_) (fun YK => ?_) (by rfl)
      ·have hc := BA (S8.out.kept hI).cw LU.inv (by omega)
       go_wp2_with (go_at_call 18; go_must (refine hc.mono ?_); rintro e w' ⟨uu, rfl, hu, hb5⟩)
       exact ⟨_, rfl, ⟨uu, rfl, hu⟩, hb5⟩
      simp only [Act.put, xA, xB, xC]; (try simp only [xD]); (try simp only [xE]); (try simp only [id])
      repeat (refine' Reg2.ai _ (by rfl) (fun wz => ?_) ?_; rotate_left; (go_simp; first | rfl | rw [if_neg (by omega)]); simp only [Act.put, xA, xB, xC]; (try simp only [xD]); (try simp only [xE]); (try simp only [id]))
      refine Reg2.pm (fun wz hI hF => ?_) (fun YL => ?_) (by rfl)
      ·have c0 := (hT.out.kept hI).at'.c0
       go_wp2_with fail
       first | exact ⟨_, rfl, rfl, Reg2.Ext.refl _⟩ | exact ⟨_, rfl, ⟨(), rfl, trivial⟩, Reg2.Ext.refl _⟩
      simp only [Act.put, xA, xB, xC]; (try simp only [xD]); (try simp only [xE]); (try simp only [id])
      repeat (refine' Reg2.ai _ (by rfl) (fun wz => ?_) ?_; rotate_left; (go_simp; first | rfl | rw [if_neg (by omega)]); simp only [Act.put, xA, xB, xC]; (try simp only [xD]); (try simp only [xE]); (try simp only [id]))
      refine Reg2.pm (fun wz hI hF => ?_) (fun r32 => ?_) (by rfl)
      ·have c0 := (hT.out.kept hI).cw.c2
       go_wp2_with fail
       first | exact ⟨_, rfl, rfl, Reg2.Ext.refl _⟩ | exact ⟨_, rfl, ⟨(), rfl, trivial⟩, Reg2.Ext.refl _⟩
      simp only [Act.put, xA, xB, xC]; (try simp only [xD]); (try simp only [xE]); (try simp only [id])
      refine Reg2.aC ?_
      intro w9 Sg _ Wj
      have Wl := Wj.2.2.2.2.2.2.2.2.2.2.2.2.2.2.2.2.2.2.2.2.2.2.2.2.2.1
      clear Wj
      dsimp only [List.drop]
      have T9 := hT.out.kept Sg
      have hc := BA T9.cw LU.inv (by omega)
      go_wp2_with fail
      go_at_call 18
      refine hc.mono ?_
      clear hc
      rintro e wx ⟨ux, rfl, Wm, hbx⟩
      have hc := Cy (az.below Wl hbx) Wm (by have := tq M2; omega)
      rw [decide_eq_true rfl] at hc
      go_wp2_with fail
      go_at_call 23
      refine hc.mono ?_
      clear hc
      rintro e wy ⟨rfl, hby⟩
      have haw := BD wy
      have hbz : Hid (Below w8.heap.size w8 wy) := Sg.trans ((hbx.trans (hby.mono hbx.size)).mono Sg.size)
      clear Sg hbx hby Wm Wl T9
      go_wp2_with fail
      go_at_call 9
      refine haw.mono ?_
      clear haw
      rintro e wz ⟨rfl, hbe⟩
      have hfin := bR.out.trans ((hbj.out.trans ((hbz.out.trans (hbe.mono hbz.out.size)).mono hbj.out.size)).mono bR.out.size)
      go_wp2_with fail
      go_ret
      exact ⟨rfl, hfin⟩
theorem KZ (n : Int) (u : Value) (l : List De) (u2 : Value) (qs : List Rq) (w : World) (_ : -9223372036854775808 ≤ n ∧ n ≤ 9223372036854775807) (h : az qY 12 w u l) (hfit : ∀ x ∈ l, yo x) (hr : az encR 9 w u2 qs) (hfr : ∀ r ∈ qs, rR r) :
  Calls Tryz.prog 6 #[.int .i64 n, u, u2] w fun e w' => e = .returned (.bool true) ∧ Below w.heap.size w w' := I4 h hfit hr hfr n
end
end Go.Proofs.YtnihdgcfamoplaaGreat


namespace Go.Proofs.YtnihdgcfamoplaaGreat.seqItems
open Go.ChangeShapes Go.WideShapes Go.ChangeAt Go.RowKit
theorem own : ownKnob Tryz.prog.godebug = none := by kernel_rfl
theorem laid : laidOutB Tryz.prog = true := by kernel_rfl
theorem readable : (Tryz.f6.params.toList.all fun t => Tryz.prog.readableRec t && decide (t < Tryz.prog.types.size)) = true := by kernel_rfl
theorem lifted (os : Os) (started : os.Started) (H : Type) (enc : TypeId × Value → H) :
  ReturnsInHanded {} Tryz.checked os 6 .any (Rows.seqItemsSpec.pre6 enc Tryz.prog Tryz.f6 Rows.seqItemsRow.domain false) (Rows.seqItemsSpec.post enc Tryz.prog Tryz.f6 false true false false) := by
 refine returnsInHanded_of_change (C := Tryz.checked) own started (by kernel_rfl) Tryz.func6
  (ChangeSpec.witness6 (enc := enc) (C := Tryz.checked) false ⟨#[], #[.int .i64 0, .slice none 0 0, .slice none 0 0], []⟩ 8 (by kernel_rfl) (by kernel_rfl) (by kernel_rfl) (by kernel_rfl)) ?_
 intro W base args ds gs before hval0 hW hcnd _
 have hval : ∀ (j : Nat) t v, Tryz.f6.params[j]? = some t → args[j]? = some v → Value.okWide Tryz.prog W .any base t v := hval0
 have hW' := hW
 obtain ⟨p, q, Rk, hV, hpq, hfz, hnd⟩ := hW
 have hA : DataW.TrodAll enc Tryz.prog W 0 (fun _ => true) true Tryz.f6.params.toList args.toList ds p := Rk
 rw [Tryz.params6] at hA hval
 obtain ⟨v0, YM, d0, ds0, p0, q0, hargs, rfl, rfl, h0, r0⟩ := trodAll_cons hA
 obtain ⟨v1, vs1, d1, ds1, p1, q1, rfl, rfl, rfl, h1, r1⟩ := trodAll_cons r0
 obtain ⟨v2, vs2, d2, YN, p2, q2, rfl, rfl, rfl, h2, r2⟩ := trodAll_cons r1
 obtain ⟨rfl, rfl, rfl⟩ := trodAll_nil r2
 obtain rfl : args = #[v0, v1, v2] := by cases args; simp_all
 obtain ⟨rfl, rfl⟩ := trodVars_none hV
 obtain ⟨a0, rfl, rfl, rfl, w0⟩ := open_int Tryz.underlying3 (hval 0 3 v0 rfl rfl) h0
 obtain ⟨l1, hl1, hf1⟩ := Od (hval 1 22 v1 rfl rfl) h1
 obtain ⟨l2, hl2, hf2⟩ := Q3 (hval 2 66 v2 rfl rfl) h2
 clear Rk hval0
 refine (KZ a0 v1 l1 v2 l2 W (bounds_i64 w0) hl1 hf1 hl2 hf2).mono fun e W' ⟨he, hg⟩ => ?_
 subst he
 exact ⟨_, rfl, LV hW' rfl rfl rfl Tryz.underlying4 laid (Q6 readable) hg⟩
theorem over : Rows.seqItemsRow.holds Tryz.pinned (OpenSpec.ofChange Rows.seqItemsSpec) :=
 OpenClaim.holds_of_wide 6 Tryz.f6 rfl rfl rfl rfl rfl rfl rfl ⟨rfl, rfl, rfl, rfl, rfl⟩ rfl rfl rfl rfl rfl (by kernel_rfl) Tryz.func6 (by kernel_rfl)
  (of_decide_eq_true (by kernel_rfl)) (by unfold Func.isWrapper; first | (rw [if_pos (by decide +kernel)]; kernel_rfl) | (rw [if_neg (by decide +kernel)]; exact ⟨rfl, rfl⟩))
  (fun os started H enc _ => lifted os started H enc)
theorem proved : Rows.SeqItemsSaid := over
#print axioms proved
end Go.Proofs.YtnihdgcfamoplaaGreat.seqItems
