/-
 OpAlone of the Go text returns true for every input, and each argument reads afterwards as it read before. No condition.
-/
import Derived.Test.YtelnhablglomjaaGreatRows
import Derived.ProofKit
import Derived.OpenShut
import Derived.Test.YtelnhablglomjaaGreatZa8
set_option maxRecDepth 1000000
set_option maxHeartbeats 8000000
set_option linter.all false
namespace Go.Proofs.YtelnhablglomjaaGreat
open Go.RowKit Go.Lib Go.Sort
section
variable {w : World} {c t d p g a : Nat} {v : Value} {m : Int} {P : Pg}
def Y3 (w : World) (L : List Jb) (x : Nat × Value) (W : World) : Prop := TV W x.1 x.2 L ∧ w.heap.size ≤ x.1 ∧ ∀ k, x.2.ownBlock = some k → w.heap.size ≤ k
def Y4 (w : World) (l : List Int) (x : Nat) (W : World) : Prop := TW W x l ∧ w.heap.size ≤ x
def Y5 (w : World) (S : List (Int × Int)) (aK : Int) (x : Nat × Nat) (W : World) : Prop := PW W x.1 x.2 S aK ∧ w.heap.size ≤ x.1 ∧ w.heap.size ≤ x.2
theorem Ta (h : CW w c t d p v g a m P) (hk : PK P) (ha : a ≤ 1000) : Calls Tryz.prog 38 #[.pointer (some ⟨c, 0, none⟩)] w fun e w' => ∃ c2 t2 d2 p2 v2 g2, e = .returned (.pointer (some ⟨c2, 0, none⟩)) ∧ Sq w w' c2 t2 d2 p2 v2 g2 a m P ∧ Below w.heap.size w w' := by
 obtain ⟨S, aK, hp, hC, hl, h0, h1⟩ := h.lL
 have hcJ := fun (W : World) (hW : Below w.heap.size w W) => QO (h.kept hW).eU (show P.J.length ≤ 1000 from Nat.le_trans hk.few (by decide))
 have X4 := fun (W : World) (hW : Below w.heap.size w W) => FZ (h.kept hW).nodes hk.rz
 have hcP := fun (W : World) (hW : Below w.heap.size w W) => F6 (hp.kept hW) hC.sm.pos (show S.length ≤ 1000 by omega)
 have hno := kT h
 have hS := Lib.hid h
 clear h
 go_enter Tryz.func38, Tryz.ntmps38
 go_wp2_with (go_at_call 41; go_must (refine hno.mono ?_); rintro e w' ⟨rfl, rfl⟩)
 clear hno
 refine Reg2.rd w 19 26 [[],[af],[af,af],[af,af,af],[af,af,af,af],[ae,ae,ae,ae,ae],[ae,ae,ae,ae,ae,af],[ae,ae,ae,ae,ae,af,af],[ae,ae,ae,ae,ae,af,af,af],[af,af,af,af,af,af,af,af,af],[ae,ae,ae,ae,ae,ae,ae,ae,ae,ae],[ae,ae,ae,ae,ae,ae,ae,ae,ae,ae,af],[ae,ae,ae,ae,ae,ae,ae,ae,ae,ae,af,af],[ae,ae,ae,ae,ae,ae,ae,ae,ae,ae,af,af,af],[af,af,af,af,af,af,af,af,af,af,af,af,af,af],[ae,ae,ae,ae,ae,ae,ae,ae,ae,ae,ae,ae,ae,ae,ae],[ae,ae,ae,ae,ae,ae,ae,ae,ae,ae,ae,ae,ae,ae,ae,af],[ae,ae,ae,ae,ae,ae,ae,ae,ae,ae,ae,ae,ae,ae,ae,af,af],[ae,ae,ae,ae,ae,ae,ae,ae,ae,ae,ae,ae,ae,ae,ae,af,af,af]] [0, 0, 0, 1, 1, 0, 0, 0, 1, 1, 0, 0, 0, 1, 1, 0, 0, 0, 1] [.pure, .pure, .pure, .mU (.pointer (some ⟨t, 0, none⟩)), .minor (Nat × Value) (0, .bool false) (fun x => .pointer (some ⟨x.1, 0, none⟩)) (fun x W => Y3 w P.J x W), .pure, .pure, .pure, .mU (.pointer (some ⟨d, 0, none⟩)), .minor Nat 0 (fun x => .pointer (some ⟨x, 0, none⟩)) (fun x W => Y4 w P.T x W), .pure, .pure, .pure, .mU (.pointer (some ⟨p, 0, none⟩)), .minor (Nat × Nat) (0, 0) (fun x => .pointer (some ⟨x.1, 0, none⟩)) (fun x W => Y5 w S aK x W), .pure, .pure, .pure, .mU (.bool P.cl)] (by kernel_rfl) (by kernel_rfl) rfl rfl ⟨trivial, trivial, trivial, Reg2.tt, ⟨fun x a b he hx => ⟨hx.1.kept he, hx.2.1, hx.2.2⟩, fun x a b he hx => ⟨hx.1.kept he, hx.2.1, hx.2.2⟩⟩, trivial, trivial, trivial, Reg2.tt, ⟨fun x a b he hx => ⟨hx.1.kept he, hx.2⟩, fun x a b he hx => ⟨hx.1.kept he, hx.2⟩⟩, trivial, trivial, trivial, Reg2.tt, ⟨fun x a b he hx => ⟨hx.1.kept he, hx.2.1, hx.2.2⟩, fun x a b he hx => ⟨hx.1.kept he, hx.2.1, hx.2.2⟩⟩, trivial, trivial, trivial, Reg2.tt, trivial⟩ ⟨rfl, rfl, rfl, Nat.le_refl _, fun _ _ => rfl⟩ ?_
 dsimp only [Reg2.mk, List.zip, List.zipWith, List.take]
 repeat ((first
  | (refine' Reg2.ak _ (by rfl) (fun wz => ?_) ?_; rotate_left; (go_simp; first | rfl | rw [if_neg (by omega)]))
  | (refine Reg2.au (by rfl) (fun wz hI hF => ?_) (fun _ => ?_)
     ·unfold Reg2.One
      have c0 := (hS.out.kept hI).c0
      go_wp2_with fail
      first | exact ⟨_, rfl, rfl, Reg2.Ext.refl _⟩ | exact ⟨_, rfl, ⟨(), rfl, trivial⟩, Reg2.Ext.refl _⟩)); simp only [Act.put, xA, xB, xC, xD, xE, id])
 refine Reg2.pm (fun wz hI hF => ?_) (fun r4 => ?_) (by rfl)
 ·have hc1 := hcJ wz hI
  go_wp2_with (go_at_call 64; go_must (refine hc1.mono ?_); rintro e w1 ⟨q1, u1, rfl, k1, k2, k3, hb5⟩)
  exact ⟨_, rfl, ⟨(q1, u1), rfl, k1, Nat.le_trans hI.size k2, fun k hk => Nat.le_trans hI.size (k3 k hk)⟩, hb5⟩
 simp only [Act.put, xA, xB, xC, xD, xE, id]
 repeat ((first
  | (refine' Reg2.ak _ (by rfl) (fun wz => ?_) ?_; rotate_left; (go_simp; first | rfl | rw [if_neg (by omega)]))
  | (refine Reg2.au (by rfl) (fun wz hI hF => ?_) (fun _ => ?_)
     ·unfold Reg2.One
      have c0 := (hS.out.kept hI).c1
      go_wp2_with fail
      first | exact ⟨_, rfl, rfl, Reg2.Ext.refl _⟩ | exact ⟨_, rfl, ⟨(), rfl, trivial⟩, Reg2.Ext.refl _⟩)); simp only [Act.put, xA, xB, xC, xD, xE, id])
 refine Reg2.pm (fun wz hI hF => ?_) (fun r9 => ?_) (by rfl)
 ·have hc1 := X4 wz hI
  go_wp2_with (go_at_call 65; go_must (refine hc1.mono ?_); rintro e w1 ⟨rfl, k1, hb5⟩)
  exact ⟨_, rfl, ⟨wz.heap.size, rfl, k1, hI.size⟩, hb5⟩
 simp only [Act.put, xA, xB, xC, xD, xE, id]
 repeat ((first
  | (refine' Reg2.ak _ (by rfl) (fun wz => ?_) ?_; rotate_left; (go_simp; first | rfl | rw [if_neg (by omega)]))
  | (refine Reg2.au (by rfl) (fun wz hI hF => ?_) (fun _ => ?_)
     ·unfold Reg2.One
      have c0 := (hS.out.kept hI).c2
      go_wp2_with fail
      first | exact ⟨_, rfl, rfl, Reg2.Ext.refl _⟩ | exact ⟨_, rfl, ⟨(), rfl, trivial⟩, Reg2.Ext.refl _⟩)); simp only [Act.put, xA, xB, xC, xD, xE, id])
 refine Reg2.pm (fun wz hI hF => ?_) (fun OM => ?_) (by rfl)
 ·have hc1 := hcP wz hI
  go_wp2_with (go_at_call 66; go_must (refine hc1.mono ?_); rintro e w1 ⟨q1, q2, rfl, k1, k2, k3, hb5⟩)
  exact ⟨_, rfl, ⟨(q1, q2), rfl, k1, Nat.le_trans hI.size k2, Nat.le_trans hI.size k3⟩, hb5⟩
 simp only [Act.put, xA, xB, xC, xD, xE, id]
 repeat ((first
  | (refine' Reg2.ak _ (by rfl) (fun wz => ?_) ?_; rotate_left; (go_simp; first | rfl | rw [if_neg (by omega)]))
  | (refine Reg2.au (by rfl) (fun wz hI hF => ?_) (fun _ => ?_)
     ·unfold Reg2.One
      have c0 := (hS.out.kept hI).c4
      go_wp2_with fail
      first | exact ⟨_, rfl, rfl, Reg2.Ext.refl _⟩ | exact ⟨_, rfl, ⟨(), rfl, trivial⟩, Reg2.Ext.refl _⟩)); simp only [Act.put, xA, xB, xC, xD, xE, id])
 refine Reg2.aA ?_
 intro w3 HI3 _ qB
 have hj := qB.2.2.2.2.1
 have hn := qB.2.2.2.2.2.2.2.2.2.1
 have hq := qB.2.2.2.2.2.2.2.2.2.2.2.2.2.2.1
 obtain ⟨t2, v2⟩ := r4
 obtain ⟨p2, g2⟩ := OM
 obtain ⟨j1, j2, j3⟩ := hj
 obtain ⟨n1, n2⟩ := hn
 obtain ⟨q1, q2, q3⟩ := hq
 clear qB
 have hs3 := HI3.size
 obtain ⟨w5, wJ⟩ : ∃ w5, w5 = w3.alloc (.cells #[.pointer (some ⟨t2, 0, none⟩), .pointer (some ⟨r9, 0, none⟩), .pointer (some ⟨p2, 0, none⟩), .bool true, .bool P.cl] 65) := ⟨_, rfl⟩
 have hb5 : Below w3.heap.size w3 w5 := by rw [wJ]; exact (Below.refl _ _).alloc (Nat.le_refl _) _
 have Sn : w5.heap[w3.heap.size]? = some (.cells #[.pointer (some ⟨t2, 0, none⟩), .pointer (some ⟨r9, 0, none⟩), .pointer (some ⟨p2, 0, none⟩), .bool true, .bool P.cl] 65 (0, 0)) := by rw [wJ]; exact heap_alloc_new w3 _
 have hfin : Hid (Sq w w5 w3.heap.size t2 r9 p2 v2 g2 a m P ∧ Below w.heap.size w w5) := by
  refine ⟨⟨⟨Sn, (show TV w3 t2 v2 P.J from j1).kept hb5, (show TW w3 r9 P.T from n1).kept hb5, S, aK, (show PW w3 p2 g2 S aK from q1).kept hb5, hC, hl, h0, h1⟩, ?_⟩, HI3.trans (hb5.mono hs3)⟩
  rintro k (rfl | rfl | rfl | rfl | hv | rfl)
  ·exact hs3
  ·exact j2
  ·exact n2
  ·exact q2
  ·exact j3 k hv
  ·exact q3
 clear j1 n1 q1 Sn hcJ X4 hcP hp
 dsimp only [List.drop]
 go_wp2_with fail
 rw [← wJ]
 go_ret
 exact ⟨w3.heap.size, rfl, ⟨t2, r9, p2, v2, g2, hfin.out.1⟩, hfin.out.2⟩
end
end Go.Proofs.YtelnhablglomjaaGreat

namespace Go.Proofs.YtelnhablglomjaaGreat
open Go.RowKit Go.Lib Go.Sort
section
variable {w w' : World} {o h : Nat} {r : Rq}
theorem om.cell (q : om w o h r) (j : Nat) (z : Value) (hz : (encR r)[j]? = some z) : w.cell? ⟨o, j + 1, none⟩ = some z := by
 simp [World.cell?, show w.heap[o]? = _ from q]
 exact hz
theorem Au (q : om w o h r) : Calls Tryz.prog 21 #[.pointer (some ⟨o, 0, none⟩)] w fun e w' => e = .returned (.agg (encR r).toArray) ∧ Below w.heap.size w w' := by
 obtain ⟨y1, y2, y3, y4, y5, y6, y7, y8, y9⟩ := r
 have q' : ∀ z, om (w.alloc z) o h ⟨y1, y2, y3, y4, y5, y6, y7, y8, y9⟩ := fun z => (((Below.refl w.heap.size w).alloc (Nat.le_refl _) z).block o q.lt).trans q
 have c1 := fun z => (q' z).cell 0 _ rfl
 have c2 := fun z => (q' z).cell 1 _ rfl
 have c3 := fun z => (q' z).cell 2 _ rfl
 have c4 := fun z => (q' z).cell 3 _ rfl
 have c5 := fun z => (q' z).cell 4 _ rfl
 have c6 := fun z => (q' z).cell 5 _ rfl
 have c7 := fun z => (q' z).cell 6 _ rfl
 have c8 := fun z => (q' z).cell 7 _ rfl
 have c9 := fun z => (q' z).cell 8 _ rfl
 clear q q'
 go_enter Tryz.func21, Tryz.ntmps21
 go_wp2_with fail
 refine bG rfl rfl rfl (heap_alloc_new w _) Tryz.underlying24 rfl (by kernel_rfl) ⟨rfl, ?_⟩
 exact (Below.refl _ _).alloc (Nat.le_refl _) _
end
section
variable {w w1 : World} {B s c t d p g : Nat} {v : Value} {m : Int} {M : Md}
theorem EN (h : SO B w s c t d p v g m M) (hI : aF M) (h1 : 1 ≤ M.dr.length) (hll : M.L.length ≤ 400) : Calls Tryz.prog 8 #[.pointer (some ⟨s, 0, none⟩)] w fun e w' => ∃ s2 c2 t2 d2 p2 v2 g2, e = .returned (.pointer (some ⟨s2, 0, none⟩)) ∧ SO w.heap.size w' s2 c2 t2 d2 p2 v2 g2 m M ∧ Below w.heap.size w w' := by
 have hl := vD h
 have q0 := h.at'.c0
 have hw := Ta h.cw (fq hI h1 (by omega)) (by omega)
 go_enter Tryz.func8, Tryz.ntmps8
 go_wp2_with fail
 go_at_call 36
 refine hl.mono ?_
 clear hl
 rintro e w' ⟨rfl, rfl⟩
 go_wp2_with fail
 go_at_call 38
 refine hw.mono ?_
 clear hw q0
 rintro e w1 ⟨c2, t2, d2, p2, v2, g2, rfl, ⟨qH, hlo1⟩, hb1⟩
 have ho := JN c2 w1
 go_wp2_with fail
 go_at_call 37
 refine ho.mono ?_
 clear ho
 rintro e w2 ⟨rfl, hS2, hb2⟩
 have hfin : Hid (SO w.heap.size w2 w1.heap.size c2 t2 d2 p2 v2 g2 m M ∧ Below w.heap.size w w2) := ⟨⟨hS2, hb1.size, qH.kept hb2, hlo1⟩, hb1.trans (hb2.mono hb1.size)⟩
 clear qH hlo1 hS2 hb1 hb2
 go_wp2_with fail
 go_ret
 exact ⟨w1.heap.size, c2, t2, d2, p2, v2, g2, rfl, hfin.out⟩
end
section
variable {B o h s b c t d p K : Nat} {W W' : World} {S0 S : Sd} {H : Hd} {l u : Lk} {rc : Rq} {Q : Nat → Int → Wk → Pg → Prop} {F : Nat → Prop}
theorem Rn.X5 (X : Rn B W o h s b c t d p S0 S H l u rc K Q) (ho : bu F W W') (h1 : ¬ F o) (h2 : ¬ F h) (h3 : ¬ F s) (h4 : ∀ k, fI b c t d p S.v S.g k → ¬ F k) : Rn B W' o h s b c t d p S0 S H l u rc K Q :=
 ⟨(ho.block _ X.op.lt h1).trans X.op, (ho.block _ X.hd.lt h2).trans X.hd, X.wk, (ho.block _ X.lk.lt h3).trans X.lk, X.ln, X.lock, X.fr, X.sw.JI fun k hk => ho.block k (X.sw.lt hk) (h4 k hk), X.run, X.done, X.bg, X.lo, X.lo2⟩
theorem PE (b : Nat) (who : Int) (x y z : Bool) : sN x y z = ((vI b who x y z).len : Nat) := by
 cases x <;> cases y <;> cases z <;> rfl
end
section
variable {w : World} {u : Value} {l : List De}
theorem JV (h : aB sM 12 w u l) (hfit : ∀ x ∈ l, ze x) (r : Rq) (hr : FH r) (n : Int) : Calls Tryz.prog 3 #[.int .i64 n, u, .agg (encR r).toArray] w fun e w' => e = .returned (.bool true) ∧ Below w.heap.size w w' := by
 have zR := kC
 have lR := gP r
 obtain ⟨k9, bP⟩ : ∃ k, k = 9 := ⟨_, rfl⟩
 rw [← bP] at zR lR
 have hk0 : ¬ k9 = 0 := by omega
 replace bP := Lib.hid bP
 obtain ⟨wA, aJ⟩ : ∃ wA, wA = w.alloc (.cells (encR r).toArray 24) := ⟨_, rfl⟩
 have bS : Hid (Below w.heap.size w wA) := by show Below _ _ _; rw [aJ]; exact (Below.refl _ _).alloc (Nat.le_refl _) _
 have oF : wA.heap[w.heap.size]? = some (.cells (encR r).toArray 24 (0, 0)) := by rw [aJ]; exact heap_alloc_new w _
 have hlA : Hid (w.heap.size < wA.heap.size) := aD oF
 have hA := h.below bS.out
 have hki := jr oF 0 _ rfl
 have hz := Lib.hid oF
 have hld : Hid (∀ W, Below wA.heap.size wA W → Sem.run Tryz.prog (loadCellsFrom ⟨w.heap.size, 0, none⟩ 0 k9 #[]) W = .ok (encR r).toArray W) := fun W hW => fu ((hW.block _ hlA.out).trans hz.out) lR
 have hkd : Hid (∀ W, Below wA.heap.size wA W → W.cell? ⟨w.heap.size, 0, none⟩ = some (.int .i64 r.kind)) := fun W hW => jr ((hW.block _ hlA.out).trans hz.out) 0 _ rfl
 have Tc := Lib.hid (EI r 3)
 have Pn := Lib.hid (uJ r)
 obtain ⟨cR, hcR⟩ : ∃ cR, cR = encR r := ⟨_, rfl⟩
 rw [← hcR] at hld Tc Pn aJ ⊢
 replace hcR := Lib.hid hcR
 clear oF lR hki hz
 by_cases hn : n < 1 ∨ 64 < n
 ·have hm := Py hA n hn
  have haw := Cx wA
  go_enter Tryz.func3, Tryz.ntmps3
  go_wp2_with fail
  rw [← aJ]
  replace aJ := Lib.hid aJ
  go_at_call 6
  refine hm.mono ?_
  clear hm
  rintro e w1 ⟨rfl, rfl⟩
  go_wp2_with fail
  go_at_call 7
  refine haw.mono ?_
  clear haw
  rintro e w2 ⟨rfl, hb2⟩
  go_wp2_with fail
  go_ret
  exact ⟨rfl, bS.out.trans (hb2.mono bS.out.size)⟩
 obtain ⟨N, rfl⟩ := Int.eq_ofNat_of_zero_le (show 0 ≤ n by omega)
 have hm := SV hA hfit N (by omega) (by omega)
 obtain ⟨M, hM⟩ : ∃ M, M = nz (dK N) (l.take 60) := ⟨_, rfl⟩
 have hpl := EL (Ok.new (show N ≤ 64 by omega)) (l.take 60)
 rw [← hM] at hm hpl
 have hdr : M.dr.length = N := by rw [hpl.2.2]; simp [dK]
 have hd1 : 1 ≤ M.dr.length := by omega
 have hLl : M.L.length ≤ 60 := by
  have h1 := hpl.2.1
  have h2 : (dK N).L.length = 0 := rfl
  have h3 : (l.take 60).length ≤ 60 := by rw [List.length_take]; omega
  omega
 have hok := hpl.1
 obtain ⟨Q, hQ⟩ : ∃ Q, Q = Fin (60000 + 1000) (fE M (toW r)).2 (lN (fE M (toW r)).1) false := ⟨_, rfl⟩
 have hrun : fA 1000 (1 + 2 * M.L.length) 60000 (jQ r) (ah M) Q := by rw [hQ]; exact JH r hok hd1 (by omega) (by decide) (by have := hr; exact ⟨by cases hr; omega, by cases hr; omega⟩)
 clear hpl hdr hfit h hM hA
 replace hn := Lib.hid hn
 obtain ⟨K, hK, hrun⟩ := hrun
 have hinv := hok.inv
 replace hrun := Lib.hid hrun
 replace hinv := Lib.hid hinv
 replace hQ := Lib.hid hQ
 go_enter Tryz.func3, Tryz.ntmps3
 go_wp2_with fail
 rw [← aJ]
 replace aJ := Lib.hid aJ
 go_at_call 6
 refine hm.mono ?_
 clear hm
 rintro e w1 ⟨s, c, t, d, p, v, g, rfl, S1, hb1⟩
 have hf1 : Hid (∀ k, dC c t d p v g k → k < w1.heap.size) := fun k => S1.cw.lt
 have h1 := EN S1 hinv.out hd1 (by omega)
 go_wp2_with fail
 go_at_call 8
 refine h1.mono ?_
 clear h1
 rintro e w2 ⟨sX, cX, tX, dX, pX, vX, gX, rfl, _, hb2⟩
 have S2 := S1.kept hb2
 have h1 := EN S2 hinv.out hd1 (by omega)
 go_wp2_with fail
 go_at_call 8
 refine h1.mono ?_
 clear h1
 rintro e w3 ⟨su, cu, tu, du, pu, vu, gu, rfl, U3, hb3⟩
 have S3 := S2.kept hb3
 have M7 : Hid (w1.heap.size ≤ w2.heap.size ∧ w2.heap.size ≤ w3.heap.size ∧ wA.heap.size ≤ w1.heap.size) := ⟨hb2.size, hb3.size, hb1.size⟩
 obtain ⟨w4, hw4⟩ : ∃ w4, w4 = w3.alloc (.cells #[.int .i64 0, .int .i64 0, .int .i64 0, .int .i64 0] 32) := ⟨_, rfl⟩
 have hb4 : Below w3.heap.size w3 w4 := by rw [hw4]; exact (Below.refl _ _).alloc (Nat.le_refl _) _
 have hL4 : bT 32 w4 w3.heap.size ⟨0, 0, 0, 0⟩ := by rw [hw4]; exact heap_alloc_new w3 _
 obtain ⟨kk, hkk⟩ : ∃ kk, kk = w3.heap.size := ⟨_, rfl⟩
 rw [← hkk] at hL4
 have S4 := Lib.hid (S3.kept hb4)
 have U4 := Lib.hid (U3.kept hb4)
 have uQ : Hid (Below wA.heap.size wA w4) := hb1.trans ((hb2.trans ((hb3.trans (hb4.mono hb3.size)).mono hb2.size)).mono hb1.size)
 have ld := hld.out w4 uQ.out
 have UA := Tc.out w4
 have hk4 : Hid (kk < w4.heap.size ∧ kk = w3.heap.size) := ⟨hL4.lt, hkk⟩
 rw [hw4] at ld UA
 replace hL4 := Lib.hid hL4
 clear S1 S2 S3 U3 hb1 hb2 hb3 hb4 Tc
 go_wp2_with fail
 rw [← hw4] at UA ⊢
 rw [← hkk]
 replace hw4 := Lib.hid hw4
 replace hkk := Lib.hid hkk
 go_at_call 9
 refine UA.mono ?_
 clear UA ld
 rintro e w5 ⟨o, hh, b, rfl, hO, hH, hW, lo, lh, lb, hb5⟩
 have U1 : Hid (Below wA.heap.size wA w5) := uQ.out.trans (hb5.mono uQ.out.size)
 have ld := hld.out w5 U1.out
 have X7 := Pn.out w5
 clear Pn
 go_wp2_with fail
 go_at_call 10
 refine X7.mono ?_
 clear X7 ld
 rintro e w6 ⟨b2, rfl, hV, Y6, hb6⟩
 have CG : Below w4.heap.size w4 w6 := hb5.trans (hb6.mono hb5.size)
 have hup := Hd.Wi (kN b 3 r)
 have hlen := Hd.Ut (kN b 3 r)
 have U2 := Hd.SG b 3 (nT r.kind) (nU r.kind) (nW r.kind) K
 have Td := JK (⟨b, 3, nT r.kind, nU r.kind, nW r.kind, 0, 0⟩ : Hd) 0
 obtain ⟨S0, hS0⟩ : ∃ S0 : Sd, S0 = ⟨v, g, 1 + 2 * M.L.length, 60000, jQ r, ah M⟩ := ⟨_, rfl⟩
 have X6 : Hid (Rn wA.heap.size w6 o hh kk b c t d p S0 S0 (kN b 3 r) ⟨0, 0, 0, 0⟩ ⟨0, 0, 0, 0⟩ (fF r) K Q) := by
  rw [hS0]
  exact ⟨(hb6.block _ hO.lt).trans hO, hH.below hb6 hH.lt, rfl, hL4.out.below CG hL4.out.lt, ⟨by decide, fun _ => by show (0 : Int) + _ ≤ 10; omega⟩, dI.new b _ _ _ (by decide) (by decide) (by decide) (by decide), Hd.Uu _ _ _ _ _ _,
   ⟨(hb6.block _ hW.lt).trans hW, S4.out.cw.kept CG⟩, fun _ => hrun.out, fun h3 => by
     have : (kN b 3 r).st = 0 ∨ (kN b 3 r).st = 1 := Td
     omega, fun _ => rfl, fun k hk => hk.elim (fun e => by have := uQ.out.size; omega) (S4.out.lo k), by have := uQ.out.size; omega, by have := M7.out; have := hk4.out; omega⟩
 have hr0 : (kN b 3 r).rem K = 2 * (kN b 3 r).len + K + 1 := U2
 have U5 : Hid (Below wA.heap.size wA w6) := uQ.out.trans (CG.mono uQ.out.size)
 have X9 := Lib.hid (S4.out.at'.kept CG)
 have Ya := Lib.hid (U4.out.at'.kept CG)
 have U6 : Hid (SW w6 b2 cu tu du pu vu gu (1 + 2 * M.L.length) 60000 (jQ r) (ah M)) := ⟨hV, U4.out.cw.kept CG⟩
 have Aa : Hid ((∀ k, dC cu tu du pu vu gu k → w2.heap.size ≤ k) ∧ b < b2 ∧ w3.heap.size ≤ b ∧ w2.heap.size ≤ w3.heap.size ∧ w2.heap.size ≤ b2 ∧ (∀ k, dC c t d p v g k → k < w2.heap.size)) := by
  have h1 := M7.out
  have h2 := hk4.out
  have h3 := hW.lt
  exact ⟨U4.out.lo, by omega, by omega, by omega, by omega, fun k hk => by have := hf1.out k hk; omega⟩
 have hsz : Hid (wA.heap.size ≤ w2.heap.size) := by have := M7.out; exact Lib.hid (by omega)
 have hln : sN (nT r.kind) (nU r.kind) (nW r.kind) = ((kN b 3 r).len : Nat) := PE b 3 _ _ _
 have MO : Hid ((kN b 3 r).st = 0 ∨ (kN b 3 r).st = 1) := Td
 obtain ⟨H0, hH0⟩ : ∃ H0, H0 = kN b 3 r := ⟨_, rfl⟩
 have Yb : Hid (H0.who = 3 ∧ H0.x = nT r.kind ∧ H0.y = nU r.kind ∧ H0.z = nW r.kind) := by rw [hH0]; exact ⟨rfl, rfl, rfl, rfl⟩
 rw [← hH0] at X6 hr0 hln hlen MO
 replace hS0 := Lib.hid hS0
 clear hH0 Td hup U2 hO hH hW hV uQ U1 hb5 hb6 CG hL4 S4 U4 hk4 lo lh lb Y6 M7 hf1
 go_wp2_with fail
 go_loopw [13, 14] (fun pp ii wr => ∃ (j K1 : Nat) (v1 : Value) (g1 a1 : Nat) (m1 : Int) (R1 : Wk) (P1 : Pg), pp = .int .i64 j ∧ ii = .int .i64 j ∧ j + K1 = K ∧ Hid (SW wr b2 cu tu du pu v1 g1 a1 m1 R1 P1) ∧ Hid (K1 ≠ 0 → Run K1 a1 m1 R1 P1 Q) ∧ Hid (K1 = 0 → Q a1 m1 R1 P1) ∧ Hid (Rn wA.heap.size wr o hh kk b c t d p S0 S0 H0 ⟨0, 0, 0, 0⟩ ⟨0, 0, 0, 0⟩ (fF r) K Q) ∧ Hid (Below wA.heap.size wA wr) ∧ Hid (iw wr s c ∧ iw wr su cu) ∧ Hid (∀ k, dC cu tu du pu v1 g1 k → w2.heap.size ≤ k ∧ k ≠ b)) (fun _ ii _ => 2000 - (intOf ii).toNat)
 case atStart => exact ⟨0, K, vu, gu, _, _, _, _, rfl, rfl, by omega, U6, fun _ => hrun.out, fun h => absurd h hrun.out.pos, X6, U5, ⟨X9.out, Ya.out⟩, fun k hk => ⟨Aa.out.1 k hk, fun e => by
  subst e
  exact U6.out.cw.other X6.out.sw.wk (by decide) hk⟩⟩
 case round =>
  clear U6 X6 U5 X9 Ya hrun
  obtain ⟨j, K1, v1, g1, a1, m1, R1, P1, rfl, rfl, hjK, hU, hr1, hq1, hX, hbr, hat, hfu⟩ := hrel
  have b2k : (j : Int) < 2000 := by omega
  by_cases Yc : K1 = 0
  ·have hq := hq1.out Yc
   obtain ⟨M2, hM2⟩ : ∃ M2, M2 = (fE M (toW r)).2 := ⟨_, rfl⟩
   obtain ⟨yR, Yd⟩ : ∃ yR, yR = lN (fE M (toW r)).1 := ⟨_, rfl⟩
   have Te := hQ.out
   rw [← hM2, ← Yd] at Te
   have hok2 : aF M2 := by rw [hM2]; exact (hok.Hu _).inv
   have hL2 : M2.L.length ≤ 100 := by have := (M0 hinv.out (toW r)).1; rw [hM2]; omega
   have hsl2 := uM M2
   rw [Te] at hq
   obtain ⟨rfl, _, _, hlf, GI, _⟩ := hq
   have hd := mE hU.out.wk true (.inl ⟨hlf, rfl⟩)
   have hki := hkd.out wr hbr.out
   have hnd := wV r.kind wr
   obtain ⟨x, hx⟩ : ∃ x, x = nT r.kind := ⟨_, rfl⟩
   obtain ⟨y, hy⟩ : ∃ y, y = nU r.kind := ⟨_, rfl⟩
   obtain ⟨z, hzz⟩ : ∃ z, z = nW r.kind := ⟨_, rfl⟩
   rw [← hx, ← hy, ← hzz] at hnd hln Yb
   obtain rfl : j = K := by omega
   replace Te := Lib.hid Te
   replace hok2 := Lib.hid hok2
   replace hlf := Lib.hid hlf
   unfold bL at hnd
   clear hx hy hzz hM2 Yd hr1 hq1 hQ
   go_wp2_with (go_at_call 11; go_must (refine hd.mono ?_); rintro e w' ⟨rfl, rfl⟩)
   go_at_call 13
   refine hnd.mono ?_
   clear hnd hki hd
   rintro e w7 ⟨rfl, kD⟩
   obtain ⟨w8, hw8⟩ : ∃ w8, w8 = w7.alloc (.cells #[.bool x, .bool y, .bool z] 42) := ⟨_, rfl⟩
   have pY : Below wr.heap.size wr w8 := by rw [hw8]; exact kD.alloc kD.size _
   have Tf : w8.heap[w7.heap.size]? = some (.cells #[.bool x, .bool y, .bool z] 42 (0, 0)) := by rw [hw8]; exact heap_alloc_new w7 _
   obtain ⟨GL, UB⟩ : ∃ GL, GL = w7.heap.size := ⟨_, rfl⟩
   rw [← UB] at Tf
   have X8 := Lib.hid (hX.out.kept pY)
   have U8 := Lib.hid (hU.out.kept pY)
   have at8 : Hid (iw w8 s c ∧ iw w8 su cu) := ⟨hat.out.1.kept pY, hat.out.2.kept pY⟩
   have U7 : Hid (Below wA.heap.size wA w8) := hbr.out.trans (pY.mono hbr.out.size)
   have Ye : Hid (w2.heap.size ≤ w8.heap.size ∧ (∀ k, dC cu tu du pu v1 g1 k → k < w8.heap.size) ∧ b2 < w8.heap.size) := by
    refine ⟨?_, fun k hk => U8.out.cw.lt hk, U8.out.wk.lt⟩
    have := X8.out.sw.wk.lt
    have := Aa.out
    omega
   have U9 : Hid (∀ k, fI b c t d p S0.v S0.g k → k < w2.heap.size ∨ k = b ∨ w8.heap.size ≤ k) := fun k hk => by
    rw [hS0.out] at hk
    exact hk.elim (fun e => .inr (.inl e)) (fun h => .inl (Aa.out.2.2.2.2.2 k h))
   replace Tf := Lib.hid Tf
   clear hX hU hat hbr kD pY
   go_wp2_with fail
   rw [← hw8, ← UB]
   replace hw8 := Lib.hid hw8
   replace UB := Lib.hid UB
   go_loopw [16, 17, 18] (fun ss tt ii wr => ∃ (i : Nat) (tn : Int) (S : Sd) (H : Hd) (l1 : Lk) (K1 : Nat), ss = .int .i64 i ∧ tt = .int .i64 tn ∧ ii = .int .i64 i ∧ i + H.rem K1 = 2 * H0.len + j + 1 ∧ Hid (tn = if H.st ≤ 1 then 0 else 1) ∧ Hid (Rn wA.heap.size wr o hh kk b c t d p S0 S H l1 ⟨0, 0, 0, 0⟩ (fF r) K1 Q) ∧ Hid (Below wA.heap.size wA wr) ∧ Hid (iw wr s c ∧ iw wr su cu) ∧ Hid (SW wr b2 cu tu du pu v1 g1 a1 m1 R1 (ah M2)) ∧ Hid (wr.heap[GL]? = some (.cells #[.bool x, .bool y, .bool z] 42 (0, 0))) ∧ Hid (w8.heap.size ≤ wr.heap.size) ∧ Hid (∀ k, fI b c t d p S.v S.g k → k < w2.heap.size ∨ k = b ∨ w8.heap.size ≤ k)) (fun _ _ ii _ => 3000 - (intOf ii).toNat)
   case atStart => exact ⟨0, 0, S0, H0, _, j, rfl, rfl, rfl, by omega, by show (0 : Int) = _; rw [if_pos (by have := MO.out; omega)], X8, U7, at8, U8, Tf, Nat.le_refl _, U9⟩
   case round =>
    clear X8 U7 at8 U8 Tf U9
    obtain ⟨i, tn, S, H, l1, K1, rfl, rfl, rfl, hir, htn, hX, hbr, hat, hU, PG, Wm, hfo⟩ := hrel
    have Zn := hlen
    have b3 : (i : Int) < 3000 := by omega
    have hf := jB hX.out.op hX.out.hd
    have c0 := hX.out.op.c0
    by_cases h5 : H.st = 5
    ·rw [h5] at hf
     have e5 : H.rem K1 = 0 := by simp [Hd.rem, h5]
     have ht1 : tn = 1 := by rw [htn.out, h5]; rfl
     subst ht1
     have Yf := hX.out.done (by omega)
     rw [Te.out] at Yf
     obtain ⟨hP, _, _, _, GJ, _⟩ := Yf
     have Du : Hid (CW wr c t d p S.v S.g S.a S.m (ah M2)) := by
      have := hX.out.sw.cw
      rw [hP] at this
      exact this
     have JW : Hid (∀ W, Below wr.heap.size wr W → bI W b2 R1) := fun W hW => (hU.out.kept hW).wk
     have Dv : Hid (CW wr cu tu du pu v1 g1 a1 m1 (ah M2)) := hU.out.cw
     have hov := hX.out.lock.over (.inl h5)
     have hfr : l1.free = true := by unfold Lk.free; rw [hov.1, hov.2.1, hov.2.2]; rfl
     have hwk := hX.out.wk
     have hd := mE hU.out.wk true (.inl ⟨hlf.out, rfl⟩)
     have hSt := fun W => EH x y z W
     have hLn := fun W => Mj x y z W
     have KF : 0 ≤ sN x y z ∧ sN x y z ≤ 3 := by rw [hln]; omega
     have hin : (i : Int) = 2 * sN x y z + j + 1 := by rw [hln]; omega
     obtain ⟨n, hn⟩ : ∃ n, n = sN x y z := ⟨_, rfl⟩
     rw [← hn] at hSt hLn KF hin
     have wi1 : IntKind.i64.wrap (2 * n + 2 + (j : Int)) = 2 * n + 2 + (j : Int) := IntWalk.i64_in _ (by omega)
     have wi2 : IntKind.i64.wrap (2 * n + 2 + (j : Int) - 1) = 2 * n + 2 + (j : Int) - 1 := IntWalk.i64_in _ (by omega)
     have wi3 : IntKind.i64.wrap (2 * n) = 2 * n := IntWalk.i64_in _ (by omega)
     have wi4 : IntKind.i64.wrap (2 * n + 2) = 2 * n + 2 := IntWalk.i64_in _ (by omega)
     have di : ((i : Int) == 2 * n + 2 + (j : Int) - 1) = true := by rw [beq_iff_eq]; omega
     have hG : Hid (∀ W, Below wr.heap.size wr W → W.cell? ⟨GL, 0, none⟩ = some (.bool x) ∧ W.cell? ⟨GL, 1, none⟩ = some (.bool y) ∧ W.cell? ⟨GL, 2, none⟩ = some (.bool z)) := fun W hW => by
      have hx := (hW.block GL (aD PG.out)).trans PG.out
      exact ⟨by simp [World.cell?, hx], by simp [World.cell?, hx], by simp [World.cell?, hx]⟩
     unfold bL at hSt hLn
     have hye : ∀ W, Sem.run Tryz.prog (binOp .eql 53 (.agg (bK yR).toArray) (.agg (bK yR).toArray)) W = .ok (.bool true) W := fun W => by rw [Uj, decide_eq_true rfl]
     have hqe : ∀ W, Sem.run Tryz.prog (binOp .eql 24 (.agg (encR (fF r)).toArray) (.agg (encR (fF r)).toArray)) W = .ok (.bool true) W := fun W => by rw [Qo, decide_eq_true rfl]
     have F3 := Lib.hid (yQ r)
     have hfin : Hid (∀ W, Below wr.heap.size wr W → Below w.heap.size w W) := fun W hW => bS.out.trans ((hbr.out.trans (hW.mono hbr.out.size)).mono bS.out.size)
     have M8 : Hid (∀ W, Below wr.heap.size wr W → Sem.run Tryz.prog (loadCellsFrom ⟨w.heap.size, 0, none⟩ 0 k9 #[]) W = .ok cR.toArray W) := fun W hW => hld.out W (hbr.out.trans (hW.mono hbr.out.size))
     rw [← hcR.out] at F3
     clear hin hd hov e5 hln hlen hn hir htn hbr hU hfo Wm Aa Ye hfu PG
     go_wp2_with (go_at_call 14; go_must (refine hf.mono ?_); rintro e w' ⟨rfl, rfl⟩)
     clear hf
     simp only [List.append_eq, xE, xD]
     refine Reg2.rM 87 183 (Reg2.rows 0 [.p 0, .m 1, .p 3, .p 7, .m 15, .p 31, .p 63, .p 127, .p 255, .p 511, .p 1023, .p 2047, .m 2047, .m 6143, .p 2047, .p 30719, .p 63487, .p 131071, .p 262143, .p 524287, .m 1048575, .m 2097151, .m 1048575, .m 8388607, .p 16777215, .p 33554431, .p 67108863, .p 134217727, .p 268435455, .p 536870911, .m 1073741823, .p 2147483647, .p 4294967295, .p 8589934591, .p 17179869183, .p 34359738367, .m 68719476735, .p 137438953471, .p 274877906943, .m 549755813887, .m 1099511627775, .p 8589934591, .m 4398046511103, .p 8796093022207, .p 17592186044415, .p 35184372088831, .p 70368744177663, .m 140737488355327, .m 70368744177663, .m 562949953421311, .p 1125899906842623, .p 2251799813685247, .p 4503599627370495, .p 9007199254740991, .p 18014398509481983, .p 36028797018963967, .m 72057594037927935, .p 144115188075855871, .p 288230376151711743, .m 576460752303423487, .m 1152921504606846975, .p 9007199254740991, .p 2314850208468434943, .p 6926536226895822847, .m 16149908263750598655, .p 34596652337460150271, .p 71490140484879253503, .m 145277116779717459967, .m 295147905179352825855, .m 590295810358705651711, .p 1180591620717411303423, .p 2361183241434822606847, .p 4722366482869645213695, .p 9444732965739290427391, .p 18889465931478580854783, .m 37778931862957161709567, .p 75557863725914323419135, .p 151115727451828646838271, .m 302231454903657293676543, .m 604462909807314587353087, .p 4722366482869645213695, .p 1213648186097498819919871, .p 3631499825326757169332223, .m 8467203103785273868156927, .p 18138609660702307265806335, .p 37481422774536374061105151, .m 76167049002204507651702783]) [0, 1, 0, 0, 1, 0, 0, 0, 0, 0, 0, 0, 1, 1, 0, 0, 0, 0, 0, 0, 1, 1, 1, 1, 0, 0, 0, 0, 0, 0, 1, 0, 0, 0, 0, 0, 1, 0, 0, 1, 1, 0, 1, 0, 0, 0, 0, 1, 1, 1, 0, 0, 0, 0, 0, 0, 1, 0, 0, 1, 1, 0, 0, 0, 1, 0, 0, 1, 1, 1, 0, 0, 0, 0, 0, 1, 0, 0, 1, 1, 0, 0, 0, 1, 0, 0, 1]
      [.pure, .mU (.bool true), .pure, .pure, .mU (.bool true), .pure, .pure, .pure, .pure, .pure, .pure, .pure, .mU (.agg #[.bool x, .bool y, .bool z]), .mU (.int .i64 (2 * n + 2)), .pure, .pure, .pure, .pure, .pure, .pure, .mU (.agg #[.bool x, .bool y, .bool z]), .mU (.int .i64 (2 * n + 2)), .mU (.agg #[.bool x, .bool y, .bool z]), .mU (.int .i64 n), .pure, .pure, .pure, .pure, .pure, .pure, .mU (.bool true), .pure, .pure, .pure, .pure, .pure, .mU (.pointer (some ⟨hh, 0, none⟩)), .pure, .pure, .mU (.pointer (some ⟨b, 0, none⟩)), .mU (.agg (bK yR).toArray), .pure, .mU (.agg (bK yR).toArray), .pure, .pure, .pure, .pure, .mU (.agg (encR (fF r)).toArray), .mU (.agg cR.toArray), .mU (.agg (encR (fF r)).toArray), .pure, .pure, .pure, .pure, .pure, .pure, .mU (.pointer (some ⟨c, 0, none⟩)), .pure, .pure, .mU (.pointer (some ⟨t, 0, none⟩)), .minor Value .nilFunc (fun u => u) (fun u W => aB ai 10 W u M2.L), .pure, .pure, .pure, .mU (.pointer (some ⟨cu, 0, none⟩)), .pure, .pure, .mU (.pointer (some ⟨tu, 0, none⟩)), .minor Value .nilFunc (fun u => u) (fun u W => aB ai 10 W u M2.L), .mU (.bool true), .pure, .pure, .pure, .pure, .pure, .mU (.pointer (some ⟨c, 0, none⟩)), .pure, .pure, .mU (.pointer (some ⟨p, 0, none⟩)), .minor Value .nilFunc (fun u => u) (fun u W => aB zg 2 W u (lV M2)), .pure, .pure, .pure, .mU (.pointer (some ⟨cu, 0, none⟩)), .pure, .pure, .mU (.pointer (some ⟨pu, 0, none⟩))]
      (fun W => Below wr.heap.size wr W) (fun _ _ => True) (fun a b => Below a.heap.size a b) (by kernel_rfl) (by kernel_rfl) rfl rfl (fun vs a b h hs => trivial) ?_ ?_ ?_ ?_ ?_ ?_
     ·intro a b he hb; exact hb.trans (Below.mono he hb.size)
     ·intro a b he hb; exact hb.trans (Below.mono he hb.size)
     ·have kJ : ∀ (x : Value) (a b : World), Below a.heap.size a b → aB ai 10 a x M2.L → aB ai 10 b x M2.L := fun x a b he h => h.below he
      have kS : ∀ (x : Value) (a b : World), Below a.heap.size a b → aB zg 2 a x (lV M2) → aB zg 2 b x (lV M2) := fun x a b he h => h.below he
      have k0 : ∀ (v : Value), Reg2.rH (fun a b => Below a.heap.size a b) (.minor Unit () (fun _ => v) (fun _ _ => True)) := fun _ => ⟨fun _ _ _ _ _ => trivial, fun _ _ _ _ _ => trivial⟩
      exact ⟨trivial, k0 _, trivial, trivial, k0 _, trivial, trivial, trivial, trivial, trivial, trivial, trivial, k0 _, k0 _, trivial, trivial, trivial, trivial, trivial, trivial, k0 _, k0 _, k0 _, k0 _, trivial, trivial, trivial, trivial, trivial, trivial, k0 _, trivial, trivial, trivial, trivial, trivial, k0 _, trivial, trivial, k0 _, k0 _, trivial, k0 _, trivial, trivial, trivial, trivial, k0 _, k0 _, k0 _, trivial, trivial, trivial, trivial, trivial, trivial, k0 _, trivial, trivial, k0 _, ⟨kJ, kJ⟩, trivial, trivial, trivial, k0 _, trivial, trivial, k0 _, ⟨kJ, kJ⟩, k0 _, trivial, trivial, trivial, trivial, trivial, k0 _, trivial, trivial, k0 _, ⟨kS, kS⟩, trivial, trivial, trivial, k0 _, trivial, trivial, k0 _, trivial⟩
     ·exact ⟨rfl, rfl, rfl, Nat.le_refl _, fun _ _ => rfl⟩
     ·trivial
     dsimp only [Reg2.mk, Reg2.rows, List.zip, List.zipWith, List.take]
     repeat ((first
      | (refine' Reg2.ak _ (by rfl) (fun wz => ?_) ?_; rotate_left; (go_simp; first | rfl | rw [if_neg (by omega)]))
      | (refine Reg2.au (by rfl) (fun wz hI hF => ?_) (fun _ => ?_)
         ·unfold Reg2.One
          have Xz := hX.out.kept hI
          have hf := jB Xz.op Xz.hd
          rw [h5] at hf
          have hd := mE (JW.out wz hI) true (.inl ⟨hlf.out, rfl⟩)
          have hsp := hSt wz
          have hle := hLn wz
          have hid := tH Xz.lk
          rw [hfr] at hid
          have hr1 := jK Xz.sw.wk
          rw [GJ] at hr1
          have hr2 := jK (JW.out wz hI)
          rw [GI] at hr2
          have hrq := Au Xz.op
          have hcl := F3.out wz
          have ld := M8.out wz hI
          have d0 := Xz.op.c0
          have d1 := Xz.hd.c0
          rw [hwk] at d1
          have d2 := (hat.out.1.kept hI).c0
          have d3 := (hat.out.2.kept hI).c0
          have d4 := (Du.out.kept hI).c0
          have d5 := (Dv.out.kept hI).c0
          have d6 := (Du.out.kept hI).c2
          have d7 := (Dv.out.kept hI).c2
          obtain ⟨e0, e1, e2⟩ := hG.out wz hI
          clear Xz
          go_wp2_with (first
           | (go_at_call 14; go_must (refine hf.mono ?_); rintro e w' ⟨rfl, rfl⟩)
           | (go_at_call 11; go_must (refine hd.mono ?_); rintro e w' ⟨rfl, rfl⟩)
           | (go_at_call 17; go_must (refine hsp.mono ?_); rintro e w5 ⟨rfl, hb5⟩)
           | (go_at_call 18; go_must (refine hle.mono ?_); rintro e w5 ⟨rfl, hb5⟩)
           | (go_at_call 19; go_must (refine hid.mono ?_); rintro e w' ⟨rfl, rfl⟩)
           | (go_at_call 20; first | (refine hr1.mono ?_; rintro e w5 ⟨rfl, hb5⟩) | (refine hr2.mono ?_; rintro e w5 ⟨rfl, hb5⟩))
           | (go_at_call 21; go_must (refine hrq.mono ?_); rintro e w5 ⟨rfl, hb5⟩)
           | (go_at_call 22; go_must (refine hcl.mono ?_); rintro e w5 ⟨rfl, hb5⟩))
          first | exact ⟨_, rfl, ⟨(), rfl, trivial⟩, Reg2.Ext.refl _⟩ | exact ⟨_, rfl, ⟨(), rfl, trivial⟩, hb5⟩)); simp only [Act.put, xA, xB, xC, xD, xE, id])
     refine Reg2.pm (fun wz hI hF => ?_) (fun uA => ?_) (by rfl)
     ·have h1 := JU (Du.out.kept hI) (by omega)
      go_wp2_with fail
      go_at_call 24
      refine h1.mono ?_
      rintro e w5 ⟨uK, rfl, Tg, hb5⟩
      go_wp2_with fail
      exact ⟨_, rfl, ⟨uK, rfl, Tg.now⟩, hb5⟩
     simp only [Act.put, xA, xB, xC, xD, xE, id]
     repeat ((first
      | (refine' Reg2.ak _ (by rfl) (fun wz => ?_) ?_; rotate_left; (go_simp; first | rfl | rw [if_neg (by omega)]))
      | (refine Reg2.au (by rfl) (fun wz hI hF => ?_) (fun _ => ?_)
         ·unfold Reg2.One
          have Xz := hX.out.kept hI
          have hf := jB Xz.op Xz.hd
          rw [h5] at hf
          have hd := mE (JW.out wz hI) true (.inl ⟨hlf.out, rfl⟩)
          have hsp := hSt wz
          have hle := hLn wz
          have hid := tH Xz.lk
          rw [hfr] at hid
          have hr1 := jK Xz.sw.wk
          rw [GJ] at hr1
          have hr2 := jK (JW.out wz hI)
          rw [GI] at hr2
          have hrq := Au Xz.op
          have hcl := F3.out wz
          have ld := M8.out wz hI
          have d0 := Xz.op.c0
          have d1 := Xz.hd.c0
          rw [hwk] at d1
          have d2 := (hat.out.1.kept hI).c0
          have d3 := (hat.out.2.kept hI).c0
          have d4 := (Du.out.kept hI).c0
          have d5 := (Dv.out.kept hI).c0
          have d6 := (Du.out.kept hI).c2
          have d7 := (Dv.out.kept hI).c2
          obtain ⟨e0, e1, e2⟩ := hG.out wz hI
          clear Xz
          go_wp2_with (first
           | (go_at_call 14; go_must (refine hf.mono ?_); rintro e w' ⟨rfl, rfl⟩)
           | (go_at_call 11; go_must (refine hd.mono ?_); rintro e w' ⟨rfl, rfl⟩)
           | (go_at_call 17; go_must (refine hsp.mono ?_); rintro e w5 ⟨rfl, hb5⟩)
           | (go_at_call 18; go_must (refine hle.mono ?_); rintro e w5 ⟨rfl, hb5⟩)
           | (go_at_call 19; go_must (refine hid.mono ?_); rintro e w' ⟨rfl, rfl⟩)
           | (go_at_call 20; first | (refine hr1.mono ?_; rintro e w5 ⟨rfl, hb5⟩) | (refine hr2.mono ?_; rintro e w5 ⟨rfl, hb5⟩))
           | (go_at_call 21; go_must (refine hrq.mono ?_); rintro e w5 ⟨rfl, hb5⟩)
           | (go_at_call 22; go_must (refine hcl.mono ?_); rintro e w5 ⟨rfl, hb5⟩))
          first | exact ⟨_, rfl, ⟨(), rfl, trivial⟩, Reg2.Ext.refl _⟩ | exact ⟨_, rfl, ⟨(), rfl, trivial⟩, hb5⟩)); simp only [Act.put, xA, xB, xC, xD, xE, id])
     refine Reg2.pm (fun wz hI hF => ?_) (fun uB => ?_) (by rfl)
     ·have h1 := JU (Dv.out.kept hI) (by omega)
      go_wp2_with fail
      go_at_call 24
      refine h1.mono ?_
      rintro e w5 ⟨uK, rfl, Tg, hb5⟩
      go_wp2_with fail
      exact ⟨_, rfl, ⟨uK, rfl, Tg.now⟩, hb5⟩
     simp only [Act.put, xA, xB, xC, xD, xE, id]
     refine Reg2.pm (fun wz hI hF => ?_) (fun _ => ?_) (by rfl)
     ·have h1 := GH hF.2.2.2.2.2.2.2.2.2.2.2.2.2.2.2.2.2.2.2.2.2.2.2.2.2.2.2.2.2.2.2.2.2.2.2.2.2.2.2.2.2.2.2.2.2.2.2.2.2.2.2.2.2.2.2.2.2.2.2.2.1 hF.2.2.2.2.2.2.2.2.2.2.2.2.2.2.2.2.2.2.2.2.2.2.2.2.2.2.2.2.2.2.2.2.2.2.2.2.2.2.2.2.2.2.2.2.2.2.2.2.2.2.2.2.2.2.2.2.2.2.2.2.2.2.2.2.2.2.2.2.1 (by omega)
      rw [decide_eq_true rfl] at h1
      clear hF
      go_wp2_with fail
      go_at_call 23
      refine h1.mono ?_
      rintro e w5 ⟨rfl, hb5⟩
      go_wp2_with fail
      exact ⟨_, rfl, ⟨(), rfl, trivial⟩, hb5⟩
     simp only [Act.put, xA, xB, xC, xD, xE, id]
     repeat ((first
      | (refine' Reg2.ak _ (by rfl) (fun wz => ?_) ?_; rotate_left; (go_simp; first | rfl | rw [if_neg (by omega)]))
      | (refine Reg2.au (by rfl) (fun wz hI hF => ?_) (fun _ => ?_)
         ·unfold Reg2.One
          have Xz := hX.out.kept hI
          have hf := jB Xz.op Xz.hd
          rw [h5] at hf
          have hd := mE (JW.out wz hI) true (.inl ⟨hlf.out, rfl⟩)
          have hsp := hSt wz
          have hle := hLn wz
          have hid := tH Xz.lk
          rw [hfr] at hid
          have hr1 := jK Xz.sw.wk
          rw [GJ] at hr1
          have hr2 := jK (JW.out wz hI)
          rw [GI] at hr2
          have hrq := Au Xz.op
          have hcl := F3.out wz
          have ld := M8.out wz hI
          have d0 := Xz.op.c0
          have d1 := Xz.hd.c0
          rw [hwk] at d1
          have d2 := (hat.out.1.kept hI).c0
          have d3 := (hat.out.2.kept hI).c0
          have d4 := (Du.out.kept hI).c0
          have d5 := (Dv.out.kept hI).c0
          have d6 := (Du.out.kept hI).c2
          have d7 := (Dv.out.kept hI).c2
          obtain ⟨e0, e1, e2⟩ := hG.out wz hI
          clear Xz
          go_wp2_with (first
           | (go_at_call 14; go_must (refine hf.mono ?_); rintro e w' ⟨rfl, rfl⟩)
           | (go_at_call 11; go_must (refine hd.mono ?_); rintro e w' ⟨rfl, rfl⟩)
           | (go_at_call 17; go_must (refine hsp.mono ?_); rintro e w5 ⟨rfl, hb5⟩)
           | (go_at_call 18; go_must (refine hle.mono ?_); rintro e w5 ⟨rfl, hb5⟩)
           | (go_at_call 19; go_must (refine hid.mono ?_); rintro e w' ⟨rfl, rfl⟩)
           | (go_at_call 20; first | (refine hr1.mono ?_; rintro e w5 ⟨rfl, hb5⟩) | (refine hr2.mono ?_; rintro e w5 ⟨rfl, hb5⟩))
           | (go_at_call 21; go_must (refine hrq.mono ?_); rintro e w5 ⟨rfl, hb5⟩)
           | (go_at_call 22; go_must (refine hcl.mono ?_); rintro e w5 ⟨rfl, hb5⟩))
          first | exact ⟨_, rfl, ⟨(), rfl, trivial⟩, Reg2.Ext.refl _⟩ | exact ⟨_, rfl, ⟨(), rfl, trivial⟩, hb5⟩)); simp only [Act.put, xA, xB, xC, xD, xE, id])
     refine Reg2.pm (fun wz hI hF => ?_) (fun uC => ?_) (by rfl)
     ·have h1 := CF (Du.out.kept hI) hok2.out (by omega)
      go_wp2_with fail
      go_at_call 26
      refine h1.mono ?_
      rintro e w5 ⟨uK, rfl, Tg, hb5⟩
      go_wp2_with fail
      exact ⟨_, rfl, ⟨uK, rfl, Tg.now⟩, hb5⟩
     simp only [Act.put, xA, xB, xC, xD, xE, id]
     repeat ((first
      | (refine' Reg2.ak _ (by rfl) (fun wz => ?_) ?_; rotate_left; (go_simp; first | rfl | rw [if_neg (by omega)]))
      | (refine Reg2.au (by rfl) (fun wz hI hF => ?_) (fun _ => ?_)
         ·unfold Reg2.One
          have Xz := hX.out.kept hI
          have hf := jB Xz.op Xz.hd
          rw [h5] at hf
          have hd := mE (JW.out wz hI) true (.inl ⟨hlf.out, rfl⟩)
          have hsp := hSt wz
          have hle := hLn wz
          have hid := tH Xz.lk
          rw [hfr] at hid
          have hr1 := jK Xz.sw.wk
          rw [GJ] at hr1
          have hr2 := jK (JW.out wz hI)
          rw [GI] at hr2
          have hrq := Au Xz.op
          have hcl := F3.out wz
          have ld := M8.out wz hI
          have d0 := Xz.op.c0
          have d1 := Xz.hd.c0
          rw [hwk] at d1
          have d2 := (hat.out.1.kept hI).c0
          have d3 := (hat.out.2.kept hI).c0
          have d4 := (Du.out.kept hI).c0
          have d5 := (Dv.out.kept hI).c0
          have d6 := (Du.out.kept hI).c2
          have d7 := (Dv.out.kept hI).c2
          obtain ⟨e0, e1, e2⟩ := hG.out wz hI
          clear Xz
          go_wp2_with (first
           | (go_at_call 14; go_must (refine hf.mono ?_); rintro e w' ⟨rfl, rfl⟩)
           | (go_at_call 11; go_must (refine hd.mono ?_); rintro e w' ⟨rfl, rfl⟩)
           | (go_at_call 17; go_must (refine hsp.mono ?_); rintro e w5 ⟨rfl, hb5⟩)
           | (go_at_call 18; go_must (refine hle.mono ?_); rintro e w5 ⟨rfl, hb5⟩)
           | (go_at_call 19; go_must (refine hid.mono ?_); rintro e w' ⟨rfl, rfl⟩)
           | (go_at_call 20; first | (refine hr1.mono ?_; rintro e w5 ⟨rfl, hb5⟩) | (refine hr2.mono ?_; rintro e w5 ⟨rfl, hb5⟩))
           | (go_at_call 21; go_must (refine hrq.mono ?_); rintro e w5 ⟨rfl, hb5⟩)
           | (go_at_call 22; go_must (refine hcl.mono ?_); rintro e w5 ⟨rfl, hb5⟩))
          first | exact ⟨_, rfl, ⟨(), rfl, trivial⟩, Reg2.Ext.refl _⟩ | exact ⟨_, rfl, ⟨(), rfl, trivial⟩, hb5⟩)); simp only [Act.put, xA, xB, xC, xD, xE, id])
     refine Reg2.aA ?_
     intro w30 JX _ HF
     have Cg := HF.2.2.2.2.2.2.2.2.2.2.2.2.2.2.2.2.2.2.2.2.2.2.2.2.2.2.2.2.2.2.2.2.2.2.2.2.2.2.2.2.2.2.2.2.2.2.2.2.2.2.2.2.2.2.2.2.2.2.2.2.2.2.2.2.2.2.2.2.2.2.2.2.2.2.2.2.2.2.2.1
     clear HF
     dsimp only [List.drop]
     have hc31 := CF (Dv.out.kept JX) hok2.out (by omega)
     replace Cg := Lib.hid Cg
     replace JX := Lib.hid JX
     go_wp2_with fail
     go_at_call 26
     refine hc31.mono ?_
     clear hc31
     rintro e Y7 ⟨u4, rfl, pK, hx31⟩
     have hc32 := Dt (Cg.out.below hx31) pK.now (by omega)
     rw [decide_eq_true rfl] at hc32
     have Va : Hid (Below wr.heap.size wr Y7) := JX.out.trans (hx31.mono JX.out.size)
     clear Cg pK hx31
     go_wp2_with fail
     go_at_call 25
     refine hc32.mono ?_
     clear hc32
     rintro e w32 ⟨rfl, hx32⟩
     have Vb : Hid (Below wr.heap.size wr w32) := Va.out.trans (hx32.mono Va.out.size)
     have haw := Cx w32
     clear hx32
     go_wp2_with fail
     go_at_call 7
     refine haw.mono ?_
     rintro e Y8 ⟨rfl, Yg⟩
     go_wp2_with fail
     go_ret
     exact ⟨rfl, hfin.out Y8 (Vb.out.trans (Yg.mono Vb.out.size))⟩
    have hwt := Nt hX.out.hd hX.out.lk
    rw [hX.out.waits, EK, show (decide (H.st = 0) && !decide ((0 : Int) = 0)) = false by simp] at hwt
    rw [show (H.st == 5) = false from beq_eq_false_iff_ne.2 h5] at hf
    replace h5 := Lib.hid h5
    go_wp2_with (first | (go_at_call 14; go_must (refine hf.mono ?_); rintro e w' ⟨rfl, rfl⟩) | (go_at_call 15; go_must (refine hwt.mono ?_); rintro e w' ⟨rfl, rfl⟩))
    refine Reg2.ro wr 9 183 [.p 0, .p 1, .p 3, .m 7, .p 0, .p 16, .p 48, .m 112, .p 0] [.pointer (some ⟨hh, 0, none⟩), .pointer (some ⟨c, 0, none⟩)] (by kernel_rfl) (by kernel_rfl) rfl rfl ⟨rfl, rfl, rfl, Nat.le_refl _, fun _ _ => rfl⟩ ?_
    dsimp only [Reg2.gU]
    clear c0
    repeat ((first
     | (refine' Reg2.ak _ (by rfl) (fun wz => ?_) ?_; rotate_left; (go_simp; first | rfl | rw [if_neg (by omega)]))
     | (refine Reg2.au (by rfl) (fun wz hI hF => ?_) (fun _ => ?_)
        ·unfold Reg2.One
         have d0 := (hX.out.kept hI).op.c0
         have d1 := (hat.out.1.kept hI).c0
         go_wp2_with fail
         first | exact ⟨_, rfl, rfl, Reg2.Ext.refl _⟩ | exact ⟨_, rfl, ⟨(), rfl, trivial⟩, Reg2.Ext.refl _⟩)); simp only [Act.put, xA, xB, xC, xD, xE, id])
    refine Reg2.aA ?_
    intro w16 HI _ dY
    clear dY hf hwt
    dsimp only [List.drop]
    have yc := hX.out.kept HI
    have JY := Lib.hid (hU.out.kept HI)
    have at16 : Hid (iw w16 s c ∧ iw w16 su cu) := ⟨hat.out.1.kept HI, hat.out.2.kept HI⟩
    have Ti := (HI.block GL (aD PG.out)).trans PG.out
    have GK : Hid (Below wA.heap.size wA w16) := hbr.out.trans (HI.mono hbr.out.size)
    have M9 : Hid (w8.heap.size ≤ w16.heap.size) := Nat.le_trans Wm.out HI.size
    have hs := SL yc h5.out (fun _ => EK _) GK.out.size
    replace yc := Lib.hid yc
    replace Ti := Lib.hid Ti
    clear hX hat PG hbr hU Wm HI
    go_wp2_with fail
    go_at_call 16
    refine hs.mono ?_
    clear hs
    rintro e Mh ⟨rfl, Tj, _, JZ, S', H', l', K', Tk, Zo, hle, hge, hy1, hy2, hy3, hy4, hgr, hone⟩
    have Tm : Hid (Below wA.heap.size wA Mh) := GK.out.trans Tj
    have nF : ∀ (k : Nat) (cs : Array Value) (T : TypeId), T ≠ 94 → (T ≠ 65 ∧ T ≠ 103 ∧ T ≠ 126 ∧ T ≠ 108 ∧ T ≠ 92 ∧ T ≠ 105) → T ≠ 56 → T ≠ 32 → w16.heap[k]? = some (.cells cs T (0, 0)) → Mh.heap[k]? = some (.cells cs T (0, 0)) := fun k cs T h1 h2 h3 h4 hk => by
     refine (JZ.block k (aD hk) ?_).trans hk
     rintro ((e | hf) | e | e)
     ·exact Put.aI hk yc.out.sw.wk h1 e
     ·exact yc.out.sw.cw.other hk h2 hf
     ·exact Put.aI hk yc.out.hd h3 e
     ·exact Put.aI hk yc.out.lk h4 e
    have Vd : Hid (iw Mh s c ∧ iw Mh su cu) := ⟨nF _ _ _ (by decide) (by decide) (by decide) (by decide) at16.out.1, nF _ _ _ (by decide) (by decide) (by decide) (by decide) at16.out.2⟩
    have Yh : Hid (Mh.heap[GL]? = some (.cells #[.bool x, .bool y, .bool z] 42 (0, 0))) := nF _ _ _ (by decide) (by decide) (by decide) (by decide) Ti.out
    have Yi : Hid (SW Mh b2 cu tu du pu v1 g1 a1 m1 R1 (ah M2)) := JY.out.JI fun k hk => by
     have hg := Aa.out
     have hz := Ye.out
     refine JZ.block k (JY.out.lt hk) ?_
     have hlo : w2.heap.size ≤ k ∧ k ≠ b ∧ k < w8.heap.size := by
      rcases hk with rfl | hk
      ·exact ⟨hg.2.2.2.2.1, by omega, hz.2.2⟩
      ·exact ⟨(hfu.out k hk).1, (hfu.out k hk).2, hz.2.1 k hk⟩
     rintro (hf | e | e)
     ·have := hfo.out k hf
      omega
     ·subst e
      rcases hk with e | hk
      ·exact Put.aI yc.out.hd JY.out.wk (by decide) e
      ·exact JY.out.cw.other yc.out.hd (by decide) hk
     ·subst e
      rcases hk with e | hk
      ·exact Put.aI yc.out.lk JY.out.wk (by decide) e
      ·exact JY.out.cw.other yc.out.lk (by decide) hk
    have Tn : Hid (∀ k, fI b c t d p S'.v S'.g k → k < w2.heap.size ∨ k = b ∨ w8.heap.size ≤ k) := fun k hk => (hgr k hk).elim (hfo.out k) (fun h => .inr (.inr (Nat.le_trans M9.out h)))
    have Ve : Hid (w8.heap.size ≤ Mh.heap.size) := Nat.le_trans M9.out JZ.size
    have hst := yc.out.lock.st
    replace Tk := Lib.hid Tk
    have wi : IntKind.i64.wrap ((i : Int) + 1) = (i : Int) + 1 := IntWalk.i64_in _ (by omega)
    by_cases h1 : H.st = 1
    ·have Yj : tn = 0 := by rw [htn.out, if_pos (by omega)]
     have Tp : Hid ((1 : Int) = if H'.st ≤ 1 then 0 else 1) := by show (1 : Int) = _; rw [if_neg (by omega)]
     subst Yj
     rw [h1]
     clear yc JY GK at16 Ti M9 Tj JZ hfo hgr nF htn hle hge hst hy1 hy2 hy3 hy4
     go_wp2_with fail
     go_roundw
     case rel => exact ⟨i + 1, 1, S', H', l', K', by go_num, by go_num, by go_num, by omega, Tp, Tk, Tm, Vd, Yi, Yh, Ve, Tn⟩
     case measure => simp [intOf]; omega
    ·have e1 : (H.st == 1) = false := beq_eq_false_iff_ne.2 h1
     have Tp : Hid (tn = if H'.st ≤ 1 then 0 else 1) := by
      show tn = _
      rw [htn.out]
      by_cases h0 : H.st = 0
      ·rw [if_pos (by omega)]
       have hw := Tk.out.lock.st
       by_cases h2 : H'.st ≤ 1
       ·rw [if_pos h2]
       ·exact absurd (hone h0) h2
      ·rw [if_neg (by omega), if_neg (by have := hge (by omega); omega)]
     rw [e1]
     clear yc JY GK at16 Ti M9 Tj JZ hfo hgr nF htn hle hge hst hy1 hy2 hy3 hy4
     go_wp2_with fail
     go_roundw
     case rel => exact ⟨i + 1, tn, S', H', l', K', by go_num, rfl, by go_num, by omega, Tp, Tk, Tm, Vd, Yi, Yh, Ve, Tn⟩
     case measure => simp [intOf]; omega
  ·obtain ⟨K2, rfl⟩ : ∃ K2, K1 = K2 + 1 := ⟨K1 - 1, by omega⟩
   have hr := hr1.out Yc
   obtain ⟨hl, a2, m2, R2, P2, hcs⟩ := hr
   obtain ⟨dn, ho, hrn, Wn⟩ : ∃ dn, One dn a1 m1 R1 P1 a2 m2 R2 P2 ∧ (K2 ≠ 0 → Run K2 a2 m2 R2 P2 Q) ∧ (K2 = 0 → Q a2 m2 R2 P2) := by
    rcases hcs with ⟨h0, ho, hq⟩ | ⟨ho, hq⟩
    ·exact ⟨true, ho, fun h => absurd h0 h, fun _ => hq⟩
    ·exact ⟨false, ho, fun _ => hq, fun h => absurd h hq.pos⟩
   have hd := mE hU.out.wk false (.inr ⟨hl, rfl⟩)
   have q0 := hat.out.2.c0
   have hc := ho wr b2 cu tu du pu v1 g1 hU.out
   have wi : IntKind.i64.wrap ((j : Int) + 1) = (j : Int) + 1 := IntWalk.i64_in _ (by omega)
   have hnF : Hid ((∀ k cs T, T ≠ 94 → (T ≠ 65 ∧ T ≠ 103 ∧ T ≠ 126 ∧ T ≠ 108 ∧ T ≠ 92 ∧ T ≠ 105) → wr.heap[k]? = some (.cells cs T (0, 0)) → ¬ fI b2 cu tu du pu v1 g1 k) ∧ (∀ k, fI b c t d p S0.v S0.g k → ¬ fI b2 cu tu du pu v1 g1 k)) := by
    refine ⟨fun k cs T h1 h2 hk => ?_, fun k hk => ?_⟩
    ·rintro (e | hf)
     ·exact Put.aI hk hU.out.wk h1 e
     ·exact hU.out.cw.other hk h2 hf
    ·rw [hS0.out] at hk
     have hg := Aa.out
     rcases hk with rfl | hk
     ·rintro (e | hf)
      ·omega
      ·exact (hfu.out _ hf).2 rfl
     ·have := hg.2.2.2.2.2 k hk
      rintro (e | hf)
      ·omega
      ·have := (hfu.out _ hf).1
       omega
   have Y9 := Lib.hid hU.out
   replace hrn := Lib.hid hrn
   replace Wn := Lib.hid Wn
   clear ho hl hU hr1 hq1 hcs
   go_wp2_with (go_at_call 11; go_must (refine hd.mono ?_); rintro e w' ⟨rfl, rfl⟩)
   go_at_call 12
   refine hc.mono ?_
   clear hc hd q0
   rintro e w7 ⟨rfl, v2, g2, Wo, hw2⟩
   have Za := Lib.hid (hX.out.X5 hw2.off (hnF.out.1 _ _ _ (by decide) (by decide) hX.out.op) (hnF.out.1 _ _ _ (by decide) (by decide) hX.out.hd) (hnF.out.1 _ _ _ (by decide) (by decide) hX.out.lk) hnF.out.2)
   have Yk : Hid (iw w7 s c ∧ iw w7 su cu) := ⟨(hw2.heap hat.out.1.lt (hnF.out.1 _ _ _ (by decide) (by decide) hat.out.1)).trans hat.out.1, (hw2.heap hat.out.2.lt (hnF.out.1 _ _ _ (by decide) (by decide) hat.out.2)).trans hat.out.2⟩
   have Yl : Hid (∀ k, dC cu tu du pu v2 g2 k → w2.heap.size ≤ k ∧ k ≠ b) := fun k hk => by
    have hg := Aa.out
    have hbl := hX.out.sw.wk.lt
    rcases hw2.grew k (.inr hk) with (rfl | h2) | h2
    ·exact ⟨hg.2.2.2.2.1, by omega⟩
    ·exact hfu.out k h2
    ·exact ⟨by omega, by omega⟩
   have kD : Hid (Below wA.heap.size wA w7) := hbr.out.trans (hw2.below (fun k hk => by
    have hg := Aa.out
    have hg2 := hsz.out
    rcases hk with rfl | hk
    ·omega
    ·have := (hfu.out k hk).1; omega) hbr.out.size)
   replace Wo := Lib.hid Wo
   clear hX hat hfu hbr hw2 hnF Y9
   go_wp2_with fail
   go_roundw
   case rel => exact ⟨j + 1, K2, v2, g2, a2, m2, R2, P2, by go_num, by go_num, by omega, Wo, hrn, Wn, Za, kD, Yk, Yl⟩
   case measure => simp [intOf]; omega
theorem Mi (n : Int) (u : Value) (l : List De) (r : Rq) (w : World) (_ : -9223372036854775808 ≤ n ∧ n ≤ 9223372036854775807) (h : aB sM 12 w u l) (hf : ∀ x ∈ l, ze x) (hr : FH r) :
 Calls Tryz.prog 3 #[.int .i64 n, u, .agg (encR r).toArray] w fun e w' => e = .returned (.bool true) ∧ Below w.heap.size w w' := JV h hf r hr n
end
end Go.Proofs.YtelnhablglomjaaGreat


namespace Go.Proofs.YtelnhablglomjaaGreat.opAlone
open Go.ChangeShapes Go.WideShapes Go.ChangeAt Go.RowKit
theorem own : ownKnob Tryz.prog.godebug = none := by kernel_rfl
theorem laid : laidOutB Tryz.prog = true := by kernel_rfl
theorem readable : (Tryz.f3.params.toList.all fun t => Tryz.prog.readableRec t && decide (t < Tryz.prog.types.size)) = true := by kernel_rfl
theorem lifted (os : Os) (started : os.Started) (H : Type) (enc : TypeId × Value → H) :
 ReturnsInHanded {} Tryz.checked os 3 .any (Rows.opAloneSpec.pre6 enc Tryz.prog Tryz.f3 Rows.opAloneRow.domain false) (Rows.opAloneSpec.post enc Tryz.prog Tryz.f3 false true false false) := by
 refine returnsInHanded_of_change (C := Tryz.checked) own started (by kernel_rfl) Tryz.func3
  (ChangeSpec.witness6 (enc := enc) (C := Tryz.checked) false ⟨#[], #[.int .i64 0, .slice none 0 0, .agg #[.int .i64 0, .int .i64 0, .int .i64 0, .int .i64 0, .int .i64 0, .int .i64 0, .bool false, .int .i64 0, .int .i64 0]], []⟩ 8 (by kernel_rfl) (by kernel_rfl) (by kernel_rfl) (by kernel_rfl)) ?_
 intro W base args ds gs before hval0 hW hcnd _
 have hval : ∀ (j : Nat) t v, Tryz.f3.params[j]? = some t → args[j]? = some v → Value.okWide Tryz.prog W .any base t v := hval0
 have hW' := hW
 obtain ⟨p, q, TK, hV, hpq, hfz, hnd⟩ := hW
 have hA : DataW.TrodAll enc Tryz.prog W 0 (fun _ => true) true Tryz.f3.params.toList args.toList ds p := TK
 rw [Tryz.params3] at hA hval
 obtain ⟨v0, vs0, d0, ds0, p0, q0, hargs, rfl, rfl, h0, r0⟩ := trodAll_cons hA
 obtain ⟨v1, vs1, d1, ds1, p1, q1, rfl, rfl, rfl, h1, r1⟩ := trodAll_cons r0
 obtain ⟨v2, vs2, d2, ds2, p2, q2, rfl, rfl, rfl, h2, r2⟩ := trodAll_cons r1
 obtain ⟨rfl, rfl, rfl⟩ := trodAll_nil r2
 obtain rfl : args = #[v0, v1, v2] := by cases args; simp_all
 obtain ⟨rfl, rfl⟩ := trodVars_none hV
 obtain ⟨a0, rfl, rfl, rfl, w0⟩ := open_int Tryz.underlying3 (hval 0 3 v0 rfl rfl) h0
 obtain ⟨l1, hl1, hf1⟩ := PD (hval 1 22 v1 rfl rfl) h1
 obtain ⟨l2, rfl, hf2⟩ := Nw (hval 2 24 v2 rfl rfl) h2
 clear TK hval0
 refine (Mi a0 v1 l1 l2 W (bounds_i64 w0) hl1 hf1 hf2).mono fun e W' ⟨he, hg⟩ => ?_
 subst he
 exact ⟨_, rfl, Na hW' rfl rfl rfl Tryz.underlying4 laid (Tq readable) hg⟩
theorem over : Rows.opAloneRow.holds Tryz.pinned (OpenSpec.ofChange Rows.opAloneSpec) :=
 OpenClaim.holds_of_wide 3 Tryz.f3 rfl rfl rfl rfl rfl rfl rfl ⟨rfl, rfl, rfl, rfl, rfl⟩ rfl rfl rfl rfl rfl (by kernel_rfl) Tryz.func3 (by kernel_rfl)
  (of_decide_eq_true (by kernel_rfl)) (by unfold Func.isWrapper; first | (rw [if_pos (by decide +kernel)]; kernel_rfl) | (rw [if_neg (by decide +kernel)]; exact ⟨rfl, rfl⟩))
  (fun os started H enc _ => lifted os started H enc)
theorem proved : Rows.OpAloneSaid := over
#print axioms proved
end Go.Proofs.YtelnhablglomjaaGreat.opAlone
