/-
 Own words and walks, merged: part 3 of 4.
-/
import Derived.Laws.CopyRow
import Derived.Maps.OwnOps
import Derived.Maps.Views
import Derived.Maps.OwnSet
import Derived.Test.YtbdfpbknckghgaaGreatZc2
set_option maxRecDepth 1000000
set_option maxHeartbeats 8000000
set_option linter.all false
namespace Go.Proofs.YtbdfpbknckghgaaGreat
open Go.RowKit Go.Lib Go.Sort
def bG (wt : Nat → Bool) (L : List (Nat × Int)) : List Int := (L.filter fun x => !wt x.1).map (·.2)
theorem yN : (Tryz.prog.info? 3).map (fun i => (i.zero, i.size, i.bytes)) = some (some (.int .i64 0), 1, 8) := by kernel_rfl
theorem oJ (wt : Nat → Bool) (L : List (Nat × Int)) {i : Nat} (h : i < L.length) : bG wt (L.take (i + 1)) = if wt L[i]!.1 = true then bG wt (L.take i) else bG wt (L.take i) ++ [L[i]!.2] := by
 unfold bG
 rw [List.take_succ_eq_append_getElem h, getElem!_pos L i h, List.filter_append]
 cases hw : wt L[i].1 <;> simp [hw]
section
variable {w : World} {B c : Nat} {C : Ct} {L : List (Nat × Int)} {wt : Nat → Bool}
theorem uC (q : aB w c C) (hl : ai aQ 2 w C.live L) (hn : L.length ≤ 64) (hT : ∀ W, Below w.heap.size w W → ∀ x ∈ L, ∃ h, W.cell? ⟨x.1, 0, none⟩ = some (.pointer (some ⟨h, 0, none⟩)) ∧ Calls Tryz.prog 262 #[.pointer (some ⟨h, 0, none⟩), .pointer (some ⟨C.bf, 0, none⟩)] W fun e w' => e = .returned (.bool (wt x.1)) ∧ W = w') :
 Calls Tryz.prog 19 #[.pointer (some ⟨c, 0, none⟩)] w fun e w' => ∃ v, e = .returned v ∧ w'.ownsRow w.heap.size 3 1 v (bG wt L).length ((bG wt L).map (.int .i64 ·)) ∧ Below w.heap.size w w' := by
 have hal := dX q
 have q0 := Lib.hid q
 have hl0 := Lib.hid hl
 have hT0 := Lib.hid hT
 obtain ⟨i0, hi0, hz0, hz1, hz2⟩ := info_parts yN
 obtain ⟨ao, cap, e0, h1, h2, h3⟩ := hl
 obtain ⟨n, hnn⟩ : ∃ n, n = L.length := ⟨_, rfl⟩
 rw [e0] at hal hl0
 rw [← hnn] at hal h1 h3 hl0 hn
 replace e0 := Lib.hid e0
 replace hnn := Lib.hid hnn
 clear q hT h3 h1 h2
 go_enter Tryz.func19, Tryz.ntmps19
 go_wp2_with (go_at_call 42; go_must (refine hal.mono ?_); rintro e w' ⟨rfl, rfl⟩)
 go_loopw [3, 5, 9] (fun vv _ ii wr => ∃ (i : Nat) (ao : Option Addr) (m cap : Nat), i ≤ n ∧ vv = .slice ao m cap ∧ ii = .int .i64 i ∧ Hid (wr.ownsRow w.heap.size 3 1 (.slice ao m cap) (bG wt (L.take i)).length ((bG wt (L.take i)).map (.int .i64 ·))) ∧ Hid (Below w.heap.size w wr)) (fun _ _ ii _ => n - (intOf ii).toNat)
 case atStart => exact ⟨0, none, 0, 0, Nat.zero_le _, rfl, rfl, ⟨rfl, .inl ⟨rfl, rfl⟩⟩, Below.refl _ _⟩
 case round =>
  obtain ⟨i, BX, m0, cap0, hin, rfl, rfl, ho, hbr⟩ := hrel
  by_cases hlt : i < n
  ·have b2 : (i : Int) < (n : Int) := by omega
   have wi : IntKind.i64.wrap ((i : Int) + 1) = (i : Int) + 1 := by rw [IntKind.wrap_i64]; omega
   have jW : i < L.length := by have := hnn.out; omega
   have hrr := hl0.out.below hbr.out
   obtain ⟨Af, cap', BZ, r1, r2, r3⟩ := hrr
   injection BZ with e1 en e2
   clear en
   subst e1 e2
   obtain ⟨g, off, rfl, hgl, hcell⟩ := r3 (by omega)
   have hx := fun (j : Nat) (z : Value) (hz : (aQ L[i]!)[j]? = some z) => hcell i L[i]! j z (by rw [List.getElem?_eq_getElem jW, getElem!_pos L i jW]) hz
   have hmem : L[i]! ∈ L := by rw [getElem!_pos L i jW]; exact List.getElem_mem _
   have hsn := oJ wt L jW
   have yO := fun W hW => hT0.out W hW _ hmem
   have hlen : (bG wt (L.take i)).length ≤ 64 := by
    unfold bG
    rw [List.length_map]
    have := List.length_filter_le (fun x : Nat × Int => !wt x.1) (L.take i)
    rw [List.length_take] at this
    omega
   generalize L[i]! = x at *
   obtain ⟨o, tid⟩ := x
   have k0 : wr.cell? ⟨g, off + i * 2, none⟩ = some (.iface 105 (.agg #[.pointer (some ⟨o, 0, none⟩)])) := hx 0 _ rfl
   have k1 : wr.cell? ⟨g, off + i * 2 + 1, none⟩ = some (.int .i64 tid) := hx 1 _ rfl
   obtain ⟨w1, hw1⟩ : ∃ w1, w1 = wr.alloc (.cells #[.iface 105 (.agg #[.pointer (some ⟨o, 0, none⟩)]), .int .i64 tid] 109) := ⟨_, rfl⟩
   have hb1 : Below wr.heap.size wr w1 := by rw [hw1]; exact (Below.refl _ _).alloc (Nat.le_refl _) _
   have hK1 : w1.heap[wr.heap.size]? = some (.cells #[.iface 105 (.agg #[.pointer (some ⟨o, 0, none⟩)]), .int .i64 tid] 109 (0, 0)) := by rw [hw1]; exact heap_alloc_new wr _
   have jT : Hid (Below w.heap.size w w1) := hbr.out.trans (hb1.mono hbr.out.size)
   have ho1 := Lib.hid (Put.aF ho.out hb1)
   obtain ⟨G, hG⟩ : ∃ G, G = wr.heap.size := ⟨_, rfl⟩
   rw [← hG] at hK1
   replace hK1 := Lib.hid hK1
   replace yO := Lib.hid yO
   replace hsn := Lib.hid hsn
   clear hx hcell r1 r2 r3 hb1 ho hmem
   go_wp2_with fail
   rw [← hw1, ← hG]
   replace hw1 := Lib.hid hw1
   replace hG := Lib.hid hG
   clear k0 k1
   refine Reg2.ro w1 8 30 [.p 0, .m 1, .p 0, .p 4, .p 12, .m 28, .p 3, .p 67] [.iface 105 (.agg #[.pointer (some ⟨o, 0, none⟩)]), .pointer (some ⟨C.bf, 0, none⟩)] (by kernel_rfl) (by kernel_rfl) rfl rfl ⟨rfl, rfl, rfl, Nat.le_refl _, fun _ _ => rfl⟩ ?_
   dsimp only [Reg2.gJ]
   repeat ((first
    | (refine' Reg2.aO _ (by rfl) (fun wz => ?_) ?_; rotate_left; (go_simp; first | rfl | rw [if_neg (by omega)]))
    | (refine Reg2.aD (by rfl) (fun wz hI hF => ?_) (fun _ => ?_)
       ·unfold Reg2.One
        have hX := (hI.block G (ae hK1.out)).trans hK1.out
        have d0 : wz.cell? ⟨G, 0, none⟩ = some (.iface 105 (.agg #[.pointer (some ⟨o, 0, none⟩)])) := by simp [World.cell?, hX]
        have d1 := (q0.out.below (jT.out.trans (hI.mono jT.out.size)) q0.out.lt).c2
        clear hX
        go_wp2_with fail
        first | exact ⟨_, rfl, rfl, Reg2.Ext.refl _⟩ | exact ⟨_, rfl, ⟨(), rfl, trivial⟩, Reg2.Ext.refl _⟩)); simp only [Act.put, xA, xB, xC, xD, xE, id])
   refine Reg2.aY ?_
   intro w2 HI2 _ qD
   clear qD
   dsimp only [List.drop]
   have fu : Hid (Below w.heap.size w w2) := jT.out.trans (HI2.mono jT.out.size)
   obtain ⟨h, c0, hc⟩ := yO.out w2 fu.out
   have zQ := jV c0
   have ho2 := Lib.hid (Put.aF ho1.out HI2)
   have hX := (HI2.block G (ae hK1.out)).trans hK1.out
   have d1 : w2.cell? ⟨G, 1, none⟩ = some (.int .i64 tid) := by simp [World.cell?, hX]
   clear c0 yO ho1 jT HI2 hX
   replace hc := Lib.hid hc
   go_wp2_with fail
   go_at_call 262
   refine hc.out.mono ?_
   clear hc zQ
   rintro e w' ⟨rfl, rfl⟩
   cases hwo : wt o with
   | true =>
     have hs2 : bG wt (L.take (i + 1)) = bG wt (L.take i) := by rw [hsn.out, if_pos hwo]
     clear d1 hwo
     go_wp2_with fail
     go_roundw
     case rel => exact ⟨i + 1, BX, m0, cap0, by omega, rfl, by go_num, by rw [hs2]; exact ho2, fu⟩
     case measure => simp [intOf]; omega
   | false =>
     have hs2 : bG wt (L.take (i + 1)) = bG wt (L.take i) ++ [tid] := by rw [hsn.out, if_neg (by rw [hwo]; decide)]
     have hbs := fu.out.size
     obtain ⟨M, hM⟩ : ∃ M, M = bG wt (L.take i) := ⟨_, rfl⟩
     rw [← hM] at ho2 hs2 hlen
     have xq := ho2.out
     replace hs2 := Lib.hid hs2
     clear hwo hM
     go_wp2_with (at_builtin; go_must (refine wpList_append_own_at _ rfl (.tmp 23) (.tmp 26) 56 rfl w.heap.size 3 i0 (.int .i64 0) 1 8 Tryz.underlying56 hi0 hz0 hz1 hz2 rfl (by decide) _ _ _ rfl (Put.aF xq ((Below.refl w2.heap.size w2).alloc (Nat.le_refl _) _)) ⟨w2.heap.size, 0, none⟩ 1 1 [.int .i64 tid] rfl rfl (cell_one_new _ _ _) (by simp [Value.oneCell']) ?c2 ?c3 ?c4 ?c5))
     case c2 => unfold maxLen; omega
     case c3 => omega
     case c4 => simp; omega
     case c5 =>
      intro v5 w5 gq hg5 _ _
      have hb5 : Hid (Below w.heap.size w w5) := (fu.out.alloc hbs _).grown hg5 (by simp; omega) fun k hk => (xq.lt k hk).1
      have jZ : Hid (w5.ownsRow w.heap.size 3 1 v5 (bG wt (L.take (i + 1))).length ((bG wt (L.take (i + 1))).map (.int .i64 ·))) := by
       show World.ownsRow _ _ _ _ _ _ _
       rw [hs2.out]
       simpa using gq
      obtain ⟨A7, cap5, rfl, _⟩ := cz gq
      clear gq hg5 xq ho2
      go_wp2_with fail
      go_roundw
      case rel => exact ⟨i + 1, _, _, _, by omega, rfl, by go_num, jZ, hb5⟩
      case measure => simp [intOf]; omega
  ·obtain rfl : i = n := by omega
   have b2 : ¬ (i : Int) < (i : Int) := by omega
   have e1 : L.take i = L := List.take_of_length_le (by rw [hnn.out]; exact Nat.le_refl _)
   rw [e1] at ho
   clear e1
   go_wp2_with fail
   go_ret
   exact ⟨_, rfl, ho.out, hbr.out⟩
end
end Go.Proofs.YtbdfpbknckghgaaGreat

namespace Go.Proofs.YtbdfpbknckghgaaGreat
open Go.RowKit Go.Lib Go.Sort
section
variable {w : World} {B c o h s : Nat} {C : Ct} {H : Hd} {l : Lk} {rq : Rq} {tid : Int} {L : List (Nat × Int)} {E : List Ev} {vl : Value} {st : Int}
def xu (w : World) (h s : Nat) (H : Hd) (l : Lk) (w' : World) : Prop := aA w' h (H.take l) ∧ aC 94 w' s (l.ed H.lk H.who) ∧ aP (fun k => k = h ∨ k = s) w w'
theorem lX (q : aB w c C) (hO : bZ w o h rq) (hH : aA w h H) (hL : aC 94 w C.bf l) (h0 : H.st = 0) (h5 : (H.take l).st ≠ 5) (hn : 0 ≤ l.n ∧ l.n ≤ 1000000) (hk : 0 ≤ H.lk ∧ H.lk ≤ 3) :
 Calls Tryz.prog 266 #[.agg #[.pointer (some ⟨o, 0, none⟩)], .pointer (some ⟨c, 0, none⟩), .int .i64 tid] w fun e w' => e = .returned (.bool false) ∧ xu w h C.bf H l w' := by
 obtain ⟨w1, hw1⟩ : ∃ w1, w1 = w.alloc (.cells #[.pointer (some ⟨o, 0, none⟩)] 105) := ⟨_, rfl⟩
 have hb1 : Below w.heap.size w w1 := by rw [hw1]; exact (Below.refl _ _).alloc (Nat.le_refl _) _
 have hK1 : w1.heap[w.heap.size]? = some (.cells #[.pointer (some ⟨o, 0, none⟩)] 105 (0, 0)) := by rw [hw1]; exact heap_alloc_new w _
 obtain ⟨G, hG⟩ : ∃ G, G = w.heap.size := ⟨_, rfl⟩
 rw [← hG] at hK1
 have q1 := Lib.hid (q.below hb1 q.lt)
 have O1 : Hid (bZ w1 o h rq) := (hb1.block o hO.lt).trans hO
 have H1 := Lib.hid (hH.below hb1 hH.lt)
 have L1 := Lib.hid (hL.below hb1 hL.lt)
 replace hK1 := Lib.hid hK1
 replace hb1 := Lib.hid hb1
 replace h0 := Lib.hid h0
 replace h5 := Lib.hid h5
 clear q hO hH hL
 go_enter Tryz.func266, Tryz.ntmps266
 go_wp2_with fail
 rw [← hw1, ← hG]
 replace hw1 := Lib.hid hw1
 replace hG := Lib.hid hG
 refine Reg2.ro w1 13 51 [.p 0, .m 1, .p 3, .p 7, .m 15, .p 0, .p 32, .p 96, .m 224, .p 0, .p 512, .p 1536, .m 3584] [.pointer (some ⟨o, 0, none⟩), .pointer (some ⟨h, 0, none⟩), .pointer (some ⟨C.core, 0, none⟩), .pointer (some ⟨C.bf, 0, none⟩)] (by kernel_rfl) (by kernel_rfl) rfl rfl ⟨rfl, rfl, rfl, Nat.le_refl _, fun _ _ => rfl⟩ ?_
 dsimp only [Reg2.gJ]
 repeat ((first
  | (refine' Reg2.aO _ (by rfl) (fun wz => ?_) ?_; rotate_left; (go_simp; first | rfl | rw [if_neg (by omega)]))
  | (refine Reg2.aD (by rfl) (fun wz hI hF => ?_) (fun _ => ?_)
     ·unfold Reg2.One
      have hX := (hI.block G (ae hK1.out)).trans hK1.out
      have d0 : wz.cell? ⟨G, 0, none⟩ = some (.pointer (some ⟨o, 0, none⟩)) := by simp [World.cell?, hX]
      have A8 : bZ wz o h rq := (hI.block o O1.out.lt).trans O1.out
      have d1 := A8.c0
      have d2 := (q1.out.below hI q1.out.lt).c0
      have d3 := (q1.out.below hI q1.out.lt).c2
      clear hX A8
      go_wp2_with fail
      first | exact ⟨_, rfl, rfl, Reg2.Ext.refl _⟩ | exact ⟨_, rfl, ⟨(), rfl, trivial⟩, Reg2.Ext.refl _⟩)); simp only [Act.put, xA, xB, xC, xD, xE, id])
 refine Reg2.aY ?_
 intro w2 HI _ qD
 clear qD
 dsimp only [List.drop]
 have hne : h ≠ C.bf := Put.aH H1.out L1.out (by decide)
 have hs := pE (cv := .pointer (some ⟨C.core, 0, none⟩)) (H1.out.below HI H1.out.lt) h0.out (L1.out.below HI L1.out.lt) hn hk hne
 have O2 : Hid (bZ w2 o h rq) := (HI.block o O1.out.lt).trans O1.out
 have hK2 := Lib.hid ((HI.block G (ae hK1.out)).trans hK1.out)
 have hb2 : Hid (Below w.heap.size w w2) := hb1.out.trans (HI.mono hb1.out.size)
 have L2 := Lib.hid (L1.out.below HI L1.out.lt)
 have H2 := Lib.hid (H1.out.below HI H1.out.lt)
 clear q1 O1 H1 L1 hK1 hb1 HI
 go_wp2_with fail
 go_at_call 267
 refine hs.mono ?_
 clear hs
 rintro e w3 ⟨rfl, H3, L3, ho3⟩
 have O3 : bZ w3 o h rq := (ho3.block o O2.out.lt (fun e => e.elim (Put.aH O2.out H2.out (by decide)) (Put.aH O2.out L2.out (by decide)))).trans O2.out
 have hX := (ho3.block G (ae hK2.out) (fun e => e.elim (Put.aH hK2.out H2.out (by decide)) (Put.aH hK2.out L2.out (by decide)))).trans hK2.out
 have d0 : w3.cell? ⟨G, 0, none⟩ = some (.pointer (some ⟨o, 0, none⟩)) := by simp [World.cell?, hX]
 have hf := oC O3 H3
 rw [beq_eq_false_iff_ne.2 h5.out] at hf
 have hfin : Hid (xu w h C.bf H l w3) := ⟨H3, L3, (aP.of_below hb2.out).trans ho3 (kE.refl _ _)⟩
 clear H3 L3 ho3 O3 hX O2 hK2 hb2 L2 H2
 go_wp2_with (go_at_call 269; go_must (refine hf.mono ?_); rintro e w' ⟨rfl, rfl⟩)
 go_ret
 exact ⟨rfl, hfin.out⟩
theorem step_take (q : aB w c C) (hg : LG B w C.log st vl E) (hst : 0 ≤ st ∧ st ≤ 1000) (hl : w.ownsRow B 109 2 C.live L.length (L.flatMap aQ)) (hLn : 0 < L.length) (hL0 : L[0]! = (o, tid)) (hO : bZ w o h rq) (hH : aA w h H) (hL : aC 94 w C.bf l) (h0 : H.st = 0) (h5 : (H.take l).st ≠ 5) (hn : 0 ≤ l.n ∧ l.n ≤ 1000000) (hk : 0 ≤ H.lk ∧ H.lk ≤ 3) :
 Calls Tryz.prog 45 #[.pointer (some ⟨c, 0, none⟩), .int .i64 0] w fun e w' => e = .returned (.tuple #[]) ∧ aA w' h (H.take l) ∧ aC 94 w' C.bf (l.ed H.lk H.who) ∧ aP (fun k => k = h ∨ k = C.bf ∨ k = C.log) w w' := by
 have hT := wX hg hst.1 hst.2
 have c1 := q.c1
 have q0 := Lib.hid q
 have O0 := Lib.hid hO
 have H0 := Lib.hid hH
 have L0 := Lib.hid hL
 have hl0 := Lib.hid hl
 have g0 := Lib.hid hg
 replace h0 := Lib.hid h0
 replace h5 := Lib.hid h5
 clear q hO hH hL hl hg hst
 go_enter Tryz.func45, Tryz.ntmps45
 go_wp2_with fail
 go_at_call 81
 refine hT.mono ?_
 clear hT c1
 rintro e w1 ⟨rfl, g1, ho1⟩
 have keep : ∀ (k : Nat) (cs : Array Value) (T : TypeId) (f : Nat × Nat), w.heap[k]? = some (.cells cs T f) → T ≠ 91 → w1.heap[k]? = some (.cells cs T f) := fun k cs T f hk h1 =>
  (ho1.block k (Put.lt_of_heap hk) (fun e => by
   subst e
   have := g0.out.obj
   rw [hk] at this
   exact h1 (Obj.cells.inj (Option.some.inj this)).2.1) (by simp)).trans hk
 have q1 : aB w1 c C := keep _ _ _ _ q0.out (by decide)
 have O1 : bZ w1 o h rq := keep _ _ _ _ O0.out (by decide)
 have H1 : aA w1 h H := keep _ _ _ _ H0.out (by decide)
 have L1 : aC 94 w1 C.bf l := keep _ _ _ _ L0.out (by decide)
 have hl1 : w1.ownsRow B 109 2 C.live L.length (L.flatMap aQ) := ax hl0.out fun k hk => by
  obtain ⟨cur, hc⟩ := df hl0.out hk
  exact (keep _ _ _ _ hc (by decide)).trans hc.symm
 obtain ⟨ao, cap, e0, r1, r2, r3⟩ := ai.fT hl1 iK rfl rfl
 obtain ⟨g, off, rfl, hgl, hcell⟩ := r3 hLn
 have hx := fun (j : Nat) (z : Value) (hz : (aQ (o, tid))[j]? = some z) => hcell 0 (o, tid) j z (by rw [← hL0, getElem!_pos L 0 hLn]; exact List.getElem?_eq_getElem hLn) hz
 have k0 : w1.cell? ⟨g, off, none⟩ = some (.iface 105 (.agg #[.pointer (some ⟨o, 0, none⟩)])) := by simpa using hx 0 _ rfl
 have k1 : w1.cell? ⟨g, off + 1, none⟩ = some (.int .i64 tid) := by simpa using hx 1 _ rfl
 have c4 := q1.c4
 rw [e0] at c4
 have b0 : (0 : Int) < (L.length : Int) := by omega
 obtain ⟨w2, hw2⟩ : ∃ w2, w2 = w1.alloc (.cells #[.iface 105 (.agg #[.pointer (some ⟨o, 0, none⟩)]), .int .i64 tid] 109) := ⟨_, rfl⟩
 have hb2 : Below w1.heap.size w1 w2 := by rw [hw2]; exact (Below.refl _ _).alloc (Nat.le_refl _) _
 have hK2 : w2.heap[w1.heap.size]? = some (.cells #[.iface 105 (.agg #[.pointer (some ⟨o, 0, none⟩)]), .int .i64 tid] 109 (0, 0)) := by rw [hw2]; exact heap_alloc_new w1 _
 have hp := lX (tid := tid) (q1.below hb2 q1.lt) ((hb2.block o O1.lt).trans O1) (H1.below hb2 H1.lt) (L1.below hb2 L1.lt) h0.out h5.out hn hk
 obtain ⟨G, hG⟩ : ∃ G, G = w1.heap.size := ⟨_, rfl⟩
 rw [← hG] at hK2
 have hO2 : Hid (aP (fun k => k = h ∨ k = C.bf ∨ k = C.log) w w2) := by
  refine aP.trans (S' := fun k => k = h ∨ k = C.bf ∨ k = C.log) ⟨ho1.os, ho1.tape, ho1.output, ho1.size, fun k hk hf => ho1.block k hk (fun e => hf (.inr (.inr e))) (by simp)⟩ (aP.of_below hb2) (kE.refl _ _)
 have hmp := fun k W => lW k o W
 have d0 : w2.cell? ⟨G, 0, none⟩ = some (.iface 105 (.agg #[.pointer (some ⟨o, 0, none⟩)])) := by simp [World.cell?, hK2]
 have d1 : w2.cell? ⟨G, 1, none⟩ = some (.int .i64 tid) := by simp [World.cell?, hK2]
 rw [hG, hw2] at d0 d1
 replace e0 := Lib.hid e0
 replace hp := Lib.hid hp
 clear hx hcell r1 r2 r3 q1 O1 H1 L1 hl1 keep ho1 g1 hb2 hK2 hG
 go_wp2_with fail
 rw [← hw2]
 go_at_call 266
 refine hp.out.mono ?_
 clear hp
 rintro e w3 ⟨rfl, H3, L3, ho3⟩
 have hfin : Hid (aA w3 h (H.take l) ∧ aC 94 w3 C.bf (l.ed H.lk H.who) ∧ aP (fun k => k = h ∨ k = C.bf ∨ k = C.log) w w3) := ⟨H3, L3, hO2.out.trans ho3 fun k hk => .inl (hk.elim .inl (fun e => .inr (.inl e)))⟩
 clear H3 L3 ho3
 go_wp2_with fail
 go_end0
 exact ⟨rfl, hfin.out⟩
end
end Go.Proofs.YtbdfpbknckghgaaGreat

namespace Go.Proofs.YtbdfpbknckghgaaGreat
open Go.RowKit Go.Lib Go.Sort
section
variable {w : World} {B c o h s : Nat} {C : Ct} {H : Hd} {l : Lk} {rq : Rq} {tid : Int} {L : List (Nat × Int)} {E : List Ev} {vl : Value} {st : Int}
theorem LG.kept {w' : World} (g : LG B w s st vl E) (hb : Below w.heap.size w w') : LG B w' s st vl E := g.below hb
theorem xw (q : aB w c C) (hg : LG B w C.log st vl E) (hst : 0 ≤ st ∧ st ≤ 1000) (hl : w.ownsRow B 109 2 C.live L.length (L.flatMap aQ)) (hLn : 0 < L.length) (hL0 : L[0]! = (o, tid)) (hO : bZ w o h rq) (hH : aA w h H) (hL : aC 94 w C.bf l) (h0 : H.st = 0) (hw : qC H l = false) (h5 : (H.take l).st ≠ 5) (hn : 0 ≤ l.n ∧ l.n ≤ 1000000) (hk : 0 ≤ H.lk ∧ H.lk ≤ 3) :
 Calls Tryz.prog 20 #[.pointer (some ⟨c, 0, none⟩), .int .i64 tid] w fun e w' => e = .returned (.bool true) ∧ aA w' h (H.take l) ∧ aC 94 w' C.bf (l.ed H.lk H.who) ∧ aP (fun k => k = h ∨ k = C.bf ∨ k = C.log) w w' := by
 have hal := dX q
 obtain ⟨ao, cap, e0, r1, r2, r3⟩ := ai.fT hl iK rfl rfl
 obtain ⟨g, off, rfl, hgl, hcell⟩ := r3 hLn
 have hx := fun (j : Nat) (z : Value) (hz : (aQ (o, tid))[j]? = some z) => hcell 0 (o, tid) j z (by rw [← hL0, getElem!_pos L 0 hLn]; exact List.getElem?_eq_getElem hLn) hz
 have k0 : w.cell? ⟨g, off, none⟩ = some (.iface 105 (.agg #[.pointer (some ⟨o, 0, none⟩)])) := by simpa using hx 0 _ rfl
 have k1 : w.cell? ⟨g, off + 1, none⟩ = some (.int .i64 tid) := by simpa using hx 1 _ rfl
 rw [e0] at hal
 have b0 : (0 : Int) < (L.length : Int) := by omega
 have q0 := Lib.hid q
 have O0 := Lib.hid hO
 have H0 := Lib.hid hH
 have L0 := Lib.hid hL
 have hl0 := Lib.hid hl
 have g0 := Lib.hid hg
 replace h0 := Lib.hid h0
 replace h5 := Lib.hid h5
 replace hw := Lib.hid hw
 replace e0 := Lib.hid e0
 replace hL0 := Lib.hid hL0
 clear q hO hH hL hl hg hx hcell r1 r2 r3
 go_enter Tryz.func20, Tryz.ntmps20
 go_wp2_with (go_at_call 42; go_must (refine hal.mono ?_); rintro e w' ⟨rfl, rfl⟩)
 clear hal
 go_loopw [5, 6, 10] (fun _ _ ii wr => ii = .int .i64 0 ∧ w = wr) (fun _ _ _ _ => 1)
 case atStart => exact ⟨rfl, rfl⟩
 case round =>
  obtain ⟨rfl, rfl⟩ := hrel
  obtain ⟨w1, hw1⟩ : ∃ w1, w1 = w.alloc (.cells #[.iface 105 (.agg #[.pointer (some ⟨o, 0, none⟩)]), .int .i64 tid] 109) := ⟨_, rfl⟩
  have hb1 : Below w.heap.size w w1 := by rw [hw1]; exact (Below.refl _ _).alloc (Nat.le_refl _) _
  have hK1 : w1.heap[w.heap.size]? = some (.cells #[.iface 105 (.agg #[.pointer (some ⟨o, 0, none⟩)]), .int .i64 tid] 109 (0, 0)) := by rw [hw1]; exact heap_alloc_new w _
  obtain ⟨G, hG⟩ : ∃ G, G = w.heap.size := ⟨_, rfl⟩
  rw [← hG] at hK1
  have q1 := Lib.hid (q0.out.below hb1 q0.out.lt)
  replace hb1 := Lib.hid hb1
  replace hK1 := Lib.hid hK1
  go_wp2_with fail
  rw [← hw1, ← hG]
  replace hw1 := Lib.hid hw1
  replace hG := Lib.hid hG
  refine Reg2.ro w1 13 35 [.p 0, .m 1, .p 0, .p 7, .p 15, .p 31, .m 63, .p 31, .p 159, .p 415, .m 927, .p 127, .p 2175] [.int .i64 tid, .iface 105 (.agg #[.pointer (some ⟨o, 0, none⟩)]), .pointer (some ⟨C.bf, 0, none⟩)] (by kernel_rfl) (by kernel_rfl) rfl rfl ⟨rfl, rfl, rfl, Nat.le_refl _, fun _ _ => rfl⟩ ?_
  dsimp only [Reg2.gJ]
  repeat ((first
   | (refine' Reg2.aO _ (by rfl) (fun wz => ?_) ?_; rotate_left; (go_simp; first | rfl | rw [if_neg (by omega)]))
   | (refine Reg2.aD (by rfl) (fun wz hI hF => ?_) (fun _ => ?_)
      ·unfold Reg2.One
       have hX := (hI.block G (ae hK1.out)).trans hK1.out
       have d0 : wz.cell? ⟨G, 0, none⟩ = some (.iface 105 (.agg #[.pointer (some ⟨o, 0, none⟩)])) := by simp [World.cell?, hX]
       have d2 : wz.cell? ⟨G, 1, none⟩ = some (.int .i64 tid) := by simp [World.cell?, hX]
       have d1 := (q1.out.below hI q1.out.lt).c2
       clear hX
       go_wp2_with fail
       first | exact ⟨_, rfl, rfl, Reg2.Ext.refl _⟩ | exact ⟨_, rfl, ⟨(), rfl, trivial⟩, Reg2.Ext.refl _⟩)); simp only [Act.put, xA, xB, xC, xD, xE, id])
  refine Reg2.aY ?_
  intro w2 HI2 _ qD
  clear qD
  dsimp only [List.drop]
  have hb2 : Below w.heap.size w w2 := hb1.out.trans (HI2.mono hb1.out.size)
  have O2 : bZ w2 o h rq := (hb2.block o O0.out.lt).trans O0.out
  have c0 := O2.c0
  have zQ := jV c0
  have H2 := H0.out.below hb2 H0.out.lt
  have L2 := L0.out.below hb2 L0.out.lt
  have hwt := jB H2 L2
  rw [hw.out] at hwt
  have hs := step_take (q0.out.below hb2 q0.out.lt) (g0.out.kept hb2) hst (Put.aF hl0.out hb2) hLn hL0.out O2 H2 L2 h0.out h5.out hn hk
  replace hs := Lib.hid hs
  replace hb2 := Lib.hid hb2
  clear O2 H2 L2 c0 hb1 hK1 q1 HI2 k0 k1
  go_wp2_with (go_at_call 262; go_must (refine hwt.mono ?_); rintro e w' ⟨rfl, rfl⟩)
  go_at_call 45
  refine hs.out.mono ?_
  clear hs zQ hwt
  rintro e w3 ⟨rfl, H3, L3, ho3⟩
  have hfin : Hid (aA w3 h (H.take l) ∧ aC 94 w3 C.bf (l.ed H.lk H.who) ∧ aP (fun k => k = h ∨ k = C.bf ∨ k = C.log) w w3) := ⟨H3, L3, (aP.of_below hb2.out).trans ho3 (kE.refl _ _)⟩
  clear H3 L3 ho3
  go_wp2_with fail
  go_ret
  exact ⟨rfl, hfin.out⟩
end
end Go.Proofs.YtbdfpbknckghgaaGreat

namespace Go.Proofs.YtbdfpbknckghgaaGreat
open Go.RowKit
section
variable {w : World} {b : Nat} {l : List UInt8} {o : Option (List UInt8)}
def rF (l : List UInt8) (w' : World) (b : Nat) (e : Ending) : Prop :=
 (∃ (x : Bool) (rest : List UInt8), l = (if x then 1 else 0) :: rest ∧ e = .returned (.bool x) ∧ RS w' b rest 0) ∨
 ((∀ (x : Bool) (rest : List UInt8), l ≠ (if x then 1 else 0) :: rest) ∧ e = .returned (.bool false) ∧ ∃ q, fV q ∧ RS w' b [] q)
theorem xx (hl : l.length ≤ 10000) (h : RS w b l 0) : Calls Tryz.prog 71 #[.pointer (some ⟨b, 0, none⟩)] w fun e w' => rF l w' b e ∧ Only b w w' := by
 match l, hl, h with
 | [], _, h =>
   go_enter Tryz.func71, Tryz.ntmps71
   go_wp2_with (go_at_call 69; go_must (refine (jE h).mono ?_); rintro e w1 ⟨rfl, h2, o2⟩)
   go_ret
   exact ⟨.inr ⟨fun x rest => by simp, rfl, 2, oz, h2⟩, o2⟩
 | c :: l, hl, h =>
   have hl3 : l.length ≤ 100000 := by simp at hl; omega
   clear hl
   obtain ⟨n, hn⟩ : ∃ n, n = c.toNat := ⟨_, rfl⟩
   have hnn : Hid ((c.toNat : Int) = (n : Int)) := by show _ = _; rw [hn]
   by_cases h0 : n = 0
   ·have hc : c = 0 := UInt8.toNat_inj.1 (by rw [← hn, h0]; rfl)
    subst hc
    clear hn hnn h0
    go_enter Tryz.func71, Tryz.ntmps71
    go_wp2_with (go_at_call 69; go_must (refine (fe 0 h hl3).mono ?_); rintro e w1 ⟨rfl, h2, o2⟩)
    go_ret
    exact ⟨.inl ⟨false, l, rfl, rfl, h2⟩, o2⟩
   by_cases h1 : n = 1
   ·have hc : c = 1 := UInt8.toNat_inj.1 (by rw [← hn, h1]; rfl)
    subst hc
    clear hn hnn h0 h1
    go_enter Tryz.func71, Tryz.ntmps71
    go_wp2_with (go_at_call 69; go_must (refine (fe 1 h hl3).mono ?_); rintro e w1 ⟨rfl, h2, o2⟩)
    go_ret
    exact ⟨.inl ⟨true, l, rfl, rfl, h2⟩, o2⟩
   have hno : Hid (∀ (x : Bool) (rest : List UInt8), c :: l ≠ (if x then 1 else 0) :: rest) := by
    show ∀ (x : Bool) (rest : List UInt8), c :: l ≠ (if x then 1 else 0) :: rest
    intro x rest he
    rw [List.cons.injEq] at he
    have := he.1
    subst this
    cases x
    ·exact h0 hn
    ·exact h1 hn
   have t1 : (1 : Int) < (n : Int) := by omega
   have t2 : ((n : Int) == 1) = false := beq_eq_false_iff_ne.2 (by omega)
   clear hn h0 h1
   go_enter Tryz.func71, Tryz.ntmps71
   go_wp2_with (first | (go_at_call 69; go_must (refine (fe c h hl3).mono ?_); rintro e w1 ⟨rfl, h2, o2⟩; rw [hnn.out]) | (go_at_call 109; go_must (refine (kP 4 (by decide) h2).mono ?_); rintro e w3 ⟨rfl, h3, o3⟩))
   go_ret
   exact ⟨.inr ⟨hno.out, rfl, 4, rW, h3⟩, o2.trans o3⟩
theorem uD {q : Int} (hq : q ≠ 0) (h : RS w b [] q) : Calls Tryz.prog 71 #[.pointer (some ⟨b, 0, none⟩)] w fun e w' => e = .returned (.bool false) ∧ w = w' := by
 have h0 := jF hq h
 clear hq
 go_enter Tryz.func71, Tryz.ntmps71
 go_wp2_with (go_at_call 69; go_must (refine h0.mono ?_); rintro e w1 ⟨rfl, rfl⟩)
 go_ret
 exact ⟨rfl, rfl⟩
theorem xy (h : RU w b o) : Calls Tryz.prog 71 #[.pointer (some ⟨b, 0, none⟩)] w fun e w' => ∃ x o', e = .returned (.bool x) ∧ BR o x o' ∧ RU w' b o' ∧ Only b w w' := by
 cases o with
 | some l =>
   refine (xx h.2 h.1).mono ?_
   rintro e w' ⟨⟨x, rest, hl, rfl, hr⟩ | ⟨no, rfl, q, hq, hr⟩, ho⟩
   ·refine ⟨x, some rest, rfl, .inl ⟨rest, hl, rfl⟩, ⟨hr, ?_⟩, ho⟩
    have := h.2
    rw [hl, List.length_cons] at this
    omega
   ·exact ⟨false, none, rfl, .inr ⟨rfl, rfl, no⟩, ⟨q, hq, hr⟩, ho⟩
 | none =>
   obtain ⟨q, hq, h⟩ := h
   refine (uD hq.ne h).mono ?_
   rintro e w' ⟨rfl, rfl⟩
   exact ⟨false, none, rfl, ⟨rfl, rfl⟩, ⟨q, hq, h⟩, Only.refl _ _⟩
end
end Go.Proofs.YtbdfpbknckghgaaGreat

namespace Go.Proofs.YtbdfpbknckghgaaGreat
open Go.RowKit
section
variable {c0 c1 s : UInt8} {mid : List UInt8}
theorem dm {r : Rq} (h : bu r = true) : (1 ≤ r.kind ∧ r.kind ≤ 13) ∧ aj r = r := by
 unfold bu at h
 simpa using h
end
end Go.Proofs.YtbdfpbknckghgaaGreat

namespace Go.Proofs.YtbdfpbknckghgaaGreat
open Go.RowKit
def bq (l : List UInt8) (x : Rq) : Prop := bF x ∧ ∀ r, bF r → bu r = true → fq r = l → x = r
def aa (w : World) (g : Nat) (r : Rq) : Prop := w.heap[g]? = some (.cells (encR r).toArray 28 (0, 0))
theorem aa.only {w w' : World} {g b : Nat} {r : Rq} (h : aa w g r) (ho : Only b w w') (hg : g ≠ b) : aa w' g r := (ho.block g hg).trans h
theorem aa.past {w : World} {g : Nat} {r : Rq} (h : aa w g r) (o : Obj) : aa (w.alloc o) g r := dF h
theorem aa.ext {w w' : World} {g B : Nat} {r : Rq} (h : aa w g r) (hb : Below B w w') (hg : g < B) : aa w' g r := (hb.block g hg).trans h
theorem aa.below {w w' : World} {g : Nat} {r : Rq} (h : aa w g r) (hb : Below w.heap.size w w') : aa w' g r := (hb.block g (ae h)).trans h
theorem aa.free {w : World} {g : Nat} {r : Rq} (h : aa w g r) (j : Nat) : w.frozen? ⟨g, j, none⟩ = false := by simp [World.frozen?, show w.heap[g]? = _ from h]
theorem aa.set {w : World} {g : Nat} {r : Rq} (h : aa w g r) (j : Nat) (u : Value) (r' : Rq) (he : (encR r).toArray.setIfInBounds j u = (encR r').toArray) : aa (w.setCell ⟨g, j, none⟩ u) g r' := by
 have := heap_put (i := j) h u
 rw [he] at this
 exact this
theorem aa.aN {w : World} {g b : Nat} {r : Rq} (h : aa w g r) (j : Nat) (u : Value) (hg : g ≠ b) : aa (w.setCell ⟨b, j, none⟩ u) g r := (Below.heap_setCell _ _ _ _ hg).trans h
theorem aa.store {w : World} {g : Nat} {r : Rq} (h : aa w g r) (x : Rq) : Sem.run Tryz.prog (storeCells ⟨g, 0, none⟩ (encR x) 0) w = .ok () (w.setRow g (encR x).toArray) ∧ aa (w.setRow g (encR x).toArray) g x := by
 refine ⟨?_, setRow_heap w g _ _ _ _ h⟩
 have hst := run_storeCells_at Tryz.prog g 0 28 (encR x) 0 (encR r).toArray w h (by simp [aG]) (mr x)
 simp only [Nat.add_zero] at hst
 rw [hst]
 rfl
theorem dn {B g : Nat} {w0 w : World} (hb : Below B w0 w) (hBg : B ≤ g) (j : Nat) (u : Value) : Below B w0 (w.setCell ⟨g, j, none⟩ u) := hb.trans ((Only.setCell g j w u).below hBg)
theorem dS {B g : Nat} {w0 w : World} (hb : Below B w0 w) (hBg : B ≤ g) (cs : Array Value) : Below B w0 (w.setRow g cs) := hb.trans ((⟨rfl, rfl, rfl, by simp, fun k hk => setRow_other w g k _ hk⟩ : Only g w (w.setRow g cs)).below hBg)
theorem RU.same {w w' : World} {b : Nat} {o : Option (List UInt8)} (h : RU w b o) (he : w'.heap[b]? = w.heap[b]?) : RU w' b o := by
 cases o with
 | some l => exact ⟨he.trans h.1, h.2⟩
 | none => obtain ⟨q, hq, h⟩ := h; exact ⟨q, hq, he.trans h⟩
theorem RU.aN {w : World} {b g : Nat} {o : Option (List UInt8)} (h : RU w b o) (j : Nat) (u : Value) (hg : b ≠ g) : RU (w.setCell ⟨g, j, none⟩ u) b o := h.same (Below.heap_setCell _ _ _ _ hg)
theorem SR.fit {o o' : Option (List UInt8)} {x : Int} (h : SR o x o') : Fit x := by
 cases o with
 | none => rw [h.1]; exact ⟨by decide, by decide⟩
 | some l =>
   rcases h with ⟨h, _⟩ | ⟨rfl, _⟩
   ·exact h
   ·exact ⟨by decide, by decide⟩
theorem SR.enc {y x : Int} {s : List UInt8} {o : Option (List UInt8)} (h : SR (some (Go.Proofs.YtbdfpbknckghgaaGreat.enc (zg y) ++ s)) x o) (hy : Fit y) : x = y ∧ o = some s := by
 rcases h with ⟨hx, rest, he, ho⟩ | ⟨_, _, no⟩
 ·obtain ⟨h1, h2⟩ := cZ hy hx he
  exact ⟨h1.symm, by rw [ho, h2]⟩
 ·exact absurd rfl (no y s hy)
theorem BR.enc {y x : Bool} {s : List UInt8} {o : Option (List UInt8)} (h : BR (some ((if y then 1 else 0) :: s)) x o) : x = y := by
 rcases h with ⟨rest, he, _⟩ | ⟨_, _, no⟩
 ·rw [List.cons.injEq] at he
  have := he.1
  cases x <;> cases y <;> first | rfl | (simp at this)
 ·exact absurd rfl (no y s)
theorem fM {r : Rq} {c0 c1 : UInt8} {t : List UInt8} (hr : bu r = true) (he : fq r = c0 :: c1 :: t) : r.kind = (c1.toNat : Int) ∧ ∃ s, t = af r ++ [s] := by
 have hk := (dm hr).1
 have h1 : bW 183 :: bW r.kind.toNat :: (af r ++ [bW (lV (bK r))]) = c0 :: c1 :: t := he
 rw [List.cons.injEq, List.cons.injEq] at h1
 obtain ⟨_, h2, h3⟩ := h1
 refine ⟨?_, _, h3.symm⟩
 rw [← h2, aX (by omega)]
 omega
section
variable {c0 c1 : UInt8} {t : List UInt8}
theorem bT : (-9223372036854775808 : Int) ≤ 0 ∧ (0 : Int) ≤ 9223372036854775807 := by omega
theorem qi {a b c d : Int} {e : Bool} {o1 o2 o3 o4 o5 : Option (List UInt8)} (hc : c1.toNat = 1) (h1 : SR (some t) a o1) (h2 : SR o1 b o2) (h3 : SR o2 c o3) (h4 : SR o3 d o4) (h5 : BR o4 e o5) : bq (c0 :: c1 :: t) ⟨1, 0, a, b, c, d, e, 0, 0⟩ := by
 refine ⟨⟨by show (-9223372036854775808 : Int) ≤ 1 ∧ (1 : Int) ≤ _; omega, bT, h1.fit, h2.fit, h3.fit, h4.fit, bT, bT⟩, fun r fr hr he => ?_⟩
 obtain ⟨hk, s, rfl⟩ := fM hr he
 rw [hc] at hk
 have hf : af r = enc (zg r.user) ++ (enc (zg r.width) ++ (enc (zg r.limit) ++ (enc (zg r.prio) ++ [if r.held then 1 else 0]))) := by
  unfold af; rw [if_pos (by rw [hk]; rfl)]; simp [au]
 rw [hf] at h1
 simp only [List.append_assoc] at h1
 obtain ⟨rfl, rfl⟩ := h1.enc fr.user
 obtain ⟨rfl, rfl⟩ := h2.enc fr.width
 obtain ⟨rfl, rfl⟩ := h3.enc fr.limit
 obtain ⟨rfl, rfl⟩ := h4.enc fr.prio
 have h5 := BR.enc (s := [s]) h5
 have hcl := (dm hr).2
 unfold aj at hcl
 rw [if_pos (by rw [hk]; rfl), hk] at hcl
 rw [h5]
 exact hcl
theorem dz {x : Int} {o : Option (List UInt8)} (k : Nat) (hk2 : k = 2 ∨ k = 3 ∨ k = 4 ∨ k = 5 ∨ k = 6) (hc : c1.toNat = k) (h1 : SR (some t) x o) : bq (c0 :: c1 :: t) ⟨k, x, 0, 0, 0, 0, false, 0, 0⟩ := by
 refine ⟨⟨by show (-9223372036854775808 : Int) ≤ (k : Int) ∧ (k : Int) ≤ _; omega, h1.fit, bT, bT, bT, bT, bT, bT⟩, fun r fr hr he => ?_⟩
 obtain ⟨hk, s, rfl⟩ := fM hr he
 rw [hc] at hk
 have hf : af r = enc (zg r.id) := by unfold af; rw [if_neg (by omega), if_pos (by omega)]
 rw [hf] at h1
 obtain ⟨rfl, _⟩ := h1.enc fr.id
 have hcl := (dm hr).2
 unfold aj at hcl
 rw [if_neg (by omega), if_pos (by omega), hk] at hcl
 exact hcl
theorem jd {x : Int} {o : Option (List UInt8)} (k : Nat) (hk2 : k = 7 ∨ k = 8) (hc : c1.toNat = k) (h1 : SR (some t) x o) : bq (c0 :: c1 :: t) ⟨k, 0, 0, 0, 0, 0, false, x, 0⟩ := by
 refine ⟨⟨by show (-9223372036854775808 : Int) ≤ (k : Int) ∧ (k : Int) ≤ _; omega, bT, bT, bT, bT, bT, h1.fit, bT⟩, fun r fr hr he => ?_⟩
 obtain ⟨hk, s, rfl⟩ := fM hr he
 rw [hc] at hk
 have hf : af r = enc (zg r.node) := by unfold af; rw [if_neg (by omega), if_neg (by omega), if_pos (by omega)]
 rw [hf] at h1
 obtain ⟨rfl, _⟩ := h1.enc fr.node
 have hcl := (dm hr).2
 unfold aj at hcl
 rw [if_neg (by omega), if_neg (by omega), if_pos (by omega), hk] at hcl
 exact hcl
theorem qj {x : Int} {o : Option (List UInt8)} (hc : c1.toNat = 9) (h1 : SR (some t) x o) : bq (c0 :: c1 :: t) ⟨9, 0, 0, 0, 0, 0, false, 0, x⟩ := by
 refine ⟨⟨by show (-9223372036854775808 : Int) ≤ 9 ∧ (9 : Int) ≤ _; omega, bT, bT, bT, bT, bT, bT, h1.fit⟩, fun r fr hr he => ?_⟩
 obtain ⟨hk, s, rfl⟩ := fM hr he
 rw [hc] at hk
 have hf : af r = enc (zg r.till) := by unfold af; rw [if_neg (by omega), if_neg (by omega), if_neg (by omega), if_pos (by omega)]
 rw [hf] at h1
 obtain ⟨rfl, _⟩ := h1.enc fr.till
 have hcl := (dm hr).2
 unfold aj at hcl
 rw [if_neg (by omega), if_neg (by omega), if_neg (by omega), if_pos (by omega), hk] at hcl
 exact hcl
theorem uE {m : Nat} (hc : c1.toNat = m) (h1 : m ≠ 1) (h2 : m ≠ 2) (h3 : m ≠ 3) (h4 : m ≠ 4) (h5 : m ≠ 5) (h6 : m ≠ 6) (h7 : m ≠ 7) (h8 : m ≠ 8) (h9 : m ≠ 9) : bq (c0 :: c1 :: t) ⟨m, 0, 0, 0, 0, 0, false, 0, 0⟩ := by
 have hm := c1.toNat_lt
 refine ⟨⟨by show (-9223372036854775808 : Int) ≤ (m : Int) ∧ (m : Int) ≤ _; omega, bT, bT, bT, bT, bT, bT, bT⟩, fun r fr hr he => ?_⟩
 obtain ⟨hk, s, rfl⟩ := fM hr he
 rw [hc] at hk
 have hcl := (dm hr).2
 unfold aj at hcl
 rw [if_neg (by omega), if_neg (by omega), if_neg (by omega), if_neg (by omega), hk] at hcl
 exact hcl
end
theorem aa.lt {w : World} {g : Nat} {r : Rq} (h : aa w g r) : g < w.heap.size := ae h
theorem xz {b off n cap : Nat} {w : World} {c0 c1 : UInt8} {t : List UInt8} (hc : c1.toNat = 2) (hn : n = t.length + 2) (dL : n ≤ 64) (hcap : n ≤ cap) (hcm : cap ≤ maxLen) (hr : bJ w (.slice (some ⟨b, off + 1, none⟩) (n - 1) (cap - 1)) (c1 :: t)) :
 Calls Tryz.prog 35 #[.slice (some ⟨b, off, none⟩) n cap] w fun e w' => ∃ x, e = .returned (.agg (encR x).toArray) ∧ bq (c0 :: c1 :: t) x ∧ Below w.heap.size w w' := by
 have hcx : Hid ((c1.toNat : Int) = 2) := by show _ = _; rw [hc]; rfl
 have j6 : cap ≤ 9223372036854775807 := by unfold maxLen at hcm; omega
 have hn1 : 1 ≤ n := by omega
 have hc1 : ¬ cap = 1 := by omega
 have hc2 : 1 < cap := by omega
 have hc3 : ¬ cap - 1 = 0 := by omega
 have hrd := dx _ (hr.keeps (w' := w.alloc (.cells #[.int .i64 0, .int .i64 0, .int .i64 0, .int .i64 0, .int .i64 0, .int .i64 0, .bool false, .int .i64 0, .int .i64 0] 28)) (dW.dZ ((Below.refl _ _).alloc (Nat.le_refl _) _))) (by simp; omega)
 replace hn := Lib.hid hn
 obtain ⟨wA, ah⟩ : ∃ wA, wA = w.alloc (.cells #[.int .i64 0, .int .i64 0, .int .i64 0, .int .i64 0, .int .i64 0, .int .i64 0, .bool false, .int .i64 0, .int .i64 0] 28) := ⟨_, rfl⟩
 have bN : Hid (Below w.heap.size w wA) := by show Below _ _ _; rw [ah]; exact (Below.refl _ _).alloc (Nat.le_refl _) _
 have hsA : wA.heap.size = w.heap.size + 1 := by rw [ah]; simp
 have dA : aa wA w.heap.size ag := by rw [ah]; exact heap_alloc_new w _
 clear hr hcm
 go_enter Tryz.func35, Tryz.ntmps35
 go_wp2_with fail
 go_at_call 68
 refine hrd.mono ?_
 clear hrd
 rw [← ah]
 rintro e w1 ⟨rfl, hu1, he1⟩
 rw [hsA] at hu1
 have aT : aa w1 w.heap.size ag := dA.ext he1 (by omega)
 have hb1 : Hid (Below w.heap.size w w1) := bN.out.trans (he1.mono (by omega))
 have hs1 : w.heap.size + 1 < w1.heap.size := hu1.lt
 replace ah := Lib.hid ah
 clear he1 dA bN
 rw [hsA]
 clear hsA
 have hby := dw hu1
 clear hu1
 go_wp2_with fail
 go_at_call 69
 refine hby.mono ?_
 clear hby
 rintro e w2 ⟨c, o1, rfl, ⟨rfl, rfl⟩, hu2, ho2⟩
 rw [hcx.out]
 have hR2 : aa w2 w.heap.size ag := aT.only ho2 (by omega)
 have hb2 : Hid (Below w.heap.size w w2) := hb1.out.trans (ho2.below (by omega))
 have hs2 : w.heap.size + 1 < w2.heap.size := by rw [ho2.size]; exact hs1
 clear aT hb1 ho2 hs1
 obtain ⟨w3, hw3⟩ : ∃ w3, w3 = w2.alloc (.cells #[.int .i64 2, .int .i64 0, .int .i64 0, .int .i64 0, .int .i64 0, .int .i64 0, .bool false, .int .i64 0, .int .i64 0] 28) := ⟨_, rfl⟩
 have hu3 : RU w3 (w.heap.size + 1) (some t) := by rw [hw3]; exact hu2.ext ((Below.refl _ _).alloc (Nat.le_refl _) _)
 have dB : aa w3 w2.heap.size ⟨2, 0, 0, 0, 0, 0, false, 0, 0⟩ := by rw [hw3]; exact heap_alloc_new w2 _
 have aM : aa w3 w.heap.size ag := by rw [hw3]; exact hR2.past _
 have hb3 : Hid (Below w.heap.size w w3) := by show Below _ _ _; rw [hw3]; exact hb2.out.alloc (by omega) _
 clear hu2 hR2 hb2
 have hsg := bX hu3
 rw [hw3] at hsg
 clear hu3
 go_wp2_with fail
 go_at_call 70
 refine hsg.mono ?_
 clear hsg
 rintro e w4 ⟨y3, o3, rfl, bR, lY, ho3⟩
 rw [← hw3] at ho3
 replace hw3 := Lib.hid hw3
 have cu : aa w4 w2.heap.size _ := dB.only ho3 (by omega)
 have dR : aa w4 w.heap.size _ := aM.only ho3 (by omega)
 have hb4 : Hid (Below w.heap.size w w4) := hb3.out.trans (ho3.below (by omega))
 replace bR := Lib.hid bR
 clear dB aM hb3 ho3
 have d0 := ay cu 1 _ rfl
 have d1 := cu.free 1
 obtain ⟨w5, bn⟩ : ∃ v, v = w4.setCell ⟨w2.heap.size, 1, none⟩ (.int .i64 y3) := ⟨_, rfl⟩
 have gB : aa w5 w2.heap.size ⟨2, y3, 0, 0, 0, 0, false, 0, 0⟩ := by rw [bn]; exact cu.set _ _ _ rfl
 have gD : aa w5 w.heap.size ag := by rw [bn]; exact dR.aN _ _ (by omega)
 have hb5 : Hid (Below w.heap.size w w5) := by show Below _ _ _; rw [bn]; exact dn hb4.out (by omega) _ _
 generalize hx : (⟨2, y3, 0, 0, 0, 0, false, 0, 0⟩ : Rq) = x at *
 have lR := aG x
 have zR := bL
 obtain ⟨k9, aK⟩ : ∃ k, k = 9 := ⟨_, rfl⟩
 rw [← aK] at lR zR
 replace aK := Lib.hid aK
 have hld := aS gB lR
 obtain ⟨hst, fA⟩ := gD.store x
 have hb6 : Hid (Below w.heap.size w (w5.setRow w.heap.size (encR x).toArray)) := dS hb5.out (Nat.le_refl _) _
 replace hx := Lib.hid hx
 rw [bn] at hld hst
 go_wp2_with fail
 rw [← bn]
 refine bg rfl rfl rfl fA Tryz.underlying28 rfl (by kernel_rfl) ⟨x, rfl, ?_, hb6.out⟩
 first | exact dz 2 (by decide) hc bR.out | (rw [← hx.out]; exact dz 2 (by decide) hc bR.out)
theorem xG {b off n cap : Nat} {w : World} {c0 c1 : UInt8} {t : List UInt8} (hc : c1.toNat = 3) (hn : n = t.length + 2) (dL : n ≤ 64) (hcap : n ≤ cap) (hcm : cap ≤ maxLen) (hr : bJ w (.slice (some ⟨b, off + 1, none⟩) (n - 1) (cap - 1)) (c1 :: t)) :
 Calls Tryz.prog 35 #[.slice (some ⟨b, off, none⟩) n cap] w fun e w' => ∃ x, e = .returned (.agg (encR x).toArray) ∧ bq (c0 :: c1 :: t) x ∧ Below w.heap.size w w' := by
 have hcx : Hid ((c1.toNat : Int) = 3) := by show _ = _; rw [hc]; rfl
 have j6 : cap ≤ 9223372036854775807 := by unfold maxLen at hcm; omega
 have hn1 : 1 ≤ n := by omega
 have hc1 : ¬ cap = 1 := by omega
 have hc2 : 1 < cap := by omega
 have hc3 : ¬ cap - 1 = 0 := by omega
 have hrd := dx _ (hr.keeps (w' := w.alloc (.cells #[.int .i64 0, .int .i64 0, .int .i64 0, .int .i64 0, .int .i64 0, .int .i64 0, .bool false, .int .i64 0, .int .i64 0] 28)) (dW.dZ ((Below.refl _ _).alloc (Nat.le_refl _) _))) (by simp; omega)
 replace hn := Lib.hid hn
 obtain ⟨wA, ah⟩ : ∃ wA, wA = w.alloc (.cells #[.int .i64 0, .int .i64 0, .int .i64 0, .int .i64 0, .int .i64 0, .int .i64 0, .bool false, .int .i64 0, .int .i64 0] 28) := ⟨_, rfl⟩
 have bN : Hid (Below w.heap.size w wA) := by show Below _ _ _; rw [ah]; exact (Below.refl _ _).alloc (Nat.le_refl _) _
 have hsA : wA.heap.size = w.heap.size + 1 := by rw [ah]; simp
 have dA : aa wA w.heap.size ag := by rw [ah]; exact heap_alloc_new w _
 clear hr hcm
 go_enter Tryz.func35, Tryz.ntmps35
 go_wp2_with fail
 go_at_call 68
 refine hrd.mono ?_
 clear hrd
 rw [← ah]
 rintro e w1 ⟨rfl, hu1, he1⟩
 rw [hsA] at hu1
 have aT : aa w1 w.heap.size ag := dA.ext he1 (by omega)
 have hb1 : Hid (Below w.heap.size w w1) := bN.out.trans (he1.mono (by omega))
 have hs1 : w.heap.size + 1 < w1.heap.size := hu1.lt
 replace ah := Lib.hid ah
 clear he1 dA bN
 rw [hsA]
 clear hsA
 have hby := dw hu1
 clear hu1
 go_wp2_with fail
 go_at_call 69
 refine hby.mono ?_
 clear hby
 rintro e w2 ⟨c, o1, rfl, ⟨rfl, rfl⟩, hu2, ho2⟩
 rw [hcx.out]
 have hR2 : aa w2 w.heap.size ag := aT.only ho2 (by omega)
 have hb2 : Hid (Below w.heap.size w w2) := hb1.out.trans (ho2.below (by omega))
 have hs2 : w.heap.size + 1 < w2.heap.size := by rw [ho2.size]; exact hs1
 clear aT hb1 ho2 hs1
 obtain ⟨w3, hw3⟩ : ∃ w3, w3 = w2.alloc (.cells #[.int .i64 3, .int .i64 0, .int .i64 0, .int .i64 0, .int .i64 0, .int .i64 0, .bool false, .int .i64 0, .int .i64 0] 28) := ⟨_, rfl⟩
 have hu3 : RU w3 (w.heap.size + 1) (some t) := by rw [hw3]; exact hu2.ext ((Below.refl _ _).alloc (Nat.le_refl _) _)
 have dB : aa w3 w2.heap.size ⟨3, 0, 0, 0, 0, 0, false, 0, 0⟩ := by rw [hw3]; exact heap_alloc_new w2 _
 have aM : aa w3 w.heap.size ag := by rw [hw3]; exact hR2.past _
 have hb3 : Hid (Below w.heap.size w w3) := by show Below _ _ _; rw [hw3]; exact hb2.out.alloc (by omega) _
 clear hu2 hR2 hb2
 have hsg := bX hu3
 rw [hw3] at hsg
 clear hu3
 go_wp2_with fail
 go_at_call 70
 refine hsg.mono ?_
 clear hsg
 rintro e w4 ⟨y3, o3, rfl, bR, lY, ho3⟩
 rw [← hw3] at ho3
 replace hw3 := Lib.hid hw3
 have cu : aa w4 w2.heap.size _ := dB.only ho3 (by omega)
 have dR : aa w4 w.heap.size _ := aM.only ho3 (by omega)
 have hb4 : Hid (Below w.heap.size w w4) := hb3.out.trans (ho3.below (by omega))
 replace bR := Lib.hid bR
 clear dB aM hb3 ho3
 have d0 := ay cu 1 _ rfl
 have d1 := cu.free 1
 obtain ⟨w5, bn⟩ : ∃ v, v = w4.setCell ⟨w2.heap.size, 1, none⟩ (.int .i64 y3) := ⟨_, rfl⟩
 have gB : aa w5 w2.heap.size ⟨3, y3, 0, 0, 0, 0, false, 0, 0⟩ := by rw [bn]; exact cu.set _ _ _ rfl
 have gD : aa w5 w.heap.size ag := by rw [bn]; exact dR.aN _ _ (by omega)
 have hb5 : Hid (Below w.heap.size w w5) := by show Below _ _ _; rw [bn]; exact dn hb4.out (by omega) _ _
 generalize hx : (⟨3, y3, 0, 0, 0, 0, false, 0, 0⟩ : Rq) = x at *
 have lR := aG x
 have zR := bL
 obtain ⟨k9, aK⟩ : ∃ k, k = 9 := ⟨_, rfl⟩
 rw [← aK] at lR zR
 replace aK := Lib.hid aK
 have hld := aS gB lR
 obtain ⟨hst, fA⟩ := gD.store x
 have hb6 : Hid (Below w.heap.size w (w5.setRow w.heap.size (encR x).toArray)) := dS hb5.out (Nat.le_refl _) _
 replace hx := Lib.hid hx
 rw [bn] at hld hst
 go_wp2_with fail
 rw [← bn]
 refine bg rfl rfl rfl fA Tryz.underlying28 rfl (by kernel_rfl) ⟨x, rfl, ?_, hb6.out⟩
 first | exact dz 3 (by decide) hc bR.out | (rw [← hx.out]; exact dz 3 (by decide) hc bR.out)
theorem xH {b off n cap : Nat} {w : World} {c0 c1 : UInt8} {t : List UInt8} (hc : c1.toNat = 4) (hn : n = t.length + 2) (dL : n ≤ 64) (hcap : n ≤ cap) (hcm : cap ≤ maxLen) (hr : bJ w (.slice (some ⟨b, off + 1, none⟩) (n - 1) (cap - 1)) (c1 :: t)) :
 Calls Tryz.prog 35 #[.slice (some ⟨b, off, none⟩) n cap] w fun e w' => ∃ x, e = .returned (.agg (encR x).toArray) ∧ bq (c0 :: c1 :: t) x ∧ Below w.heap.size w w' := by
 have hcx : Hid ((c1.toNat : Int) = 4) := by show _ = _; rw [hc]; rfl
 have j6 : cap ≤ 9223372036854775807 := by unfold maxLen at hcm; omega
 have hn1 : 1 ≤ n := by omega
 have hc1 : ¬ cap = 1 := by omega
 have hc2 : 1 < cap := by omega
 have hc3 : ¬ cap - 1 = 0 := by omega
 have hrd := dx _ (hr.keeps (w' := w.alloc (.cells #[.int .i64 0, .int .i64 0, .int .i64 0, .int .i64 0, .int .i64 0, .int .i64 0, .bool false, .int .i64 0, .int .i64 0] 28)) (dW.dZ ((Below.refl _ _).alloc (Nat.le_refl _) _))) (by simp; omega)
 replace hn := Lib.hid hn
 obtain ⟨wA, ah⟩ : ∃ wA, wA = w.alloc (.cells #[.int .i64 0, .int .i64 0, .int .i64 0, .int .i64 0, .int .i64 0, .int .i64 0, .bool false, .int .i64 0, .int .i64 0] 28) := ⟨_, rfl⟩
 have bN : Hid (Below w.heap.size w wA) := by show Below _ _ _; rw [ah]; exact (Below.refl _ _).alloc (Nat.le_refl _) _
 have hsA : wA.heap.size = w.heap.size + 1 := by rw [ah]; simp
 have dA : aa wA w.heap.size ag := by rw [ah]; exact heap_alloc_new w _
 clear hr hcm
 go_enter Tryz.func35, Tryz.ntmps35
 go_wp2_with fail
 go_at_call 68
 refine hrd.mono ?_
 clear hrd
 rw [← ah]
 rintro e w1 ⟨rfl, hu1, he1⟩
 rw [hsA] at hu1
 have aT : aa w1 w.heap.size ag := dA.ext he1 (by omega)
 have hb1 : Hid (Below w.heap.size w w1) := bN.out.trans (he1.mono (by omega))
 have hs1 : w.heap.size + 1 < w1.heap.size := hu1.lt
 replace ah := Lib.hid ah
 clear he1 dA bN
 rw [hsA]
 clear hsA
 have hby := dw hu1
 clear hu1
 go_wp2_with fail
 go_at_call 69
 refine hby.mono ?_
 clear hby
 rintro e w2 ⟨c, o1, rfl, ⟨rfl, rfl⟩, hu2, ho2⟩
 rw [hcx.out]
 have hR2 : aa w2 w.heap.size ag := aT.only ho2 (by omega)
 have hb2 : Hid (Below w.heap.size w w2) := hb1.out.trans (ho2.below (by omega))
 have hs2 : w.heap.size + 1 < w2.heap.size := by rw [ho2.size]; exact hs1
 clear aT hb1 ho2 hs1
 obtain ⟨w3, hw3⟩ : ∃ w3, w3 = w2.alloc (.cells #[.int .i64 4, .int .i64 0, .int .i64 0, .int .i64 0, .int .i64 0, .int .i64 0, .bool false, .int .i64 0, .int .i64 0] 28) := ⟨_, rfl⟩
 have hu3 : RU w3 (w.heap.size + 1) (some t) := by rw [hw3]; exact hu2.ext ((Below.refl _ _).alloc (Nat.le_refl _) _)
 have dB : aa w3 w2.heap.size ⟨4, 0, 0, 0, 0, 0, false, 0, 0⟩ := by rw [hw3]; exact heap_alloc_new w2 _
 have aM : aa w3 w.heap.size ag := by rw [hw3]; exact hR2.past _
 have hb3 : Hid (Below w.heap.size w w3) := by show Below _ _ _; rw [hw3]; exact hb2.out.alloc (by omega) _
 clear hu2 hR2 hb2
 have hsg := bX hu3
 rw [hw3] at hsg
 clear hu3
 go_wp2_with fail
 go_at_call 70
 refine hsg.mono ?_
 clear hsg
 rintro e w4 ⟨y3, o3, rfl, bR, lY, ho3⟩
 rw [← hw3] at ho3
 replace hw3 := Lib.hid hw3
 have cu : aa w4 w2.heap.size _ := dB.only ho3 (by omega)
 have dR : aa w4 w.heap.size _ := aM.only ho3 (by omega)
 have hb4 : Hid (Below w.heap.size w w4) := hb3.out.trans (ho3.below (by omega))
 replace bR := Lib.hid bR
 clear dB aM hb3 ho3
 have d0 := ay cu 1 _ rfl
 have d1 := cu.free 1
 obtain ⟨w5, bn⟩ : ∃ v, v = w4.setCell ⟨w2.heap.size, 1, none⟩ (.int .i64 y3) := ⟨_, rfl⟩
 have gB : aa w5 w2.heap.size ⟨4, y3, 0, 0, 0, 0, false, 0, 0⟩ := by rw [bn]; exact cu.set _ _ _ rfl
 have gD : aa w5 w.heap.size ag := by rw [bn]; exact dR.aN _ _ (by omega)
 have hb5 : Hid (Below w.heap.size w w5) := by show Below _ _ _; rw [bn]; exact dn hb4.out (by omega) _ _
 generalize hx : (⟨4, y3, 0, 0, 0, 0, false, 0, 0⟩ : Rq) = x at *
 have lR := aG x
 have zR := bL
 obtain ⟨k9, aK⟩ : ∃ k, k = 9 := ⟨_, rfl⟩
 rw [← aK] at lR zR
 replace aK := Lib.hid aK
 have hld := aS gB lR
 obtain ⟨hst, fA⟩ := gD.store x
 have hb6 : Hid (Below w.heap.size w (w5.setRow w.heap.size (encR x).toArray)) := dS hb5.out (Nat.le_refl _) _
 replace hx := Lib.hid hx
 rw [bn] at hld hst
 go_wp2_with fail
 rw [← bn]
 refine bg rfl rfl rfl fA Tryz.underlying28 rfl (by kernel_rfl) ⟨x, rfl, ?_, hb6.out⟩
 first | exact dz 4 (by decide) hc bR.out | (rw [← hx.out]; exact dz 4 (by decide) hc bR.out)
theorem xI {b off n cap : Nat} {w : World} {c0 c1 : UInt8} {t : List UInt8} (hc : c1.toNat = 5) (hn : n = t.length + 2) (dL : n ≤ 64) (hcap : n ≤ cap) (hcm : cap ≤ maxLen) (hr : bJ w (.slice (some ⟨b, off + 1, none⟩) (n - 1) (cap - 1)) (c1 :: t)) :
 Calls Tryz.prog 35 #[.slice (some ⟨b, off, none⟩) n cap] w fun e w' => ∃ x, e = .returned (.agg (encR x).toArray) ∧ bq (c0 :: c1 :: t) x ∧ Below w.heap.size w w' := by
 have hcx : Hid ((c1.toNat : Int) = 5) := by show _ = _; rw [hc]; rfl
 have j6 : cap ≤ 9223372036854775807 := by unfold maxLen at hcm; omega
 have hn1 : 1 ≤ n := by omega
 have hc1 : ¬ cap = 1 := by omega
 have hc2 : 1 < cap := by omega
 have hc3 : ¬ cap - 1 = 0 := by omega
 have hrd := dx _ (hr.keeps (w' := w.alloc (.cells #[.int .i64 0, .int .i64 0, .int .i64 0, .int .i64 0, .int .i64 0, .int .i64 0, .bool false, .int .i64 0, .int .i64 0] 28)) (dW.dZ ((Below.refl _ _).alloc (Nat.le_refl _) _))) (by simp; omega)
 replace hn := Lib.hid hn
 obtain ⟨wA, ah⟩ : ∃ wA, wA = w.alloc (.cells #[.int .i64 0, .int .i64 0, .int .i64 0, .int .i64 0, .int .i64 0, .int .i64 0, .bool false, .int .i64 0, .int .i64 0] 28) := ⟨_, rfl⟩
 have bN : Hid (Below w.heap.size w wA) := by show Below _ _ _; rw [ah]; exact (Below.refl _ _).alloc (Nat.le_refl _) _
 have hsA : wA.heap.size = w.heap.size + 1 := by rw [ah]; simp
 have dA : aa wA w.heap.size ag := by rw [ah]; exact heap_alloc_new w _
 clear hr hcm
 go_enter Tryz.func35, Tryz.ntmps35
 go_wp2_with fail
 go_at_call 68
 refine hrd.mono ?_
 clear hrd
 rw [← ah]
 rintro e w1 ⟨rfl, hu1, he1⟩
 rw [hsA] at hu1
 have aT : aa w1 w.heap.size ag := dA.ext he1 (by omega)
 have hb1 : Hid (Below w.heap.size w w1) := bN.out.trans (he1.mono (by omega))
 have hs1 : w.heap.size + 1 < w1.heap.size := hu1.lt
 replace ah := Lib.hid ah
 clear he1 dA bN
 rw [hsA]
 clear hsA
 have hby := dw hu1
 clear hu1
 go_wp2_with fail
 go_at_call 69
 refine hby.mono ?_
 clear hby
 rintro e w2 ⟨c, o1, rfl, ⟨rfl, rfl⟩, hu2, ho2⟩
 rw [hcx.out]
 have hR2 : aa w2 w.heap.size ag := aT.only ho2 (by omega)
 have hb2 : Hid (Below w.heap.size w w2) := hb1.out.trans (ho2.below (by omega))
 have hs2 : w.heap.size + 1 < w2.heap.size := by rw [ho2.size]; exact hs1
 clear aT hb1 ho2 hs1
 obtain ⟨w3, hw3⟩ : ∃ w3, w3 = w2.alloc (.cells #[.int .i64 5, .int .i64 0, .int .i64 0, .int .i64 0, .int .i64 0, .int .i64 0, .bool false, .int .i64 0, .int .i64 0] 28) := ⟨_, rfl⟩
 have hu3 : RU w3 (w.heap.size + 1) (some t) := by rw [hw3]; exact hu2.ext ((Below.refl _ _).alloc (Nat.le_refl _) _)
 have dB : aa w3 w2.heap.size ⟨5, 0, 0, 0, 0, 0, false, 0, 0⟩ := by rw [hw3]; exact heap_alloc_new w2 _
 have aM : aa w3 w.heap.size ag := by rw [hw3]; exact hR2.past _
 have hb3 : Hid (Below w.heap.size w w3) := by show Below _ _ _; rw [hw3]; exact hb2.out.alloc (by omega) _
 clear hu2 hR2 hb2
 have hsg := bX hu3
 rw [hw3] at hsg
 clear hu3
 go_wp2_with fail
 go_at_call 70
 refine hsg.mono ?_
 clear hsg
 rintro e w4 ⟨y3, o3, rfl, bR, lY, ho3⟩
 rw [← hw3] at ho3
 replace hw3 := Lib.hid hw3
 have cu : aa w4 w2.heap.size _ := dB.only ho3 (by omega)
 have dR : aa w4 w.heap.size _ := aM.only ho3 (by omega)
 have hb4 : Hid (Below w.heap.size w w4) := hb3.out.trans (ho3.below (by omega))
 replace bR := Lib.hid bR
 clear dB aM hb3 ho3
 have d0 := ay cu 1 _ rfl
 have d1 := cu.free 1
 obtain ⟨w5, bn⟩ : ∃ v, v = w4.setCell ⟨w2.heap.size, 1, none⟩ (.int .i64 y3) := ⟨_, rfl⟩
 have gB : aa w5 w2.heap.size ⟨5, y3, 0, 0, 0, 0, false, 0, 0⟩ := by rw [bn]; exact cu.set _ _ _ rfl
 have gD : aa w5 w.heap.size ag := by rw [bn]; exact dR.aN _ _ (by omega)
 have hb5 : Hid (Below w.heap.size w w5) := by show Below _ _ _; rw [bn]; exact dn hb4.out (by omega) _ _
 generalize hx : (⟨5, y3, 0, 0, 0, 0, false, 0, 0⟩ : Rq) = x at *
 have lR := aG x
 have zR := bL
 obtain ⟨k9, aK⟩ : ∃ k, k = 9 := ⟨_, rfl⟩
 rw [← aK] at lR zR
 replace aK := Lib.hid aK
 have hld := aS gB lR
 obtain ⟨hst, fA⟩ := gD.store x
 have hb6 : Hid (Below w.heap.size w (w5.setRow w.heap.size (encR x).toArray)) := dS hb5.out (Nat.le_refl _) _
 replace hx := Lib.hid hx
 rw [bn] at hld hst
 go_wp2_with fail
 rw [← bn]
 refine bg rfl rfl rfl fA Tryz.underlying28 rfl (by kernel_rfl) ⟨x, rfl, ?_, hb6.out⟩
 first | exact dz 5 (by decide) hc bR.out | (rw [← hx.out]; exact dz 5 (by decide) hc bR.out)
theorem xJ {b off n cap : Nat} {w : World} {c0 c1 : UInt8} {t : List UInt8} (hc : c1.toNat = 6) (hn : n = t.length + 2) (dL : n ≤ 64) (hcap : n ≤ cap) (hcm : cap ≤ maxLen) (hr : bJ w (.slice (some ⟨b, off + 1, none⟩) (n - 1) (cap - 1)) (c1 :: t)) :
 Calls Tryz.prog 35 #[.slice (some ⟨b, off, none⟩) n cap] w fun e w' => ∃ x, e = .returned (.agg (encR x).toArray) ∧ bq (c0 :: c1 :: t) x ∧ Below w.heap.size w w' := by
 have hcx : Hid ((c1.toNat : Int) = 6) := by show _ = _; rw [hc]; rfl
 have j6 : cap ≤ 9223372036854775807 := by unfold maxLen at hcm; omega
 have hn1 : 1 ≤ n := by omega
 have hc1 : ¬ cap = 1 := by omega
 have hc2 : 1 < cap := by omega
 have hc3 : ¬ cap - 1 = 0 := by omega
 have hrd := dx _ (hr.keeps (w' := w.alloc (.cells #[.int .i64 0, .int .i64 0, .int .i64 0, .int .i64 0, .int .i64 0, .int .i64 0, .bool false, .int .i64 0, .int .i64 0] 28)) (dW.dZ ((Below.refl _ _).alloc (Nat.le_refl _) _))) (by simp; omega)
 replace hn := Lib.hid hn
 obtain ⟨wA, ah⟩ : ∃ wA, wA = w.alloc (.cells #[.int .i64 0, .int .i64 0, .int .i64 0, .int .i64 0, .int .i64 0, .int .i64 0, .bool false, .int .i64 0, .int .i64 0] 28) := ⟨_, rfl⟩
 have bN : Hid (Below w.heap.size w wA) := by show Below _ _ _; rw [ah]; exact (Below.refl _ _).alloc (Nat.le_refl _) _
 have hsA : wA.heap.size = w.heap.size + 1 := by rw [ah]; simp
 have dA : aa wA w.heap.size ag := by rw [ah]; exact heap_alloc_new w _
 clear hr hcm
 go_enter Tryz.func35, Tryz.ntmps35
 go_wp2_with fail
 go_at_call 68
 refine hrd.mono ?_
 clear hrd
 rw [← ah]
 rintro e w1 ⟨rfl, hu1, he1⟩
 rw [hsA] at hu1
 have aT : aa w1 w.heap.size ag := dA.ext he1 (by omega)
 have hb1 : Hid (Below w.heap.size w w1) := bN.out.trans (he1.mono (by omega))
 have hs1 : w.heap.size + 1 < w1.heap.size := hu1.lt
 replace ah := Lib.hid ah
 clear he1 dA bN
 rw [hsA]
 clear hsA
 have hby := dw hu1
 clear hu1
 go_wp2_with fail
 go_at_call 69
 refine hby.mono ?_
 clear hby
 rintro e w2 ⟨c, o1, rfl, ⟨rfl, rfl⟩, hu2, ho2⟩
 rw [hcx.out]
 have hR2 : aa w2 w.heap.size ag := aT.only ho2 (by omega)
 have hb2 : Hid (Below w.heap.size w w2) := hb1.out.trans (ho2.below (by omega))
 have hs2 : w.heap.size + 1 < w2.heap.size := by rw [ho2.size]; exact hs1
 clear aT hb1 ho2 hs1
 obtain ⟨w3, hw3⟩ : ∃ w3, w3 = w2.alloc (.cells #[.int .i64 6, .int .i64 0, .int .i64 0, .int .i64 0, .int .i64 0, .int .i64 0, .bool false, .int .i64 0, .int .i64 0] 28) := ⟨_, rfl⟩
 have hu3 : RU w3 (w.heap.size + 1) (some t) := by rw [hw3]; exact hu2.ext ((Below.refl _ _).alloc (Nat.le_refl _) _)
 have dB : aa w3 w2.heap.size ⟨6, 0, 0, 0, 0, 0, false, 0, 0⟩ := by rw [hw3]; exact heap_alloc_new w2 _
 have aM : aa w3 w.heap.size ag := by rw [hw3]; exact hR2.past _
 have hb3 : Hid (Below w.heap.size w w3) := by show Below _ _ _; rw [hw3]; exact hb2.out.alloc (by omega) _
 clear hu2 hR2 hb2
 have hsg := bX hu3
 rw [hw3] at hsg
 clear hu3
 go_wp2_with fail
 go_at_call 70
 refine hsg.mono ?_
 clear hsg
 rintro e w4 ⟨y3, o3, rfl, bR, lY, ho3⟩
 rw [← hw3] at ho3
 replace hw3 := Lib.hid hw3
 have cu : aa w4 w2.heap.size _ := dB.only ho3 (by omega)
 have dR : aa w4 w.heap.size _ := aM.only ho3 (by omega)
 have hb4 : Hid (Below w.heap.size w w4) := hb3.out.trans (ho3.below (by omega))
 replace bR := Lib.hid bR
 clear dB aM hb3 ho3
 have d0 := ay cu 1 _ rfl
 have d1 := cu.free 1
 obtain ⟨w5, bn⟩ : ∃ v, v = w4.setCell ⟨w2.heap.size, 1, none⟩ (.int .i64 y3) := ⟨_, rfl⟩
 have gB : aa w5 w2.heap.size ⟨6, y3, 0, 0, 0, 0, false, 0, 0⟩ := by rw [bn]; exact cu.set _ _ _ rfl
 have gD : aa w5 w.heap.size ag := by rw [bn]; exact dR.aN _ _ (by omega)
 have hb5 : Hid (Below w.heap.size w w5) := by show Below _ _ _; rw [bn]; exact dn hb4.out (by omega) _ _
 generalize hx : (⟨6, y3, 0, 0, 0, 0, false, 0, 0⟩ : Rq) = x at *
 have lR := aG x
 have zR := bL
 obtain ⟨k9, aK⟩ : ∃ k, k = 9 := ⟨_, rfl⟩
 rw [← aK] at lR zR
 replace aK := Lib.hid aK
 have hld := aS gB lR
 obtain ⟨hst, fA⟩ := gD.store x
 have hb6 : Hid (Below w.heap.size w (w5.setRow w.heap.size (encR x).toArray)) := dS hb5.out (Nat.le_refl _) _
 replace hx := Lib.hid hx
 rw [bn] at hld hst
 go_wp2_with fail
 rw [← bn]
 refine bg rfl rfl rfl fA Tryz.underlying28 rfl (by kernel_rfl) ⟨x, rfl, ?_, hb6.out⟩
 first | exact dz 6 (by decide) hc bR.out | (rw [← hx.out]; exact dz 6 (by decide) hc bR.out)
theorem xK {b off n cap : Nat} {w : World} {c0 c1 : UInt8} {t : List UInt8} (hc : c1.toNat = 7) (hn : n = t.length + 2) (dL : n ≤ 64) (hcap : n ≤ cap) (hcm : cap ≤ maxLen) (hr : bJ w (.slice (some ⟨b, off + 1, none⟩) (n - 1) (cap - 1)) (c1 :: t)) :
 Calls Tryz.prog 35 #[.slice (some ⟨b, off, none⟩) n cap] w fun e w' => ∃ x, e = .returned (.agg (encR x).toArray) ∧ bq (c0 :: c1 :: t) x ∧ Below w.heap.size w w' := by
 have hcx : Hid ((c1.toNat : Int) = 7) := by show _ = _; rw [hc]; rfl
 have j6 : cap ≤ 9223372036854775807 := by unfold maxLen at hcm; omega
 have hn1 : 1 ≤ n := by omega
 have hc1 : ¬ cap = 1 := by omega
 have hc2 : 1 < cap := by omega
 have hc3 : ¬ cap - 1 = 0 := by omega
 have hrd := dx _ (hr.keeps (w' := w.alloc (.cells #[.int .i64 0, .int .i64 0, .int .i64 0, .int .i64 0, .int .i64 0, .int .i64 0, .bool false, .int .i64 0, .int .i64 0] 28)) (dW.dZ ((Below.refl _ _).alloc (Nat.le_refl _) _))) (by simp; omega)
 replace hn := Lib.hid hn
 obtain ⟨wA, ah⟩ : ∃ wA, wA = w.alloc (.cells #[.int .i64 0, .int .i64 0, .int .i64 0, .int .i64 0, .int .i64 0, .int .i64 0, .bool false, .int .i64 0, .int .i64 0] 28) := ⟨_, rfl⟩
 have bN : Hid (Below w.heap.size w wA) := by show Below _ _ _; rw [ah]; exact (Below.refl _ _).alloc (Nat.le_refl _) _
 have hsA : wA.heap.size = w.heap.size + 1 := by rw [ah]; simp
 have dA : aa wA w.heap.size ag := by rw [ah]; exact heap_alloc_new w _
 clear hr hcm
 go_enter Tryz.func35, Tryz.ntmps35
 go_wp2_with fail
 go_at_call 68
 refine hrd.mono ?_
 clear hrd
 rw [← ah]
 rintro e w1 ⟨rfl, hu1, he1⟩
 rw [hsA] at hu1
 have aT : aa w1 w.heap.size ag := dA.ext he1 (by omega)
 have hb1 : Hid (Below w.heap.size w w1) := bN.out.trans (he1.mono (by omega))
 have hs1 : w.heap.size + 1 < w1.heap.size := hu1.lt
 replace ah := Lib.hid ah
 clear he1 dA bN
 rw [hsA]
 clear hsA
 have hby := dw hu1
 clear hu1
 go_wp2_with fail
 go_at_call 69
 refine hby.mono ?_
 clear hby
 rintro e w2 ⟨c, o1, rfl, ⟨rfl, rfl⟩, hu2, ho2⟩
 rw [hcx.out]
 have hR2 : aa w2 w.heap.size ag := aT.only ho2 (by omega)
 have hb2 : Hid (Below w.heap.size w w2) := hb1.out.trans (ho2.below (by omega))
 have hs2 : w.heap.size + 1 < w2.heap.size := by rw [ho2.size]; exact hs1
 clear aT hb1 ho2 hs1
 obtain ⟨w3, hw3⟩ : ∃ w3, w3 = w2.alloc (.cells #[.int .i64 7, .int .i64 0, .int .i64 0, .int .i64 0, .int .i64 0, .int .i64 0, .bool false, .int .i64 0, .int .i64 0] 28) := ⟨_, rfl⟩
 have hu3 : RU w3 (w.heap.size + 1) (some t) := by rw [hw3]; exact hu2.ext ((Below.refl _ _).alloc (Nat.le_refl _) _)
 have dB : aa w3 w2.heap.size ⟨7, 0, 0, 0, 0, 0, false, 0, 0⟩ := by rw [hw3]; exact heap_alloc_new w2 _
 have aM : aa w3 w.heap.size ag := by rw [hw3]; exact hR2.past _
 have hb3 : Hid (Below w.heap.size w w3) := by show Below _ _ _; rw [hw3]; exact hb2.out.alloc (by omega) _
 clear hu2 hR2 hb2
 have hsg := bX hu3
 rw [hw3] at hsg
 clear hu3
 go_wp2_with fail
 go_at_call 70
 refine hsg.mono ?_
 clear hsg
 rintro e w4 ⟨y3, o3, rfl, bR, lY, ho3⟩
 rw [← hw3] at ho3
 replace hw3 := Lib.hid hw3
 have cu : aa w4 w2.heap.size _ := dB.only ho3 (by omega)
 have dR : aa w4 w.heap.size _ := aM.only ho3 (by omega)
 have hb4 : Hid (Below w.heap.size w w4) := hb3.out.trans (ho3.below (by omega))
 replace bR := Lib.hid bR
 clear dB aM hb3 ho3
 have d0 := ay cu 7 _ rfl
 have d1 := cu.free 7
 obtain ⟨w5, bn⟩ : ∃ v, v = w4.setCell ⟨w2.heap.size, 7, none⟩ (.int .i64 y3) := ⟨_, rfl⟩
 have gB : aa w5 w2.heap.size ⟨7, 0, 0, 0, 0, 0, false, y3, 0⟩ := by rw [bn]; exact cu.set _ _ _ rfl
 have gD : aa w5 w.heap.size ag := by rw [bn]; exact dR.aN _ _ (by omega)
 have hb5 : Hid (Below w.heap.size w w5) := by show Below _ _ _; rw [bn]; exact dn hb4.out (by omega) _ _
 generalize hx : (⟨7, 0, 0, 0, 0, 0, false, y3, 0⟩ : Rq) = x at *
 have lR := aG x
 have zR := bL
 obtain ⟨k9, aK⟩ : ∃ k, k = 9 := ⟨_, rfl⟩
 rw [← aK] at lR zR
 replace aK := Lib.hid aK
 have hld := aS gB lR
 obtain ⟨hst, fA⟩ := gD.store x
 have hb6 : Hid (Below w.heap.size w (w5.setRow w.heap.size (encR x).toArray)) := dS hb5.out (Nat.le_refl _) _
 replace hx := Lib.hid hx
 rw [bn] at hld hst
 go_wp2_with fail
 rw [← bn]
 refine bg rfl rfl rfl fA Tryz.underlying28 rfl (by kernel_rfl) ⟨x, rfl, ?_, hb6.out⟩
 first | exact jd 7 (by decide) hc bR.out | (rw [← hx.out]; exact jd 7 (by decide) hc bR.out)
theorem xL {b off n cap : Nat} {w : World} {c0 c1 : UInt8} {t : List UInt8} (hc : c1.toNat = 8) (hn : n = t.length + 2) (dL : n ≤ 64) (hcap : n ≤ cap) (hcm : cap ≤ maxLen) (hr : bJ w (.slice (some ⟨b, off + 1, none⟩) (n - 1) (cap - 1)) (c1 :: t)) :
 Calls Tryz.prog 35 #[.slice (some ⟨b, off, none⟩) n cap] w fun e w' => ∃ x, e = .returned (.agg (encR x).toArray) ∧ bq (c0 :: c1 :: t) x ∧ Below w.heap.size w w' := by
 have hcx : Hid ((c1.toNat : Int) = 8) := by show _ = _; rw [hc]; rfl
 have j6 : cap ≤ 9223372036854775807 := by unfold maxLen at hcm; omega
 have hn1 : 1 ≤ n := by omega
 have hc1 : ¬ cap = 1 := by omega
 have hc2 : 1 < cap := by omega
 have hc3 : ¬ cap - 1 = 0 := by omega
 have hrd := dx _ (hr.keeps (w' := w.alloc (.cells #[.int .i64 0, .int .i64 0, .int .i64 0, .int .i64 0, .int .i64 0, .int .i64 0, .bool false, .int .i64 0, .int .i64 0] 28)) (dW.dZ ((Below.refl _ _).alloc (Nat.le_refl _) _))) (by simp; omega)
 replace hn := Lib.hid hn
 obtain ⟨wA, ah⟩ : ∃ wA, wA = w.alloc (.cells #[.int .i64 0, .int .i64 0, .int .i64 0, .int .i64 0, .int .i64 0, .int .i64 0, .bool false, .int .i64 0, .int .i64 0] 28) := ⟨_, rfl⟩
 have bN : Hid (Below w.heap.size w wA) := by show Below _ _ _; rw [ah]; exact (Below.refl _ _).alloc (Nat.le_refl _) _
 have hsA : wA.heap.size = w.heap.size + 1 := by rw [ah]; simp
 have dA : aa wA w.heap.size ag := by rw [ah]; exact heap_alloc_new w _
 clear hr hcm
 go_enter Tryz.func35, Tryz.ntmps35
 go_wp2_with fail
 go_at_call 68
 refine hrd.mono ?_
 clear hrd
 rw [← ah]
 rintro e w1 ⟨rfl, hu1, he1⟩
 rw [hsA] at hu1
 have aT : aa w1 w.heap.size ag := dA.ext he1 (by omega)
 have hb1 : Hid (Below w.heap.size w w1) := bN.out.trans (he1.mono (by omega))
 have hs1 : w.heap.size + 1 < w1.heap.size := hu1.lt
 replace ah := Lib.hid ah
 clear he1 dA bN
 rw [hsA]
 clear hsA
 have hby := dw hu1
 clear hu1
 go_wp2_with fail
 go_at_call 69
 refine hby.mono ?_
 clear hby
 rintro e w2 ⟨c, o1, rfl, ⟨rfl, rfl⟩, hu2, ho2⟩
 rw [hcx.out]
 have hR2 : aa w2 w.heap.size ag := aT.only ho2 (by omega)
 have hb2 : Hid (Below w.heap.size w w2) := hb1.out.trans (ho2.below (by omega))
 have hs2 : w.heap.size + 1 < w2.heap.size := by rw [ho2.size]; exact hs1
 clear aT hb1 ho2 hs1
 obtain ⟨w3, hw3⟩ : ∃ w3, w3 = w2.alloc (.cells #[.int .i64 8, .int .i64 0, .int .i64 0, .int .i64 0, .int .i64 0, .int .i64 0, .bool false, .int .i64 0, .int .i64 0] 28) := ⟨_, rfl⟩
 have hu3 : RU w3 (w.heap.size + 1) (some t) := by rw [hw3]; exact hu2.ext ((Below.refl _ _).alloc (Nat.le_refl _) _)
 have dB : aa w3 w2.heap.size ⟨8, 0, 0, 0, 0, 0, false, 0, 0⟩ := by rw [hw3]; exact heap_alloc_new w2 _
 have aM : aa w3 w.heap.size ag := by rw [hw3]; exact hR2.past _
 have hb3 : Hid (Below w.heap.size w w3) := by show Below _ _ _; rw [hw3]; exact hb2.out.alloc (by omega) _
 clear hu2 hR2 hb2
 have hsg := bX hu3
 rw [hw3] at hsg
 clear hu3
 go_wp2_with fail
 go_at_call 70
 refine hsg.mono ?_
 clear hsg
 rintro e w4 ⟨y3, o3, rfl, bR, lY, ho3⟩
 rw [← hw3] at ho3
 replace hw3 := Lib.hid hw3
 have cu : aa w4 w2.heap.size _ := dB.only ho3 (by omega)
 have dR : aa w4 w.heap.size _ := aM.only ho3 (by omega)
 have hb4 : Hid (Below w.heap.size w w4) := hb3.out.trans (ho3.below (by omega))
 replace bR := Lib.hid bR
 clear dB aM hb3 ho3
 have d0 := ay cu 7 _ rfl
 have d1 := cu.free 7
 obtain ⟨w5, bn⟩ : ∃ v, v = w4.setCell ⟨w2.heap.size, 7, none⟩ (.int .i64 y3) := ⟨_, rfl⟩
 have gB : aa w5 w2.heap.size ⟨8, 0, 0, 0, 0, 0, false, y3, 0⟩ := by rw [bn]; exact cu.set _ _ _ rfl
 have gD : aa w5 w.heap.size ag := by rw [bn]; exact dR.aN _ _ (by omega)
 have hb5 : Hid (Below w.heap.size w w5) := by show Below _ _ _; rw [bn]; exact dn hb4.out (by omega) _ _
 generalize hx : (⟨8, 0, 0, 0, 0, 0, false, y3, 0⟩ : Rq) = x at *
 have lR := aG x
 have zR := bL
 obtain ⟨k9, aK⟩ : ∃ k, k = 9 := ⟨_, rfl⟩
 rw [← aK] at lR zR
 replace aK := Lib.hid aK
 have hld := aS gB lR
 obtain ⟨hst, fA⟩ := gD.store x
 have hb6 : Hid (Below w.heap.size w (w5.setRow w.heap.size (encR x).toArray)) := dS hb5.out (Nat.le_refl _) _
 replace hx := Lib.hid hx
 rw [bn] at hld hst
 go_wp2_with fail
 rw [← bn]
 refine bg rfl rfl rfl fA Tryz.underlying28 rfl (by kernel_rfl) ⟨x, rfl, ?_, hb6.out⟩
 first | exact jd 8 (by decide) hc bR.out | (rw [← hx.out]; exact jd 8 (by decide) hc bR.out)
theorem xM {b off n cap : Nat} {w : World} {c0 c1 : UInt8} {t : List UInt8} (hc : c1.toNat = 9) (hn : n = t.length + 2) (dL : n ≤ 64) (hcap : n ≤ cap) (hcm : cap ≤ maxLen) (hr : bJ w (.slice (some ⟨b, off + 1, none⟩) (n - 1) (cap - 1)) (c1 :: t)) :
 Calls Tryz.prog 35 #[.slice (some ⟨b, off, none⟩) n cap] w fun e w' => ∃ x, e = .returned (.agg (encR x).toArray) ∧ bq (c0 :: c1 :: t) x ∧ Below w.heap.size w w' := by
 have hcx : Hid ((c1.toNat : Int) = 9) := by show _ = _; rw [hc]; rfl
 have j6 : cap ≤ 9223372036854775807 := by unfold maxLen at hcm; omega
 have hn1 : 1 ≤ n := by omega
 have hc1 : ¬ cap = 1 := by omega
 have hc2 : 1 < cap := by omega
 have hc3 : ¬ cap - 1 = 0 := by omega
 have hrd := dx _ (hr.keeps (w' := w.alloc (.cells #[.int .i64 0, .int .i64 0, .int .i64 0, .int .i64 0, .int .i64 0, .int .i64 0, .bool false, .int .i64 0, .int .i64 0] 28)) (dW.dZ ((Below.refl _ _).alloc (Nat.le_refl _) _))) (by simp; omega)
 replace hn := Lib.hid hn
 obtain ⟨wA, ah⟩ : ∃ wA, wA = w.alloc (.cells #[.int .i64 0, .int .i64 0, .int .i64 0, .int .i64 0, .int .i64 0, .int .i64 0, .bool false, .int .i64 0, .int .i64 0] 28) := ⟨_, rfl⟩
 have bN : Hid (Below w.heap.size w wA) := by show Below _ _ _; rw [ah]; exact (Below.refl _ _).alloc (Nat.le_refl _) _
 have hsA : wA.heap.size = w.heap.size + 1 := by rw [ah]; simp
 have dA : aa wA w.heap.size ag := by rw [ah]; exact heap_alloc_new w _
 clear hr hcm
 go_enter Tryz.func35, Tryz.ntmps35
 go_wp2_with fail
 go_at_call 68
 refine hrd.mono ?_
 clear hrd
 rw [← ah]
 rintro e w1 ⟨rfl, hu1, he1⟩
 rw [hsA] at hu1
 have aT : aa w1 w.heap.size ag := dA.ext he1 (by omega)
 have hb1 : Hid (Below w.heap.size w w1) := bN.out.trans (he1.mono (by omega))
 have hs1 : w.heap.size + 1 < w1.heap.size := hu1.lt
 replace ah := Lib.hid ah
 clear he1 dA bN
 rw [hsA]
 clear hsA
 have hby := dw hu1
 clear hu1
 go_wp2_with fail
 go_at_call 69
 refine hby.mono ?_
 clear hby
 rintro e w2 ⟨c, o1, rfl, ⟨rfl, rfl⟩, hu2, ho2⟩
 rw [hcx.out]
 have hR2 : aa w2 w.heap.size ag := aT.only ho2 (by omega)
 have hb2 : Hid (Below w.heap.size w w2) := hb1.out.trans (ho2.below (by omega))
 have hs2 : w.heap.size + 1 < w2.heap.size := by rw [ho2.size]; exact hs1
 clear aT hb1 ho2 hs1
 obtain ⟨w3, hw3⟩ : ∃ w3, w3 = w2.alloc (.cells #[.int .i64 9, .int .i64 0, .int .i64 0, .int .i64 0, .int .i64 0, .int .i64 0, .bool false, .int .i64 0, .int .i64 0] 28) := ⟨_, rfl⟩
 have hu3 : RU w3 (w.heap.size + 1) (some t) := by rw [hw3]; exact hu2.ext ((Below.refl _ _).alloc (Nat.le_refl _) _)
 have dB : aa w3 w2.heap.size ⟨9, 0, 0, 0, 0, 0, false, 0, 0⟩ := by rw [hw3]; exact heap_alloc_new w2 _
 have aM : aa w3 w.heap.size ag := by rw [hw3]; exact hR2.past _
 have hb3 : Hid (Below w.heap.size w w3) := by show Below _ _ _; rw [hw3]; exact hb2.out.alloc (by omega) _
 clear hu2 hR2 hb2
 have hsg := bX hu3
 rw [hw3] at hsg
 clear hu3
 go_wp2_with fail
 go_at_call 70
 refine hsg.mono ?_
 clear hsg
 rintro e w4 ⟨y3, o3, rfl, bR, lY, ho3⟩
 rw [← hw3] at ho3
 replace hw3 := Lib.hid hw3
 have cu : aa w4 w2.heap.size _ := dB.only ho3 (by omega)
 have dR : aa w4 w.heap.size _ := aM.only ho3 (by omega)
 have hb4 : Hid (Below w.heap.size w w4) := hb3.out.trans (ho3.below (by omega))
 replace bR := Lib.hid bR
 clear dB aM hb3 ho3
 have d0 := ay cu 8 _ rfl
 have d1 := cu.free 8
 obtain ⟨w5, bn⟩ : ∃ v, v = w4.setCell ⟨w2.heap.size, 8, none⟩ (.int .i64 y3) := ⟨_, rfl⟩
 have gB : aa w5 w2.heap.size ⟨9, 0, 0, 0, 0, 0, false, 0, y3⟩ := by rw [bn]; exact cu.set _ _ _ rfl
 have gD : aa w5 w.heap.size ag := by rw [bn]; exact dR.aN _ _ (by omega)
 have hb5 : Hid (Below w.heap.size w w5) := by show Below _ _ _; rw [bn]; exact dn hb4.out (by omega) _ _
 generalize hx : (⟨9, 0, 0, 0, 0, 0, false, 0, y3⟩ : Rq) = x at *
 have lR := aG x
 have zR := bL
 obtain ⟨k9, aK⟩ : ∃ k, k = 9 := ⟨_, rfl⟩
 rw [← aK] at lR zR
 replace aK := Lib.hid aK
 have hld := aS gB lR
 obtain ⟨hst, fA⟩ := gD.store x
 have hb6 : Hid (Below w.heap.size w (w5.setRow w.heap.size (encR x).toArray)) := dS hb5.out (Nat.le_refl _) _
 replace hx := Lib.hid hx
 rw [bn] at hld hst
 go_wp2_with fail
 rw [← bn]
 refine bg rfl rfl rfl fA Tryz.underlying28 rfl (by kernel_rfl) ⟨x, rfl, ?_, hb6.out⟩
 first | exact qj hc bR.out | (rw [← hx.out]; exact qj hc bR.out)
theorem xN {b off n cap : Nat} {w : World} {c0 c1 : UInt8} {t : List UInt8} (hc : c1.toNat = 1) (hn : n = t.length + 2) (dL : n ≤ 64) (hcap : n ≤ cap) (hcm : cap ≤ maxLen) (hr : bJ w (.slice (some ⟨b, off + 1, none⟩) (n - 1) (cap - 1)) (c1 :: t)) :
 Calls Tryz.prog 35 #[.slice (some ⟨b, off, none⟩) n cap] w fun e w' => ∃ x, e = .returned (.agg (encR x).toArray) ∧ bq (c0 :: c1 :: t) x ∧ Below w.heap.size w w' := by
 have hcx : Hid ((c1.toNat : Int) = 1) := by show _ = _; rw [hc]; rfl
 have j6 : cap ≤ 9223372036854775807 := by unfold maxLen at hcm; omega
 have hn1 : 1 ≤ n := by omega
 have hc1 : ¬ cap = 1 := by omega
 have hc2 : 1 < cap := by omega
 have hc3 : ¬ cap - 1 = 0 := by omega
 have hrd := dx _ (hr.keeps (w' := w.alloc (.cells #[.int .i64 0, .int .i64 0, .int .i64 0, .int .i64 0, .int .i64 0, .int .i64 0, .bool false, .int .i64 0, .int .i64 0] 28)) (dW.dZ ((Below.refl _ _).alloc (Nat.le_refl _) _))) (by simp; omega)
 replace hn := Lib.hid hn
 obtain ⟨wA, ah⟩ : ∃ wA, wA = w.alloc (.cells #[.int .i64 0, .int .i64 0, .int .i64 0, .int .i64 0, .int .i64 0, .int .i64 0, .bool false, .int .i64 0, .int .i64 0] 28) := ⟨_, rfl⟩
 have bN : Hid (Below w.heap.size w wA) := by show Below _ _ _; rw [ah]; exact (Below.refl _ _).alloc (Nat.le_refl _) _
 have hsA : wA.heap.size = w.heap.size + 1 := by rw [ah]; simp
 have dA : aa wA w.heap.size ag := by rw [ah]; exact heap_alloc_new w _
 clear hr hcm
 go_enter Tryz.func35, Tryz.ntmps35
 go_wp2_with fail
 go_at_call 68
 refine hrd.mono ?_
 clear hrd
 rw [← ah]
 rintro e w1 ⟨rfl, hu1, he1⟩
 rw [hsA] at hu1
 have aT : aa w1 w.heap.size ag := dA.ext he1 (by omega)
 have hb1 : Hid (Below w.heap.size w w1) := bN.out.trans (he1.mono (by omega))
 have hs1 : w.heap.size + 1 < w1.heap.size := hu1.lt
 replace ah := Lib.hid ah
 clear he1 dA bN
 rw [hsA]
 clear hsA
 have hby := dw hu1
 clear hu1
 go_wp2_with fail
 go_at_call 69
 refine hby.mono ?_
 clear hby
 rintro e w2 ⟨c, o1, rfl, ⟨rfl, rfl⟩, hu2, ho2⟩
 rw [hcx.out]
 have hR2 : aa w2 w.heap.size ag := aT.only ho2 (by omega)
 have hb2 : Hid (Below w.heap.size w w2) := hb1.out.trans (ho2.below (by omega))
 have hs2 : w.heap.size + 1 < w2.heap.size := by rw [ho2.size]; exact hs1
 clear aT hb1 ho2 hs1
 obtain ⟨w3, hw3⟩ : ∃ w3, w3 = w2.alloc (.cells #[.int .i64 1, .int .i64 0, .int .i64 0, .int .i64 0, .int .i64 0, .int .i64 0, .bool false, .int .i64 0, .int .i64 0] 28) := ⟨_, rfl⟩
 have hu3 : RU w3 (w.heap.size + 1) (some t) := by rw [hw3]; exact hu2.ext ((Below.refl _ _).alloc (Nat.le_refl _) _)
 have dB : aa w3 w2.heap.size ⟨1, 0, 0, 0, 0, 0, false, 0, 0⟩ := by rw [hw3]; exact heap_alloc_new w2 _
 have aM : aa w3 w.heap.size ag := by rw [hw3]; exact hR2.past _
 have hb3 : Hid (Below w.heap.size w w3) := by show Below _ _ _; rw [hw3]; exact hb2.out.alloc (by omega) _
 clear hu2 hR2 hb2
 have hsg := bX hu3
 rw [hw3] at hsg
 clear hu3
 go_wp2_with fail
 go_at_call 70
 refine hsg.mono ?_
 clear hsg
 rintro e w4 ⟨y3, o3, rfl, bR, lY, ho3⟩
 rw [← hw3] at ho3
 replace hw3 := Lib.hid hw3
 have cu : aa w4 w2.heap.size _ := dB.only ho3 (by omega)
 have dR : aa w4 w.heap.size _ := aM.only ho3 (by omega)
 have hb4 : Hid (Below w.heap.size w w4) := hb3.out.trans (ho3.below (by omega))
 replace bR := Lib.hid bR
 clear dB aM hb3 ho3
 have hsg := bX lY
 clear lY
 go_wp2_with fail
 go_at_call 70
 refine hsg.mono ?_
 clear hsg
 rintro e w5 ⟨y4, o4, rfl, wV, A9, bO⟩
 have gB : aa w5 w2.heap.size _ := cu.only bO (by omega)
 have gD : aa w5 w.heap.size _ := dR.only bO (by omega)
 have hb5 : Hid (Below w.heap.size w w5) := hb4.out.trans (bO.below (by omega))
 replace wV := Lib.hid wV
 clear cu dR hb4 bO
 have hsg := bX A9
 clear A9
 go_wp2_with fail
 go_at_call 70
 refine hsg.mono ?_
 clear hsg
 rintro e w6 ⟨y5, o5, rfl, hS5, Ba, gq⟩
 have Bb : aa w6 w2.heap.size _ := gB.only gq (by omega)
 have fA : aa w6 w.heap.size _ := gD.only gq (by omega)
 have hb6 : Hid (Below w.heap.size w w6) := hb5.out.trans (gq.below (by omega))
 replace hS5 := Lib.hid hS5
 clear gB gD hb5 gq
 have hsg := bX Ba
 clear Ba
 go_wp2_with fail
 go_at_call 70
 refine hsg.mono ?_
 clear hsg
 rintro e w7 ⟨y6, o6, rfl, wW, Bc, jZ⟩
 have lZ : aa w7 w2.heap.size _ := Bb.only jZ (by omega)
 have Bd : aa w7 w.heap.size _ := fA.only jZ (by omega)
 have fO : Hid (Below w.heap.size w w7) := hb6.out.trans (jZ.below (by omega))
 replace wW := Lib.hid wW
 clear Bb fA hb6 jZ
 have e2 := ay lZ 2 _ rfl
 have e3 := ay lZ 3 _ rfl
 have e4 := ay lZ 4 _ rfl
 have e5 := ay lZ 5 _ rfl
 have f2 := lZ.free 2
 have f3 := lZ.free 3
 have f4 := lZ.free 4
 have f5 := lZ.free 5
 obtain ⟨w8, hw8⟩ : ∃ v, v = (((w7.setCell ⟨w2.heap.size, 2, none⟩ (.int .i64 y3)).setCell ⟨w2.heap.size, 3, none⟩ (.int .i64 y4)).setCell ⟨w2.heap.size, 4, none⟩ (.int .i64 y5)).setCell ⟨w2.heap.size, 5, none⟩ (.int .i64 y6) := ⟨_, rfl⟩
 have Be : aa w8 w2.heap.size ⟨1, 0, y3, y4, y5, y6, false, 0, 0⟩ := by
  rw [hw8]
  exact (((lZ.set 2 _ ⟨1, 0, y3, 0, 0, 0, false, 0, 0⟩ rfl).set 3 _ ⟨1, 0, y3, y4, 0, 0, false, 0, 0⟩ rfl).set 4 _ ⟨1, 0, y3, y4, y5, 0, false, 0, 0⟩ rfl).set 5 _ _ rfl
 have Bf : aa w8 w.heap.size ag := by rw [hw8]; exact (((Bd.aN _ _ (by omega)).aN _ _ (by omega)).aN _ _ (by omega)).aN _ _ (by omega)
 have eu : Hid (Below w.heap.size w w8) := by show Below _ _ _; rw [hw8]; exact dn (dn (dn (dn fO.out (by omega) _ _) (by omega) _ _) (by omega) _ _) (by omega) _ _
 have Bg : RU w8 (w.heap.size + 1) o6 := by rw [hw8]; exact (((Bc.aN _ _ (by omega)).aN _ _ (by omega)).aN _ _ (by omega)).aN _ _ (by omega)
 have hbl := xy Bg
 rw [hw8] at hbl
 clear Bc Bg Bd fO lZ
 go_wp2_with fail
 go_at_call 71
 refine hbl.mono ?_
 clear hbl e2 e3 e4 e5 f2 f3 f4 f5
 rintro e w9 ⟨y8, o8, rfl, yP, CK, xO⟩
 rw [← hw8] at xO
 replace hw8 := Lib.hid hw8
 have zS : aa w9 w2.heap.size _ := Be.only xO (by omega)
 have Ca : aa w9 w.heap.size _ := Bf.only xO (by omega)
 have eD : Hid (Below w.heap.size w w9) := eu.out.trans (xO.below (by omega))
 replace yP := Lib.hid yP
 clear Be Bf eu xO
 have d0 := ay zS 6 _ rfl
 have d1 := zS.free 6
 obtain ⟨j3, ql⟩ : ∃ v, v = w9.setCell ⟨w2.heap.size, 6, none⟩ (.bool y8) := ⟨_, rfl⟩
 have Bh : aa j3 w2.heap.size ⟨1, 0, y3, y4, y5, y6, y8, 0, 0⟩ := by rw [ql]; exact zS.set _ _ _ rfl
 have Bi : aa j3 w.heap.size ag := by rw [ql]; exact Ca.aN _ _ (by omega)
 have je : Hid (Below w.heap.size w j3) := by show Below _ _ _; rw [ql]; exact dn eD.out (by omega) _ _
 generalize hx : (⟨1, 0, y3, y4, y5, y6, y8, 0, 0⟩ : Rq) = x at *
 have lR := aG x
 have zR := bL
 obtain ⟨k9, aK⟩ : ∃ k, k = 9 := ⟨_, rfl⟩
 rw [← aK] at lR zR
 replace aK := Lib.hid aK
 have hld := aS Bh lR
 obtain ⟨hst, fA⟩ := Bi.store x
 have hb6 : Hid (Below w.heap.size w (j3.setRow w.heap.size (encR x).toArray)) := dS je.out (Nat.le_refl _) _
 replace hx := Lib.hid hx
 rw [ql] at hld hst
 go_wp2_with fail
 rw [← ql]
 refine bg rfl rfl rfl fA Tryz.underlying28 rfl (by kernel_rfl) ⟨x, rfl, ?_, hb6.out⟩
 first | exact qi hc bR.out wV.out hS5.out wW.out yP.out | (rw [← hx.out]; exact qi hc bR.out wV.out hS5.out wW.out yP.out)
theorem uF {b off n cap : Nat} {w : World} {c0 c1 : UInt8} {t : List UInt8} {m : Nat} (hc : c1.toNat = m) (h1 : m ≠ 1) (h2 : m ≠ 2) (h3 : m ≠ 3) (h4 : m ≠ 4) (h5 : m ≠ 5) (h6 : m ≠ 6) (h7 : m ≠ 7) (h8 : m ≠ 8) (h9 : m ≠ 9) (hn : n = t.length + 2) (dL : n ≤ 64) (hcap : n ≤ cap) (hcm : cap ≤ maxLen) (hr : bJ w (.slice (some ⟨b, off + 1, none⟩) (n - 1) (cap - 1)) (c1 :: t)) :
 Calls Tryz.prog 35 #[.slice (some ⟨b, off, none⟩) n cap] w fun e w' => ∃ x, e = .returned (.agg (encR x).toArray) ∧ bq (c0 :: c1 :: t) x ∧ Below w.heap.size w w' := by
 have hcx : Hid ((c1.toNat : Int) = (m : Int)) := by show _ = _; rw [hc]
 have t1 : ((m : Int) == 1) = false := beq_eq_false_iff_ne.2 (by omega)
 have t2 : ((m : Int) == 2) = false := beq_eq_false_iff_ne.2 (by omega)
 have t3 : ((m : Int) == 3) = false := beq_eq_false_iff_ne.2 (by omega)
 have t4 : ((m : Int) == 4) = false := beq_eq_false_iff_ne.2 (by omega)
 have t5 : ((m : Int) == 5) = false := beq_eq_false_iff_ne.2 (by omega)
 have t6 : ((m : Int) == 6) = false := beq_eq_false_iff_ne.2 (by omega)
 have t7 : ((m : Int) == 7) = false := beq_eq_false_iff_ne.2 (by omega)
 have t8 : ((m : Int) == 8) = false := beq_eq_false_iff_ne.2 (by omega)
 have t9 : ((m : Int) == 9) = false := beq_eq_false_iff_ne.2 (by omega)
 have hm : (m : Int) < 256 := by have := c1.toNat_lt; omega
 have hwr : IntKind.i64.wrap (m : Int) = (m : Int) := by rw [IntKind.wrap_i64]; omega
 have hre : bq (c0 :: c1 :: t) ⟨m, 0, 0, 0, 0, 0, false, 0, 0⟩ := uE hc h1 h2 h3 h4 h5 h6 h7 h8 h9
 replace hre := Lib.hid hre
 clear h1 h2 h3 h4 h5 h6 h7 h8 h9
 have j6 : cap ≤ 9223372036854775807 := by unfold maxLen at hcm; omega
 have hn1 : 1 ≤ n := by omega
 have hc1 : ¬ cap = 1 := by omega
 have hc2 : 1 < cap := by omega
 have hc3 : ¬ cap - 1 = 0 := by omega
 have hrd := dx _ (hr.keeps (w' := w.alloc (.cells #[.int .i64 0, .int .i64 0, .int .i64 0, .int .i64 0, .int .i64 0, .int .i64 0, .bool false, .int .i64 0, .int .i64 0] 28)) (dW.dZ ((Below.refl _ _).alloc (Nat.le_refl _) _))) (by simp; omega)
 replace hn := Lib.hid hn
 obtain ⟨wA, ah⟩ : ∃ wA, wA = w.alloc (.cells #[.int .i64 0, .int .i64 0, .int .i64 0, .int .i64 0, .int .i64 0, .int .i64 0, .bool false, .int .i64 0, .int .i64 0] 28) := ⟨_, rfl⟩
 have bN : Hid (Below w.heap.size w wA) := by show Below _ _ _; rw [ah]; exact (Below.refl _ _).alloc (Nat.le_refl _) _
 have hsA : wA.heap.size = w.heap.size + 1 := by rw [ah]; simp
 have dA : aa wA w.heap.size ag := by rw [ah]; exact heap_alloc_new w _
 clear hr hcm
 go_enter Tryz.func35, Tryz.ntmps35
 go_wp2_with fail
 go_at_call 68
 refine hrd.mono ?_
 clear hrd
 rw [← ah]
 rintro e w1 ⟨rfl, hu1, he1⟩
 rw [hsA] at hu1
 have aT : aa w1 w.heap.size ag := dA.ext he1 (by omega)
 have hb1 : Hid (Below w.heap.size w w1) := bN.out.trans (he1.mono (by omega))
 have hs1 : w.heap.size + 1 < w1.heap.size := hu1.lt
 replace ah := Lib.hid ah
 clear he1 dA bN
 rw [hsA]
 clear hsA
 have hby := dw hu1
 clear hu1
 go_wp2_with fail
 go_at_call 69
 refine hby.mono ?_
 clear hby
 rintro e w2 ⟨c, o1, rfl, ⟨rfl, rfl⟩, hu2, ho2⟩
 rw [hcx.out]
 have hR2 : aa w2 w.heap.size ag := aT.only ho2 (by omega)
 have hb2 : Hid (Below w.heap.size w w2) := hb1.out.trans (ho2.below (by omega))
 have hs2 : w.heap.size + 1 < w2.heap.size := by rw [ho2.size]; exact hs1
 clear aT hb1 ho2 hs1
 obtain ⟨w3, hw3⟩ : ∃ w3, w3 = w2.alloc (.cells #[.int .i64 (m : Int), .int .i64 0, .int .i64 0, .int .i64 0, .int .i64 0, .int .i64 0, .bool false, .int .i64 0, .int .i64 0] 28) := ⟨_, rfl⟩
 have hu3 : RU w3 (w.heap.size + 1) (some t) := by rw [hw3]; exact hu2.ext ((Below.refl _ _).alloc (Nat.le_refl _) _)
 have dB : aa w3 w2.heap.size ⟨(m : Int), 0, 0, 0, 0, 0, false, 0, 0⟩ := by rw [hw3]; exact heap_alloc_new w2 _
 have aM : aa w3 w.heap.size ag := by rw [hw3]; exact hR2.past _
 have hb3 : Hid (Below w.heap.size w w3) := by show Below _ _ _; rw [hw3]; exact hb2.out.alloc (by omega) _
 clear hu2 hR2 hb2
 generalize hx : (⟨(m : Int), 0, 0, 0, 0, 0, false, 0, 0⟩ : Rq) = x at *
 have lR := aG x
 have zR := bL
 obtain ⟨k9, aK⟩ : ∃ k, k = 9 := ⟨_, rfl⟩
 rw [← aK] at lR zR
 replace aK := Lib.hid aK
 have hld := aS dB lR
 obtain ⟨hst, fA⟩ := aM.store x
 have hb6 : Hid (Below w.heap.size w (w3.setRow w.heap.size (encR x).toArray)) := dS hb3.out (Nat.le_refl _) _
 replace hx := Lib.hid hx
 rw [hw3] at hld hst
 go_wp2_with fail
 rw [← hw3]
 refine bg rfl rfl rfl fA Tryz.underlying28 rfl (by kernel_rfl) ⟨x, rfl, ?_, hb6.out⟩
 first | exact hre.out | (rw [← hx.out]; exact hre.out)
theorem uG {b off n cap : Nat} {w : World} {c0 c1 : UInt8} {t : List UInt8} (hn : n = t.length + 2) (dL : n ≤ 64) (hcap : n ≤ cap) (hcm : cap ≤ maxLen) (hr : bJ w (.slice (some ⟨b, off + 1, none⟩) (n - 1) (cap - 1)) (c1 :: t)) :
 Calls Tryz.prog 35 #[.slice (some ⟨b, off, none⟩) n cap] w fun e w' => ∃ x, e = .returned (.agg (encR x).toArray) ∧ bq (c0 :: c1 :: t) x ∧ Below w.heap.size w w' := by
 by_cases h1 : c1.toNat = 1
 ·exact xN h1 hn dL hcap hcm hr
 by_cases h2 : c1.toNat = 2
 ·exact xz h2 hn dL hcap hcm hr
 by_cases h3 : c1.toNat = 3
 ·exact xG h3 hn dL hcap hcm hr
 by_cases h4 : c1.toNat = 4
 ·exact xH h4 hn dL hcap hcm hr
 by_cases h5 : c1.toNat = 5
 ·exact xI h5 hn dL hcap hcm hr
 by_cases h6 : c1.toNat = 6
 ·exact xJ h6 hn dL hcap hcm hr
 by_cases h7 : c1.toNat = 7
 ·exact xK h7 hn dL hcap hcm hr
 by_cases h8 : c1.toNat = 8
 ·exact xL h8 hn dL hcap hcm hr
 by_cases h9 : c1.toNat = 9
 ·exact xM h9 hn dL hcap hcm hr
 exact uF rfl h1 h2 h3 h4 h5 h6 h7 h8 h9 hn dL hcap hcm hr
end Go.Proofs.YtbdfpbknckghgaaGreat

namespace Go.Proofs.YtbdfpbknckghgaaGreat
theorem nE {p : Prop} (f : p := by
 refine bodyPost_ret (jf (b := w.heap.size) (x := ag) rfl rfl aM) rfl ?_
 exact ⟨ag, 4, rfl, hP.out, hb3.out⟩) : p := f
end Go.Proofs.YtbdfpbknckghgaaGreat
namespace Go.Proofs.YtbdfpbknckghgaaGreat
open Go.RowKit
theorem uH {w : World} {b off cap : Nat} {c : UInt8} {t : List UInt8} (h : ai cO 1 w (.slice (some ⟨b, off, none⟩) (t.length + 1) cap) (c :: t)) : bJ w (.slice (some ⟨b, off + 1, none⟩) t.length (cap - 1)) t := by
 have h1 := kK h (by simp)
 rcases h1 with ⟨h1, _⟩ | ⟨b', off', cap', h1, hc⟩
 ·cases h1
 ·cases h1
  refine .inr ⟨b, off + 1, cap - 1, rfl, fun i hi => ?_⟩
  have := hc (i + 1) (by simp; omega)
  rw [show off + 1 + i = off + (i + 1) by omega, this]
  simp [List.getD]
theorem jf {fn : Func} {q u : Tmp} {b : Nat} {tmps : Array Value} {w : World} {x : Rq} (h : fn.results = #[.cell q 28, .tmp u]) (ha : tmps.getD q undef = .pointer (some ⟨b, 0, none⟩)) (hb : aa w b x) :
 (results fn tmps).run Tryz.prog w = .ok (.tuple #[.agg (encR x).toArray, tmps.getD u undef]) w := by
 have h1 : Sem.run Tryz.prog (loadCells ⟨b, 0, none⟩ 9) w = .ok (encR x).toArray w := aS hb (aG x)
 rw [results_cell_tmp h, ha]
 simp only [loadVar, asAddr, Sem.run_bind, Sem.run_pure, Result.andThen_ok, yx, bL, h1, if_true]
theorem kU {w : World} {b i : Nat} {v : Value} {cs : Array Value} {t : TypeId} {fz : Nat × Nat} (h : w.heap[b]? = some (.cells cs t fz)) (hv : cs[i]? = some v) : w.setCell ⟨b, i, none⟩ v = w := by
 have hlt := ae h
 have h3 : cs.setIfInBounds i v = cs := by
  refine Array.ext (by simp) fun q h4 h5 => ?_
  rw [Array.getElem_setIfInBounds]
  ·by_cases eq : i = q
   ·subst eq
    rw [Array.getElem?_eq_getElem h5] at hv
    rw [if_pos rfl]
    exact (Option.some.inj hv).symm
   ·rw [if_neg eq]
 have e : ∀ F : Obj → Obj, F (.cells cs t fz) = .cells cs t fz → w.heap.modify b F = w.heap := fun F hF => by
  refine Array.ext (by simp) fun j h1 h2 => ?_
  rw [Array.getElem_modify]
  by_cases ej : b = j
  ·subst ej
   rw [Array.getElem?_eq_getElem hlt] at h
   replace h := Option.some.inj h
   rw [if_pos rfl, h, hF]
  ·rw [if_neg ej]
 unfold World.setCell
 rw [e _ (by simp [h3])]
theorem aa.zero {w : World} {g : Nat} {r : Rq} (h : aa w g r) (j : Nat) (u : Value) (hj : (encR r)[j]? = some u) : w.cell? ⟨g, j, none⟩ = some u ∧ w.frozen? ⟨g, j, none⟩ = false ∧ w.setCell ⟨g, j, none⟩ u = w := ⟨ay h j u hj, h.free j, kU h (by simpa using hj)⟩
def oK (l : List UInt8) (w : World) (e : Ending) (w' : World) : Prop := ∃ x q, e = .returned (.tuple #[.agg (encR x).toArray, .int .i64 q]) ∧ gM l x q ∧ Below w.heap.size w w'
section
variable {v : Value} {l : List UInt8} {w : World}
theorem rG (h : ai cO 1 w v l) (hl : l.length ≤ 100) (h64 : 64 < l.length) : Calls Tryz.prog 9 #[v] w (oK l w) := by
 obtain ⟨ao, cap, rfl, h1, h2, h3⟩ := h
 have hP : Hid (gM l ag 3) := .inl ⟨h64, rfl, rfl⟩
 obtain ⟨n, hn⟩ : ∃ n, n = l.length := ⟨_, rfl⟩
 rw [← hn] at hl h64 ⊢
 replace hn := Lib.hid hn
 clear h1 h2 h3
 have n1 : (64 : Int) < (n : Int) := by omega
 go_enter Tryz.func9, Tryz.ntmps9
 go_wp2_with fail
 (try simp only [Exit.inBlock, Exit.then])
 refine bodyPost_ret (jf (b := w.heap.size) (x := ag) rfl rfl (heap_alloc_new w _)) rfl ?_
 exact ⟨ag, 3, rfl, hP.out, (Below.refl _ _).alloc (Nat.le_refl _) _⟩
theorem qm (h : ai cO 1 w v l) (h3 : l.length < 3) : Calls Tryz.prog 9 #[v] w (oK l w) := by
 obtain ⟨ao, cap, rfl, h1, h2, _⟩ := h
 have hP : Hid (gM l ag 2) := .inr (.inl ⟨h3, rfl, rfl⟩)
 obtain ⟨n, hn⟩ : ∃ n, n = l.length := ⟨_, rfl⟩
 rw [← hn] at h3 ⊢
 replace hn := Lib.hid hn
 clear h1 h2
 have n1 : ¬ (64 : Int) < (n : Int) := by omega
 have n2 : (n : Int) < 3 := by omega
 go_enter Tryz.func9, Tryz.ntmps9
 go_wp2_with fail
 (try simp only [Exit.inBlock, Exit.then])
 refine bodyPost_ret (jf (b := w.heap.size) (x := ag) rfl rfl (heap_alloc_new w _)) rfl ?_
 exact ⟨ag, 2, rfl, hP.out, (Below.refl _ _).alloc (Nat.le_refl _) _⟩
theorem uI (h : ai cO 1 w v l) (h3 : 3 ≤ l.length) (h64 : l.length ≤ 64) : Calls Tryz.prog 9 #[v] w (oK l w) := by
 obtain ⟨n, hn⟩ : ∃ n, n = l.length := ⟨_, rfl⟩
 obtain ⟨c0, c1, t, rfl⟩ : ∃ c0 c1 t, l = c0 :: c1 :: t := by
  match l, h3 with
  | c0 :: c1 :: t, _ => exact ⟨c0, c1, t, rfl⟩
 obtain ⟨ao, cap, rfl, h1, h2, h4⟩ := id h
 obtain ⟨b, off, rfl, hlt, _⟩ := h4 (by omega)
 rw [← hn] at h1 h3 h64 ⊢
 have htn : n = t.length + 2 := hn
 obtain ⟨wA, ah⟩ : ∃ wA, wA = w.alloc (.cells #[.int .i64 0, .int .i64 0, .int .i64 0, .int .i64 0, .int .i64 0, .int .i64 0, .bool false, .int .i64 0, .int .i64 0] 28) := ⟨_, rfl⟩
 have bN : Hid (Below w.heap.size w wA) := by show Below _ _ _; rw [ah]; exact (Below.refl _ _).alloc (Nat.le_refl _) _
 have hsA : wA.heap.size = w.heap.size + 1 := by rw [ah]; simp
 have dA : aa wA w.heap.size ag := by rw [ah]; exact heap_alloc_new w _
 have oL := h.below bN.out
 have htl : bJ wA (.slice (some ⟨b, off + 1, none⟩) (n - 1) (cap - 1)) (c1 :: t) := by
  have := uH (t := c1 :: t) oL
  rw [show (c1 :: t).length = n - 1 by rw [htn]; simp] at this
  exact this
 have hgs := uG (c0 := c0) htn h64 h1 h2 htl
 rw [ah] at hgs
 have hlong : ¬ (64 : Int) < (n : Int) := by omega
 have hshort : ¬ (n : Int) < 3 := by omega
 generalize hl : c0 :: c1 :: t = l at *
 rw [← hn] at oL
 replace hn := Lib.hid hn
 replace htn := Lib.hid htn
 replace hl := Lib.hid hl
 clear h htl h1 h2 h4 hlt
 go_enter Tryz.func9, Tryz.ntmps9
 go_wp2_with fail
 go_at_call 35
 refine hgs.mono ?_
 clear hgs
 rw [← ah]
 rintro e w1 ⟨x, rfl, hx, he1⟩
 have aT : aa w1 w.heap.size ag := dA.ext he1 (by omega)
 have hb1 : Hid (Below w.heap.size w w1) := bN.out.trans (he1.mono (by omega))
 have hs1 : w.heap.size < w1.heap.size := aT.lt
 have xP := oL.below he1
 replace ah := Lib.hid ah
 clear he1 dA bN oL hsA
 have lR := aG x
 have hst := iC w1 w1.heap.size (encR x) (encR ag) 28 rfl rfl (mr x)
 rw [show (encR ag).toArray = #[.int .i64 0, .int .i64 0, .int .i64 0, .int .i64 0, .int .i64 0, .int .i64 0, .bool false, .int .i64 0, .int .i64 0] from rfl] at hst
 obtain ⟨w2, hw2⟩ : ∃ w2, w2 = w1.alloc (.cells (encR x).toArray 28) := ⟨_, rfl⟩
 have jY : aa w2 w1.heap.size x := by rw [hw2]; exact heap_alloc_new w1 _
 have hR2 : aa w2 w.heap.size ag := by rw [hw2]; exact aT.past _
 have hb2 : Hid (Below w.heap.size w w2) := by show Below _ _ _; rw [hw2]; exact hb1.out.alloc (by omega) _
 have hrow2 : ai cO 1 w2 (.slice (some ⟨b, off, none⟩) n cap) l := xP.below (by rw [hw2]; exact (Below.refl _ _).alloc (Nat.le_refl _) _)
 have hld := aS jY (aG x)
 rw [hw2] at hld
 replace hx := Lib.hid hx
 clear aT hb1 xP
 by_cases hrt : bu x = true
 ·have hput := su x w2 hx.out.1 hrt
  rw [hw2] at hput
  go_wp2_with fail
  go_at_call 36
  change Calls _ _ #[.agg (encR x).toArray] _ _
  refine hput.mono ?_
  clear hput hld hst
  rw [← hw2]
  rintro e w3 ⟨v3, rfl, hrow3, oM⟩
  have aM : aa w3 w.heap.size ag := hR2.below oM
  have dB : aa w3 w1.heap.size x := jY.below oM
  have hb3 : Hid (Below w.heap.size w w3) := hb2.out.trans (oM.mono hb2.out.size)
  have heq := uj hrow3 (hrow2.below oM)
  replace hw2 := Lib.hid hw2
  clear hR2 jY hb2 hrow2 hrow3 oM
  by_cases hel : fq x = l
  ·rw [decide_eq_true hel] at heq
   have hP : Hid (gM l x 0) := .inr (.inr ⟨by rw [← hn.out]; exact h3, by rw [← hn.out]; exact h64, .inl ⟨hx.out.1, hrt, hel, rfl⟩⟩)
   have lR := aG x
   have zR := bL
   obtain ⟨k9, aK⟩ : ∃ k, k = 9 := ⟨_, rfl⟩
   rw [← aK] at lR zR
   replace aK := Lib.hid aK
   have hld := aS dB lR
   obtain ⟨hst, dR⟩ := aM.store x
   have hb4 : Hid (Below w.heap.size w (w3.setRow w.heap.size (encR x).toArray)) := dS hb3.out (Nat.le_refl _) _
   clear hel dB aM hb3
   go_wp2_with (go_at_call 37; go_must (refine heq.mono ?_); rintro e w' ⟨rfl, rfl⟩)
   (try simp only [Exit.inBlock, Exit.then])
   refine bodyPost_ret (jf (b := w.heap.size) (x := x) rfl rfl dR) rfl ?_
   exact ⟨x, 0, rfl, hP.out, hb4.out⟩
  ·rw [decide_eq_false hel] at heq
   have hP : Hid (gM l ag 4) := .inr (.inr ⟨by rw [← hn.out]; exact h3, by rw [← hn.out]; exact h64, .inr ⟨fun r fr rr er => hel (by rw [hx.out.2 r fr rr er]; exact er), rfl, rfl⟩⟩)
   obtain ⟨a0, f0, s0⟩ := aM.zero 0 (.int .i64 0) rfl
   obtain ⟨a1, f1, s1⟩ := aM.zero 1 (.int .i64 0) rfl
   obtain ⟨a2, f2, s2⟩ := aM.zero 2 (.int .i64 0) rfl
   obtain ⟨a3, f3, s3⟩ := aM.zero 3 (.int .i64 0) rfl
   obtain ⟨a4, f4, s4⟩ := aM.zero 4 (.int .i64 0) rfl
   obtain ⟨a5, f5, s5⟩ := aM.zero 5 (.int .i64 0) rfl
   obtain ⟨a6, f6, s6⟩ := aM.zero 6 (.bool false) rfl
   obtain ⟨a7, f7, s7⟩ := aM.zero 7 (.int .i64 0) rfl
   obtain ⟨a8, f8, s8⟩ := aM.zero 8 (.int .i64 0) rfl
   clear hel dB
   go_wp2_with (go_at_call 37; go_must (refine heq.mono ?_); rintro e w' ⟨rfl, rfl⟩)
   (try simp only [Exit.inBlock, Exit.then])
   exact nE
 ·have hrf : bu x = false := by simpa using hrt
  have hbad := yK x w2 hrf
  rw [hw2] at hbad
  have hP : Hid (gM l ag 4) := .inr (.inr ⟨by rw [← hn.out]; exact h3, by rw [← hn.out]; exact h64, .inr ⟨fun r fr rr er => hrt (by rw [hx.out.2 r fr rr er]; exact rr), rfl, rfl⟩⟩)
  clear hrt hrf
  go_wp2_with fail
  go_at_call 36
  change Calls _ _ #[.agg (encR x).toArray] _ _
  refine hbad.mono ?_
  clear hbad hld hst
  rw [← hw2]
  rintro e w3 ⟨rfl, oM⟩
  have aM : aa w3 w.heap.size ag := hR2.below oM
  have hb3 : Hid (Below w.heap.size w w3) := hb2.out.trans (oM.mono hb2.out.size)
  replace hw2 := Lib.hid hw2
  clear hR2 jY hb2 hrow2 oM
  obtain ⟨a0, f0, s0⟩ := aM.zero 0 (.int .i64 0) rfl
  obtain ⟨a1, f1, s1⟩ := aM.zero 1 (.int .i64 0) rfl
  obtain ⟨a2, f2, s2⟩ := aM.zero 2 (.int .i64 0) rfl
  obtain ⟨a3, f3, s3⟩ := aM.zero 3 (.int .i64 0) rfl
  obtain ⟨a4, f4, s4⟩ := aM.zero 4 (.int .i64 0) rfl
  obtain ⟨a5, f5, s5⟩ := aM.zero 5 (.int .i64 0) rfl
  obtain ⟨a6, f6, s6⟩ := aM.zero 6 (.bool false) rfl
  obtain ⟨a7, f7, s7⟩ := aM.zero 7 (.int .i64 0) rfl
  obtain ⟨a8, f8, s8⟩ := aM.zero 8 (.int .i64 0) rfl
  go_wp2_with fail
  (try simp only [Exit.inBlock, Exit.then])
  exact nE
theorem gN (h : ai cO 1 w v l) (hl : l.length ≤ 100) : Calls Tryz.prog 9 #[v] w (oK l w) := by
 by_cases h64 : 64 < l.length
 ·exact rG h hl h64
 by_cases h3 : l.length < 3
 ·exact qm h h3
 ·exact uI h (by omega) (by omega)
end
end Go.Proofs.YtbdfpbknckghgaaGreat

namespace Go.Proofs.YtbdfpbknckghgaaGreat
open Go.RowKit Go.Lib Put
theorem oN {w : World} {base g n cap sz : Nat} {e : TypeId} {xs : List Value} {P : Program} (dT sT : TypeId) (hu : P.underlying dT = some (.slice e)) (hs : (P.info? e).map (·.size) = some sz) (h : w.ownsRow base e sz (.slice (some ⟨g, 0, none⟩) n cap) n xs) (vs : List Value) (hfit : vs.length = n * sz) (h1 : ∀ u ∈ vs, u.oneCell' = true)
 (a : Addr) (m : Nat) (hvl : vs.length = m * sz) (hsrc : ∀ j v, vs[j]? = some v → w.cell? (a.add j) = some v) :
 ∃ w', (∀ ty dLen dCap sLen sCap, m = Nat.min sLen dLen → (Builtin.copy_ #[dT, sT] ty #[.slice (some ⟨g, 0, none⟩) dLen dCap, .slice (some a) sLen sCap]).run P w = .ok (goInt m) w') ∧ w'.ownsRow base e sz (.slice (some ⟨g, 0, none⟩) n cap) n vs ∧ Off g g w w' := by
 obtain ⟨w', hst, h2, h3⟩ := vk h 0 vs (by omega) h1
 have hxl : xs.length = n * sz := h.1
 rw [List.take_zero, xD, List.drop_of_length_le (by omega), List.append_nil] at h2
 refine ⟨w', fun ty dLen dCap sLen sCap hm => ?_, h2, h3⟩
 have hl := run_loadCells_list (P := P) w a vs hsrc
 cases hq : P.info? e with
 | none => simp [hq] at hs
 | some i =>
   have hi : i.size = sz := by simpa [hq] using hs
   simp [Builtin.copy_, run_underlying hu, Builtin.lenOf, Builtin.firstCells, sizeOf, typeInfo, hq, hi, ← hm, ← hvl, hl, hst]
theorem rH (l : List Ev) : (l.flatMap av).length = l.length * 24 := by
 induction l with
 | nil => rfl
 | cons a l ih => rw [List.flatMap_cons, List.length_append, ih, dY, List.length_cons, Nat.add_mul]; omega
theorem rJ (l : List Ev) : ∀ u ∈ l.flatMap av, u.oneCell' = true := by
 intro u hu
 obtain ⟨x, _, hx⟩ := List.mem_flatMap.1 hu
 exact jK x u hx
def rM (w : World) (l : List Ev) (e : Ending) (w' : World) : Prop := ∃ v, e = .returned v ∧ ai av 24 w' v l ∧ Below w.heap.size w w'
section
variable {B s : Nat} {w w' : World} {st : Int} {v va : Value} {L l : List Ev}
theorem kV (h : LG B w s st v L) (hl : L.length ≤ 900) : Calls Tryz.prog 11 #[.pointer (some ⟨s, 0, none⟩)] w (rM w L) := by
 obtain ⟨i0, hi0, hz0, hz1, hz2⟩ := info_parts wY
 obtain ⟨n, hn⟩ : ∃ n, L.length = n := ⟨_, rfl⟩
 have c1 := h.c1
 have how := h.own
 have zb := h.lt
 obtain ⟨ao, cap, rfl, hao⟩ := cz how
 rw [hn] at hl c1 how hao
 replace hn := Lib.hid hn
 replace h := Lib.hid h
 replace hao := Lib.hid hao
 have hfl := Lib.hid (rH L)
 rw [hn.out] at hfl
 have hlo : n ≤ 9223372036854775807 := by omega
 go_enter Tryz.func11, Tryz.ntmps11
 go_wp2_with (at_make; refine wpList_make_full w rfl _ _ 33 rfl w.heap.size 50 i0 (.agg #[.int .i64 0, .int .i64 0, .int .i64 0, .int .i64 0, .int .i64 0, .int .i64 0, .int .i64 0, .int .i64 0, .int .i64 0, .bool false, .int .i64 0, .int .i64 0, .int .i64 0, .int .i64 0, .int .i64 0, .int .i64 0, .int .i64 0, .int .i64 0, .int .i64 0, .int .i64 0, .int .i64 0, .int .i64 0, .int .i64 0, .bool false]) 24 Tryz.underlying33 hi0 hz0 hz1 .i64 .i64 n n n rfl rfl rfl rfl (by rw [hz2]; omega) (by unfold maxLen; omega) (Nat.le_refl _) ?_)
 intro w1 ho1 hg1
 have hb1 : Below w.heap.size w w1 := (Below.refl _ w).grown hg1 (Nat.le_refl _) fun k hk => by cases hk
 have c1' := (hb1.cell (p := ⟨s, 1, none⟩) zb).trans c1
 rcases how.2 with ⟨e0, h0⟩ | ⟨g, c', cur, e0, _, hg, hc1, hc2, _, _⟩
 ·cases e0
  have hcp := fun ty => run_copy_nil (P := Tryz.prog) w1 33 33 ty 50 ⟨w.heap.size, 0, none⟩ 0 0 Tryz.underlying33 (by rw [hi0]; rfl)
  have hL : L = [] := List.eq_nil_of_length_eq_zero hn.out
  have hfin : Hid (rM w L (.returned (.slice (some ⟨w.heap.size, 0, none⟩) 0 0)) w1) := ⟨_, rfl, by
   subst hL
   exact ai.fT ho1 (fun _ => rfl) (List.eq_nil_of_length_eq_zero (by rw [ho1.1])) rfl, hb1⟩
  clear ho1 hg1 how hL
  go_wp2_with (at_builtin; refine Lib.wpList_copy_run _ rfl _ _ _ _ rfl _ _ rfl rfl (hcp _) ?_)
  go_ret
  exact hfin.out
 ·cases e0
  obtain ⟨w2, hcp, ho2, hoff⟩ := oN (P := Tryz.prog) 33 33 Tryz.underlying33 (by rw [hi0]; exact congrArg some hz1) ho1 (L.flatMap av) hfl.out (rJ L) ⟨g, 0, none⟩ n hfl.out (fun j u hj => by
   have := (Put.aF how hb1).cells (g := g) rfl j u hj
   exact this)
  have hb2 : Below w.heap.size w w2 := hb1.trans (hoff.below (Nat.le_refl _) (Nat.le_refl _) hb1.size)
  have hfin : Hid (rM w L (.returned (.slice (some ⟨w.heap.size, 0, none⟩) n n)) w2) := ⟨_, rfl, ai.fT ho2 (fun _ => rfl) rfl hn.out.symm, hb2⟩
  clear ho1 hg1 how ho2 hoff
  go_wp2_with (at_builtin; refine Lib.wpList_copy_run _ rfl _ _ _ _ rfl _ _ rfl rfl (hcp _ _ _ _ _ (Nat.min_self n).symm) ?_)
  go_ret
  exact hfin.out
end
end Go.Proofs.YtbdfpbknckghgaaGreat

namespace Go.Proofs.YtbdfpbknckghgaaGreat
open Go.RowKit Go.Lib Go.Sort
def rL : Rq := ⟨11, 0, 0, 0, 0, 0, false, 0, 0⟩
theorem fP : bF rL := by constructor <;> decide
theorem eT : aj rL = rL := by decide
theorem ik : bu rL = true := by decide
theorem kW {r : Rq} (hf : bF r) (hq : bu r = true) {v : Value} {W : World} (hv : ai cO 1 W v (fq r)) : Calls Tryz.prog 9 #[v] W fun e w' => e = .returned (.tuple #[.agg (encR r).toArray, .int .i64 0]) ∧ Below W.heap.size W w' := by
 have hl := oF r
 refine (gN hv (by omega)).mono ?_
 rintro e w' ⟨x, q, rfl, h, hb⟩
 rcases h with ⟨h, _⟩ | ⟨h, _⟩ | ⟨_, _, ⟨fx, rx, ex, q0⟩ | ⟨no, _⟩⟩
 ·omega
 ·omega
 ·rw [nk fx hf rx hq ex, q0]
  exact ⟨rfl, hb⟩
 ·exact absurd rfl (no r hf hq)
theorem bS (w : World) : Calls Tryz.prog 16 #[] w fun e w' => e = .returned (.bool true) ∧ Below w.heap.size w w' := by
 have hc := ny 3 w (by decide) (by decide)
 go_enter Tryz.func16, Tryz.ntmps16
 go_wp2_with fail
 go_at_call 8
 refine hc.mono ?_
 clear hc
 rintro e w1 ⟨q, k, t, d, p, v, g, lg, s, mp, rfl, bY, _, _, hG1, hL1, _, o1, o2, o3, o4, hb1⟩
 have hby := jS rL w1 fP (by rw [eT]; exact ik) (by rw [eT]; exact fP)
 rw [eT, show (encR rL).toArray = #[.int .i64 11, .int .i64 0, .int .i64 0, .int .i64 0, .int .i64 0, .int .i64 0, .bool false, .int .i64 0, .int .i64 0] from rfl] at hby
 obtain ⟨C0, hC0⟩ : ∃ C0 : Ct, C0 = ⟨k, lg, s, 0, .slice none 0 0, .map (some mp)⟩ := ⟨_, rfl⟩
 rw [← hC0] at bY
 have e0 : C0.tasks = 0 ∧ C0.live = .slice none 0 0 ∧ C0.log = lg ∧ C0.bf = s := by rw [hC0]; exact ⟨rfl, rfl, rfl, rfl⟩
 replace bY := Lib.hid bY
 replace hG1 := Lib.hid hG1
 replace hL1 := Lib.hid hL1
 replace hb1 := Lib.hid hb1
 have eB : Hid (w.heap.size ≤ lg ∧ lg < s ∧ s < q) := ⟨o4, o1, by omega⟩
 clear hC0 o1 o2 o3 o4
 replace e0 := Lib.hid e0
 go_wp2_with fail
 go_at_call 44
 refine hby.mono ?_
 clear hby
 rintro e w2 ⟨v2, rfl, hv2, hb2⟩
 have hcall := jc (B := lg) (C := C0) (L := []) (E := []) (vl := .slice none 0 0) (st := 0) (bY.out.below hb2 bY.out.lt) (by rw [e0.out.2.1]; exact ⟨rfl, .inl ⟨rfl, rfl⟩⟩) (by rw [e0.out.2.2.1]; exact hG1.out.below hb2) (by decide) (by decide) (by rw [e0.out.1]; decide) rL v2 (fun W hW => kW fP ik (hv2.below hW))
 have L2 := Lib.hid (hL1.out.below hb2 hL1.out.lt)
 have fu : Hid (Below w.heap.size w w2) := hb1.out.trans (hb2.mono hb1.out.size)
 clear bY hG1 hL1 hb1 hb2 hv2
 go_wp2_with fail
 go_at_call 10
 refine hcall.mono ?_
 clear hcall
 rintro e w3 ⟨oA, hA, bA, v3, Cb, rfl, C3, R3, G3, OA, HA, WA, zT, zU, zV, ho3, hv3, hl3⟩
 rw [e0.out.1]
 rw [e0.out.1] at C3 R3 G3 HA
 rw [e0.out.2.2.1] at G3 ho3
 rw [e0.out.2.1] at ho3
 have L3 : Hid (aC 94 w3 s ⟨0, 0, 0, 0⟩) := (ho3.block s L2.out.lt (by
  have := eB.out
  rintro (e | e | e | e)
  ·omega
  ·omega
  ·simp [Value.ownBlock] at e
  ·simp [Value.ownBlock] at e)).trans L2.out
 have xQ : Hid (Below w.heap.size w w3) := fu.out.trans (ho3.below (by
  have := eB.out
  rintro k (e | e | e | e)
  ·omega
  ·omega
  ·simp [Value.ownBlock] at e
  ·simp [Value.ownBlock] at e) fu.out.size)
 obtain ⟨C1, bY⟩ : ∃ C1 : Ct, C1 = { C0 with tasks := 0 + 1, live := v3 } := ⟨_, rfl⟩
 rw [← bY] at C3
 have e1 : Hid (C1.tasks = 1 ∧ C1.live = v3 ∧ C1.log = lg ∧ C1.bf = s) := by
  rw [bY]
  exact ⟨rfl, rfl, e0.out.2.2.1, e0.out.2.2.2⟩
 have hby := jS rL w3 fP (by rw [eT]; exact ik) (by rw [eT]; exact fP)
 rw [eT, show (encR rL).toArray = #[.int .i64 11, .int .i64 0, .int .i64 0, .int .i64 0, .int .i64 0, .int .i64 0, .bool false, .int .i64 0, .int .i64 0] from rfl] at hby
 replace C3 := Lib.hid C3
 replace R3 := Lib.hid R3
 replace G3 := Lib.hid G3
 replace OA := Lib.hid OA
 replace HA := Lib.hid HA
 have Bj : Hid (w.heap.size ≤ hA) := by have := fu.out.size; exact Lib.hid (by omega)
 clear bY WA zT zU zV ho3 hv3 hl3 L2 fu e0
 go_wp2_with fail
 go_at_call 44
 refine hby.mono ?_
 clear hby
 rintro e w4 ⟨v4, rfl, hv4, hb4⟩
 have R4 := Put.aF R3.out hb4
 have G4 := G3.out.below hb4
 have C4 := C3.out.below hb4 C3.out.lt
 have hcall := jc (B := lg) (C := C1) (L := [(oA, 0 + 1)]) (E := [] ++ [stamp 0 (gp (0 + 1) rL)]) (vl := Cb) (st := 0) C4 (by rw [e1.out.2.1]; exact R4) (by rw [e1.out.2.2.1]; exact G4) (by show 1 < 64; decide) (by show 1 ≤ 800; decide) (by rw [e1.out.1]; decide) rL v4 (fun W hW => kW fP ik (hv4.below hW))
 have L4 := L3.out.below hb4 L3.out.lt
 have xR : bZ w4 oA hA (aj rL) := (hb4.block oA OA.out.lt).trans OA.out
 have xS := HA.out.below hb4 HA.out.lt
 have xU : Hid (Below w.heap.size w w4) := xQ.out.trans (hb4.mono xQ.out.size)
 replace R4 := Lib.hid R4
 replace G4 := Lib.hid G4
 replace C4 := Lib.hid C4
 replace L4 := Lib.hid L4
 replace xR := Lib.hid xR
 replace xS := Lib.hid xS
 clear R3 G3 C3 L3 OA HA hb4 xQ hv4
 go_wp2_with fail
 go_at_call 10
 refine hcall.mono ?_
 clear hcall
 rintro e w5 ⟨oB, hB, bB, v5, Cc, rfl, C5, R5, G5, OB, HB, WB, Ce, sB2, Cf, gq, hv5, hl5⟩
 rw [e1.out.1]
 rw [e1.out.1] at C5 R5 HB
 rw [e1.out.2.2.1] at G5 gq
 rw [e1.out.2.1] at gq
 have oO : ∀ (k : Nat) (cs : Array Value) (T : TypeId) (f : Nat × Nat), w4.heap[k]? = some (.cells cs T f) → T ≠ 91 → T ≠ 50 → T ≠ 109 → T ≠ 41 → w5.heap[k]? = some (.cells cs T f) := fun k cs T f hk h1 h2 h3 h4 => by
  refine (gq.block k (Put.lt_of_heap hk) ?_).trans hk
  rintro (e | e | e | e)
  ·subst e
   have := C4.out
   unfold aB at this
   rw [hk] at this
   exact h4 (Obj.cells.inj (Option.some.inj this)).2.1
  ·subst e
   have := G4.out.obj
   rw [hk] at this
   exact h1 (Obj.cells.inj (Option.some.inj this)).2.1
  ·exact bz G4.out.own hk h2 e
  ·exact bz R4.out hk h3 e
 have L5 : aC 94 w5 s ⟨0, 0, 0, 0⟩ := oO _ _ _ _ L4.out (by decide) (by decide) (by decide) (by decide)
 have uJ : bZ w5 oA hA (aj rL) := oO _ _ _ _ xR.out (by decide) (by decide) (by decide) (by decide)
 have qo : aA w5 hA (fZ bA (0 + 1) rL) := oO _ _ _ _ xS.out (by decide) (by decide) (by decide) (by decide)
 have Bl := eB.out
 have gP : Hid (Below w.heap.size w w5) := xU.out.trans (gq.below (by
  rintro k (e | e | e | e)
  ·omega
  ·omega
  ·have := (G4.out.own.lt k e).1; omega
  ·have := (R4.out.lt k e).1; omega) xU.out.size)
 have zW : Hid (oB ≠ oA) := by
  have := xR.out.lt
  show oB ≠ oA
  omega
 have zh : Hid (hB ≠ hA) := by
  have := xS.out.lt
  show hB ≠ hA
  omega
 obtain ⟨C2, hC2⟩ : ∃ C2 : Ct, C2 = { C1 with tasks := 1 + 1, live := v5 } := ⟨_, rfl⟩
 rw [← hC2] at C5
 have e2 : Hid (C2.live = v5 ∧ C2.log = lg ∧ C2.bf = s) := by
  rw [hC2]
  exact ⟨rfl, e1.out.2.2.1, e1.out.2.2.2⟩
 have uK : w5.ownsRow lg 109 2 v5 [(oA, (1 : Int)), (oB, 2)].length ([(oA, (1 : Int)), (oB, 2)].flatMap aQ) := R5
 have hdo := xw (B := lg) (C := C2) (L := [(oA, (1 : Int)), (oB, 2)]) (o := oA) (tid := 1) C5 (by rw [e2.out.2.1]; exact G5) (by decide) (by rw [e2.out.1]; exact uK) (by show 0 < 2; decide) rfl uJ qo (by rw [e2.out.2.2]; exact L5) rfl rfl (by show (1 : Int) ≠ 5; decide) (by decide) (by show (0 : Int) ≤ 0 ∧ (0 : Int) ≤ 3; decide)
 have Bn : Hid (w5.heap[lg]? = some (.cells #[.int .i64 0, Cc] 91 (0, 0))) := G5.obj
 replace C5 := Lib.hid C5
 replace uK := Lib.hid uK
 replace uJ := Lib.hid uJ
 replace qo := Lib.hid qo
 replace OB := Lib.hid OB
 replace HB := Lib.hid HB
 replace L5 := Lib.hid L5
 clear hC2 R5 G5 WB Ce sB2 Cf gq hv5 hl5 oO e1 R4 G4 C4 L4 xR xS xU Bl
 go_wp2_with fail
 go_at_call 20
 refine hdo.mono ?_
 clear hdo
 rintro e w6 ⟨rfl, H6, L6, jZ⟩
 rw [e2.out.2.2] at L6 jZ
 rw [e2.out.2.1] at jZ
 have jM : ∀ (k : Nat) (cs : Array Value) (T : TypeId) (f : Nat × Nat), w5.heap[k]? = some (.cells cs T f) → T ≠ 91 → T ≠ 94 → k ≠ hA → w6.heap[k]? = some (.cells cs T f) := fun k cs T f hk h1 h2 h3 => by
  refine (jZ.block k (Put.lt_of_heap hk) ?_).trans hk
  rintro (e | e | e)
  ·exact h3 e
  ·subst e
   have := L5.out
   unfold aC at this
   rw [hk] at this
   exact h2 (Obj.cells.inj (Option.some.inj this)).2.1
  ·subst e
   have := Bn.out
   rw [hk] at this
   exact h1 (Obj.cells.inj (Option.some.inj this)).2.1
 have C6 : aB w6 q C2 := jM _ _ _ _ C5.out (by decide) (by decide) (Put.aH C5.out qo.out (by decide))
 have zX : bZ w6 oA hA (aj rL) := jM _ _ _ _ uJ.out (by decide) (by decide) (Put.aH uJ.out qo.out (by decide))
 have zY : bZ w6 oB hB (aj rL) := jM _ _ _ _ OB.out (by decide) (by decide) (Put.aH OB.out qo.out (by decide))
 have zZ : aA w6 hB (fZ bB (1 + 1) rL) := jM _ _ _ _ HB.out (by decide) (by decide) zh.out
 have R6 : w6.ownsRow lg 109 2 v5 [(oA, (1 : Int)), (oB, 2)].length ([(oA, (1 : Int)), (oB, 2)].flatMap aQ) := ax uK.out fun k hk => by
  obtain ⟨cur, hc⟩ := df uK.out hk
  exact (jM _ _ _ _ hc (by decide) (by decide) (Put.aH hc qo.out (by decide))).trans hc.symm
 have xV : Hid (Below w.heap.size w w6) := gP.out.trans (jZ.below (by
  have := eB.out
  have := Bj.out
  rintro k (e | e | e) <;> omega) gP.out.size)
 have hrd := uC (L := [(oA, (1 : Int)), (oB, 2)]) (wt := fun o => if o = oA then false else true) C6 (by rw [e2.out.1]; exact ai.fT R6 iK rfl rfl) (by show 2 ≤ 64; decide) (fun W hW x hx => by
  rw [e2.out.2.2]
  have Bo := L6.below hW L6.lt
  rcases List.mem_cons.1 hx with rfl | hx
  ·have hO : bZ W oA hA (aj rL) := (hW.block oA zX.lt).trans zX
   have hwt := jB (H6.below hW H6.lt) Bo
   refine ⟨hA, hO.c0, ?_⟩
   rw [show (if (oA, (1 : Int)).1 = oA then false else true) = false from if_pos rfl]
   exact hwt
  ·obtain rfl : x = (oB, 2) := by simpa using hx
   have hO : bZ W oB hB (aj rL) := (hW.block oB zY.lt).trans zY
   have hwt := jB (zZ.below hW zZ.lt) Bo
   refine ⟨hB, hO.c0, ?_⟩
   rw [show (if (oB, (2 : Int)).1 = oA then false else true) = true from if_neg zW.out]
   exact hwt)
 have hrl : bG (fun o => if o = oA then false else true) [(oA, (1 : Int)), (oB, 2)] = [1] := by
  unfold bG
  simp [zW.out]
 rw [hrl] at hrd
 replace C6 := Lib.hid C6
 replace R6 := Lib.hid R6
 clear H6 L6 jZ jM zX zY zZ C5 uK uJ qo OB HB L5 gP Bn hrl zW zh Bj eB
 go_wp2_with fail
 go_at_call 19
 refine hrd.mono ?_
 clear hrd
 rintro e w7 ⟨v7, rfl, R7, fO⟩
 obtain ⟨ao, cap, e7, r1, r2, r3⟩ := ai.fT (enc := enc1) (l := [(1 : Int)]) R7 (fun _ => rfl) rfl rfl
 obtain ⟨g7, Bp, rfl, _, Bq⟩ := r3 (by decide)
 have c7 : w7.cell? ⟨g7, Bp, none⟩ = some (.int .i64 1) := by simpa using Bq 0 1 0 _ rfl rfl
 have hall := dX (C6.out.below fO C6.out.lt)
 obtain ⟨A7, cap5, z8, _⟩ := cz R6.out
 rw [e2.out.1, z8] at hall
 have hbz := iX hall
 rw [show ([(1 : Int)].length) = 1 from rfl] at e7
 subst e7
 have jg : Hid (Below w.heap.size w w7) := xV.out.trans (fO.mono xV.out.size)
 replace z8 := Lib.hid z8
 clear R7 r1 r2 r3 Bq hall fO xV C6 R6
 go_wp2_with (go_at_call 14; go_must (refine hbz.mono ?_); rintro e w' ⟨rfl, rfl⟩)
 go_ret
 exact ⟨rfl, jg.out⟩
end Go.Proofs.YtbdfpbknckghgaaGreat

namespace Go.Proofs.YtbdfpbknckghgaaGreat
open Go.RowKit Go.Lib Go.Sort
theorem yQ : ∀ w, Sem.run Tryz.prog (isAgg 44) w = .ok true w := Tryz.isAgg44
theorem sw : ∀ w, Sem.run Tryz.prog (Go.sizeOf 44) w = .ok 9 w := Tryz.sizeOf44
theorem xW {fn : Func} {q u : Tmp} {b : Nat} {tmps : Array Value} {w : World} {E : List Value} (h : fn.results = #[.cell q 44, .tmp u]) (ha : tmps.getD q undef = .pointer (some ⟨b, 0, none⟩)) (hE : E.length = 9) (hb : w.heap[b]? = some (.cells E.toArray 44 (0, 0))) :
 (results fn tmps).run Tryz.prog w = .ok (.tuple #[.agg E.toArray, tmps.getD u undef]) w := by
 have h1 : Sem.run Tryz.prog (loadCells ⟨b, 0, none⟩ 9) w = .ok E.toArray w := by
  refine run_loadCellsFrom_list Tryz.prog w _ _ 9 hE fun j u hj => ?_
  rw [Go.WideShapes.add_plain]
  simp [World.cell?, hb, hj]
 rw [results_cell_tmp h, ha]
 simp only [loadVar, asAddr, Sem.run_bind, Sem.run_pure, Result.andThen_ok, yQ, sw, h1, if_true]
def j4 : List Value := [.int .i64 0, .int .i64 0, .int .i64 0, .int .i64 0, .int .i64 0, .int .i64 0, .int .i64 0, .int .i64 0, .int .i64 0]
end Go.Proofs.YtbdfpbknckghgaaGreat

namespace Go.Proofs.YtbdfpbknckghgaaGreat
open Go.RowKit Go.Lib
structure Fi where
 pl : Nat
 who : Int
 fw : Int
 dep : Int
 st : Int
 it : Value
 gy : Int
def gQ (w : World) (f : Nat) (F : Fi) : Prop := w.heap[f]? = some (.cells #[.pointer (some ⟨F.pl, 0, none⟩), .int .i64 F.who, .int .i64 F.fw, .int .i64 F.dep, .int .i64 F.st, F.it, .int .i64 F.gy, .int .i64 0, .int .i64 0, .int .i64 0, .pointer none, .int .i64 0, .bool false] 169 (0, 0))
section
variable {w w' : World} {f : Nat} {F : Fi}
theorem gQ.lt (q : gQ w f F) : f < w.heap.size := ae q
theorem gQ.below {B : Nat} (q : gQ w f F) (hb : Below B w w') (hs : f < B) : gQ w' f F := by
 unfold gQ at *; rw [hb.block f hs]; exact q
end
theorem eP (n : Int) (w : World) : Calls Tryz.prog 80 #[.int .i64 n] w fun e w' => e = .returned (.bool (decide (1 ≤ n) && decide (n ≤ 64))) ∧ w = w' := by
 by_cases h1 : 1 ≤ n
 ·have d1 : decide (1 ≤ n) = true := decide_eq_true h1
  go_enter Tryz.func80, Tryz.ntmps80
  exact gU
 ·have d1 : decide (1 ≤ n) = false := decide_eq_false h1
  go_enter Tryz.func80, Tryz.ntmps80
  exact gU
theorem xX (who fw dep : Int) (h1 : 1 ≤ who) (h2 : 1 ≤ fw ∧ fw ≤ 64) (h3 : 1 ≤ dep ∧ dep ≤ 64) (w : World) : Calls Tryz.prog 43 #[.int .i64 who, .int .i64 fw, .int .i64 dep] w fun e w' => ∃ f, e = .returned (.tuple #[.pointer (some ⟨f, 0, none⟩), .int .i64 0]) ∧ gQ w' f ⟨w.heap.size, who, fw, dep, 0, .slice none 0 0, 0⟩ ∧ w.heap.size < f ∧ Below w.heap.size w w' := by
 have g1 := eP fw w
 have g2 := eP dep w
 rw [show (decide (1 ≤ fw) && decide (fw ≤ 64)) = true by simp [h2]] at g1
 rw [show (decide (1 ≤ dep) && decide (dep ≤ 64)) = true by simp [h3]] at g2
 have b1 : ¬ who < 1 := by omega
 have d1 : decide (who < 1) = false := decide_eq_false b1
 clear h2 h3
 obtain ⟨w1, hw1⟩ : ∃ w1, w1 = (w.alloc (.cells #[.pointer none, .slice none 0 0, .slice none 0 0] 167)).alloc (.cells #[.pointer (some ⟨w.heap.size, 0, none⟩), .int .i64 who, .int .i64 fw, .int .i64 dep, .int .i64 0, .slice none 0 0, .int .i64 0, .int .i64 0, .int .i64 0, .int .i64 0, .pointer none, .int .i64 0, .bool false] 169) := ⟨_, rfl⟩
 have hb1 : Hid (Below w.heap.size w w1) := by show Below _ _ _; rw [hw1]; exact ((Below.refl _ _).alloc (Nat.le_refl _) _).alloc (by simp) _
 have q1 : Hid (gQ w1 (w.heap.size + 1) ⟨w.heap.size, who, fw, dep, 0, .slice none 0 0, 0⟩) := by show gQ _ _ _; rw [hw1]; exact heap_alloc2_new w _ _
 go_enter Tryz.func43, Tryz.ntmps43
 go_wp2_with (go_at_call 80; first | (with_reducible refine g1.mono ?_; rintro e w' ⟨rfl, rfl⟩) | (with_reducible refine g2.mono ?_; rintro e w' ⟨rfl, rfl⟩))
 rw [← hw1]
 go_ret2
 exact ⟨_, rfl, q1.out, Nat.lt_succ_self _, hb1.out⟩
end Go.Proofs.YtbdfpbknckghgaaGreat

namespace Go.Proofs.YtbdfpbknckghgaaGreat
open Go.RowKit Go.Lib Go.Sort
def gT (x : Nat × Int) : List Value := [.iface 115 (.agg #[.pointer (some ⟨x.1, 0, none⟩)]), .int .i64 x.2]
section
variable {w : World} {B c n : Nat} {C : Ct} {xs : List Value} {so dep : Int}
def nG (B : Nat) (w : World) (c : Nat) (C : Ct) (n : Nat) (xs : List Value) (so dep : Int) (e : Ending) (w' : World) : Prop :=
 ∃ (f pl : Nat) (v' : Value), e = .returned (.tuple #[.int .i64 (C.tasks + 1), .int .i64 0]) ∧ aB w' c { C with tasks := C.tasks + 1, live := v' } ∧ w'.ownsRow B 109 2 v' (n + 1) (xs ++ gT (f, C.tasks + 1)) ∧ gQ w' f ⟨pl, C.tasks + 1, so, dep, 0, .slice none 0 0, 0⟩ ∧ w.heap.size ≤ f ∧ aP (fun k => k = c ∨ C.live.ownBlock = some k) w w' ∧ bE w C.live.ownBlock v'.ownBlock
theorem qp (q : aB w c C) (hl : w.ownsRow B 109 2 C.live n xs) (hB : B ≤ w.heap.size) (hn : n < 64) (ht : 0 ≤ C.tasks ∧ C.tasks ≤ 1000) (h2 : 1 ≤ so ∧ so ≤ 64) (h3 : 1 ≤ dep ∧ dep ≤ 64) :
 Calls Tryz.prog 15 #[.pointer (some ⟨c, 0, none⟩), .int .i64 so, .int .i64 dep] w (nG B w c C n xs so dep) := by
 have hrm : Calls Tryz.prog 38 #[.pointer (some ⟨c, 0, none⟩)] w fun e w' => e = .returned (.int .i64 0) ∧ w = w' := by
  exact ic
 have rD := xX (C.tasks + 1) so dep (by omega) h2 h3 w
 have c3 := q.c3
 have wt : IntKind.i64.wrap (C.tasks + 1) = C.tasks + 1 := IntWalk.i64_in _ (by omega)
 obtain ⟨i0, hi0, hz0, hz1, hz2⟩ := info_parts oH
 have q0 := Lib.hid q
 have hl0 := Lib.hid hl
 clear q hl h2 h3
 go_enter Tryz.func15, Tryz.ntmps15
 go_wp2_with (go_at_call 38; go_must (refine hrm.mono ?_); rintro e w' ⟨rfl, rfl⟩)
 go_at_call 43
 refine rD.mono ?_
 clear rD hrm c3
 rintro e w1 ⟨f, rfl, hF, hlo, hb1⟩
 have q1 := q0.out.below hb1 q0.out.lt
 have hl1 := Put.aF hl0.out hb1
 have hnc : C.live.ownBlock ≠ some c := bz hl1 q1 (by decide)
 have hnf : C.live.ownBlock ≠ some f := bz hl1 hF (by decide)
 have c4 := q1.c4
 obtain ⟨w2, hw2⟩ : ∃ w2, w2 = w1.alloc (.cells (gT (f, C.tasks + 1)).toArray 109) := ⟨_, rfl⟩
 have hb2 : Below w1.heap.size w1 w2 := by rw [hw2]; exact (Below.refl _ _).alloc (Nat.le_refl _) _
 have hR2 : w2.heap[w1.heap.size]? = some (.cells (gT (f, C.tasks + 1)).toArray 109 (0, 0)) := by rw [hw2]; exact heap_alloc_new w1 _
 have fu : Below w.heap.size w w2 := hb1.trans (hb2.mono hb1.size)
 have q2 := q1.below hb2 q1.lt
 have hF2 := hF.below hb2 hF.lt
 have hS2 : w2.ownsRow B 109 2 C.live n xs := Put.aF hl1 hb2
 have hs1 := hb1.size
 have hs2 := hb2.size
 obtain ⟨rs, hrs⟩ : ∃ rs, rs = w1.heap.size := ⟨_, rfl⟩
 rw [← hrs] at hR2
 simp only [gT] at hw2
 have hsrc : Src Tryz.prog 2 38 (.slice (some ⟨rs, 0, none⟩) 1 1) 1 (gT (f, C.tasks + 1)) w2 := Src.ofSlice w2 Tryz.underlying38 ⟨rs, 0, none⟩ 1 1 (gT (f, C.tasks + 1)) rfl (fun j u hj => by rw [Go.WideShapes.add_plain]; simpa using kR hR2 j u hj) (by simp [Value.oneCell', gT])
 replace hF2 := Lib.hid hF2
 replace fu := Lib.hid fu
 replace q2 := Lib.hid q2
 replace hS2 := Lib.hid hS2
 replace hsrc := Lib.hid hsrc
 replace hR2 := Lib.hid hR2
 clear hF hb1 q1 hl1 hb2
 go_wp2_with (at_builtin; rw [← hw2, ← hrs]; go_must (refine dG _ rfl (.tmp 36) (.tmp 42) 38 38 rfl B 109 i0 (.agg #[.nilIface, .int .i64 0]) 2 24 Tryz.underlying38 hi0 hz0 hz1 hz2 rfl C.live n xs rfl hS2.out (.slice (some ⟨rs, 0, none⟩) 1 1) 1 (gT (f, C.tasks + 1)) rfl hsrc.out ?c0 ?c1 (by omega) ?c5))
 case c0 => unfold maxLen; omega
 case c1 => omega
 case c5 =>
  intro v' w3 ho3 hg3 hnb
  rw [← hw2] at hg3
  clear c4
  have hnn : bE w C.live.ownBlock v'.ownBlock := by
   rcases hnb with e | e
   ·exact .inl e
   ·exact .inr ⟨_, e, by omega⟩
  have q3 : aB w3 c C := (hg3.block c q2.out.lt hnc.symm).trans q2.out
  have Aa : gQ w3 f ⟨w.heap.size, C.tasks + 1, so, dep, 0, .slice none 0 0, 0⟩ := (hg3.block f hF2.out.lt hnf.symm).trans hF2.out
  have c4 := q3.c4
  have f4 := q3.free 4
  have q4 := q3.qg v'
  have c3 := q4.c3
  have f3 := q4.free 3
  have q5 := q4.jL (C.tasks + 1)
  have hfin : Hid (nG B w c C n xs so dep (.returned (.tuple #[.int .i64 (C.tasks + 1), .int .i64 0])) ((w3.setCell ⟨c, 4, none⟩ v').setCell ⟨c, 3, none⟩ (.int .i64 (C.tasks + 1)))) := by
   have sc : ∀ k, k ≠ c → ((w3.setCell ⟨c, 4, none⟩ v').setCell ⟨c, 3, none⟩ (.int .i64 (C.tasks + 1))).heap[k]? = w3.heap[k]? := fun k hk => (Below.heap_setCell _ ⟨c, 3, none⟩ _ k hk).trans (Below.heap_setCell w3 ⟨c, 4, none⟩ _ k hk)
   have hcl := q2.out.lt
   refine ⟨f, w.heap.size, v', rfl, q5, ?_, (sc f (fun e => by subst e; exact absurd (Aa.symm.trans q3) (by simp))).trans Aa, by omega, ?_, hnn⟩
   ·exact ax ho3 fun k hk => sc k (fun e => bz ho3 q3 (by decide) (by rw [hk, e]))
   ·have hO := fu.out
    refine ⟨hg3.os.trans hO.os, hg3.tape.trans hO.tape, hg3.output.trans hO.output, by simpa using Nat.le_trans hO.size hg3.size, fun k hk hf => ?_⟩
    exact (sc k (fun e => hf (.inl e))).trans ((hg3.block k (Nat.lt_of_lt_of_le hk hO.size) (fun e => hf (.inr e.symm))).trans (hO.block k hk))
  obtain ⟨CL, Cv, rfl, _⟩ := cz ho3
  clear ho3 hnn hnb Aa hg3 hF2 hS2 hsrc hR2 q2
  go_wp2_with fail
  go_ret2
  exact hfin.out
end
end Go.Proofs.YtbdfpbknckghgaaGreat

namespace Go.Proofs.YtbdfpbknckghgaaGreat
open Go.RowKit Go.Lib Go.Sort Go.Maps
def RT (v : Value) : Option (DataW Value × List MemPlace) := some (.held v, [])
def yV (o : Option Ry) : Value := .agg (aI (o.getD qV)).toArray
def jh (D : DataW Value) (f : Int → Option Ry) : Prop := IsMap D ∧ ∀ k : Int, D.atKey (.int .i64 k) (.held (yV none)) = .held (yV (f k)) ∧ Maps.has D (.int .i64 k) = (f k).isSome
def nH (f : Int → Option Ry) (k : Int) (r : Ry) : Int → Option Ry := fun j => if j = k then some r else f j
theorem jh.start : jh (.map []) (fun _ => none) := ⟨⟨[], rfl⟩, fun _ => ⟨rfl, rfl⟩⟩
theorem jh.put {D : DataW Value} {f : Int → Option Ry} (h : jh D f) (k : Int) (r : Ry) : jh (D.put (.int .i64 k) (.held (yV (some r)))) (nH f k r) := by
 refine ⟨h.1.put _ _, fun j => ?_⟩
 unfold nH
 by_cases e : j = k
 ·subst e
  rw [if_pos rfl]
  refine ⟨atKey_put_same (k := .int .i64 j) h.1 trivial _ _, ?_⟩
  exact has_put_same (k := .int .i64 j) h.1 trivial _
 ·have hne : Lit.int IntKind.i64 j ≠ Lit.int IntKind.i64 k := fun e2 => e (by injection e2)
  rw [if_neg e, atKey_put_other hne _ _, has_put_other hne]
  exact h.2 j
theorem aR {w w' : World} {b n : Nat} {D : DataW Value} (h : w.ownsMap Tryz.prog 3 RT b n D) (hb : Below w.heap.size w w') : w'.ownsMap Tryz.prog 3 RT b n D :=
 h.kept (row := none) ⟨hb.os, hb.tape, hb.output, hb.size, fun q hq _ => hb.block q hq⟩ (by simp)
theorem uL (w : World) : (zeroValue 44).run Tryz.prog w = .ok (yV none) w := by kernel_rfl
theorem sD : Keyed Tryz.prog 3 := int_keyed Tryz.underlying3
section
variable {w : World} {c mp n : Nat} {C : Ct} {D : DataW Value} {f : Int → Option Ry}
theorem ji (i : Int) (q : aB w c C) (ht : C.told = .map (some mp)) (hm : w.ownsMap Tryz.prog 3 RT mp n D) (hT : jh D f) (hwf : (Lit.int .i64 i).wf = true) : Calls Tryz.prog 13 #[.pointer (some ⟨c, 0, none⟩), .int .i64 i] w fun e w' => e = .returned (.tuple #[yV (f i), .bool (f i).isSome]) ∧ Below w.heap.size w w' := by
 obtain ⟨w1, hw1⟩ : ∃ w1, w1 = w.alloc (.cells j4.toArray 44) := ⟨_, rfl⟩
 have hb1 : Below w.heap.size w w1 := by rw [hw1]; exact (Below.refl _ _).alloc (Nat.le_refl _) _
 have aT : w1.heap[w.heap.size]? = some (.cells j4.toArray 44 (0, 0)) := by rw [hw1]; exact heap_alloc_new w _
 have c5 := (q.below hb1 q.lt).c5
 rw [ht] at c5
 have hm1 := Lib.hid (aR hm hb1)
 simp only [j4] at hw1
 obtain ⟨y, hy⟩ : ∃ y, y = (f i).getD qV := ⟨_, rfl⟩
 have hv2 : Hid (∀ v ps, RT v = some (D.atKey (.int .i64 i) (.held (yV none)), ps) → v = .agg (aI y).toArray) := fun v ps h => by
  rw [(hT.2 i).1] at h
  unfold RT at h
  injection h with h
  injection h with h _
  injection h with h
  rw [h, hy]
  rfl
 have hhas := Lib.hid (hT.2 i).2
 have zi : Sem.run Tryz.prog (storeCells ⟨w1.heap.size, 0, none⟩ (aI y) 0) (w1.alloc (.cells j4.toArray 44)) = .ok () (w1.alloc (.cells (aI y).toArray 44)) := iC w1 w1.heap.size (aI y) j4 44 rfl rfl (mH y)
 simp only [j4] at zi
 obtain ⟨w2, hw2⟩ : ∃ w2, w2 = w1.alloc (.cells (aI y).toArray 44) := ⟨_, rfl⟩
 have hb2 : Below w1.heap.size w1 w2 := by rw [hw2]; exact (Below.refl _ _).alloc (Nat.le_refl _) _
 have zE := sw
 obtain ⟨k9, hk⟩ : ∃ k, k = 9 := ⟨_, rfl⟩
 rw [← hk] at zE
 have hld : Sem.run Tryz.prog (loadCellsFrom ⟨w1.heap.size, 0, none⟩ 0 k9 #[]) w2 = .ok (aI y).toArray w2 := vV (by rw [hw2]; exact heap_alloc_new w1 _) (by rw [hk]; exact mG y)
 have hR2 : rX w2 w.heap.size qV := (hb2.block _ (ae aT)).trans aT
 obtain ⟨hst, aM⟩ := hR2.store y
 have hb3 : Below w.heap.size w (w2.setRow w.heap.size (aI y).toArray) := wG (hb1.trans (hb2.mono hb1.size)) (Nat.le_refl _) _
 obtain ⟨w3, hw3⟩ : ∃ w3, w3 = w2.setRow w.heap.size (aI y).toArray := ⟨_, rfl⟩
 rw [← hw3] at hst aM hb3
 rw [← hw2] at zi
 have hE := mG y
 have hyv : yV (f i) = .agg (aI y).toArray := by unfold yV; rw [← hy]
 rw [hyv]
 replace aM : Hid (w3.heap[w.heap.size]? = some (.cells (aI y).toArray 44 (0, 0))) := aM
 replace hb3 := Lib.hid hb3
 have Cg := Lib.hid hE
 rw [← hk] at hE
 replace hk := Lib.hid hk
 generalize aI y = E at *
 clear hR2 hb2 hw2 hw3 aT hb1 hm hyv hy hT ht q
 go_enter Tryz.func13, Tryz.ntmps13
 go_wp2_with (first
  | (at_lookup; go_must (refine wpList_lookup_own_ok _ rfl _ _ 39 rfl 3 44 sD Tryz.underlying39 RT (uL _) (.held (yV none)) [] rfl mp n D rfl hm1.out _ (.int .i64 i) rfl (keyOf_int_mk Tryz.underlying3 hwf) ?_); intro v ps hv; obtain rfl := hv2.out v ps hv; rw [hhas.out]; clear hv)
  | (rw [← hw1]; clear hw1))
 refine bodyPost_ret (xW (b := w.heap.size) (E := E) rfl rfl Cg.out aM.out) rfl ?_
 exact ⟨rfl, hb3.out⟩
end
end Go.Proofs.YtbdfpbknckghgaaGreat

namespace Go.Proofs.YtbdfpbknckghgaaGreat
theorem nI {p : Prop} (f : p := by
 obtain ⟨es, ck, h1, h2⟩ := m3.out
 refine ⟨es, ck, (bO.block mp (Put.lt_of_heap h1) (Ne.symm (hmo _ _ _ _ _ g3'.out.obj m3.out)) (fun e => ?_)).trans h1, h2⟩
 obtain ⟨cur, hc⟩ := df g3'.out.own e
 exact hmo _ _ _ _ _ hc m3.out rfl) : p := f
theorem jN {p : Prop} (f : p := by
 obtain ⟨es, ck, h, _⟩ := hW
 rw [e, h] at hk
 exact absurd hk (by simp)) : p := f
end Go.Proofs.YtbdfpbknckghgaaGreat
namespace Go.Proofs.YtbdfpbknckghgaaGreat
open Go.RowKit Go.Lib Go.Sort Go.Maps
def dE (k id : Int) (r : Rq) (x : Ry) : Ev := ⟨0, k, id, r.kind, r.id, r.user, r.width, r.limit, r.prio, r.held, r.node, r.till, x.err, x.id, x.state, x.start, x.stop, x.plan, x.a, x.b, x.c, 0, 0, false⟩
section
variable {w : World} {B c mp n : Nat} {C : Ct} {D : DataW Value} {f : Int → Option Ry} {E : List Ev} {vl : Value} {st : Int}
theorem uM (q : aB w c C) (hg : LG B w C.log st vl E) (hE : E.length ≤ 800) (ht : C.told = .map (some mp)) (hm : w.ownsMap Tryz.prog 3 RT mp n D) (hn : n ≤ 1000) (id : Int) (hwf : (Lit.int .i64 id).wf = true) (r : Rq) (x : Ry) :
 Calls Tryz.prog 75 #[.pointer (some ⟨c, 0, none⟩), .int .i64 id, .agg (encR r).toArray, .agg (aI x).toArray] w fun e w' => ∃ dU, e = .returned (.tuple #[]) ∧ aB w' c C ∧ LG B w' C.log st dU (E ++ [stamp st (dE 3 id r x)]) ∧ w'.ownsMap Tryz.prog 3 RT mp (n + 1) (D.put (.int .i64 id) (.held (yV (some x)))) ∧ aP (fun k => k = C.log ∨ vl.ownBlock = some k ∨ k = mp) w w' ∧ bE w vl.ownBlock dU.ownBlock := by
 obtain ⟨y1, y2, y3, y4, y5, y6, y7, y8, y9⟩ := r
 obtain ⟨x1, x2, x3, x4, x5, x6, x7, x8, x9⟩ := x
 rw [show (encR ⟨y1, y2, y3, y4, y5, y6, y7, y8, y9⟩).toArray = #[.int .i64 y1, .int .i64 y2, .int .i64 y3, .int .i64 y4, .int .i64 y5, .int .i64 y6, .bool y7, .int .i64 y8, .int .i64 y9] from rfl]
 rw [show (aI ⟨x1, x2, x3, x4, x5, x6, x7, x8, x9⟩).toArray = #[.int .i64 x1, .int .i64 x2, .int .i64 x3, .int .i64 x4, .int .i64 x5, .int .i64 x6, .int .i64 x7, .int .i64 x8, .int .i64 x9] from rfl]
 obtain ⟨w1, hw1⟩ : ∃ w1, w1 = w.alloc (.cells #[.int .i64 y1, .int .i64 y2, .int .i64 y3, .int .i64 y4, .int .i64 y5, .int .i64 y6, .bool y7, .int .i64 y8, .int .i64 y9] 28) := ⟨_, rfl⟩
 obtain ⟨w2, hw2⟩ : ∃ w2, w2 = w1.alloc (.cells #[.int .i64 x1, .int .i64 x2, .int .i64 x3, .int .i64 x4, .int .i64 x5, .int .i64 x6, .int .i64 x7, .int .i64 x8, .int .i64 x9] 44) := ⟨_, rfl⟩
 have b1 : Below w.heap.size w w1 := by rw [hw1]; exact (Below.refl _ _).alloc (Nat.le_refl _) _
 have b2 : Below w1.heap.size w1 w2 := by rw [hw2]; exact (Below.refl _ _).alloc (Nat.le_refl _) _
 have s1 : w1.heap.size = w.heap.size + 1 := by rw [hw1]; simp
 have hb2 : Hid (Below w.heap.size w w2) := b1.trans (b2.mono b1.size)
 have aT : w1.heap[w.heap.size]? = some (.cells #[.int .i64 y1, .int .i64 y2, .int .i64 y3, .int .i64 y4, .int .i64 y5, .int .i64 y6, .bool y7, .int .i64 y8, .int .i64 y9] 28 (0, 0)) := by rw [hw1]; exact heap_alloc_new w _
 have hR2 : Hid (w2.heap[w.heap.size]? = some (.cells #[.int .i64 y1, .int .i64 y2, .int .i64 y3, .int .i64 y4, .int .i64 y5, .int .i64 y6, .bool y7, .int .i64 y8, .int .i64 y9] 28 (0, 0))) := (b2.block _ (ae aT)).trans aT
 have hX2 : Hid (w2.heap[w.heap.size + 1]? = some (.cells #[.int .i64 x1, .int .i64 x2, .int .i64 x3, .int .i64 x4, .int .i64 x5, .int .i64 x6, .int .i64 x7, .int .i64 x8, .int .i64 x9] 44 (0, 0))) := by show _ = _; rw [hw2, ← s1]; exact heap_alloc_new w1 _
 have hs2 : w.heap.size + 2 ≤ w2.heap.size := by have := ae hX2.out; omega
 rw [hw1] at hw2
 clear aT b1 b2 s1 hw1
 have q0 := Lib.hid q
 have hg0 := Lib.hid hg
 have hm0 := Lib.hid hm
 clear q hg hm
 go_enter Tryz.func75, Tryz.ntmps75
 go_wp2_with fail
 rw [← hw2]
 clear hw2
 have hrc : Hid (∀ W, Below w2.heap.size w2 W → ∀ j z, (encR ⟨y1, y2, y3, y4, y5, y6, y7, y8, y9⟩)[j]? = some z → W.cell? ⟨w.heap.size, j, none⟩ = some z) := fun W hW j z hz => by
  have := (hW.block _ (ae hR2.out)).trans hR2.out
  exact ay this j z hz
 have dC : Hid (∀ W, Below w2.heap.size w2 W → ∀ j z, (aI ⟨x1, x2, x3, x4, x5, x6, x7, x8, x9⟩)[j]? = some z → W.cell? ⟨w.heap.size + 1, j, none⟩ = some z) := fun W hW j z hz => by
  have := (hW.block _ (ae hX2.out)).trans hX2.out
  exact aZ this j z hz
 refine Reg2.pg 9 24 (Reg2.rows 0 [.p 0, .p 1, .p 3, .m 7, .p 0, .m 0, .m 0, .m 112, .m 240]) [0, 0, 0, 1, 0, 1, 1, 0, 1]
  [.pure, .pure, .pure, .mU (.pointer (some ⟨C.log, 0, none⟩)), .pure, .mU (.agg #[.int .i64 y1, .int .i64 y2, .int .i64 y3, .int .i64 y4, .int .i64 y5, .int .i64 y6, .bool y7, .int .i64 y8, .int .i64 y9]), .mU (.agg #[.int .i64 x1, .int .i64 x2, .int .i64 x3, .int .i64 x4, .int .i64 x5, .int .i64 x6, .int .i64 x7, .int .i64 x8, .int .i64 x9]), .pure, .minor Nat 0 (fun z => .slice (some ⟨z, 0, none⟩) 1 1) (fun z W => w2.heap.size ≤ z ∧ W.heap[z]? = some (.cells (av ⟨0, 3, id, y1, y2, y3, y4, y5, y6, y7, y8, y9, x1, x2, x3, x4, x5, x6, x7, x8, x9, 0, 0, false⟩).toArray 50 (0, 0)))]
  (fun W => Below w2.heap.size w2 W) (fun _ _ => True) (fun a b => Below a.heap.size a b) (by kernel_rfl) (by kernel_rfl) rfl rfl (fun vs a b h hs => trivial) ?_ ?_ ?_ ?_ ?_ ?_
 ·intro a b he hb; exact hb.trans (Below.mono he hb.size)
 ·intro a b he hb; exact hb.trans (Below.mono he hb.size)
 ·have k1 : ∀ (z : Nat) (a b : World), Below a.heap.size a b → (w2.heap.size ≤ z ∧ a.heap[z]? = some (.cells (av ⟨0, 3, id, y1, y2, y3, y4, y5, y6, y7, y8, y9, x1, x2, x3, x4, x5, x6, x7, x8, x9, 0, 0, false⟩).toArray 50 (0, 0))) → w2.heap.size ≤ z ∧ b.heap[z]? = some (.cells (av ⟨0, 3, id, y1, y2, y3, y4, y5, y6, y7, y8, y9, x1, x2, x3, x4, x5, x6, x7, x8, x9, 0, 0, false⟩).toArray 50 (0, 0)) := fun z a b he h => ⟨h.1, (he.block z (ae h.2)).trans h.2⟩
  have k0 : ∀ (v : Value), Reg2.eX (fun a b => Below a.heap.size a b) (.minor Unit () (fun _ => v) (fun _ _ => True)) := fun _ => ⟨fun _ _ _ _ _ => trivial, fun _ _ _ _ _ => trivial⟩
  exact ⟨trivial, trivial, trivial, k0 _, trivial, k0 _, k0 _, trivial, ⟨k1, k1⟩, trivial⟩
 ·exact fK
 ·trivial
 dsimp only [Reg2.mk, Reg2.rows, List.zip, List.zipWith, List.take]
 repeat ((first
  | (refine' Reg2.aO _ (by rfl) (fun wz => ?_) ?_; rotate_left; (go_simp; first | rfl | rw [if_neg (by omega)]))
  | (refine Reg2.aD (by rfl) (fun wz hI hF => ?_) (fun _ => ?_)
     ·unfold Reg2.One
      have d0 := (q0.out.below (hb2.out.trans (hI.mono hb2.out.size)) q0.out.lt).c1
      have r0 := hrc.out wz hI 0 _ rfl
      have r1 := hrc.out wz hI 1 _ rfl
      have r2 := hrc.out wz hI 2 _ rfl
      have r3 := hrc.out wz hI 3 _ rfl
      have r4 := hrc.out wz hI 4 _ rfl
      have r5 := hrc.out wz hI 5 _ rfl
      have r6 := hrc.out wz hI 6 _ rfl
      have r7 := hrc.out wz hI 7 _ rfl
      have r8 := hrc.out wz hI 8 _ rfl
      have e0 := dC.out wz hI 0 _ rfl
      have e1 := dC.out wz hI 1 _ rfl
      have e2 := dC.out wz hI 2 _ rfl
      have e3 := dC.out wz hI 3 _ rfl
      have e4 := dC.out wz hI 4 _ rfl
      have e5 := dC.out wz hI 5 _ rfl
      have e6 := dC.out wz hI 6 _ rfl
      have e7 := dC.out wz hI 7 _ rfl
      have e8 := dC.out wz hI 8 _ rfl
      go_wp2_with fail
      first | exact ⟨_, rfl, rfl, Reg2.Ext.refl _⟩ | exact ⟨_, rfl, ⟨(), rfl, trivial⟩, Reg2.Ext.refl _⟩)); simp only [Act.put, xA, xB, xC, xD, xE])
 refine Reg2.pm (fun wz hI hF => ?_) fun ve => ?_
 ·go_wp2_with fail
  exact ⟨_, rfl, ⟨wz.heap.size, rfl, hI.size, heap_alloc_new wz (.cells (av ⟨0, 3, id, y1, y2, y3, y4, y5, y6, y7, y8, y9, x1, x2, x3, x4, x5, x6, x7, x8, x9, 0, 0, false⟩).toArray 50)⟩, (Below.refl wz.heap.size wz).alloc (Nat.le_refl _) _⟩
 simp only [Act.put, xA, xB, xC, xD, xE]
 refine Reg2.aY ?_
 intro w3 HI3 _ HF
 obtain ⟨yL, kS⟩ := HF.2.2.2.2.2.2.2.2.1
 clear HF
 dsimp only [List.drop]
 have hb3 : Below w.heap.size w w3 := hb2.out.trans (HI3.mono hb2.out.size)
 have q3 := q0.out.below hb3 q0.out.lt
 have g3 := hg0.out.below hb3
 have m3 := aR hm0.out hb3
 have X3 := (HI3.block _ (ae hX2.out)).trans hX2.out
 have hN := iZ g3 (jb kS) (fun _ b off m cc e => by
  injection e with e _ _
  injection e with e
  injection e with e _ _
  subst e
  refine ⟨by have := hg0.out.lt; omega, fun e => ?_⟩
  have := (hg0.out.own.lt _ e).2
  omega) (by show E.length + 1 ≤ 900; omega)
 have q3' := Lib.hid q3
 have g3' := Lib.hid g3
 have eB : ∀ k, vl.ownBlock = some k → k < w.heap.size := fun k hk => (hg0.out.own.lt k hk).2
 replace eB := Lib.hid eB
 replace hb3 := Lib.hid hb3
 replace m3 := Lib.hid m3
 replace X3 := Lib.hid X3
 clear q3 g3 hrc dC hR2 kS hX2 hm0
 go_wp2_with fail
 go_at_call 39
 refine hN.mono ?_
 clear hN
 rintro e w4 ⟨rfl, dU, g4, bO, kT⟩
 replace g4 : Hid (LG B w4 C.log st dU (E ++ [stamp st (dE 3 id ⟨y1, y2, y3, y4, y5, y6, y7, y8, y9⟩ ⟨x1, x2, x3, x4, x5, x6, x7, x8, x9⟩)])) := g4
 have keep : ∀ (k : Nat) (cs : Array Value) (T : TypeId) (f : Nat × Nat), w3.heap[k]? = some (.cells cs T f) → T ≠ 91 → T ≠ 50 → w4.heap[k]? = some (.cells cs T f) := fun k cs T f hk h1 h2 =>
  (bO.block k (Put.lt_of_heap hk) (fun e => by
   subst e
   have := g3'.out.obj
   rw [hk] at this
   exact h1 (Obj.cells.inj (Option.some.inj this)).2.1) (bz g3'.out.own hk h2)).trans hk
 have q4 : Hid (aB w4 c C) := keep _ _ _ _ q3'.out (by decide) (by decide)
 have X4 : Hid (w4.heap[w.heap.size + 1]? = some (.cells (aI ⟨x1, x2, x3, x4, x5, x6, x7, x8, x9⟩).toArray 44 (0, 0))) := keep _ _ _ _ X3.out (by decide) (by decide)
 have hmo : ∀ (k : Nat) (cs : Array Value) (T : TypeId) (f : Nat × Nat) (W : World), W.heap[k]? = some (.cells cs T f) → W.ownsMap Tryz.prog 3 RT mp n D → k ≠ mp := fun k cs T f W hk hW e => by
  exact jN
 have m4 : w4.ownsMap Tryz.prog 3 RT mp n D := by
  exact nI
 have hnc : c ≠ mp := hmo _ _ _ _ _ q4.out m4
 have hnl : C.log ≠ mp := hmo _ _ _ _ _ g4.out.obj m4
 have Ch : dU.ownBlock ≠ some mp := fun e => by
  obtain ⟨cur, hc⟩ := df g4.out.own e
  exact hmo _ _ _ _ _ hc m4 rfl
 have dC : Hid (∀ W, Below w4.heap.size w4 W → ∀ j z, (aI ⟨x1, x2, x3, x4, x5, x6, x7, x8, x9⟩)[j]? = some z → W.cell? ⟨w.heap.size + 1, j, none⟩ = some z) := fun W hW j z hz => by
  have := (hW.block _ (ae X4.out)).trans X4.out
  exact aZ this j z hz
 have Br := Lib.hid m4
 have zk := Lib.hid bO
 have zl := Lib.hid kT
 clear keep hmo m4 X3 m3 bO kT X4
 go_wp2_with fail
 refine Reg2.ro w4 6 24 [.p 0, .p 1, .p 3, .m 7, .p 0, .m 0] [.map (some mp), .agg #[.int .i64 x1, .int .i64 x2, .int .i64 x3, .int .i64 x4, .int .i64 x5, .int .i64 x6, .int .i64 x7, .int .i64 x8, .int .i64 x9]] (by kernel_rfl) (by kernel_rfl) rfl rfl ⟨rfl, rfl, rfl, Nat.le_refl _, fun _ _ => rfl⟩ ?_
 dsimp only [Reg2.gJ]
 repeat ((first
  | (refine' Reg2.aO _ (by rfl) (fun wz => ?_) ?_; rotate_left; (go_simp; first | rfl | rw [if_neg (by omega)]))
  | (refine Reg2.aD (by rfl) (fun wz hI hF => ?_) (fun _ => ?_)
     ·unfold Reg2.One
      have d0 := (q4.out.below hI q4.out.lt).c5
      rw [ht] at d0
      have e0 := dC.out wz hI 0 _ rfl
      have e1 := dC.out wz hI 1 _ rfl
      have e2 := dC.out wz hI 2 _ rfl
      have e3 := dC.out wz hI 3 _ rfl
      have e4 := dC.out wz hI 4 _ rfl
      have e5 := dC.out wz hI 5 _ rfl
      have e6 := dC.out wz hI 6 _ rfl
      have e7 := dC.out wz hI 7 _ rfl
      have e8 := dC.out wz hI 8 _ rfl
      go_wp2_with fail
      first | exact ⟨_, rfl, rfl, Reg2.Ext.refl _⟩ | exact ⟨_, rfl, ⟨(), rfl, trivial⟩, Reg2.Ext.refl _⟩)); simp only [Act.put, xA, xB, xC, xD, xE])
 refine Reg2.aY ?_
 intro w5 fF _ HF
 clear HF dC
 dsimp only [List.drop]
 have m5 := aR Br.out fF
 go_wp2_with (at_mapUpdate; go_must (refine wpList_mapUpdate_own _ rfl _ _ _ 39 rfl 3 44 sD Tryz.underlying39 RT mp n D rfl m5 (by unfold maxLen; omega) _ _ (.int .i64 id) rfl rfl (keyOf_int_mk Tryz.underlying3 hwf) (.held (yV (some ⟨x1, x2, x3, x4, x5, x6, x7, x8, x9⟩))) [] rfl ?_); intro w6 m6 rO)
 have hO : aP (fun k => k = C.log ∨ vl.ownBlock = some k ∨ k = mp) w w6 := by
  have h3 := hb3.out
  have h4 := zk.out
  have z3 := h3.size
  have z4 := h4.size
  have z5 := fF.size
  refine ⟨rO.os.trans (fF.os.trans (h4.os.trans h3.os)), rO.tape.trans (fF.tape.trans (h4.tape.trans h3.tape)), rO.output.trans (fF.output.trans (h4.output.trans h3.output)), by have := rO.size; omega, fun k hk hf => ?_⟩
  exact (rO.block k (by omega) (fun e => hf (.inr (.inr (Option.some.inj e.symm).symm)))).trans ((fF.block k (by omega)).trans ((h4.block k (by omega) (fun e => hf (.inl e)) (fun e => hf (.inr (.inl e)))).trans (h3.block k hk)))
 have up : ∀ k, k < w4.heap.size → k ≠ mp → w6.heap[k]? = w4.heap[k]? := fun k h1 h2 => (rO.block k (by have := fF.size; omega) (fun e => h2 (Option.some.inj e.symm).symm)).trans (fF.block k h1)
 have q6 : aB w6 c C := (up c q4.out.lt hnc).trans q4.out
 have g6 : LG B w6 C.log st dU (E ++ [stamp st (dE 3 id ⟨y1, y2, y3, y4, y5, y6, y7, y8, y9⟩ ⟨x1, x2, x3, x4, x5, x6, x7, x8, x9⟩)]) := by
  refine ⟨(up _ g4.out.lt hnl).trans g4.out.obj, ax g4.out.own fun k hk => up k (g4.out.own.lt k hk).2 (fun e => Ch (by rw [← e]; exact hk)), g4.out.bs⟩
 have Ci : bE w vl.ownBlock dU.ownBlock := (bE.refl w vl.ownBlock).trans zl.out hb3.out.size
 clear q4 g4 zk zl fF rO up m5 Br
 go_end0
 exact ⟨rfl, q6, dU, g6, m6, hO, Ci⟩
end
end Go.Proofs.YtbdfpbknckghgaaGreat

namespace Go.Proofs.YtbdfpbknckghgaaGreat
open Go.RowKit Go.Lib Go.Sort Go.Maps
def kX : Rq := ⟨0, 0, 0, 0, 0, 0, false, 0, 0⟩
def dD (e : Int) : Ry := ⟨e, 0, 0, 0, 0, 0, 0, 0, 0⟩
section
variable {w : World} {B c mp n : Nat} {C : Ct} {D : DataW Value} {f : Int → Option Ry} {E : List Ev} {vl : Value} {st : Int}
theorem rP (q : aB w c C) (hg : LG B w C.log st vl E) (hE : E.length ≤ 700) (ht : C.told = .map (some mp)) (hm : w.ownsMap Tryz.prog 3 RT mp n D) (hn : n ≤ 1000) (id : Int) (hwf : (Lit.int .i64 id).wf = true) (e : Int) :
 Calls Tryz.prog 40 #[.pointer (some ⟨c, 0, none⟩), .int .i64 id, .int .i64 e] w fun en w' => ∃ dU, en = .returned (.tuple #[]) ∧ aB w' c C ∧ LG B w' C.log st dU (E ++ [stamp st (dE 2 id kX (dD e)), stamp st (dE 3 id kX (dD e))]) ∧ w'.ownsMap Tryz.prog 3 RT mp (n + 1) (D.put (.int .i64 id) (.held (yV (some (dD e))))) ∧ aP (fun k => k = C.log ∨ vl.ownBlock = some k ∨ k = mp) w w' ∧ bE w vl.ownBlock dU.ownBlock := by
 have hfl := wF e w
 rw [show (aI ⟨e, 0, 0, 0, 0, 0, 0, 0, 0⟩).toArray = #[.int .i64 e, .int .i64 0, .int .i64 0, .int .i64 0, .int .i64 0, .int .i64 0, .int .i64 0, .int .i64 0, .int .i64 0] from rfl] at hfl
 have q0 := Lib.hid q
 have hg0 := Lib.hid hg
 have hm0 := Lib.hid hm
 clear q hg hm
 go_enter Tryz.func40, Tryz.ntmps40
 go_wp2_with fail
 go_at_call 64
 refine hfl.mono ?_
 clear hfl
 rintro en w1 ⟨rfl, b1⟩
 obtain ⟨w2, hw2⟩ : ∃ w2, w2 = w1.alloc (.cells #[.int .i64 e, .int .i64 0, .int .i64 0, .int .i64 0, .int .i64 0, .int .i64 0, .int .i64 0, .int .i64 0, .int .i64 0] 44) := ⟨_, rfl⟩
 have b2 : Below w1.heap.size w1 w2 := by rw [hw2]; exact (Below.refl _ _).alloc (Nat.le_refl _) _
 have hb2 : Hid (Below w.heap.size w w2) := b1.trans (b2.mono b1.size)
 have hX2 : Hid (w2.heap[w1.heap.size]? = some (.cells #[.int .i64 e, .int .i64 0, .int .i64 0, .int .i64 0, .int .i64 0, .int .i64 0, .int .i64 0, .int .i64 0, .int .i64 0] 44 (0, 0))) := by show _ = _; rw [hw2]; exact heap_alloc_new w1 _
 have s1 : w.heap.size ≤ w1.heap.size := b1.size
 have s2 : w1.heap.size < w2.heap.size := ae hX2.out
 clear b1 b2
 go_wp2_with fail
 rw [← hw2]
 clear hw2
 have dC : Hid (∀ W, Below w2.heap.size w2 W → ∀ j z, (aI (dD e))[j]? = some z → W.cell? ⟨w1.heap.size, j, none⟩ = some z) := fun W hW j z hz => by
  have := (hW.block _ (ae hX2.out)).trans hX2.out
  exact aZ (x := dD e) this j z hz
 refine Reg2.pg 8 23 (Reg2.rows 0 [.p 0, .p 1, .p 3, .m 7, .p 0, .m 0, .m 48, .m 112]) [0, 0, 0, 1, 0, 1, 0, 1]
  [.pure, .pure, .pure, .mU (.pointer (some ⟨C.log, 0, none⟩)), .pure, .mU (.agg #[.int .i64 e, .int .i64 0, .int .i64 0, .int .i64 0, .int .i64 0, .int .i64 0, .int .i64 0, .int .i64 0, .int .i64 0]), .pure, .minor Nat 0 (fun z => .slice (some ⟨z, 0, none⟩) 1 1) (fun z W => w2.heap.size ≤ z ∧ W.heap[z]? = some (.cells (av ⟨0, 2, id, 0, 0, 0, 0, 0, 0, false, 0, 0, e, 0, 0, 0, 0, 0, 0, 0, 0, 0, 0, false⟩).toArray 50 (0, 0)))]
  (fun W => Below w2.heap.size w2 W) (fun _ _ => True) (fun a b => Below a.heap.size a b) (by kernel_rfl) (by kernel_rfl) rfl rfl (fun vs a b h hs => trivial) ?_ ?_ ?_ ?_ ?_ ?_
 ·intro a b he hb; exact hb.trans (Below.mono he hb.size)
 ·intro a b he hb; exact hb.trans (Below.mono he hb.size)
 ·have k1 : ∀ (z : Nat) (a b : World), Below a.heap.size a b → (w2.heap.size ≤ z ∧ a.heap[z]? = some (.cells (av ⟨0, 2, id, 0, 0, 0, 0, 0, 0, false, 0, 0, e, 0, 0, 0, 0, 0, 0, 0, 0, 0, 0, false⟩).toArray 50 (0, 0))) → w2.heap.size ≤ z ∧ b.heap[z]? = some (.cells (av ⟨0, 2, id, 0, 0, 0, 0, 0, 0, false, 0, 0, e, 0, 0, 0, 0, 0, 0, 0, 0, 0, 0, false⟩).toArray 50 (0, 0)) := fun z a b he h => ⟨h.1, (he.block z (ae h.2)).trans h.2⟩
  have k0 : ∀ (v : Value), Reg2.eX (fun a b => Below a.heap.size a b) (.minor Unit () (fun _ => v) (fun _ _ => True)) := fun _ => ⟨fun _ _ _ _ _ => trivial, fun _ _ _ _ _ => trivial⟩
  exact ⟨trivial, trivial, trivial, k0 _, trivial, k0 _, trivial, ⟨k1, k1⟩, trivial⟩
 ·exact fK
 ·trivial
 dsimp only [Reg2.mk, Reg2.rows, List.zip, List.zipWith, List.take]
 repeat ((first
  | (refine' Reg2.aO _ (by rfl) (fun wz => ?_) ?_; rotate_left; (go_simp; first | rfl | rw [if_neg (by omega)]))
  | (refine Reg2.aD (by rfl) (fun wz hI hF => ?_) (fun _ => ?_)
     ·unfold Reg2.One
      have d0 := (q0.out.below (hb2.out.trans (hI.mono hb2.out.size)) q0.out.lt).c1
      have e0 := dC.out wz hI 0 _ rfl
      have e1 := dC.out wz hI 1 _ rfl
      have e2 := dC.out wz hI 2 _ rfl
      have e3 := dC.out wz hI 3 _ rfl
      have e4 := dC.out wz hI 4 _ rfl
      have e5 := dC.out wz hI 5 _ rfl
      have e6 := dC.out wz hI 6 _ rfl
      have e7 := dC.out wz hI 7 _ rfl
      have e8 := dC.out wz hI 8 _ rfl
      simp only [dD] at e0 e1 e2 e3 e4 e5 e6 e7 e8
      go_wp2_with fail
      first | exact ⟨_, rfl, rfl, Reg2.Ext.refl _⟩ | exact ⟨_, rfl, ⟨(), rfl, trivial⟩, Reg2.Ext.refl _⟩)); simp only [Act.put, xA, xB, xC, xD, xE])
 refine Reg2.pm (fun wz hI hF => ?_) fun ve => ?_
 ·go_wp2_with fail
  exact ⟨_, rfl, ⟨wz.heap.size, rfl, hI.size, heap_alloc_new wz (.cells (av ⟨0, 2, id, 0, 0, 0, 0, 0, 0, false, 0, 0, e, 0, 0, 0, 0, 0, 0, 0, 0, 0, 0, false⟩).toArray 50)⟩, (Below.refl wz.heap.size wz).alloc (Nat.le_refl _) _⟩
 simp only [Act.put, xA, xB, xC, xD, xE]
 refine Reg2.aY ?_
 intro w3 HI3 _ HF
 obtain ⟨yL, kS⟩ := HF.2.2.2.2.2.2.2.1
 clear HF
 dsimp only [List.drop]
 have hb3 : Below w.heap.size w w3 := hb2.out.trans (HI3.mono hb2.out.size)
 have q3 := q0.out.below hb3 q0.out.lt
 have g3 := hg0.out.below hb3
 have m3 := aR hm0.out hb3
 have X3 := (HI3.block _ (ae hX2.out)).trans hX2.out
 have hN := iZ g3 (jb kS) (fun _ b off m cc e => by
  injection e with e _ _
  injection e with e
  injection e with e _ _
  subst e
  refine ⟨by have := hg0.out.lt; omega, fun e => ?_⟩
  have := (hg0.out.own.lt _ e).2
  omega) (by show E.length + 1 ≤ 900; omega)
 have q3' := Lib.hid q3
 have g3' := Lib.hid g3
 replace hb3 := Lib.hid hb3
 replace m3 := Lib.hid m3
 replace X3 := Lib.hid X3
 clear q3 g3 dC kS hX2 hm0
 go_wp2_with fail
 go_at_call 39
 refine hN.mono ?_
 clear hN
 rintro en w4 ⟨rfl, dU, g4, bO, kT⟩
 replace g4 : Hid (LG B w4 C.log st dU (E ++ [stamp st (dE 2 id kX (dD e))])) := g4
 have keep : ∀ (k : Nat) (cs : Array Value) (T : TypeId) (f : Nat × Nat), w3.heap[k]? = some (.cells cs T f) → T ≠ 91 → T ≠ 50 → w4.heap[k]? = some (.cells cs T f) := fun k cs T f hk h1 h2 =>
  (bO.block k (Put.lt_of_heap hk) (fun e => by
   subst e
   have := g3'.out.obj
   rw [hk] at this
   exact h1 (Obj.cells.inj (Option.some.inj this)).2.1) (bz g3'.out.own hk h2)).trans hk
 have q4 : aB w4 c C := keep _ _ _ _ q3'.out (by decide) (by decide)
 have X4 : w4.heap[w1.heap.size]? = some (.cells (aI (dD e)).toArray 44 (0, 0)) := keep _ _ _ _ X3.out (by decide) (by decide)
 have e0 := aZ X4 0 _ rfl
 have e1 := aZ X4 1 _ rfl
 have e2 := aZ X4 2 _ rfl
 have e3 := aZ X4 3 _ rfl
 have e4 := aZ X4 4 _ rfl
 have e5 := aZ X4 5 _ rfl
 have e6 := aZ X4 6 _ rfl
 have e7 := aZ X4 7 _ rfl
 have e8 := aZ X4 8 _ rfl
 simp only [dD] at e0 e1 e2 e3 e4 e5 e6 e7 e8
 have hmo : ∀ (k : Nat) (cs : Array Value) (T : TypeId) (f : Nat × Nat) (W : World), W.heap[k]? = some (.cells cs T f) → W.ownsMap Tryz.prog 3 RT mp n D → k ≠ mp := fun k cs T f W hk hW e => by
  exact jN
 have m4 : w4.ownsMap Tryz.prog 3 RT mp n D := by
  exact nI
 have htl := uM q4 g4.out (by simp; omega) ht m4 hn id hwf kX (dD e)
 rw [show (encR kX).toArray = #[.int .i64 0, .int .i64 0, .int .i64 0, .int .i64 0, .int .i64 0, .int .i64 0, .bool false, .int .i64 0, .int .i64 0] from rfl, show (aI (dD e)).toArray = #[.int .i64 e, .int .i64 0, .int .i64 0, .int .i64 0, .int .i64 0, .int .i64 0, .int .i64 0, .int .i64 0, .int .i64 0] from rfl] at htl
 have hO4 : Hid (aP (fun k => k = C.log ∨ vl.ownBlock = some k ∨ k = mp) w w4) := by
  have h3 := hb3.out
  have z3 := h3.size
  have z4 := bO.size
  exact ⟨bO.os.trans h3.os, bO.tape.trans h3.tape, bO.output.trans h3.output, by omega, fun k hk hf => (bO.block k (by omega) (fun e => hf (.inl e)) (fun e => hf (.inr (.inl e)))).trans (h3.block k hk)⟩
 have qd : Hid (bE w vl.ownBlock dU.ownBlock) := (bE.refl w vl.ownBlock).trans kT hb3.out.size
 clear keep hmo m4 m3 bO kT X3 X4 q4
 go_wp2_with fail
 go_at_call 75
 refine htl.mono ?_
 clear htl
 rintro en w5 ⟨xY, rfl, q5, g5, m5, jk, xZ⟩
 have hO : Hid (aP (fun k => k = C.log ∨ vl.ownBlock = some k ∨ k = mp) w w5) := by
  have h4 := hO4.out
  refine ⟨jk.os.trans h4.os, jk.tape.trans h4.tape, jk.output.trans h4.output, Nat.le_trans h4.size jk.size, fun k hk hf => ?_⟩
  refine (jk.block k (Nat.lt_of_lt_of_le hk h4.size) (fun e => ?_)).trans (h4.block k hk hf)
  rcases e with e | e | e
  ·exact hf (.inl e)
  ·rcases qd.out with h | ⟨b, h, hb⟩
   ·exact hf (.inr (.inl (by rw [← h]; exact e)))
   ·rw [h] at e
    injection e with e
    omega
  ·exact hf (.inr (.inr e))
 have hN : Hid (bE w vl.ownBlock xY.ownBlock) := qd.out.trans xZ hO4.out.size
 rw [List.append_assoc] at g5
 replace g5 := Lib.hid g5
 clear jk xZ g4
 go_wp2_with fail
 go_end0
 first | exact ⟨xY, rfl, q5, g5.out, m5, hO.out, hN.out⟩ | exact ⟨rfl, q5, xY, g5.out, m5, hO.out, hN.out⟩
end
end Go.Proofs.YtbdfpbknckghgaaGreat

namespace Go.Proofs.YtbdfpbknckghgaaGreat
open Go.RowKit Go.Lib Go.Sort Go.Maps
theorem rQ {l : List UInt8} {x x' : Rq} {q q' : Int} (h : gM l x q) (h' : gM l x' q') : x' = x ∧ q' = q := by
 rcases h with ⟨h, e1, e2⟩ | ⟨h, e1, e2⟩ | ⟨g1, g2, ⟨fx, rx, ex, e2⟩ | ⟨no, e1, e2⟩⟩ <;> rcases h' with ⟨k, d1, d2⟩ | ⟨k, d1, d2⟩ | ⟨k1, k2, ⟨fy, ry, ey, d2⟩ | ⟨na, d1, d2⟩⟩
 all_goals first
  | omega
  | exact ⟨d1.trans e1.symm, d2.trans e2.symm⟩
  | exact ⟨nk fy fx ry rx (ey.trans ex.symm), d2.trans e2.symm⟩
  | exact absurd ex (no _ fx rx)
  | exact absurd ey (no _ fy ry)
  | exact absurd ex (na _ fx rx)
section
variable {w : World} {B c mp n : Nat} {C : Ct} {L : List (Nat × Int)} {D : DataW Value} {E : List Ev} {vl : Value} {st : Int}
def kY (B : Nat) (w : World) (c mp n : Nat) (C : Ct) (L : List (Nat × Int)) (D : DataW Value) (E : List Ev) (vl : Value) (st : Int) (r : Rq) (qe : Int) (e : Ending) (w' : World) : Prop :=
 ∃ (dU : Value), e = .returned (.tuple #[.int .i64 (C.tasks + 1), .int .i64 0]) ∧ aB w' c { C with tasks := C.tasks + 1 } ∧ w'.ownsRow B 109 2 C.live L.length (L.flatMap aQ) ∧ LG B w' C.log st dU (E ++ [stamp st (gp (C.tasks + 1) r), stamp st (dE 2 (C.tasks + 1) kX (dD qe)), stamp st (dE 3 (C.tasks + 1) kX (dD qe))]) ∧
  w'.ownsMap Tryz.prog 3 RT mp (n + 1) (D.put (.int .i64 (C.tasks + 1)) (.held (yV (some (dD qe))))) ∧ aP (fun k => k = c ∨ k = C.log ∨ vl.ownBlock = some k ∨ k = mp) w w' ∧ bE w vl.ownBlock dU.ownBlock
theorem nJ (q : aB w c C) (hl : w.ownsRow B 109 2 C.live L.length (L.flatMap aQ)) (hg : LG B w C.log st vl E) (hn : L.length < 64) (hE : E.length ≤ 600) (ht : 0 ≤ C.tasks ∧ C.tasks ≤ 1000) (htd : C.told = .map (some mp)) (hm : w.ownsMap Tryz.prog 3 RT mp n D) (hnn : n ≤ 1000) (r : Rq) (qe : Int) (hqe : qe ≠ 0) (ub : Value)
 (hread : Calls Tryz.prog 9 #[ub] w fun e w' => e = .returned (.tuple #[.agg (encR r).toArray, .int .i64 qe]) ∧ Below w.heap.size w w') :
 Calls Tryz.prog 10 #[.pointer (some ⟨c, 0, none⟩), ub] w (kY B w c mp n C L D E vl st r qe) := by
 have hrm : Calls Tryz.prog 38 #[.pointer (some ⟨c, 0, none⟩)] w fun e w' => e = .returned (.int .i64 0) ∧ w = w' := by
  exact ic
 have hrd := hread
 have hm0 := Lib.hid hm
 have Bt := Lib.hid hqe
 clear hm hqe
 obtain ⟨y1, y2, y3, y4, y5, y6, y7, y8, y9⟩ := r
 rw [show (encR ⟨y1, y2, y3, y4, y5, y6, y7, y8, y9⟩).toArray = #[.int .i64 y1, .int .i64 y2, .int .i64 y3, .int .i64 y4, .int .i64 y5, .int .i64 y6, .bool y7, .int .i64 y8, .int .i64 y9] from rfl] at hrd
 have c3 := q.c3
 have wt : IntKind.i64.wrap (C.tasks + 1) = C.tasks + 1 := IntWalk.i64_in _ (by omega)
 obtain ⟨i0, hi0, hz0, hz1, hz2⟩ := info_parts oH
 have q0 := Lib.hid q
 have hl0 := Lib.hid hl
 have hg0 := Lib.hid hg
 clear q hl hg hread
 go_enter Tryz.func10, Tryz.ntmps10
 go_wp2_with (go_at_call 38; go_must (refine hrm.mono ?_); rintro e w' ⟨rfl, rfl⟩)
 go_at_call 9
 refine hrd.mono ?_
 clear hrd hrm c3
 rintro e w1 ⟨rfl, hb1⟩
 obtain ⟨w2, hw2⟩ : ∃ w2, w2 = w1.alloc (.cells #[.int .i64 y1, .int .i64 y2, .int .i64 y3, .int .i64 y4, .int .i64 y5, .int .i64 y6, .bool y7, .int .i64 y8, .int .i64 y9] 28) := ⟨_, rfl⟩
 have hb2 : Hid (Below w.heap.size w w2) := by show Below _ _ _; rw [hw2]; exact hb1.alloc hb1.size _
 have hR2 : w2.heap[w1.heap.size]? = some (.cells #[.int .i64 y1, .int .i64 y2, .int .i64 y3, .int .i64 y4, .int .i64 y5, .int .i64 y6, .bool y7, .int .i64 y8, .int .i64 y9] 28 (0, 0)) := by rw [hw2]; exact heap_alloc_new w1 _
 obtain ⟨G, hG⟩ : ∃ G, G = w1.heap.size := ⟨_, rfl⟩
 rw [← hG] at hR2
 have BS : Hid (w.heap.size ≤ G) := by show _ ≤ _; rw [hG]; exact hb1.size
 replace hR2 := Lib.hid hR2
 go_wp2_with fail
 rw [← hw2, ← hG]
 replace hw2 := Lib.hid hw2
 replace hG := Lib.hid hG
 have hrc : Hid (∀ W, Below w2.heap.size w2 W → ∀ j z, (encR ⟨y1, y2, y3, y4, y5, y6, y7, y8, y9⟩)[j]? = some z → W.cell? ⟨G, j, none⟩ = some z) := fun W hW j z hz => by
  exact nD
 refine Reg2.pg 8 61 (Reg2.rows 0 [.p 0, .p 1, .p 3, .m 7, .p 0, .m 0, .m 48, .m 112]) [0, 0, 0, 1, 0, 1, 0, 1]
  [.pure, .pure, .pure, .mU (.pointer (some ⟨C.log, 0, none⟩)), .pure, .mU (.agg #[.int .i64 y1, .int .i64 y2, .int .i64 y3, .int .i64 y4, .int .i64 y5, .int .i64 y6, .bool y7, .int .i64 y8, .int .i64 y9]), .pure, .minor Nat 0 (fun x => .slice (some ⟨x, 0, none⟩) 1 1) (fun x W => w2.heap.size ≤ x ∧ W.heap[x]? = some (.cells (av ⟨0, 1, C.tasks + 1, y1, y2, y3, y4, y5, y6, y7, y8, y9, 0, 0, 0, 0, 0, 0, 0, 0, 0, 0, 0, false⟩).toArray 50 (0, 0)))]
  (fun W => Below w2.heap.size w2 W) (fun _ _ => True) (fun a b => Below a.heap.size a b) (by kernel_rfl) (by kernel_rfl) rfl rfl (fun vs a b h hs => trivial) ?_ ?_ ?_ ?_ ?_ ?_
 ·intro a b he hb; exact hb.trans (Below.mono he hb.size)
 ·intro a b he hb; exact hb.trans (Below.mono he hb.size)
 ·exact nz
 ·exact fK
 ·trivial
 dsimp only [Reg2.mk, Reg2.rows, List.zip, List.zipWith, List.take]
 repeat ((first
  | (refine' Reg2.aO _ (by rfl) (fun wz => ?_) ?_; rotate_left; (go_simp; first | rfl | rw [if_neg (by omega)]))
  | (refine Reg2.aD (by rfl) (fun wz hI hF => ?_) (fun _ => ?_)
     ·unfold Reg2.One
      have d0 := (q0.out.below (hb2.out.trans (hI.mono hb2.out.size)) q0.out.lt).c1
      have r0 := hrc.out wz hI 0 _ rfl
      have r1 := hrc.out wz hI 1 _ rfl
      have r2 := hrc.out wz hI 2 _ rfl
      have r3 := hrc.out wz hI 3 _ rfl
      have r4 := hrc.out wz hI 4 _ rfl
      have r5 := hrc.out wz hI 5 _ rfl
      have r6 := hrc.out wz hI 6 _ rfl
      have r7 := hrc.out wz hI 7 _ rfl
      have r8 := hrc.out wz hI 8 _ rfl
      go_wp2_with fail
      first | exact ⟨_, rfl, rfl, Reg2.Ext.refl _⟩ | exact ⟨_, rfl, ⟨(), rfl, trivial⟩, Reg2.Ext.refl _⟩)); simp only [Act.put, xA, xB, xC, xD, xE, id])
 refine Reg2.pm (fun wz hI hF => ?_) fun ve => ?_
 ·exact nA
 simp only [Act.put, xA, xB, xC, xD, xE, id]
 refine Reg2.aY ?_
 intro w3 HI3 _ HF
 obtain ⟨yL, kS⟩ := HF.2.2.2.2.2.2.2.1
 clear HF
 dsimp only [List.drop]
 have q3 := q0.out.below (hb2.out.trans (HI3.mono hb2.out.size)) q0.out.lt
 have hb3 : Below w.heap.size w w3 := hb2.out.trans (HI3.mono hb2.out.size)
 have g3 := hg0.out.below hb3
 have hsz2 := hb2.out.size
 have hN := iZ g3 (jb kS) (fun _ b off m cc e => by
  injection e with e _ _
  injection e with e
  injection e with e _ _
  subst e
  refine ⟨by have := hg0.out.lt; omega, fun e => ?_⟩
  have := (hg0.out.own.lt _ e).2
  omega) (by show E.length + 1 ≤ 900; omega)
 have aM := (HI3.block G (ae hR2.out)).trans hR2.out
 have hl3 := Put.aF hl0.out hb3
 have q3' := Lib.hid q3
 have g3' := Lib.hid g3
 replace hb3 := Lib.hid hb3
 replace aM := Lib.hid aM
 replace hl3 := Lib.hid hl3
 clear q3 g3 hrc hR2 kS
 go_wp2_with fail
 go_at_call 39
 refine hN.mono ?_
 clear hN
 rintro e w4 ⟨rfl, dU, g4, bO, kT⟩
 replace g4 : LG B w4 C.log st dU (E ++ [stamp st (gp (C.tasks + 1) ⟨y1, y2, y3, y4, y5, y6, y7, y8, y9⟩)]) := g4
 have keep : ∀ (k : Nat) (cs : Array Value) (T : TypeId) (f : Nat × Nat), w3.heap[k]? = some (.cells cs T f) → T ≠ 91 → T ≠ 50 → w4.heap[k]? = some (.cells cs T f) := fun k cs T f hk h1 h2 =>
  (bO.block k (Put.lt_of_heap hk) (fun e => by
   subst e
   have := g3'.out.obj
   rw [hk] at this
   exact h1 (Obj.cells.inj (Option.some.inj this)).2.1) (bz g3'.out.own hk h2)).trans hk
 have q4 : aB w4 c C := keep _ _ _ _ q3'.out (by decide) (by decide)
 have dR := keep _ _ _ _ aM.out (by decide) (by decide)
 have hmo : ∀ (k : Nat) (cs : Array Value) (T : TypeId) (f : Nat × Nat) (W : World), W.heap[k]? = some (.cells cs T f) → W.ownsMap Tryz.prog 3 RT mp n D → k ≠ mp := fun k cs T f W hk hW e => by
  exact jN
 have m3 := aR hm0.out hb3.out
 have m4 : w4.ownsMap Tryz.prog 3 RT mp n D := by
  have mm := m3
  obtain ⟨es, ck, h1, h2⟩ := mm
  refine ⟨es, ck, (bO.block mp (Put.lt_of_heap h1) (Ne.symm (hmo _ _ _ _ _ g3'.out.obj m3)) (fun e => ?_)).trans h1, h2⟩
  obtain ⟨cur, hc⟩ := df g3'.out.own e
  exact hmo _ _ _ _ _ hc m3 rfl
 have hl4 : w4.ownsRow B 109 2 C.live L.length (L.flatMap aQ) := ax hl3.out fun k hk => by
  exact nC
 have hO4 : Hid (aP (fun k => k = c ∨ k = C.log ∨ vl.ownBlock = some k ∨ k = mp) w w4) := by
  have h3 := hb3.out
  have z3 := h3.size
  have z4 := bO.size
  exact ⟨bO.os.trans h3.os, bO.tape.trans h3.tape, bO.output.trans h3.output, by omega, fun k hk hf => (bO.block k (by omega) (fun e => hf (.inr (.inl e))) (fun e => hf (.inr (.inr (.inl e))))).trans (h3.block k hk)⟩
 have qd : Hid (bE w vl.ownBlock dU.ownBlock) := (bE.refl w vl.ownBlock).trans kT hb3.out.size
 have hrf := rP q4 g4 (by simp; omega) htd m4 hnn (C.tasks + 1) (WalkArith.wf_i64 (by omega)) qe
 have hnl : ∀ (k : Nat) (cs : Array Value) (T : TypeId) (f : Nat × Nat), w4.heap[k]? = some (.cells cs T f) → T ≠ 91 → T ≠ 50 → k ≠ C.log ∧ dU.ownBlock ≠ some k ∧ k ≠ mp := fun k cs T f hk h1 h2 =>
  ⟨fun e => by
   subst e
   have := g4.obj
   rw [hk] at this
   exact h1 (Obj.cells.inj (Option.some.inj this)).2.1, bz g4.own hk h2, hmo _ _ _ _ _ hk m4⟩
 have d0 : (qe == 0) = false := by simp [Bt.out]
 have Cj := Lib.hid q4
 have yc := Lib.hid hl4
 replace hnl := Lib.hid hnl
 replace g4 := Lib.hid g4
 clear keep hmo m3 m4 hl4 q4 bO kT hl3 dR aM hb3 q3' g3'
 go_wp2_with fail
 go_at_call 40
 refine hrf.mono ?_
 clear hrf
 rintro en w5 ⟨xY, rfl, q5, g5, m5, jk, xZ⟩
 have c3 := q5.c3
 have f3 := q5.free 3
 have q6 := q5.jL (C.tasks + 1)
 have hfin : Hid (kY B w c mp n C L D E vl st ⟨y1, y2, y3, y4, y5, y6, y7, y8, y9⟩ qe (.returned (.tuple #[.int .i64 (C.tasks + 1), .int .i64 0])) (w5.setCell ⟨c, 3, none⟩ (.int .i64 (C.tasks + 1)))) := by
  have sc : ∀ k, k ≠ c → (w5.setCell ⟨c, 3, none⟩ (.int .i64 (C.tasks + 1))).heap[k]? = w5.heap[k]? := fun k hk => Below.heap_setCell w5 ⟨c, 3, none⟩ _ k hk
  have Ck := hO4.out.size
  refine ⟨xY, rfl, q6, ?_, ⟨?_, ?_, g5.bs⟩, ?_, ?_, ?_⟩
  ·refine ax yc.out fun k hk => ?_
   obtain ⟨cur, hc⟩ := df yc.out hk
   obtain ⟨n1, n2, n3⟩ := hnl.out _ _ _ _ hc (by decide) (by decide)
   exact (sc k (Put.aH hc Cj.out (by decide))).trans (jk.block k (ae hc) (fun e => by
    rcases e with e | e | e
    ·exact n1 e
    ·exact n2 e
    ·exact n3 e))
  ·exact (sc C.log (Put.aH g5.obj q5 (by decide))).trans g5.obj
  ·rw [show E ++ [stamp st (gp (C.tasks + 1) ⟨y1, y2, y3, y4, y5, y6, y7, y8, y9⟩), stamp st (dE 2 (C.tasks + 1) kX (dD qe)), stamp st (dE 3 (C.tasks + 1) kX (dD qe))] = (E ++ [stamp st (gp (C.tasks + 1) ⟨y1, y2, y3, y4, y5, y6, y7, y8, y9⟩)]) ++ [stamp st (dE 2 (C.tasks + 1) kX (dD qe)), stamp st (dE 3 (C.tasks + 1) kX (dD qe))] by rw [List.append_assoc]; rfl]
   refine ax g5.own fun k hk => ?_
   obtain ⟨cur, hc⟩ := df g5.own hk
   exact sc k (Put.aH hc q5 (by decide))
  ·obtain ⟨es, ck, h1, h2⟩ := m5
   refine ⟨es, ck, (sc mp (fun e => ?_)).trans h1, h2⟩
   rw [e, show w5.heap[c]? = _ from q5] at h1
   exact absurd h1 (by simp)
  ·have hO := hO4.out
   refine ⟨jk.os.trans hO.os, jk.tape.trans hO.tape, jk.output.trans hO.output, by simpa using Nat.le_trans hO.size jk.size, fun k hk hf => ?_⟩
   refine (sc k (fun e => hf (.inl e))).trans ((jk.block k (Nat.lt_of_lt_of_le hk hO.size) (fun e => ?_)).trans (hO.block k hk hf))
   rcases e with e | e | e
   ·exact hf (.inr (.inl e))
   ·rcases qd.out with h | ⟨b, h, hb⟩
    ·exact hf (.inr (.inr (.inl (by rw [← h]; exact e))))
    ·rw [h] at e
     injection e with e
     omega
   ·exact hf (.inr (.inr (.inr e)))
  ·exact qd.out.trans xZ Ck
 clear jk xZ g5 m5 q5 q6 g4 yc hnl hO4 qd
 go_wp2_with fail
 go_ret2
 exact hfin.out
end
end Go.Proofs.YtbdfpbknckghgaaGreat

namespace Go.Proofs.YtbdfpbknckghgaaGreat
open Go.RowKit Go.Lib Go.Sort Go.Maps
def outside (so dep : Int) : Bool := decide (so < 1) || decide (64 < so) || decide (dep < 1) || decide (64 < dep)
theorem uN (who so dep : Int) (h1 : 1 ≤ who) (h : outside so dep = true) (w : World) : Calls Tryz.prog 43 #[.int .i64 who, .int .i64 so, .int .i64 dep] w fun e w' => e = .returned (.tuple #[.pointer none, .int .i64 1]) ∧ w = w' := by
 have g1 := eP so w
 have g2 := eP dep w
 have b1 : ¬ who < 1 := by omega
 have d1 : decide (who < 1) = false := decide_eq_false b1
 cases e1 : (decide (1 ≤ so) && decide (so ≤ 64)) with
 | false =>
   rw [e1] at g1
   clear h e1 g2
   go_enter Tryz.func43, Tryz.ntmps43
   go_wp2_with (go_at_call 80; refine g1.mono ?_; rintro e w' ⟨rfl, rfl⟩)
   go_ret2
   exact ⟨rfl, rfl⟩
 | true =>
   have e2 : (decide (1 ≤ dep) && decide (dep ≤ 64)) = false := by
    unfold outside at h
    simp at h e1 ⊢
    omega
   rw [e1] at g1
   rw [e2] at g2
   clear h e1 e2
   go_enter Tryz.func43, Tryz.ntmps43
   go_wp2_with (go_at_call 80; first | (with_reducible refine g1.mono ?_; clear g1; rintro e w' ⟨rfl, rfl⟩) | (with_reducible refine g2.mono ?_; rintro e w' ⟨rfl, rfl⟩))
   go_ret2
   exact ⟨rfl, rfl⟩
section
variable {w : World} {B c n : Nat} {C : Ct} {xs : List Value} {so dep : Int}
theorem dM (q : aB w c C) (hl : w.ownsRow B 109 2 C.live n xs) (hn : n < 64) (ht : 0 ≤ C.tasks ∧ C.tasks ≤ 1000) (h : outside so dep = true) :
 Calls Tryz.prog 15 #[.pointer (some ⟨c, 0, none⟩), .int .i64 so, .int .i64 dep] w fun e w' => e = .returned (.tuple #[.int .i64 0, .int .i64 1]) ∧ w = w' := by
 have hrm : Calls Tryz.prog 38 #[.pointer (some ⟨c, 0, none⟩)] w fun e w' => e = .returned (.int .i64 0) ∧ w = w' := by
  exact ic
 have rD := uN (C.tasks + 1) so dep (by omega) h w
 have c3 := q.c3
 have wt : IntKind.i64.wrap (C.tasks + 1) = C.tasks + 1 := IntWalk.i64_in _ (by omega)
 clear q hl h
 go_enter Tryz.func15, Tryz.ntmps15
 go_wp2_with (first
  | (go_at_call 38; go_must (refine hrm.mono ?_); rintro e w' ⟨rfl, rfl⟩)
  | (go_at_call 43; go_must (refine rD.mono ?_); rintro e w' ⟨rfl, rfl⟩))
 go_ret2
 exact ⟨rfl, rfl⟩
end
end Go.Proofs.YtbdfpbknckghgaaGreat
