/-
 CtrlNobody of the Go text returns true for every input, and each argument reads afterwards as it read before. No condition.
-/
import Derived.Test.YtbdfpbknckghgaaGreatRows
import Derived.ProofKit
import Derived.OpenShut
import Derived.Test.YtbdfpbknckghgaaGreatZn2
set_option maxRecDepth 1000000
set_option maxHeartbeats 8000000
set_option linter.all false
namespace Go.Proofs.YtbdfpbknckghgaaGreat
open Go.RowKit Go.Lib Go.Sort
section
variable {w : World} {B c o h s : Nat} {C : Ct} {H : Hd} {l : Lk} {rq : Rq} {tid : Int} {L : List (Nat × Int)} {E : List Ev} {vl : Value} {st : Int}
def uM (w : World) (h s : Nat) (H : Hd) (l : Lk) (w' : World) : Prop := ax w' h (H.take l) ∧ az 94 w' s (l.dI H.lk H.who) ∧ aV (fun k => k = h ∨ k = s) w w'
theorem jV (q : aI w c C) (hO : bO w o h rq) (hH : ax w h H) (hL : az 94 w C.aQ l) (h0 : H.st = 0) (h5 : (H.take l).st ≠ 5) (hn : 0 ≤ l.n ∧ l.n ≤ 1000000) (hk : 0 ≤ H.lk ∧ H.lk ≤ 3) :
 Calls Tryz.prog 266 #[.agg #[.pointer (some ⟨o, 0, none⟩)], .pointer (some ⟨c, 0, none⟩), .int .i64 tid] w fun e w' => e = .returned (.bool false) ∧ uM w h C.aQ H l w' := by
 obtain ⟨w1, hw1⟩ : ∃ w1, w1 = w.alloc (.cells #[.pointer (some ⟨o, 0, none⟩)] 105) := ⟨_, rfl⟩
 have hb1 : Below w.heap.size w w1 := by rw [hw1]; exact (Below.refl _ _).alloc (Nat.le_refl _) _
 have hK1 : w1.heap[w.heap.size]? = some (.cells #[.pointer (some ⟨o, 0, none⟩)] 105 (0, 0)) := by rw [hw1]; exact heap_alloc_new w _
 obtain ⟨G, hG⟩ : ∃ G, G = w.heap.size := ⟨_, rfl⟩
 rw [← hG] at hK1
 have q1 := Lib.hid (q.below hb1 q.lt)
 have O1 : Hid (bO w1 o h rq) := (hb1.block o hO.lt).trans hO
 have H1 := Lib.hid (hH.below hb1 hH.lt)
 have L1 := Lib.hid (hL.below hb1 hL.lt)
 replace hK1 := Lib.hid hK1
 replace hb1 := Lib.hid hb1
 replace h0 := Lib.hid h0
 replace h5 := Lib.hid h5
 clear q hO hH hL
 go_enter Tryz.func266, Tryz.ntmps266
 go_wp2_with fail
 rw [← hw1, ← hG]
 replace hw1 := Lib.hid hw1
 replace hG := Lib.hid hG
 refine Reg2.ro w1 13 51 [.p 0, .m 1, .p 3, .p 7, .m 15, .p 0, .p 32, .p 96, .m 224, .p 0, .p 512, .p 1536, .m 3584] [.pointer (some ⟨o, 0, none⟩), .pointer (some ⟨h, 0, none⟩), .pointer (some ⟨C.core, 0, none⟩), .pointer (some ⟨C.aQ, 0, none⟩)] (by kernel_rfl) (by kernel_rfl) rfl rfl ⟨rfl, rfl, rfl, Nat.le_refl _, fun _ _ => rfl⟩ ?_
 dsimp only [Reg2.gW]
 repeat ((first
  | (refine' Reg2.bq _ (by rfl) (fun wz => ?_) ?_; rotate_left; (go_simp; first | rfl | rw [if_neg (by omega)]))
  | (refine Reg2.aR (by rfl) (fun wz hI hF => ?_) (fun _ => ?_)
     ·unfold Reg2.One
      have hX := (hI.block G (ak hK1.out)).trans hK1.out
      have d0 : wz.cell? ⟨G, 0, none⟩ = some (.pointer (some ⟨o, 0, none⟩)) := by simp [World.cell?, hX]
      have yU : bO wz o h rq := (hI.block o O1.out.lt).trans O1.out
      have d1 := yU.c0
      have d2 := (q1.out.below hI q1.out.lt).c0
      have d3 := (q1.out.below hI q1.out.lt).c2
      clear hX yU
      go_wp2_with fail
      first | exact ⟨_, rfl, rfl, Reg2.Ext.refl _⟩ | exact ⟨_, rfl, ⟨(), rfl, trivial⟩, Reg2.Ext.refl _⟩)); simp only [Act.put, xA, xB, xC, xD, xE, id])
 refine Reg2.bU ?_
 intro w2 HI _ nZ
 clear nZ
 dsimp only [List.drop]
 have hne : h ≠ C.aQ := Put.aM H1.out L1.out (by decide)
 have hs := mY (cv := .pointer (some ⟨C.core, 0, none⟩)) (H1.out.below HI H1.out.lt) h0.out (L1.out.below HI L1.out.lt) hn hk hne
 have O2 : Hid (bO w2 o h rq) := (HI.block o O1.out.lt).trans O1.out
 have hK2 := Lib.hid ((HI.block G (ak hK1.out)).trans hK1.out)
 have hb2 : Hid (Below w.heap.size w w2) := hb1.out.trans (HI.mono hb1.out.size)
 have L2 := Lib.hid (L1.out.below HI L1.out.lt)
 have H2 := Lib.hid (H1.out.below HI H1.out.lt)
 clear q1 O1 H1 L1 hK1 hb1 HI
 go_wp2_with fail
 go_at_call 267
 refine hs.mono ?_
 clear hs
 rintro e w3 ⟨rfl, H3, L3, ho3⟩
 have O3 : bO w3 o h rq := (ho3.block o O2.out.lt (fun e => e.elim (Put.aM O2.out H2.out (by decide)) (Put.aM O2.out L2.out (by decide)))).trans O2.out
 have hX := (ho3.block G (ak hK2.out) (fun e => e.elim (Put.aM hK2.out H2.out (by decide)) (Put.aM hK2.out L2.out (by decide)))).trans hK2.out
 have d0 : w3.cell? ⟨G, 0, none⟩ = some (.pointer (some ⟨o, 0, none⟩)) := by simp [World.cell?, hX]
 have hf := lW O3 H3
 rw [beq_eq_false_iff_ne.2 h5.out] at hf
 have hfin : Hid (uM w h C.aQ H l w3) := ⟨H3, L3, (aV.of_below hb2.out).trans ho3 (jA.refl _ _)⟩
 clear H3 L3 ho3 O3 hX O2 hK2 hb2 L2 H2
 go_wp2_with (go_at_call 269; go_must (refine hf.mono ?_); rintro e w' ⟨rfl, rfl⟩)
 go_ret
 exact ⟨rfl, hfin.out⟩
theorem step_take (q : aI w c C) (hg : LG B w C.log st vl E) (hst : 0 ≤ st ∧ st ≤ 1000) (hl : w.ownsRow B 109 2 C.live L.length (L.flatMap aP)) (hLn : 0 < L.length) (hL0 : L[0]! = (o, tid)) (hO : bO w o h rq) (hH : ax w h H) (hL : az 94 w C.aQ l) (h0 : H.st = 0) (h5 : (H.take l).st ≠ 5) (hn : 0 ≤ l.n ∧ l.n ≤ 1000000) (hk : 0 ≤ H.lk ∧ H.lk ≤ 3) :
 Calls Tryz.prog 45 #[.pointer (some ⟨c, 0, none⟩), .int .i64 0] w fun e w' => e = .returned (.tuple #[]) ∧ ax w' h (H.take l) ∧ az 94 w' C.aQ (l.dI H.lk H.who) ∧ aV (fun k => k = h ∨ k = C.aQ ∨ k = C.log) w w' := by
 have hT := uz hg hst.1 hst.2
 have c1 := q.c1
 have q0 := Lib.hid q
 have O0 := Lib.hid hO
 have H0 := Lib.hid hH
 have L0 := Lib.hid hL
 have hl0 := Lib.hid hl
 have g0 := Lib.hid hg
 replace h0 := Lib.hid h0
 replace h5 := Lib.hid h5
 clear q hO hH hL hl hg hst
 go_enter Tryz.func45, Tryz.ntmps45
 go_wp2_with fail
 go_at_call 81
 refine hT.mono ?_
 clear hT c1
 rintro e w1 ⟨rfl, g1, ho1⟩
 have keep : ∀ (k : Nat) (cs : Array Value) (T : TypeId) (f : Nat × Nat), w.heap[k]? = some (.cells cs T f) → T ≠ 91 → w1.heap[k]? = some (.cells cs T f) := fun k cs T f hk h1 =>
  (ho1.block k (Put.lt_of_heap hk) (fun e => by
   subst e
   have := g0.out.obj
   rw [hk] at this
   exact h1 (Obj.cells.inj (Option.some.inj this)).2.1) (by simp)).trans hk
 have q1 : aI w1 c C := keep _ _ _ _ q0.out (by decide)
 have O1 : bO w1 o h rq := keep _ _ _ _ O0.out (by decide)
 have H1 : ax w1 h H := keep _ _ _ _ H0.out (by decide)
 have L1 : az 94 w1 C.aQ l := keep _ _ _ _ L0.out (by decide)
 have hl1 : w1.ownsRow B 109 2 C.live L.length (L.flatMap aP) := aD hl0.out fun k hk => by
  obtain ⟨cur, hc⟩ := ik hl0.out hk
  exact (keep _ _ _ _ hc (by decide)).trans hc.symm
 obtain ⟨ao, cap, e0, r1, r2, r3⟩ := au.gK hl1 gJ rfl rfl
 obtain ⟨g, off, rfl, hgl, hcell⟩ := r3 hLn
 have hx := fun (j : Nat) (z : Value) (hz : (aP (o, tid))[j]? = some z) => hcell 0 (o, tid) j z (by rw [← hL0, getElem!_pos L 0 hLn]; exact List.getElem?_eq_getElem hLn) hz
 have k0 : w1.cell? ⟨g, off, none⟩ = some (.iface 105 (.agg #[.pointer (some ⟨o, 0, none⟩)])) := by simpa using hx 0 _ rfl
 have k1 : w1.cell? ⟨g, off + 1, none⟩ = some (.int .i64 tid) := by simpa using hx 1 _ rfl
 have c4 := q1.c4
 rw [e0] at c4
 have b0 : (0 : Int) < (L.length : Int) := by omega
 obtain ⟨w2, hw2⟩ : ∃ w2, w2 = w1.alloc (.cells #[.iface 105 (.agg #[.pointer (some ⟨o, 0, none⟩)]), .int .i64 tid] 109) := ⟨_, rfl⟩
 have hb2 : Below w1.heap.size w1 w2 := by rw [hw2]; exact (Below.refl _ _).alloc (Nat.le_refl _) _
 have hK2 : w2.heap[w1.heap.size]? = some (.cells #[.iface 105 (.agg #[.pointer (some ⟨o, 0, none⟩)]), .int .i64 tid] 109 (0, 0)) := by rw [hw2]; exact heap_alloc_new w1 _
 have hp := jV (tid := tid) (q1.below hb2 q1.lt) ((hb2.block o O1.lt).trans O1) (H1.below hb2 H1.lt) (L1.below hb2 L1.lt) h0.out h5.out hn hk
 obtain ⟨G, hG⟩ : ∃ G, G = w1.heap.size := ⟨_, rfl⟩
 rw [← hG] at hK2
 have hO2 : Hid (aV (fun k => k = h ∨ k = C.aQ ∨ k = C.log) w w2) := by
  refine aV.trans (S' := fun k => k = h ∨ k = C.aQ ∨ k = C.log) ⟨ho1.os, ho1.tape, ho1.output, ho1.size, fun k hk hf => ho1.block k hk (fun e => hf (.inr (.inr e))) (by simp)⟩ (aV.of_below hb2) (jA.refl _ _)
 have hmp := fun k W => jU k o W
 have d0 : w2.cell? ⟨G, 0, none⟩ = some (.iface 105 (.agg #[.pointer (some ⟨o, 0, none⟩)])) := by simp [World.cell?, hK2]
 have d1 : w2.cell? ⟨G, 1, none⟩ = some (.int .i64 tid) := by simp [World.cell?, hK2]
 rw [hG, hw2] at d0 d1
 replace e0 := Lib.hid e0
 replace hp := Lib.hid hp
 clear hx hcell r1 r2 r3 q1 O1 H1 L1 hl1 keep ho1 g1 hb2 hK2 hG
 go_wp2_with fail
 rw [← hw2]
 go_at_call 266
 refine hp.out.mono ?_
 clear hp
 rintro e w3 ⟨rfl, H3, L3, ho3⟩
 have hfin : Hid (ax w3 h (H.take l) ∧ az 94 w3 C.aQ (l.dI H.lk H.who) ∧ aV (fun k => k = h ∨ k = C.aQ ∨ k = C.log) w w3) := ⟨H3, L3, hO2.out.trans ho3 fun k hk => .inl (hk.elim .inl (fun e => .inr (.inl e)))⟩
 clear H3 L3 ho3
 go_wp2_with fail
 go_end0
 exact ⟨rfl, hfin.out⟩
end
end Go.Proofs.YtbdfpbknckghgaaGreat

namespace Go.Proofs.YtbdfpbknckghgaaGreat
open Go.RowKit Go.Lib Go.Sort
section
variable {w : World} {B c o h s : Nat} {C : Ct} {H : Hd} {l : Lk} {rq : Rq} {tid : Int} {L : List (Nat × Int)} {E : List Ev} {vl : Value} {st : Int}
theorem LG.kept {w' : World} (g : LG B w s st vl E) (hb : Below w.heap.size w w') : LG B w' s st vl E := g.below hb
theorem uN (q : aI w c C) (hg : LG B w C.log st vl E) (hst : 0 ≤ st ∧ st ≤ 1000) (hl : w.ownsRow B 109 2 C.live L.length (L.flatMap aP)) (hLn : 0 < L.length) (hL0 : L[0]! = (o, tid)) (hO : bO w o h rq) (hH : ax w h H) (hL : az 94 w C.aQ l) (h0 : H.st = 0) (hw : nY H l = false) (h5 : (H.take l).st ≠ 5) (hn : 0 ≤ l.n ∧ l.n ≤ 1000000) (hk : 0 ≤ H.lk ∧ H.lk ≤ 3) :
 Calls Tryz.prog 20 #[.pointer (some ⟨c, 0, none⟩), .int .i64 tid] w fun e w' => e = .returned (.bool true) ∧ ax w' h (H.take l) ∧ az 94 w' C.aQ (l.dI H.lk H.who) ∧ aV (fun k => k = h ∨ k = C.aQ ∨ k = C.log) w w' := by
 have hal := eY q
 obtain ⟨ao, cap, e0, r1, r2, r3⟩ := au.gK hl gJ rfl rfl
 obtain ⟨g, off, rfl, hgl, hcell⟩ := r3 hLn
 have hx := fun (j : Nat) (z : Value) (hz : (aP (o, tid))[j]? = some z) => hcell 0 (o, tid) j z (by rw [← hL0, getElem!_pos L 0 hLn]; exact List.getElem?_eq_getElem hLn) hz
 have k0 : w.cell? ⟨g, off, none⟩ = some (.iface 105 (.agg #[.pointer (some ⟨o, 0, none⟩)])) := by simpa using hx 0 _ rfl
 have k1 : w.cell? ⟨g, off + 1, none⟩ = some (.int .i64 tid) := by simpa using hx 1 _ rfl
 rw [e0] at hal
 have b0 : (0 : Int) < (L.length : Int) := by omega
 have q0 := Lib.hid q
 have O0 := Lib.hid hO
 have H0 := Lib.hid hH
 have L0 := Lib.hid hL
 have hl0 := Lib.hid hl
 have g0 := Lib.hid hg
 replace h0 := Lib.hid h0
 replace h5 := Lib.hid h5
 replace hw := Lib.hid hw
 replace e0 := Lib.hid e0
 replace hL0 := Lib.hid hL0
 clear q hO hH hL hl hg hx hcell r1 r2 r3
 go_enter Tryz.func20, Tryz.ntmps20
 go_wp2_with (go_at_call 42; go_must (refine hal.mono ?_); rintro e w' ⟨rfl, rfl⟩)
 clear hal
 go_loopw [5, 6, 10] (fun _ _ ii wr => ii = .int .i64 0 ∧ w = wr) (fun _ _ _ _ => 1)
 case atStart => exact ⟨rfl, rfl⟩
 case round =>
  obtain ⟨rfl, rfl⟩ := hrel
  obtain ⟨w1, hw1⟩ : ∃ w1, w1 = w.alloc (.cells #[.iface 105 (.agg #[.pointer (some ⟨o, 0, none⟩)]), .int .i64 tid] 109) := ⟨_, rfl⟩
  have hb1 : Below w.heap.size w w1 := by rw [hw1]; exact (Below.refl _ _).alloc (Nat.le_refl _) _
  have hK1 : w1.heap[w.heap.size]? = some (.cells #[.iface 105 (.agg #[.pointer (some ⟨o, 0, none⟩)]), .int .i64 tid] 109 (0, 0)) := by rw [hw1]; exact heap_alloc_new w _
  obtain ⟨G, hG⟩ : ∃ G, G = w.heap.size := ⟨_, rfl⟩
  rw [← hG] at hK1
  have q1 := Lib.hid (q0.out.below hb1 q0.out.lt)
  replace hb1 := Lib.hid hb1
  replace hK1 := Lib.hid hK1
  go_wp2_with fail
  rw [← hw1, ← hG]
  replace hw1 := Lib.hid hw1
  replace hG := Lib.hid hG
  refine Reg2.ro w1 13 35 [.p 0, .m 1, .p 0, .p 7, .p 15, .p 31, .m 63, .p 31, .p 159, .p 415, .m 927, .p 127, .p 2175] [.int .i64 tid, .iface 105 (.agg #[.pointer (some ⟨o, 0, none⟩)]), .pointer (some ⟨C.aQ, 0, none⟩)] (by kernel_rfl) (by kernel_rfl) rfl rfl ⟨rfl, rfl, rfl, Nat.le_refl _, fun _ _ => rfl⟩ ?_
  dsimp only [Reg2.gW]
  repeat ((first
   | (refine' Reg2.bq _ (by rfl) (fun wz => ?_) ?_; rotate_left; (go_simp; first | rfl | rw [if_neg (by omega)]))
   | (refine Reg2.aR (by rfl) (fun wz hI hF => ?_) (fun _ => ?_)
      ·unfold Reg2.One
       have hX := (hI.block G (ak hK1.out)).trans hK1.out
       have d0 : wz.cell? ⟨G, 0, none⟩ = some (.iface 105 (.agg #[.pointer (some ⟨o, 0, none⟩)])) := by simp [World.cell?, hX]
       have d2 : wz.cell? ⟨G, 1, none⟩ = some (.int .i64 tid) := by simp [World.cell?, hX]
       have d1 := (q1.out.below hI q1.out.lt).c2
       clear hX
       go_wp2_with fail
       first | exact ⟨_, rfl, rfl, Reg2.Ext.refl _⟩ | exact ⟨_, rfl, ⟨(), rfl, trivial⟩, Reg2.Ext.refl _⟩)); simp only [Act.put, xA, xB, xC, xD, xE, id])
  refine Reg2.bU ?_
  intro w2 HI2 _ nZ
  clear nZ
  dsimp only [List.drop]
  have hb2 : Below w.heap.size w w2 := hb1.out.trans (HI2.mono hb1.out.size)
  have O2 : bO w2 o h rq := (hb2.block o O0.out.lt).trans O0.out
  have c0 := O2.c0
  have xO := jb c0
  have H2 := H0.out.below hb2 H0.out.lt
  have L2 := L0.out.below hb2 L0.out.lt
  have hwt := iG H2 L2
  rw [hw.out] at hwt
  have hs := step_take (q0.out.below hb2 q0.out.lt) (g0.out.kept hb2) hst (Put.bG hl0.out hb2) hLn hL0.out O2 H2 L2 h0.out h5.out hn hk
  replace hs := Lib.hid hs
  replace hb2 := Lib.hid hb2
  clear O2 H2 L2 c0 hb1 hK1 q1 HI2 k0 k1
  go_wp2_with (go_at_call 262; go_must (refine hwt.mono ?_); rintro e w' ⟨rfl, rfl⟩)
  go_at_call 45
  refine hs.out.mono ?_
  clear hs xO hwt
  rintro e w3 ⟨rfl, H3, L3, ho3⟩
  have hfin : Hid (ax w3 h (H.take l) ∧ az 94 w3 C.aQ (l.dI H.lk H.who) ∧ aV (fun k => k = h ∨ k = C.aQ ∨ k = C.log) w w3) := ⟨H3, L3, (aV.of_below hb2.out).trans ho3 (jA.refl _ _)⟩
  clear H3 L3 ho3
  go_wp2_with fail
  go_ret
  exact ⟨rfl, hfin.out⟩
end
end Go.Proofs.YtbdfpbknckghgaaGreat

namespace Go.Proofs.YtbdfpbknckghgaaGreat
open Go.RowKit
section
variable {w : World} {b : Nat} {l : List UInt8} {o : Option (List UInt8)}
def pq (l : List UInt8) (w' : World) (b : Nat) (e : Ending) : Prop :=
 (∃ (x : Bool) (rest : List UInt8), l = (if x then 1 else 0) :: rest ∧ e = .returned (.bool x) ∧ RS w' b rest 0) ∨
 ((∀ (x : Bool) (rest : List UInt8), l ≠ (if x then 1 else 0) :: rest) ∧ e = .returned (.bool false) ∧ ∃ q, eU q ∧ RS w' b [] q)
theorem uO (hl : l.length ≤ 10000) (h : RS w b l 0) : Calls Tryz.prog 71 #[.pointer (some ⟨b, 0, none⟩)] w fun e w' => pq l w' b e ∧ Only b w w' := by
 match l, hl, h with
 | [], _, h =>
   go_enter Tryz.func71, Tryz.ntmps71
   go_wp2_with (go_at_call 69; go_must (refine (iJ h).mono ?_); rintro e w1 ⟨rfl, h2, o2⟩)
   go_ret
   exact ⟨.inr ⟨fun x rest => by simp, rfl, 2, lV, h2⟩, o2⟩
 | c :: l, hl, h =>
   have hl3 : l.length ≤ 100000 := by simp at hl; omega
   clear hl
   obtain ⟨n, hn⟩ : ∃ n, n = c.toNat := ⟨_, rfl⟩
   have hnn : Hid ((c.toNat : Int) = (n : Int)) := by show _ = _; rw [hn]
   by_cases h0 : n = 0
   ·have hc : c = 0 := UInt8.toNat_inj.1 (by rw [← hn, h0]; rfl)
    subst hc
    clear hn hnn h0
    go_enter Tryz.func71, Tryz.ntmps71
    go_wp2_with (go_at_call 69; go_must (refine (dX 0 h hl3).mono ?_); rintro e w1 ⟨rfl, h2, o2⟩)
    go_ret
    exact ⟨.inl ⟨false, l, rfl, rfl, h2⟩, o2⟩
   by_cases h1 : n = 1
   ·have hc : c = 1 := UInt8.toNat_inj.1 (by rw [← hn, h1]; rfl)
    subst hc
    clear hn hnn h0 h1
    go_enter Tryz.func71, Tryz.ntmps71
    go_wp2_with (go_at_call 69; go_must (refine (dX 1 h hl3).mono ?_); rintro e w1 ⟨rfl, h2, o2⟩)
    go_ret
    exact ⟨.inl ⟨true, l, rfl, rfl, h2⟩, o2⟩
   have hno : Hid (∀ (x : Bool) (rest : List UInt8), c :: l ≠ (if x then 1 else 0) :: rest) := by
    show ∀ (x : Bool) (rest : List UInt8), c :: l ≠ (if x then 1 else 0) :: rest
    intro x rest he
    rw [List.cons.injEq] at he
    have := he.1
    subst this
    cases x
    ·exact h0 hn
    ·exact h1 hn
   have t1 : (1 : Int) < (n : Int) := by omega
   have t2 : ((n : Int) == 1) = false := beq_eq_false_iff_ne.2 (by omega)
   clear hn h0 h1
   go_enter Tryz.func71, Tryz.ntmps71
   go_wp2_with (first | (go_at_call 69; go_must (refine (dX c h hl3).mono ?_); rintro e w1 ⟨rfl, h2, o2⟩; rw [hnn.out]) | (go_at_call 109; go_must (refine (jJ 4 (by decide) h2).mono ?_); rintro e w3 ⟨rfl, h3, o3⟩))
   go_ret
   exact ⟨.inr ⟨hno.out, rfl, 4, pJ, h3⟩, o2.trans o3⟩
theorem ru {q : Int} (hq : q ≠ 0) (h : RS w b [] q) : Calls Tryz.prog 71 #[.pointer (some ⟨b, 0, none⟩)] w fun e w' => e = .returned (.bool false) ∧ w = w' := by
 have h0 := iK hq h
 clear hq
 go_enter Tryz.func71, Tryz.ntmps71
 go_wp2_with (go_at_call 69; go_must (refine h0.mono ?_); rintro e w1 ⟨rfl, rfl⟩)
 go_ret
 exact ⟨rfl, rfl⟩
theorem uP (h : RU w b o) : Calls Tryz.prog 71 #[.pointer (some ⟨b, 0, none⟩)] w fun e w' => ∃ x o', e = .returned (.bool x) ∧ BR o x o' ∧ RU w' b o' ∧ Only b w w' := by
 cases o with
 | some l =>
   refine (uO h.2 h.1).mono ?_
   rintro e w' ⟨⟨x, rest, hl, rfl, hr⟩ | ⟨no, rfl, q, hq, hr⟩, ho⟩
   ·refine ⟨x, some rest, rfl, .inl ⟨rest, hl, rfl⟩, ⟨hr, ?_⟩, ho⟩
    have := h.2
    rw [hl, List.length_cons] at this
    omega
   ·exact ⟨false, none, rfl, .inr ⟨rfl, rfl, no⟩, ⟨q, hq, hr⟩, ho⟩
 | none =>
   obtain ⟨q, hq, h⟩ := h
   refine (ru hq.ne h).mono ?_
   rintro e w' ⟨rfl, rfl⟩
   exact ⟨false, none, rfl, ⟨rfl, rfl⟩, ⟨q, hq, h⟩, Only.refl _ _⟩
end
end Go.Proofs.YtbdfpbknckghgaaGreat

namespace Go.Proofs.YtbdfpbknckghgaaGreat
open Go.RowKit
section
variable {c0 c1 s : UInt8} {mid : List UInt8}
theorem bW {r : Rq} (h : aW r = true) : (1 ≤ r.kind ∧ r.kind ≤ 13) ∧ ah r = r := by
 unfold aW at h
 simpa using h
end
end Go.Proofs.YtbdfpbknckghgaaGreat

namespace Go.Proofs.YtbdfpbknckghgaaGreat
open Go.RowKit
def aT (l : List UInt8) (x : Rq) : Prop := bf x ∧ ∀ r, bf r → aW r = true → dZ r = l → x = r
def aa (w : World) (g : Nat) (r : Rq) : Prop := w.heap[g]? = some (.cells (encR r).toArray 28 (0, 0))
theorem aa.only {w w' : World} {g b : Nat} {r : Rq} (h : aa w g r) (ho : Only b w w') (hg : g ≠ b) : aa w' g r := (ho.block g hg).trans h
theorem aa.past {w : World} {g : Nat} {r : Rq} (h : aa w g r) (o : Obj) : aa (w.alloc o) g r := cO h
theorem aa.ext {w w' : World} {g B : Nat} {r : Rq} (h : aa w g r) (hb : Below B w w') (hg : g < B) : aa w' g r := (hb.block g hg).trans h
theorem aa.below {w w' : World} {g : Nat} {r : Rq} (h : aa w g r) (hb : Below w.heap.size w w') : aa w' g r := (hb.block g (ak h)).trans h
theorem aa.free {w : World} {g : Nat} {r : Rq} (h : aa w g r) (j : Nat) : w.frozen? ⟨g, j, none⟩ = false := by simp [World.frozen?, show w.heap[g]? = _ from h]
theorem aa.set {w : World} {g : Nat} {r : Rq} (h : aa w g r) (j : Nat) (u : Value) (r' : Rq) (he : (encR r).toArray.setIfInBounds j u = (encR r').toArray) : aa (w.setCell ⟨g, j, none⟩ u) g r' := by
 have := heap_put (i := j) h u
 rw [he] at this
 exact this
theorem aa.aG {w : World} {g b : Nat} {r : Rq} (h : aa w g r) (j : Nat) (u : Value) (hg : g ≠ b) : aa (w.setCell ⟨b, j, none⟩ u) g r := (Below.heap_setCell _ _ _ _ hg).trans h
theorem aa.store {w : World} {g : Nat} {r : Rq} (h : aa w g r) (x : Rq) : Sem.run Tryz.prog (storeCells ⟨g, 0, none⟩ (encR x) 0) w = .ok () (w.setRow g (encR x).toArray) ∧ aa (w.setRow g (encR x).toArray) g x := by
 refine ⟨?_, setRow_heap w g _ _ _ _ h⟩
 have hst := run_storeCells_at Tryz.prog g 0 28 (encR x) 0 (encR r).toArray w h (by simp [aB]) (kz x)
 simp only [Nat.add_zero] at hst
 rw [hst]
 rfl
theorem bX {B g : Nat} {w0 w : World} (hb : Below B w0 w) (hBg : B ≤ g) (j : Nat) (u : Value) : Below B w0 (w.setCell ⟨g, j, none⟩ u) := hb.trans ((Only.setCell g j w u).below hBg)
theorem dB {B g : Nat} {w0 w : World} (hb : Below B w0 w) (hBg : B ≤ g) (cs : Array Value) : Below B w0 (w.setRow g cs) := hb.trans ((⟨rfl, rfl, rfl, by simp, fun k hk => setRow_other w g k _ hk⟩ : Only g w (w.setRow g cs)).below hBg)
theorem RU.same {w w' : World} {b : Nat} {o : Option (List UInt8)} (h : RU w b o) (he : w'.heap[b]? = w.heap[b]?) : RU w' b o := by
 cases o with
 | some l => exact ⟨he.trans h.1, h.2⟩
 | none => obtain ⟨q, hq, h⟩ := h; exact ⟨q, hq, he.trans h⟩
theorem RU.aG {w : World} {b g : Nat} {o : Option (List UInt8)} (h : RU w b o) (j : Nat) (u : Value) (hg : b ≠ g) : RU (w.setCell ⟨g, j, none⟩ u) b o := h.same (Below.heap_setCell _ _ _ _ hg)
theorem SR.fit {o o' : Option (List UInt8)} {x : Int} (h : SR o x o') : Fit x := by
 cases o with
 | none => rw [h.1]; exact ⟨by decide, by decide⟩
 | some l =>
   rcases h with ⟨h, _⟩ | ⟨rfl, _⟩
   ·exact h
   ·exact ⟨by decide, by decide⟩
theorem SR.enc {y x : Int} {s : List UInt8} {o : Option (List UInt8)} (h : SR (some (Go.Proofs.YtbdfpbknckghgaaGreat.enc (zg y) ++ s)) x o) (hy : Fit y) : x = y ∧ o = some s := by
 rcases h with ⟨hx, rest, he, ho⟩ | ⟨_, _, no⟩
 ·obtain ⟨h1, h2⟩ := bS hy hx he
  exact ⟨h1.symm, by rw [ho, h2]⟩
 ·exact absurd rfl (no y s hy)
theorem BR.enc {y x : Bool} {s : List UInt8} {o : Option (List UInt8)} (h : BR (some ((if y then 1 else 0) :: s)) x o) : x = y := by
 rcases h with ⟨rest, he, _⟩ | ⟨_, _, no⟩
 ·rw [List.cons.injEq] at he
  have := he.1
  cases x <;> cases y <;> first | rfl | (simp at this)
 ·exact absurd rfl (no y s)
theorem eP {r : Rq} {c0 c1 : UInt8} {t : List UInt8} (hr : aW r = true) (he : dZ r = c0 :: c1 :: t) : r.kind = (c1.toNat : Int) ∧ ∃ s, t = ae r ++ [s] := by
 have hk := (bW hr).1
 have h1 : bM 183 :: bM r.kind.toNat :: (ae r ++ [bM (jT (bC r))]) = c0 :: c1 :: t := he
 rw [List.cons.injEq, List.cons.injEq] at h1
 obtain ⟨_, h2, h3⟩ := h1
 refine ⟨?_, _, h3.symm⟩
 rw [← h2, aN (by omega)]
 omega
section
variable {c0 c1 : UInt8} {t : List UInt8}
theorem bJ : (-9223372036854775808 : Int) ≤ 0 ∧ (0 : Int) ≤ 9223372036854775807 := by omega
theorem nO {a b c d : Int} {e : Bool} {o1 o2 o3 o4 o5 : Option (List UInt8)} (hc : c1.toNat = 1) (h1 : SR (some t) a o1) (h2 : SR o1 b o2) (h3 : SR o2 c o3) (h4 : SR o3 d o4) (h5 : BR o4 e o5) : aT (c0 :: c1 :: t) ⟨1, 0, a, b, c, d, e, 0, 0⟩ := by
 refine ⟨⟨by show (-9223372036854775808 : Int) ≤ 1 ∧ (1 : Int) ≤ _; omega, bJ, h1.fit, h2.fit, h3.fit, h4.fit, bJ, bJ⟩, fun r fr hr he => ?_⟩
 obtain ⟨hk, s, rfl⟩ := eP hr he
 rw [hc] at hk
 have hf : ae r = enc (zg r.user) ++ (enc (zg r.width) ++ (enc (zg r.limit) ++ (enc (zg r.prio) ++ [if r.held then 1 else 0]))) := by
  unfold ae; rw [if_pos (by rw [hk]; rfl)]; simp [aj]
 rw [hf] at h1
 simp only [List.append_assoc] at h1
 obtain ⟨rfl, rfl⟩ := h1.enc fr.user
 obtain ⟨rfl, rfl⟩ := h2.enc fr.width
 obtain ⟨rfl, rfl⟩ := h3.enc fr.limit
 obtain ⟨rfl, rfl⟩ := h4.enc fr.prio
 have h5 := BR.enc (s := [s]) h5
 have hcl := (bW hr).2
 unfold ah at hcl
 rw [if_pos (by rw [hk]; rfl), hk] at hcl
 rw [h5]
 exact hcl
theorem cz {x : Int} {o : Option (List UInt8)} (k : Nat) (hk2 : k = 2 ∨ k = 3 ∨ k = 4 ∨ k = 5 ∨ k = 6) (hc : c1.toNat = k) (h1 : SR (some t) x o) : aT (c0 :: c1 :: t) ⟨k, x, 0, 0, 0, 0, false, 0, 0⟩ := by
 refine ⟨⟨by show (-9223372036854775808 : Int) ≤ (k : Int) ∧ (k : Int) ≤ _; omega, h1.fit, bJ, bJ, bJ, bJ, bJ, bJ⟩, fun r fr hr he => ?_⟩
 obtain ⟨hk, s, rfl⟩ := eP hr he
 rw [hc] at hk
 have hf : ae r = enc (zg r.id) := by unfold ae; rw [if_neg (by omega), if_pos (by omega)]
 rw [hf] at h1
 obtain ⟨rfl, _⟩ := h1.enc fr.id
 have hcl := (bW hr).2
 unfold ah at hcl
 rw [if_neg (by omega), if_pos (by omega), hk] at hcl
 exact hcl
theorem il {x : Int} {o : Option (List UInt8)} (k : Nat) (hk2 : k = 7 ∨ k = 8) (hc : c1.toNat = k) (h1 : SR (some t) x o) : aT (c0 :: c1 :: t) ⟨k, 0, 0, 0, 0, 0, false, x, 0⟩ := by
 refine ⟨⟨by show (-9223372036854775808 : Int) ≤ (k : Int) ∧ (k : Int) ≤ _; omega, bJ, bJ, bJ, bJ, bJ, h1.fit, bJ⟩, fun r fr hr he => ?_⟩
 obtain ⟨hk, s, rfl⟩ := eP hr he
 rw [hc] at hk
 have hf : ae r = enc (zg r.node) := by unfold ae; rw [if_neg (by omega), if_neg (by omega), if_pos (by omega)]
 rw [hf] at h1
 obtain ⟨rfl, _⟩ := h1.enc fr.node
 have hcl := (bW hr).2
 unfold ah at hcl
 rw [if_neg (by omega), if_neg (by omega), if_pos (by omega), hk] at hcl
 exact hcl
theorem nP {x : Int} {o : Option (List UInt8)} (hc : c1.toNat = 9) (h1 : SR (some t) x o) : aT (c0 :: c1 :: t) ⟨9, 0, 0, 0, 0, 0, false, 0, x⟩ := by
 refine ⟨⟨by show (-9223372036854775808 : Int) ≤ 9 ∧ (9 : Int) ≤ _; omega, bJ, bJ, bJ, bJ, bJ, bJ, h1.fit⟩, fun r fr hr he => ?_⟩
 obtain ⟨hk, s, rfl⟩ := eP hr he
 rw [hc] at hk
 have hf : ae r = enc (zg r.till) := by unfold ae; rw [if_neg (by omega), if_neg (by omega), if_neg (by omega), if_pos (by omega)]
 rw [hf] at h1
 obtain ⟨rfl, _⟩ := h1.enc fr.till
 have hcl := (bW hr).2
 unfold ah at hcl
 rw [if_neg (by omega), if_neg (by omega), if_neg (by omega), if_pos (by omega), hk] at hcl
 exact hcl
theorem ry {m : Nat} (hc : c1.toNat = m) (h1 : m ≠ 1) (h2 : m ≠ 2) (h3 : m ≠ 3) (h4 : m ≠ 4) (h5 : m ≠ 5) (h6 : m ≠ 6) (h7 : m ≠ 7) (h8 : m ≠ 8) (h9 : m ≠ 9) : aT (c0 :: c1 :: t) ⟨m, 0, 0, 0, 0, 0, false, 0, 0⟩ := by
 have hm := c1.toNat_lt
 refine ⟨⟨by show (-9223372036854775808 : Int) ≤ (m : Int) ∧ (m : Int) ≤ _; omega, bJ, bJ, bJ, bJ, bJ, bJ, bJ⟩, fun r fr hr he => ?_⟩
 obtain ⟨hk, s, rfl⟩ := eP hr he
 rw [hc] at hk
 have hcl := (bW hr).2
 unfold ah at hcl
 rw [if_neg (by omega), if_neg (by omega), if_neg (by omega), if_neg (by omega), hk] at hcl
 exact hcl
end
theorem aa.lt {w : World} {g : Nat} {r : Rq} (h : aa w g r) : g < w.heap.size := ak h
theorem uQ {b off n cap : Nat} {w : World} {c0 c1 : UInt8} {t : List UInt8} (hc : c1.toNat = 2) (hn : n = t.length + 2) (dm : n ≤ 64) (hcap : n ≤ cap) (hcm : cap ≤ maxLen) (hr : bz w (.slice (some ⟨b, off + 1, none⟩) (n - 1) (cap - 1)) (c1 :: t)) :
 Calls Tryz.prog 35 #[.slice (some ⟨b, off, none⟩) n cap] w fun e w' => ∃ x, e = .returned (.agg (encR x).toArray) ∧ aT (c0 :: c1 :: t) x ∧ Below w.heap.size w w' := by
 have hcx : Hid ((c1.toNat : Int) = 2) := by show _ = _; rw [hc]; rfl
 have jk : cap ≤ 9223372036854775807 := by unfold maxLen at hcm; omega
 have hn1 : 1 ≤ n := by omega
 have hc1 : ¬ cap = 1 := by omega
 have hc2 : 1 < cap := by omega
 have hc3 : ¬ cap - 1 = 0 := by omega
 have hrd := bZ _ (hr.keeps (w' := w.alloc (.cells #[.int .i64 0, .int .i64 0, .int .i64 0, .int .i64 0, .int .i64 0, .int .i64 0, .bool false, .int .i64 0, .int .i64 0] 28)) (dD.dG ((Below.refl _ _).alloc (Nat.le_refl _) _))) (by simp; omega)
 replace hn := Lib.hid hn
 obtain ⟨wA, ag⟩ : ∃ wA, wA = w.alloc (.cells #[.int .i64 0, .int .i64 0, .int .i64 0, .int .i64 0, .int .i64 0, .int .i64 0, .bool false, .int .i64 0, .int .i64 0] 28) := ⟨_, rfl⟩
 have bF : Hid (Below w.heap.size w wA) := by show Below _ _ _; rw [ag]; exact (Below.refl _ _).alloc (Nat.le_refl _) _
 have hsA : wA.heap.size = w.heap.size + 1 := by rw [ag]; simp
 have cB : aa wA w.heap.size af := by rw [ag]; exact heap_alloc_new w _
 clear hr hcm
 go_enter Tryz.func35, Tryz.ntmps35
 go_wp2_with fail
 go_at_call 68
 refine hrd.mono ?_
 clear hrd
 rw [← ag]
 rintro e w1 ⟨rfl, hu1, he1⟩
 rw [hsA] at hu1
 have aU : aa w1 w.heap.size af := cB.ext he1 (by omega)
 have hb1 : Hid (Below w.heap.size w w1) := bF.out.trans (he1.mono (by omega))
 have hs1 : w.heap.size + 1 < w1.heap.size := hu1.lt
 replace ag := Lib.hid ag
 clear he1 cB bF
 rw [hsA]
 clear hsA
 have hby := bY hu1
 clear hu1
 go_wp2_with fail
 go_at_call 69
 refine hby.mono ?_
 clear hby
 rintro e w2 ⟨c, o1, rfl, ⟨rfl, rfl⟩, hu2, ho2⟩
 rw [hcx.out]
 have hR2 : aa w2 w.heap.size af := aU.only ho2 (by omega)
 have hb2 : Hid (Below w.heap.size w w2) := hb1.out.trans (ho2.below (by omega))
 have hs2 : w.heap.size + 1 < w2.heap.size := by rw [ho2.size]; exact hs1
 clear aU hb1 ho2 hs1
 obtain ⟨w3, hw3⟩ : ∃ w3, w3 = w2.alloc (.cells #[.int .i64 2, .int .i64 0, .int .i64 0, .int .i64 0, .int .i64 0, .int .i64 0, .bool false, .int .i64 0, .int .i64 0] 28) := ⟨_, rfl⟩
 have hu3 : RU w3 (w.heap.size + 1) (some t) := by rw [hw3]; exact hu2.ext ((Below.refl _ _).alloc (Nat.le_refl _) _)
 have cK : aa w3 w2.heap.size ⟨2, 0, 0, 0, 0, 0, false, 0, 0⟩ := by rw [hw3]; exact heap_alloc_new w2 _
 have aO : aa w3 w.heap.size af := by rw [hw3]; exact hR2.past _
 have hb3 : Hid (Below w.heap.size w w3) := by show Below _ _ _; rw [hw3]; exact hb2.out.alloc (by omega) _
 clear hu2 hR2 hb2
 have hsg := bN hu3
 rw [hw3] at hsg
 clear hu3
 go_wp2_with fail
 go_at_call 70
 refine hsg.mono ?_
 clear hsg
 rintro e w4 ⟨y3, o3, rfl, bI, jW, ho3⟩
 rw [← hw3] at ho3
 replace hw3 := Lib.hid hw3
 have bP : aa w4 w2.heap.size _ := cK.only ho3 (by omega)
 have dF : aa w4 w.heap.size _ := aO.only ho3 (by omega)
 have hb4 : Hid (Below w.heap.size w w4) := hb3.out.trans (ho3.below (by omega))
 replace bI := Lib.hid bI
 clear cK aO hb3 ho3
 have d0 := ay bP 1 _ rfl
 have d1 := bP.free 1
 obtain ⟨w5, aS⟩ : ∃ v, v = w4.setCell ⟨w2.heap.size, 1, none⟩ (.int .i64 y3) := ⟨_, rfl⟩
 have fw : aa w5 w2.heap.size ⟨2, y3, 0, 0, 0, 0, false, 0, 0⟩ := by rw [aS]; exact bP.set _ _ _ rfl
 have fA : aa w5 w.heap.size af := by rw [aS]; exact dF.aG _ _ (by omega)
 have hb5 : Hid (Below w.heap.size w w5) := by show Below _ _ _; rw [aS]; exact bX hb4.out (by omega) _ _
 generalize hx : (⟨2, y3, 0, 0, 0, 0, false, 0, 0⟩ : Rq) = x at *
 have lR := aB x
 have zR := bD
 obtain ⟨k9, aF⟩ : ∃ k, k = 9 := ⟨_, rfl⟩
 rw [← aF] at lR zR
 replace aF := Lib.hid aF
 have hld := aH fw lR
 obtain ⟨hst, ed⟩ := fA.store x
 have hb6 : Hid (Below w.heap.size w (w5.setRow w.heap.size (encR x).toArray)) := dB hb5.out (Nat.le_refl _) _
 replace hx := Lib.hid hx
 rw [aS] at hld hst
 go_wp2_with fail
 rw [← aS]
 refine aZ rfl rfl rfl ed Tryz.underlying28 rfl (by kernel_rfl) ⟨x, rfl, ?_, hb6.out⟩
 first | exact cz 2 (by decide) hc bI.out | (rw [← hx.out]; exact cz 2 (by decide) hc bI.out)
theorem uR {b off n cap : Nat} {w : World} {c0 c1 : UInt8} {t : List UInt8} (hc : c1.toNat = 3) (hn : n = t.length + 2) (dm : n ≤ 64) (hcap : n ≤ cap) (hcm : cap ≤ maxLen) (hr : bz w (.slice (some ⟨b, off + 1, none⟩) (n - 1) (cap - 1)) (c1 :: t)) :
 Calls Tryz.prog 35 #[.slice (some ⟨b, off, none⟩) n cap] w fun e w' => ∃ x, e = .returned (.agg (encR x).toArray) ∧ aT (c0 :: c1 :: t) x ∧ Below w.heap.size w w' := by
 have hcx : Hid ((c1.toNat : Int) = 3) := by show _ = _; rw [hc]; rfl
 have jk : cap ≤ 9223372036854775807 := by unfold maxLen at hcm; omega
 have hn1 : 1 ≤ n := by omega
 have hc1 : ¬ cap = 1 := by omega
 have hc2 : 1 < cap := by omega
 have hc3 : ¬ cap - 1 = 0 := by omega
 have hrd := bZ _ (hr.keeps (w' := w.alloc (.cells #[.int .i64 0, .int .i64 0, .int .i64 0, .int .i64 0, .int .i64 0, .int .i64 0, .bool false, .int .i64 0, .int .i64 0] 28)) (dD.dG ((Below.refl _ _).alloc (Nat.le_refl _) _))) (by simp; omega)
 replace hn := Lib.hid hn
 obtain ⟨wA, ag⟩ : ∃ wA, wA = w.alloc (.cells #[.int .i64 0, .int .i64 0, .int .i64 0, .int .i64 0, .int .i64 0, .int .i64 0, .bool false, .int .i64 0, .int .i64 0] 28) := ⟨_, rfl⟩
 have bF : Hid (Below w.heap.size w wA) := by show Below _ _ _; rw [ag]; exact (Below.refl _ _).alloc (Nat.le_refl _) _
 have hsA : wA.heap.size = w.heap.size + 1 := by rw [ag]; simp
 have cB : aa wA w.heap.size af := by rw [ag]; exact heap_alloc_new w _
 clear hr hcm
 go_enter Tryz.func35, Tryz.ntmps35
 go_wp2_with fail
 go_at_call 68
 refine hrd.mono ?_
 clear hrd
 rw [← ag]
 rintro e w1 ⟨rfl, hu1, he1⟩
 rw [hsA] at hu1
 have aU : aa w1 w.heap.size af := cB.ext he1 (by omega)
 have hb1 : Hid (Below w.heap.size w w1) := bF.out.trans (he1.mono (by omega))
 have hs1 : w.heap.size + 1 < w1.heap.size := hu1.lt
 replace ag := Lib.hid ag
 clear he1 cB bF
 rw [hsA]
 clear hsA
 have hby := bY hu1
 clear hu1
 go_wp2_with fail
 go_at_call 69
 refine hby.mono ?_
 clear hby
 rintro e w2 ⟨c, o1, rfl, ⟨rfl, rfl⟩, hu2, ho2⟩
 rw [hcx.out]
 have hR2 : aa w2 w.heap.size af := aU.only ho2 (by omega)
 have hb2 : Hid (Below w.heap.size w w2) := hb1.out.trans (ho2.below (by omega))
 have hs2 : w.heap.size + 1 < w2.heap.size := by rw [ho2.size]; exact hs1
 clear aU hb1 ho2 hs1
 obtain ⟨w3, hw3⟩ : ∃ w3, w3 = w2.alloc (.cells #[.int .i64 3, .int .i64 0, .int .i64 0, .int .i64 0, .int .i64 0, .int .i64 0, .bool false, .int .i64 0, .int .i64 0] 28) := ⟨_, rfl⟩
 have hu3 : RU w3 (w.heap.size + 1) (some t) := by rw [hw3]; exact hu2.ext ((Below.refl _ _).alloc (Nat.le_refl _) _)
 have cK : aa w3 w2.heap.size ⟨3, 0, 0, 0, 0, 0, false, 0, 0⟩ := by rw [hw3]; exact heap_alloc_new w2 _
 have aO : aa w3 w.heap.size af := by rw [hw3]; exact hR2.past _
 have hb3 : Hid (Below w.heap.size w w3) := by show Below _ _ _; rw [hw3]; exact hb2.out.alloc (by omega) _
 clear hu2 hR2 hb2
 have hsg := bN hu3
 rw [hw3] at hsg
 clear hu3
 go_wp2_with fail
 go_at_call 70
 refine hsg.mono ?_
 clear hsg
 rintro e w4 ⟨y3, o3, rfl, bI, jW, ho3⟩
 rw [← hw3] at ho3
 replace hw3 := Lib.hid hw3
 have bP : aa w4 w2.heap.size _ := cK.only ho3 (by omega)
 have dF : aa w4 w.heap.size _ := aO.only ho3 (by omega)
 have hb4 : Hid (Below w.heap.size w w4) := hb3.out.trans (ho3.below (by omega))
 replace bI := Lib.hid bI
 clear cK aO hb3 ho3
 have d0 := ay bP 1 _ rfl
 have d1 := bP.free 1
 obtain ⟨w5, aS⟩ : ∃ v, v = w4.setCell ⟨w2.heap.size, 1, none⟩ (.int .i64 y3) := ⟨_, rfl⟩
 have fw : aa w5 w2.heap.size ⟨3, y3, 0, 0, 0, 0, false, 0, 0⟩ := by rw [aS]; exact bP.set _ _ _ rfl
 have fA : aa w5 w.heap.size af := by rw [aS]; exact dF.aG _ _ (by omega)
 have hb5 : Hid (Below w.heap.size w w5) := by show Below _ _ _; rw [aS]; exact bX hb4.out (by omega) _ _
 generalize hx : (⟨3, y3, 0, 0, 0, 0, false, 0, 0⟩ : Rq) = x at *
 have lR := aB x
 have zR := bD
 obtain ⟨k9, aF⟩ : ∃ k, k = 9 := ⟨_, rfl⟩
 rw [← aF] at lR zR
 replace aF := Lib.hid aF
 have hld := aH fw lR
 obtain ⟨hst, ed⟩ := fA.store x
 have hb6 : Hid (Below w.heap.size w (w5.setRow w.heap.size (encR x).toArray)) := dB hb5.out (Nat.le_refl _) _
 replace hx := Lib.hid hx
 rw [aS] at hld hst
 go_wp2_with fail
 rw [← aS]
 refine aZ rfl rfl rfl ed Tryz.underlying28 rfl (by kernel_rfl) ⟨x, rfl, ?_, hb6.out⟩
 first | exact cz 3 (by decide) hc bI.out | (rw [← hx.out]; exact cz 3 (by decide) hc bI.out)
theorem uS {b off n cap : Nat} {w : World} {c0 c1 : UInt8} {t : List UInt8} (hc : c1.toNat = 4) (hn : n = t.length + 2) (dm : n ≤ 64) (hcap : n ≤ cap) (hcm : cap ≤ maxLen) (hr : bz w (.slice (some ⟨b, off + 1, none⟩) (n - 1) (cap - 1)) (c1 :: t)) :
 Calls Tryz.prog 35 #[.slice (some ⟨b, off, none⟩) n cap] w fun e w' => ∃ x, e = .returned (.agg (encR x).toArray) ∧ aT (c0 :: c1 :: t) x ∧ Below w.heap.size w w' := by
 have hcx : Hid ((c1.toNat : Int) = 4) := by show _ = _; rw [hc]; rfl
 have jk : cap ≤ 9223372036854775807 := by unfold maxLen at hcm; omega
 have hn1 : 1 ≤ n := by omega
 have hc1 : ¬ cap = 1 := by omega
 have hc2 : 1 < cap := by omega
 have hc3 : ¬ cap - 1 = 0 := by omega
 have hrd := bZ _ (hr.keeps (w' := w.alloc (.cells #[.int .i64 0, .int .i64 0, .int .i64 0, .int .i64 0, .int .i64 0, .int .i64 0, .bool false, .int .i64 0, .int .i64 0] 28)) (dD.dG ((Below.refl _ _).alloc (Nat.le_refl _) _))) (by simp; omega)
 replace hn := Lib.hid hn
 obtain ⟨wA, ag⟩ : ∃ wA, wA = w.alloc (.cells #[.int .i64 0, .int .i64 0, .int .i64 0, .int .i64 0, .int .i64 0, .int .i64 0, .bool false, .int .i64 0, .int .i64 0] 28) := ⟨_, rfl⟩
 have bF : Hid (Below w.heap.size w wA) := by show Below _ _ _; rw [ag]; exact (Below.refl _ _).alloc (Nat.le_refl _) _
 have hsA : wA.heap.size = w.heap.size + 1 := by rw [ag]; simp
 have cB : aa wA w.heap.size af := by rw [ag]; exact heap_alloc_new w _
 clear hr hcm
 go_enter Tryz.func35, Tryz.ntmps35
 go_wp2_with fail
 go_at_call 68
 refine hrd.mono ?_
 clear hrd
 rw [← ag]
 rintro e w1 ⟨rfl, hu1, he1⟩
 rw [hsA] at hu1
 have aU : aa w1 w.heap.size af := cB.ext he1 (by omega)
 have hb1 : Hid (Below w.heap.size w w1) := bF.out.trans (he1.mono (by omega))
 have hs1 : w.heap.size + 1 < w1.heap.size := hu1.lt
 replace ag := Lib.hid ag
 clear he1 cB bF
 rw [hsA]
 clear hsA
 have hby := bY hu1
 clear hu1
 go_wp2_with fail
 go_at_call 69
 refine hby.mono ?_
 clear hby
 rintro e w2 ⟨c, o1, rfl, ⟨rfl, rfl⟩, hu2, ho2⟩
 rw [hcx.out]
 have hR2 : aa w2 w.heap.size af := aU.only ho2 (by omega)
 have hb2 : Hid (Below w.heap.size w w2) := hb1.out.trans (ho2.below (by omega))
 have hs2 : w.heap.size + 1 < w2.heap.size := by rw [ho2.size]; exact hs1
 clear aU hb1 ho2 hs1
 obtain ⟨w3, hw3⟩ : ∃ w3, w3 = w2.alloc (.cells #[.int .i64 4, .int .i64 0, .int .i64 0, .int .i64 0, .int .i64 0, .int .i64 0, .bool false, .int .i64 0, .int .i64 0] 28) := ⟨_, rfl⟩
 have hu3 : RU w3 (w.heap.size + 1) (some t) := by rw [hw3]; exact hu2.ext ((Below.refl _ _).alloc (Nat.le_refl _) _)
 have cK : aa w3 w2.heap.size ⟨4, 0, 0, 0, 0, 0, false, 0, 0⟩ := by rw [hw3]; exact heap_alloc_new w2 _
 have aO : aa w3 w.heap.size af := by rw [hw3]; exact hR2.past _
 have hb3 : Hid (Below w.heap.size w w3) := by show Below _ _ _; rw [hw3]; exact hb2.out.alloc (by omega) _
 clear hu2 hR2 hb2
 have hsg := bN hu3
 rw [hw3] at hsg
 clear hu3
 go_wp2_with fail
 go_at_call 70
 refine hsg.mono ?_
 clear hsg
 rintro e w4 ⟨y3, o3, rfl, bI, jW, ho3⟩
 rw [← hw3] at ho3
 replace hw3 := Lib.hid hw3
 have bP : aa w4 w2.heap.size _ := cK.only ho3 (by omega)
 have dF : aa w4 w.heap.size _ := aO.only ho3 (by omega)
 have hb4 : Hid (Below w.heap.size w w4) := hb3.out.trans (ho3.below (by omega))
 replace bI := Lib.hid bI
 clear cK aO hb3 ho3
 have d0 := ay bP 1 _ rfl
 have d1 := bP.free 1
 obtain ⟨w5, aS⟩ : ∃ v, v = w4.setCell ⟨w2.heap.size, 1, none⟩ (.int .i64 y3) := ⟨_, rfl⟩
 have fw : aa w5 w2.heap.size ⟨4, y3, 0, 0, 0, 0, false, 0, 0⟩ := by rw [aS]; exact bP.set _ _ _ rfl
 have fA : aa w5 w.heap.size af := by rw [aS]; exact dF.aG _ _ (by omega)
 have hb5 : Hid (Below w.heap.size w w5) := by show Below _ _ _; rw [aS]; exact bX hb4.out (by omega) _ _
 generalize hx : (⟨4, y3, 0, 0, 0, 0, false, 0, 0⟩ : Rq) = x at *
 have lR := aB x
 have zR := bD
 obtain ⟨k9, aF⟩ : ∃ k, k = 9 := ⟨_, rfl⟩
 rw [← aF] at lR zR
 replace aF := Lib.hid aF
 have hld := aH fw lR
 obtain ⟨hst, ed⟩ := fA.store x
 have hb6 : Hid (Below w.heap.size w (w5.setRow w.heap.size (encR x).toArray)) := dB hb5.out (Nat.le_refl _) _
 replace hx := Lib.hid hx
 rw [aS] at hld hst
 go_wp2_with fail
 rw [← aS]
 refine aZ rfl rfl rfl ed Tryz.underlying28 rfl (by kernel_rfl) ⟨x, rfl, ?_, hb6.out⟩
 first | exact cz 4 (by decide) hc bI.out | (rw [← hx.out]; exact cz 4 (by decide) hc bI.out)
theorem uT {b off n cap : Nat} {w : World} {c0 c1 : UInt8} {t : List UInt8} (hc : c1.toNat = 5) (hn : n = t.length + 2) (dm : n ≤ 64) (hcap : n ≤ cap) (hcm : cap ≤ maxLen) (hr : bz w (.slice (some ⟨b, off + 1, none⟩) (n - 1) (cap - 1)) (c1 :: t)) :
 Calls Tryz.prog 35 #[.slice (some ⟨b, off, none⟩) n cap] w fun e w' => ∃ x, e = .returned (.agg (encR x).toArray) ∧ aT (c0 :: c1 :: t) x ∧ Below w.heap.size w w' := by
 have hcx : Hid ((c1.toNat : Int) = 5) := by show _ = _; rw [hc]; rfl
 have jk : cap ≤ 9223372036854775807 := by unfold maxLen at hcm; omega
 have hn1 : 1 ≤ n := by omega
 have hc1 : ¬ cap = 1 := by omega
 have hc2 : 1 < cap := by omega
 have hc3 : ¬ cap - 1 = 0 := by omega
 have hrd := bZ _ (hr.keeps (w' := w.alloc (.cells #[.int .i64 0, .int .i64 0, .int .i64 0, .int .i64 0, .int .i64 0, .int .i64 0, .bool false, .int .i64 0, .int .i64 0] 28)) (dD.dG ((Below.refl _ _).alloc (Nat.le_refl _) _))) (by simp; omega)
 replace hn := Lib.hid hn
 obtain ⟨wA, ag⟩ : ∃ wA, wA = w.alloc (.cells #[.int .i64 0, .int .i64 0, .int .i64 0, .int .i64 0, .int .i64 0, .int .i64 0, .bool false, .int .i64 0, .int .i64 0] 28) := ⟨_, rfl⟩
 have bF : Hid (Below w.heap.size w wA) := by show Below _ _ _; rw [ag]; exact (Below.refl _ _).alloc (Nat.le_refl _) _
 have hsA : wA.heap.size = w.heap.size + 1 := by rw [ag]; simp
 have cB : aa wA w.heap.size af := by rw [ag]; exact heap_alloc_new w _
 clear hr hcm
 go_enter Tryz.func35, Tryz.ntmps35
 go_wp2_with fail
 go_at_call 68
 refine hrd.mono ?_
 clear hrd
 rw [← ag]
 rintro e w1 ⟨rfl, hu1, he1⟩
 rw [hsA] at hu1
 have aU : aa w1 w.heap.size af := cB.ext he1 (by omega)
 have hb1 : Hid (Below w.heap.size w w1) := bF.out.trans (he1.mono (by omega))
 have hs1 : w.heap.size + 1 < w1.heap.size := hu1.lt
 replace ag := Lib.hid ag
 clear he1 cB bF
 rw [hsA]
 clear hsA
 have hby := bY hu1
 clear hu1
 go_wp2_with fail
 go_at_call 69
 refine hby.mono ?_
 clear hby
 rintro e w2 ⟨c, o1, rfl, ⟨rfl, rfl⟩, hu2, ho2⟩
 rw [hcx.out]
 have hR2 : aa w2 w.heap.size af := aU.only ho2 (by omega)
 have hb2 : Hid (Below w.heap.size w w2) := hb1.out.trans (ho2.below (by omega))
 have hs2 : w.heap.size + 1 < w2.heap.size := by rw [ho2.size]; exact hs1
 clear aU hb1 ho2 hs1
 obtain ⟨w3, hw3⟩ : ∃ w3, w3 = w2.alloc (.cells #[.int .i64 5, .int .i64 0, .int .i64 0, .int .i64 0, .int .i64 0, .int .i64 0, .bool false, .int .i64 0, .int .i64 0] 28) := ⟨_, rfl⟩
 have hu3 : RU w3 (w.heap.size + 1) (some t) := by rw [hw3]; exact hu2.ext ((Below.refl _ _).alloc (Nat.le_refl _) _)
 have cK : aa w3 w2.heap.size ⟨5, 0, 0, 0, 0, 0, false, 0, 0⟩ := by rw [hw3]; exact heap_alloc_new w2 _
 have aO : aa w3 w.heap.size af := by rw [hw3]; exact hR2.past _
 have hb3 : Hid (Below w.heap.size w w3) := by show Below _ _ _; rw [hw3]; exact hb2.out.alloc (by omega) _
 clear hu2 hR2 hb2
 have hsg := bN hu3
 rw [hw3] at hsg
 clear hu3
 go_wp2_with fail
 go_at_call 70
 refine hsg.mono ?_
 clear hsg
 rintro e w4 ⟨y3, o3, rfl, bI, jW, ho3⟩
 rw [← hw3] at ho3
 replace hw3 := Lib.hid hw3
 have bP : aa w4 w2.heap.size _ := cK.only ho3 (by omega)
 have dF : aa w4 w.heap.size _ := aO.only ho3 (by omega)
 have hb4 : Hid (Below w.heap.size w w4) := hb3.out.trans (ho3.below (by omega))
 replace bI := Lib.hid bI
 clear cK aO hb3 ho3
 have d0 := ay bP 1 _ rfl
 have d1 := bP.free 1
 obtain ⟨w5, aS⟩ : ∃ v, v = w4.setCell ⟨w2.heap.size, 1, none⟩ (.int .i64 y3) := ⟨_, rfl⟩
 have fw : aa w5 w2.heap.size ⟨5, y3, 0, 0, 0, 0, false, 0, 0⟩ := by rw [aS]; exact bP.set _ _ _ rfl
 have fA : aa w5 w.heap.size af := by rw [aS]; exact dF.aG _ _ (by omega)
 have hb5 : Hid (Below w.heap.size w w5) := by show Below _ _ _; rw [aS]; exact bX hb4.out (by omega) _ _
 generalize hx : (⟨5, y3, 0, 0, 0, 0, false, 0, 0⟩ : Rq) = x at *
 have lR := aB x
 have zR := bD
 obtain ⟨k9, aF⟩ : ∃ k, k = 9 := ⟨_, rfl⟩
 rw [← aF] at lR zR
 replace aF := Lib.hid aF
 have hld := aH fw lR
 obtain ⟨hst, ed⟩ := fA.store x
 have hb6 : Hid (Below w.heap.size w (w5.setRow w.heap.size (encR x).toArray)) := dB hb5.out (Nat.le_refl _) _
 replace hx := Lib.hid hx
 rw [aS] at hld hst
 go_wp2_with fail
 rw [← aS]
 refine aZ rfl rfl rfl ed Tryz.underlying28 rfl (by kernel_rfl) ⟨x, rfl, ?_, hb6.out⟩
 first | exact cz 5 (by decide) hc bI.out | (rw [← hx.out]; exact cz 5 (by decide) hc bI.out)
theorem uU {b off n cap : Nat} {w : World} {c0 c1 : UInt8} {t : List UInt8} (hc : c1.toNat = 6) (hn : n = t.length + 2) (dm : n ≤ 64) (hcap : n ≤ cap) (hcm : cap ≤ maxLen) (hr : bz w (.slice (some ⟨b, off + 1, none⟩) (n - 1) (cap - 1)) (c1 :: t)) :
 Calls Tryz.prog 35 #[.slice (some ⟨b, off, none⟩) n cap] w fun e w' => ∃ x, e = .returned (.agg (encR x).toArray) ∧ aT (c0 :: c1 :: t) x ∧ Below w.heap.size w w' := by
 have hcx : Hid ((c1.toNat : Int) = 6) := by show _ = _; rw [hc]; rfl
 have jk : cap ≤ 9223372036854775807 := by unfold maxLen at hcm; omega
 have hn1 : 1 ≤ n := by omega
 have hc1 : ¬ cap = 1 := by omega
 have hc2 : 1 < cap := by omega
 have hc3 : ¬ cap - 1 = 0 := by omega
 have hrd := bZ _ (hr.keeps (w' := w.alloc (.cells #[.int .i64 0, .int .i64 0, .int .i64 0, .int .i64 0, .int .i64 0, .int .i64 0, .bool false, .int .i64 0, .int .i64 0] 28)) (dD.dG ((Below.refl _ _).alloc (Nat.le_refl _) _))) (by simp; omega)
 replace hn := Lib.hid hn
 obtain ⟨wA, ag⟩ : ∃ wA, wA = w.alloc (.cells #[.int .i64 0, .int .i64 0, .int .i64 0, .int .i64 0, .int .i64 0, .int .i64 0, .bool false, .int .i64 0, .int .i64 0] 28) := ⟨_, rfl⟩
 have bF : Hid (Below w.heap.size w wA) := by show Below _ _ _; rw [ag]; exact (Below.refl _ _).alloc (Nat.le_refl _) _
 have hsA : wA.heap.size = w.heap.size + 1 := by rw [ag]; simp
 have cB : aa wA w.heap.size af := by rw [ag]; exact heap_alloc_new w _
 clear hr hcm
 go_enter Tryz.func35, Tryz.ntmps35
 go_wp2_with fail
 go_at_call 68
 refine hrd.mono ?_
 clear hrd
 rw [← ag]
 rintro e w1 ⟨rfl, hu1, he1⟩
 rw [hsA] at hu1
 have aU : aa w1 w.heap.size af := cB.ext he1 (by omega)
 have hb1 : Hid (Below w.heap.size w w1) := bF.out.trans (he1.mono (by omega))
 have hs1 : w.heap.size + 1 < w1.heap.size := hu1.lt
 replace ag := Lib.hid ag
 clear he1 cB bF
 rw [hsA]
 clear hsA
 have hby := bY hu1
 clear hu1
 go_wp2_with fail
 go_at_call 69
 refine hby.mono ?_
 clear hby
 rintro e w2 ⟨c, o1, rfl, ⟨rfl, rfl⟩, hu2, ho2⟩
 rw [hcx.out]
 have hR2 : aa w2 w.heap.size af := aU.only ho2 (by omega)
 have hb2 : Hid (Below w.heap.size w w2) := hb1.out.trans (ho2.below (by omega))
 have hs2 : w.heap.size + 1 < w2.heap.size := by rw [ho2.size]; exact hs1
 clear aU hb1 ho2 hs1
 obtain ⟨w3, hw3⟩ : ∃ w3, w3 = w2.alloc (.cells #[.int .i64 6, .int .i64 0, .int .i64 0, .int .i64 0, .int .i64 0, .int .i64 0, .bool false, .int .i64 0, .int .i64 0] 28) := ⟨_, rfl⟩
 have hu3 : RU w3 (w.heap.size + 1) (some t) := by rw [hw3]; exact hu2.ext ((Below.refl _ _).alloc (Nat.le_refl _) _)
 have cK : aa w3 w2.heap.size ⟨6, 0, 0, 0, 0, 0, false, 0, 0⟩ := by rw [hw3]; exact heap_alloc_new w2 _
 have aO : aa w3 w.heap.size af := by rw [hw3]; exact hR2.past _
 have hb3 : Hid (Below w.heap.size w w3) := by show Below _ _ _; rw [hw3]; exact hb2.out.alloc (by omega) _
 clear hu2 hR2 hb2
 have hsg := bN hu3
 rw [hw3] at hsg
 clear hu3
 go_wp2_with fail
 go_at_call 70
 refine hsg.mono ?_
 clear hsg
 rintro e w4 ⟨y3, o3, rfl, bI, jW, ho3⟩
 rw [← hw3] at ho3
 replace hw3 := Lib.hid hw3
 have bP : aa w4 w2.heap.size _ := cK.only ho3 (by omega)
 have dF : aa w4 w.heap.size _ := aO.only ho3 (by omega)
 have hb4 : Hid (Below w.heap.size w w4) := hb3.out.trans (ho3.below (by omega))
 replace bI := Lib.hid bI
 clear cK aO hb3 ho3
 have d0 := ay bP 1 _ rfl
 have d1 := bP.free 1
 obtain ⟨w5, aS⟩ : ∃ v, v = w4.setCell ⟨w2.heap.size, 1, none⟩ (.int .i64 y3) := ⟨_, rfl⟩
 have fw : aa w5 w2.heap.size ⟨6, y3, 0, 0, 0, 0, false, 0, 0⟩ := by rw [aS]; exact bP.set _ _ _ rfl
 have fA : aa w5 w.heap.size af := by rw [aS]; exact dF.aG _ _ (by omega)
 have hb5 : Hid (Below w.heap.size w w5) := by show Below _ _ _; rw [aS]; exact bX hb4.out (by omega) _ _
 generalize hx : (⟨6, y3, 0, 0, 0, 0, false, 0, 0⟩ : Rq) = x at *
 have lR := aB x
 have zR := bD
 obtain ⟨k9, aF⟩ : ∃ k, k = 9 := ⟨_, rfl⟩
 rw [← aF] at lR zR
 replace aF := Lib.hid aF
 have hld := aH fw lR
 obtain ⟨hst, ed⟩ := fA.store x
 have hb6 : Hid (Below w.heap.size w (w5.setRow w.heap.size (encR x).toArray)) := dB hb5.out (Nat.le_refl _) _
 replace hx := Lib.hid hx
 rw [aS] at hld hst
 go_wp2_with fail
 rw [← aS]
 refine aZ rfl rfl rfl ed Tryz.underlying28 rfl (by kernel_rfl) ⟨x, rfl, ?_, hb6.out⟩
 first | exact cz 6 (by decide) hc bI.out | (rw [← hx.out]; exact cz 6 (by decide) hc bI.out)
theorem uV {b off n cap : Nat} {w : World} {c0 c1 : UInt8} {t : List UInt8} (hc : c1.toNat = 7) (hn : n = t.length + 2) (dm : n ≤ 64) (hcap : n ≤ cap) (hcm : cap ≤ maxLen) (hr : bz w (.slice (some ⟨b, off + 1, none⟩) (n - 1) (cap - 1)) (c1 :: t)) :
 Calls Tryz.prog 35 #[.slice (some ⟨b, off, none⟩) n cap] w fun e w' => ∃ x, e = .returned (.agg (encR x).toArray) ∧ aT (c0 :: c1 :: t) x ∧ Below w.heap.size w w' := by
 have hcx : Hid ((c1.toNat : Int) = 7) := by show _ = _; rw [hc]; rfl
 have jk : cap ≤ 9223372036854775807 := by unfold maxLen at hcm; omega
 have hn1 : 1 ≤ n := by omega
 have hc1 : ¬ cap = 1 := by omega
 have hc2 : 1 < cap := by omega
 have hc3 : ¬ cap - 1 = 0 := by omega
 have hrd := bZ _ (hr.keeps (w' := w.alloc (.cells #[.int .i64 0, .int .i64 0, .int .i64 0, .int .i64 0, .int .i64 0, .int .i64 0, .bool false, .int .i64 0, .int .i64 0] 28)) (dD.dG ((Below.refl _ _).alloc (Nat.le_refl _) _))) (by simp; omega)
 replace hn := Lib.hid hn
 obtain ⟨wA, ag⟩ : ∃ wA, wA = w.alloc (.cells #[.int .i64 0, .int .i64 0, .int .i64 0, .int .i64 0, .int .i64 0, .int .i64 0, .bool false, .int .i64 0, .int .i64 0] 28) := ⟨_, rfl⟩
 have bF : Hid (Below w.heap.size w wA) := by show Below _ _ _; rw [ag]; exact (Below.refl _ _).alloc (Nat.le_refl _) _
 have hsA : wA.heap.size = w.heap.size + 1 := by rw [ag]; simp
 have cB : aa wA w.heap.size af := by rw [ag]; exact heap_alloc_new w _
 clear hr hcm
 go_enter Tryz.func35, Tryz.ntmps35
 go_wp2_with fail
 go_at_call 68
 refine hrd.mono ?_
 clear hrd
 rw [← ag]
 rintro e w1 ⟨rfl, hu1, he1⟩
 rw [hsA] at hu1
 have aU : aa w1 w.heap.size af := cB.ext he1 (by omega)
 have hb1 : Hid (Below w.heap.size w w1) := bF.out.trans (he1.mono (by omega))
 have hs1 : w.heap.size + 1 < w1.heap.size := hu1.lt
 replace ag := Lib.hid ag
 clear he1 cB bF
 rw [hsA]
 clear hsA
 have hby := bY hu1
 clear hu1
 go_wp2_with fail
 go_at_call 69
 refine hby.mono ?_
 clear hby
 rintro e w2 ⟨c, o1, rfl, ⟨rfl, rfl⟩, hu2, ho2⟩
 rw [hcx.out]
 have hR2 : aa w2 w.heap.size af := aU.only ho2 (by omega)
 have hb2 : Hid (Below w.heap.size w w2) := hb1.out.trans (ho2.below (by omega))
 have hs2 : w.heap.size + 1 < w2.heap.size := by rw [ho2.size]; exact hs1
 clear aU hb1 ho2 hs1
 obtain ⟨w3, hw3⟩ : ∃ w3, w3 = w2.alloc (.cells #[.int .i64 7, .int .i64 0, .int .i64 0, .int .i64 0, .int .i64 0, .int .i64 0, .bool false, .int .i64 0, .int .i64 0] 28) := ⟨_, rfl⟩
 have hu3 : RU w3 (w.heap.size + 1) (some t) := by rw [hw3]; exact hu2.ext ((Below.refl _ _).alloc (Nat.le_refl _) _)
 have cK : aa w3 w2.heap.size ⟨7, 0, 0, 0, 0, 0, false, 0, 0⟩ := by rw [hw3]; exact heap_alloc_new w2 _
 have aO : aa w3 w.heap.size af := by rw [hw3]; exact hR2.past _
 have hb3 : Hid (Below w.heap.size w w3) := by show Below _ _ _; rw [hw3]; exact hb2.out.alloc (by omega) _
 clear hu2 hR2 hb2
 have hsg := bN hu3
 rw [hw3] at hsg
 clear hu3
 go_wp2_with fail
 go_at_call 70
 refine hsg.mono ?_
 clear hsg
 rintro e w4 ⟨y3, o3, rfl, bI, jW, ho3⟩
 rw [← hw3] at ho3
 replace hw3 := Lib.hid hw3
 have bP : aa w4 w2.heap.size _ := cK.only ho3 (by omega)
 have dF : aa w4 w.heap.size _ := aO.only ho3 (by omega)
 have hb4 : Hid (Below w.heap.size w w4) := hb3.out.trans (ho3.below (by omega))
 replace bI := Lib.hid bI
 clear cK aO hb3 ho3
 have d0 := ay bP 7 _ rfl
 have d1 := bP.free 7
 obtain ⟨w5, aS⟩ : ∃ v, v = w4.setCell ⟨w2.heap.size, 7, none⟩ (.int .i64 y3) := ⟨_, rfl⟩
 have fw : aa w5 w2.heap.size ⟨7, 0, 0, 0, 0, 0, false, y3, 0⟩ := by rw [aS]; exact bP.set _ _ _ rfl
 have fA : aa w5 w.heap.size af := by rw [aS]; exact dF.aG _ _ (by omega)
 have hb5 : Hid (Below w.heap.size w w5) := by show Below _ _ _; rw [aS]; exact bX hb4.out (by omega) _ _
 generalize hx : (⟨7, 0, 0, 0, 0, 0, false, y3, 0⟩ : Rq) = x at *
 have lR := aB x
 have zR := bD
 obtain ⟨k9, aF⟩ : ∃ k, k = 9 := ⟨_, rfl⟩
 rw [← aF] at lR zR
 replace aF := Lib.hid aF
 have hld := aH fw lR
 obtain ⟨hst, ed⟩ := fA.store x
 have hb6 : Hid (Below w.heap.size w (w5.setRow w.heap.size (encR x).toArray)) := dB hb5.out (Nat.le_refl _) _
 replace hx := Lib.hid hx
 rw [aS] at hld hst
 go_wp2_with fail
 rw [← aS]
 refine aZ rfl rfl rfl ed Tryz.underlying28 rfl (by kernel_rfl) ⟨x, rfl, ?_, hb6.out⟩
 first | exact il 7 (by decide) hc bI.out | (rw [← hx.out]; exact il 7 (by decide) hc bI.out)
theorem uW {b off n cap : Nat} {w : World} {c0 c1 : UInt8} {t : List UInt8} (hc : c1.toNat = 8) (hn : n = t.length + 2) (dm : n ≤ 64) (hcap : n ≤ cap) (hcm : cap ≤ maxLen) (hr : bz w (.slice (some ⟨b, off + 1, none⟩) (n - 1) (cap - 1)) (c1 :: t)) :
 Calls Tryz.prog 35 #[.slice (some ⟨b, off, none⟩) n cap] w fun e w' => ∃ x, e = .returned (.agg (encR x).toArray) ∧ aT (c0 :: c1 :: t) x ∧ Below w.heap.size w w' := by
 have hcx : Hid ((c1.toNat : Int) = 8) := by show _ = _; rw [hc]; rfl
 have jk : cap ≤ 9223372036854775807 := by unfold maxLen at hcm; omega
 have hn1 : 1 ≤ n := by omega
 have hc1 : ¬ cap = 1 := by omega
 have hc2 : 1 < cap := by omega
 have hc3 : ¬ cap - 1 = 0 := by omega
 have hrd := bZ _ (hr.keeps (w' := w.alloc (.cells #[.int .i64 0, .int .i64 0, .int .i64 0, .int .i64 0, .int .i64 0, .int .i64 0, .bool false, .int .i64 0, .int .i64 0] 28)) (dD.dG ((Below.refl _ _).alloc (Nat.le_refl _) _))) (by simp; omega)
 replace hn := Lib.hid hn
 obtain ⟨wA, ag⟩ : ∃ wA, wA = w.alloc (.cells #[.int .i64 0, .int .i64 0, .int .i64 0, .int .i64 0, .int .i64 0, .int .i64 0, .bool false, .int .i64 0, .int .i64 0] 28) := ⟨_, rfl⟩
 have bF : Hid (Below w.heap.size w wA) := by show Below _ _ _; rw [ag]; exact (Below.refl _ _).alloc (Nat.le_refl _) _
 have hsA : wA.heap.size = w.heap.size + 1 := by rw [ag]; simp
 have cB : aa wA w.heap.size af := by rw [ag]; exact heap_alloc_new w _
 clear hr hcm
 go_enter Tryz.func35, Tryz.ntmps35
 go_wp2_with fail
 go_at_call 68
 refine hrd.mono ?_
 clear hrd
 rw [← ag]
 rintro e w1 ⟨rfl, hu1, he1⟩
 rw [hsA] at hu1
 have aU : aa w1 w.heap.size af := cB.ext he1 (by omega)
 have hb1 : Hid (Below w.heap.size w w1) := bF.out.trans (he1.mono (by omega))
 have hs1 : w.heap.size + 1 < w1.heap.size := hu1.lt
 replace ag := Lib.hid ag
 clear he1 cB bF
 rw [hsA]
 clear hsA
 have hby := bY hu1
 clear hu1
 go_wp2_with fail
 go_at_call 69
 refine hby.mono ?_
 clear hby
 rintro e w2 ⟨c, o1, rfl, ⟨rfl, rfl⟩, hu2, ho2⟩
 rw [hcx.out]
 have hR2 : aa w2 w.heap.size af := aU.only ho2 (by omega)
 have hb2 : Hid (Below w.heap.size w w2) := hb1.out.trans (ho2.below (by omega))
 have hs2 : w.heap.size + 1 < w2.heap.size := by rw [ho2.size]; exact hs1
 clear aU hb1 ho2 hs1
 obtain ⟨w3, hw3⟩ : ∃ w3, w3 = w2.alloc (.cells #[.int .i64 8, .int .i64 0, .int .i64 0, .int .i64 0, .int .i64 0, .int .i64 0, .bool false, .int .i64 0, .int .i64 0] 28) := ⟨_, rfl⟩
 have hu3 : RU w3 (w.heap.size + 1) (some t) := by rw [hw3]; exact hu2.ext ((Below.refl _ _).alloc (Nat.le_refl _) _)
 have cK : aa w3 w2.heap.size ⟨8, 0, 0, 0, 0, 0, false, 0, 0⟩ := by rw [hw3]; exact heap_alloc_new w2 _
 have aO : aa w3 w.heap.size af := by rw [hw3]; exact hR2.past _
 have hb3 : Hid (Below w.heap.size w w3) := by show Below _ _ _; rw [hw3]; exact hb2.out.alloc (by omega) _
 clear hu2 hR2 hb2
 have hsg := bN hu3
 rw [hw3] at hsg
 clear hu3
 go_wp2_with fail
 go_at_call 70
 refine hsg.mono ?_
 clear hsg
 rintro e w4 ⟨y3, o3, rfl, bI, jW, ho3⟩
 rw [← hw3] at ho3
 replace hw3 := Lib.hid hw3
 have bP : aa w4 w2.heap.size _ := cK.only ho3 (by omega)
 have dF : aa w4 w.heap.size _ := aO.only ho3 (by omega)
 have hb4 : Hid (Below w.heap.size w w4) := hb3.out.trans (ho3.below (by omega))
 replace bI := Lib.hid bI
 clear cK aO hb3 ho3
 have d0 := ay bP 7 _ rfl
 have d1 := bP.free 7
 obtain ⟨w5, aS⟩ : ∃ v, v = w4.setCell ⟨w2.heap.size, 7, none⟩ (.int .i64 y3) := ⟨_, rfl⟩
 have fw : aa w5 w2.heap.size ⟨8, 0, 0, 0, 0, 0, false, y3, 0⟩ := by rw [aS]; exact bP.set _ _ _ rfl
 have fA : aa w5 w.heap.size af := by rw [aS]; exact dF.aG _ _ (by omega)
 have hb5 : Hid (Below w.heap.size w w5) := by show Below _ _ _; rw [aS]; exact bX hb4.out (by omega) _ _
 generalize hx : (⟨8, 0, 0, 0, 0, 0, false, y3, 0⟩ : Rq) = x at *
 have lR := aB x
 have zR := bD
 obtain ⟨k9, aF⟩ : ∃ k, k = 9 := ⟨_, rfl⟩
 rw [← aF] at lR zR
 replace aF := Lib.hid aF
 have hld := aH fw lR
 obtain ⟨hst, ed⟩ := fA.store x
 have hb6 : Hid (Below w.heap.size w (w5.setRow w.heap.size (encR x).toArray)) := dB hb5.out (Nat.le_refl _) _
 replace hx := Lib.hid hx
 rw [aS] at hld hst
 go_wp2_with fail
 rw [← aS]
 refine aZ rfl rfl rfl ed Tryz.underlying28 rfl (by kernel_rfl) ⟨x, rfl, ?_, hb6.out⟩
 first | exact il 8 (by decide) hc bI.out | (rw [← hx.out]; exact il 8 (by decide) hc bI.out)
theorem uX {b off n cap : Nat} {w : World} {c0 c1 : UInt8} {t : List UInt8} (hc : c1.toNat = 9) (hn : n = t.length + 2) (dm : n ≤ 64) (hcap : n ≤ cap) (hcm : cap ≤ maxLen) (hr : bz w (.slice (some ⟨b, off + 1, none⟩) (n - 1) (cap - 1)) (c1 :: t)) :
 Calls Tryz.prog 35 #[.slice (some ⟨b, off, none⟩) n cap] w fun e w' => ∃ x, e = .returned (.agg (encR x).toArray) ∧ aT (c0 :: c1 :: t) x ∧ Below w.heap.size w w' := by
 have hcx : Hid ((c1.toNat : Int) = 9) := by show _ = _; rw [hc]; rfl
 have jk : cap ≤ 9223372036854775807 := by unfold maxLen at hcm; omega
 have hn1 : 1 ≤ n := by omega
 have hc1 : ¬ cap = 1 := by omega
 have hc2 : 1 < cap := by omega
 have hc3 : ¬ cap - 1 = 0 := by omega
 have hrd := bZ _ (hr.keeps (w' := w.alloc (.cells #[.int .i64 0, .int .i64 0, .int .i64 0, .int .i64 0, .int .i64 0, .int .i64 0, .bool false, .int .i64 0, .int .i64 0] 28)) (dD.dG ((Below.refl _ _).alloc (Nat.le_refl _) _))) (by simp; omega)
 replace hn := Lib.hid hn
 obtain ⟨wA, ag⟩ : ∃ wA, wA = w.alloc (.cells #[.int .i64 0, .int .i64 0, .int .i64 0, .int .i64 0, .int .i64 0, .int .i64 0, .bool false, .int .i64 0, .int .i64 0] 28) := ⟨_, rfl⟩
 have bF : Hid (Below w.heap.size w wA) := by show Below _ _ _; rw [ag]; exact (Below.refl _ _).alloc (Nat.le_refl _) _
 have hsA : wA.heap.size = w.heap.size + 1 := by rw [ag]; simp
 have cB : aa wA w.heap.size af := by rw [ag]; exact heap_alloc_new w _
 clear hr hcm
 go_enter Tryz.func35, Tryz.ntmps35
 go_wp2_with fail
 go_at_call 68
 refine hrd.mono ?_
 clear hrd
 rw [← ag]
 rintro e w1 ⟨rfl, hu1, he1⟩
 rw [hsA] at hu1
 have aU : aa w1 w.heap.size af := cB.ext he1 (by omega)
 have hb1 : Hid (Below w.heap.size w w1) := bF.out.trans (he1.mono (by omega))
 have hs1 : w.heap.size + 1 < w1.heap.size := hu1.lt
 replace ag := Lib.hid ag
 clear he1 cB bF
 rw [hsA]
 clear hsA
 have hby := bY hu1
 clear hu1
 go_wp2_with fail
 go_at_call 69
 refine hby.mono ?_
 clear hby
 rintro e w2 ⟨c, o1, rfl, ⟨rfl, rfl⟩, hu2, ho2⟩
 rw [hcx.out]
 have hR2 : aa w2 w.heap.size af := aU.only ho2 (by omega)
 have hb2 : Hid (Below w.heap.size w w2) := hb1.out.trans (ho2.below (by omega))
 have hs2 : w.heap.size + 1 < w2.heap.size := by rw [ho2.size]; exact hs1
 clear aU hb1 ho2 hs1
 obtain ⟨w3, hw3⟩ : ∃ w3, w3 = w2.alloc (.cells #[.int .i64 9, .int .i64 0, .int .i64 0, .int .i64 0, .int .i64 0, .int .i64 0, .bool false, .int .i64 0, .int .i64 0] 28) := ⟨_, rfl⟩
 have hu3 : RU w3 (w.heap.size + 1) (some t) := by rw [hw3]; exact hu2.ext ((Below.refl _ _).alloc (Nat.le_refl _) _)
 have cK : aa w3 w2.heap.size ⟨9, 0, 0, 0, 0, 0, false, 0, 0⟩ := by rw [hw3]; exact heap_alloc_new w2 _
 have aO : aa w3 w.heap.size af := by rw [hw3]; exact hR2.past _
 have hb3 : Hid (Below w.heap.size w w3) := by show Below _ _ _; rw [hw3]; exact hb2.out.alloc (by omega) _
 clear hu2 hR2 hb2
 have hsg := bN hu3
 rw [hw3] at hsg
 clear hu3
 go_wp2_with fail
 go_at_call 70
 refine hsg.mono ?_
 clear hsg
 rintro e w4 ⟨y3, o3, rfl, bI, jW, ho3⟩
 rw [← hw3] at ho3
 replace hw3 := Lib.hid hw3
 have bP : aa w4 w2.heap.size _ := cK.only ho3 (by omega)
 have dF : aa w4 w.heap.size _ := aO.only ho3 (by omega)
 have hb4 : Hid (Below w.heap.size w w4) := hb3.out.trans (ho3.below (by omega))
 replace bI := Lib.hid bI
 clear cK aO hb3 ho3
 have d0 := ay bP 8 _ rfl
 have d1 := bP.free 8
 obtain ⟨w5, aS⟩ : ∃ v, v = w4.setCell ⟨w2.heap.size, 8, none⟩ (.int .i64 y3) := ⟨_, rfl⟩
 have fw : aa w5 w2.heap.size ⟨9, 0, 0, 0, 0, 0, false, 0, y3⟩ := by rw [aS]; exact bP.set _ _ _ rfl
 have fA : aa w5 w.heap.size af := by rw [aS]; exact dF.aG _ _ (by omega)
 have hb5 : Hid (Below w.heap.size w w5) := by show Below _ _ _; rw [aS]; exact bX hb4.out (by omega) _ _
 generalize hx : (⟨9, 0, 0, 0, 0, 0, false, 0, y3⟩ : Rq) = x at *
 have lR := aB x
 have zR := bD
 obtain ⟨k9, aF⟩ : ∃ k, k = 9 := ⟨_, rfl⟩
 rw [← aF] at lR zR
 replace aF := Lib.hid aF
 have hld := aH fw lR
 obtain ⟨hst, ed⟩ := fA.store x
 have hb6 : Hid (Below w.heap.size w (w5.setRow w.heap.size (encR x).toArray)) := dB hb5.out (Nat.le_refl _) _
 replace hx := Lib.hid hx
 rw [aS] at hld hst
 go_wp2_with fail
 rw [← aS]
 refine aZ rfl rfl rfl ed Tryz.underlying28 rfl (by kernel_rfl) ⟨x, rfl, ?_, hb6.out⟩
 first | exact nP hc bI.out | (rw [← hx.out]; exact nP hc bI.out)
theorem uY {b off n cap : Nat} {w : World} {c0 c1 : UInt8} {t : List UInt8} (hc : c1.toNat = 1) (hn : n = t.length + 2) (dm : n ≤ 64) (hcap : n ≤ cap) (hcm : cap ≤ maxLen) (hr : bz w (.slice (some ⟨b, off + 1, none⟩) (n - 1) (cap - 1)) (c1 :: t)) :
 Calls Tryz.prog 35 #[.slice (some ⟨b, off, none⟩) n cap] w fun e w' => ∃ x, e = .returned (.agg (encR x).toArray) ∧ aT (c0 :: c1 :: t) x ∧ Below w.heap.size w w' := by
 have hcx : Hid ((c1.toNat : Int) = 1) := by show _ = _; rw [hc]; rfl
 have jk : cap ≤ 9223372036854775807 := by unfold maxLen at hcm; omega
 have hn1 : 1 ≤ n := by omega
 have hc1 : ¬ cap = 1 := by omega
 have hc2 : 1 < cap := by omega
 have hc3 : ¬ cap - 1 = 0 := by omega
 have hrd := bZ _ (hr.keeps (w' := w.alloc (.cells #[.int .i64 0, .int .i64 0, .int .i64 0, .int .i64 0, .int .i64 0, .int .i64 0, .bool false, .int .i64 0, .int .i64 0] 28)) (dD.dG ((Below.refl _ _).alloc (Nat.le_refl _) _))) (by simp; omega)
 replace hn := Lib.hid hn
 obtain ⟨wA, ag⟩ : ∃ wA, wA = w.alloc (.cells #[.int .i64 0, .int .i64 0, .int .i64 0, .int .i64 0, .int .i64 0, .int .i64 0, .bool false, .int .i64 0, .int .i64 0] 28) := ⟨_, rfl⟩
 have bF : Hid (Below w.heap.size w wA) := by show Below _ _ _; rw [ag]; exact (Below.refl _ _).alloc (Nat.le_refl _) _
 have hsA : wA.heap.size = w.heap.size + 1 := by rw [ag]; simp
 have cB : aa wA w.heap.size af := by rw [ag]; exact heap_alloc_new w _
 clear hr hcm
 go_enter Tryz.func35, Tryz.ntmps35
 go_wp2_with fail
 go_at_call 68
 refine hrd.mono ?_
 clear hrd
 rw [← ag]
 rintro e w1 ⟨rfl, hu1, he1⟩
 rw [hsA] at hu1
 have aU : aa w1 w.heap.size af := cB.ext he1 (by omega)
 have hb1 : Hid (Below w.heap.size w w1) := bF.out.trans (he1.mono (by omega))
 have hs1 : w.heap.size + 1 < w1.heap.size := hu1.lt
 replace ag := Lib.hid ag
 clear he1 cB bF
 rw [hsA]
 clear hsA
 have hby := bY hu1
 clear hu1
 go_wp2_with fail
 go_at_call 69
 refine hby.mono ?_
 clear hby
 rintro e w2 ⟨c, o1, rfl, ⟨rfl, rfl⟩, hu2, ho2⟩
 rw [hcx.out]
 have hR2 : aa w2 w.heap.size af := aU.only ho2 (by omega)
 have hb2 : Hid (Below w.heap.size w w2) := hb1.out.trans (ho2.below (by omega))
 have hs2 : w.heap.size + 1 < w2.heap.size := by rw [ho2.size]; exact hs1
 clear aU hb1 ho2 hs1
 obtain ⟨w3, hw3⟩ : ∃ w3, w3 = w2.alloc (.cells #[.int .i64 1, .int .i64 0, .int .i64 0, .int .i64 0, .int .i64 0, .int .i64 0, .bool false, .int .i64 0, .int .i64 0] 28) := ⟨_, rfl⟩
 have hu3 : RU w3 (w.heap.size + 1) (some t) := by rw [hw3]; exact hu2.ext ((Below.refl _ _).alloc (Nat.le_refl _) _)
 have cK : aa w3 w2.heap.size ⟨1, 0, 0, 0, 0, 0, false, 0, 0⟩ := by rw [hw3]; exact heap_alloc_new w2 _
 have aO : aa w3 w.heap.size af := by rw [hw3]; exact hR2.past _
 have hb3 : Hid (Below w.heap.size w w3) := by show Below _ _ _; rw [hw3]; exact hb2.out.alloc (by omega) _
 clear hu2 hR2 hb2
 have hsg := bN hu3
 rw [hw3] at hsg
 clear hu3
 go_wp2_with fail
 go_at_call 70
 refine hsg.mono ?_
 clear hsg
 rintro e w4 ⟨y3, o3, rfl, bI, jW, ho3⟩
 rw [← hw3] at ho3
 replace hw3 := Lib.hid hw3
 have bP : aa w4 w2.heap.size _ := cK.only ho3 (by omega)
 have dF : aa w4 w.heap.size _ := aO.only ho3 (by omega)
 have hb4 : Hid (Below w.heap.size w w4) := hb3.out.trans (ho3.below (by omega))
 replace bI := Lib.hid bI
 clear cK aO hb3 ho3
 have hsg := bN jW
 clear jW
 go_wp2_with fail
 go_at_call 70
 refine hsg.mono ?_
 clear hsg
 rintro e w5 ⟨y4, o4, rfl, wE, yV, jf⟩
 have fw : aa w5 w2.heap.size _ := bP.only jf (by omega)
 have fA : aa w5 w.heap.size _ := dF.only jf (by omega)
 have hb5 : Hid (Below w.heap.size w w5) := hb4.out.trans (jf.below (by omega))
 replace wE := Lib.hid wE
 clear bP dF hb4 jf
 have hsg := bN yV
 clear yV
 go_wp2_with fail
 go_at_call 70
 refine hsg.mono ?_
 clear hsg
 rintro e w6 ⟨y5, o5, rfl, hS5, yX, fo⟩
 have yY : aa w6 w2.heap.size _ := fw.only fo (by omega)
 have ed : aa w6 w.heap.size _ := fA.only fo (by omega)
 have hb6 : Hid (Below w.heap.size w w6) := hb5.out.trans (fo.below (by omega))
 replace hS5 := Lib.hid hS5
 clear fw fA hb5 fo
 have hsg := bN yX
 clear yX
 go_wp2_with fail
 go_at_call 70
 refine hsg.mono ?_
 clear hsg
 rintro e w7 ⟨y6, o6, rfl, wF, yZ, jg⟩
 have jX : aa w7 w2.heap.size _ := yY.only jg (by omega)
 have za : aa w7 w.heap.size _ := ed.only jg (by omega)
 have rz : Hid (Below w.heap.size w w7) := hb6.out.trans (jg.below (by omega))
 replace wF := Lib.hid wF
 clear yY ed hb6 jg
 have e2 := ay jX 2 _ rfl
 have e3 := ay jX 3 _ rfl
 have e4 := ay jX 4 _ rfl
 have e5 := ay jX 5 _ rfl
 have f2 := jX.free 2
 have f3 := jX.free 3
 have f4 := jX.free 4
 have f5 := jX.free 5
 obtain ⟨w8, hw8⟩ : ∃ v, v = (((w7.setCell ⟨w2.heap.size, 2, none⟩ (.int .i64 y3)).setCell ⟨w2.heap.size, 3, none⟩ (.int .i64 y4)).setCell ⟨w2.heap.size, 4, none⟩ (.int .i64 y5)).setCell ⟨w2.heap.size, 5, none⟩ (.int .i64 y6) := ⟨_, rfl⟩
 have zb : aa w8 w2.heap.size ⟨1, 0, y3, y4, y5, y6, false, 0, 0⟩ := by
  rw [hw8]
  exact (((jX.set 2 _ ⟨1, 0, y3, 0, 0, 0, false, 0, 0⟩ rfl).set 3 _ ⟨1, 0, y3, y4, 0, 0, false, 0, 0⟩ rfl).set 4 _ ⟨1, 0, y3, y4, y5, 0, false, 0, 0⟩ rfl).set 5 _ _ rfl
 have ze : aa w8 w.heap.size af := by rw [hw8]; exact (((za.aG _ _ (by omega)).aG _ _ (by omega)).aG _ _ (by omega)).aG _ _ (by omega)
 have zf : Hid (Below w.heap.size w w8) := by show Below _ _ _; rw [hw8]; exact bX (bX (bX (bX rz.out (by omega) _ _) (by omega) _ _) (by omega) _ _) (by omega) _ _
 have zh : RU w8 (w.heap.size + 1) o6 := by rw [hw8]; exact (((yZ.aG _ _ (by omega)).aG _ _ (by omega)).aG _ _ (by omega)).aG _ _ (by omega)
 have hbl := uP zh
 rw [hw8] at hbl
 clear yZ zh za rz jX
 go_wp2_with fail
 go_at_call 71
 refine hbl.mono ?_
 clear hbl e2 e3 e4 e5 f2 f3 f4 f5
 rintro e w9 ⟨y8, o8, rfl, wG, Az, uZ⟩
 rw [← hw8] at uZ
 replace hw8 := Lib.hid hw8
 have xP : aa w9 w2.heap.size _ := zb.only uZ (by omega)
 have z8 : aa w9 w.heap.size _ := ze.only uZ (by omega)
 have Aa : Hid (Below w.heap.size w w9) := zf.out.trans (uZ.below (by omega))
 replace wG := Lib.hid wG
 clear zb ze zf uZ
 have d0 := ay xP 6 _ rfl
 have d1 := xP.free 6
 obtain ⟨wH, nQ⟩ : ∃ v, v = w9.setCell ⟨w2.heap.size, 6, none⟩ (.bool y8) := ⟨_, rfl⟩
 have zi : aa wH w2.heap.size ⟨1, 0, y3, y4, y5, y6, y8, 0, 0⟩ := by rw [nQ]; exact xP.set _ _ _ rfl
 have zk : aa wH w.heap.size af := by rw [nQ]; exact z8.aG _ _ (by omega)
 have zl : Hid (Below w.heap.size w wH) := by show Below _ _ _; rw [nQ]; exact bX Aa.out (by omega) _ _
 generalize hx : (⟨1, 0, y3, y4, y5, y6, y8, 0, 0⟩ : Rq) = x at *
 have lR := aB x
 have zR := bD
 obtain ⟨k9, aF⟩ : ∃ k, k = 9 := ⟨_, rfl⟩
 rw [← aF] at lR zR
 replace aF := Lib.hid aF
 have hld := aH zi lR
 obtain ⟨hst, ed⟩ := zk.store x
 have hb6 : Hid (Below w.heap.size w (wH.setRow w.heap.size (encR x).toArray)) := dB zl.out (Nat.le_refl _) _
 replace hx := Lib.hid hx
 rw [nQ] at hld hst
 go_wp2_with fail
 rw [← nQ]
 refine aZ rfl rfl rfl ed Tryz.underlying28 rfl (by kernel_rfl) ⟨x, rfl, ?_, hb6.out⟩
 first | exact nO hc bI.out wE.out hS5.out wF.out wG.out | (rw [← hx.out]; exact nO hc bI.out wE.out hS5.out wF.out wG.out)
theorem rA {b off n cap : Nat} {w : World} {c0 c1 : UInt8} {t : List UInt8} {m : Nat} (hc : c1.toNat = m) (h1 : m ≠ 1) (h2 : m ≠ 2) (h3 : m ≠ 3) (h4 : m ≠ 4) (h5 : m ≠ 5) (h6 : m ≠ 6) (h7 : m ≠ 7) (h8 : m ≠ 8) (h9 : m ≠ 9) (hn : n = t.length + 2) (dm : n ≤ 64) (hcap : n ≤ cap) (hcm : cap ≤ maxLen) (hr : bz w (.slice (some ⟨b, off + 1, none⟩) (n - 1) (cap - 1)) (c1 :: t)) :
 Calls Tryz.prog 35 #[.slice (some ⟨b, off, none⟩) n cap] w fun e w' => ∃ x, e = .returned (.agg (encR x).toArray) ∧ aT (c0 :: c1 :: t) x ∧ Below w.heap.size w w' := by
 have hcx : Hid ((c1.toNat : Int) = (m : Int)) := by show _ = _; rw [hc]
 have t1 : ((m : Int) == 1) = false := beq_eq_false_iff_ne.2 (by omega)
 have t2 : ((m : Int) == 2) = false := beq_eq_false_iff_ne.2 (by omega)
 have t3 : ((m : Int) == 3) = false := beq_eq_false_iff_ne.2 (by omega)
 have t4 : ((m : Int) == 4) = false := beq_eq_false_iff_ne.2 (by omega)
 have t5 : ((m : Int) == 5) = false := beq_eq_false_iff_ne.2 (by omega)
 have t6 : ((m : Int) == 6) = false := beq_eq_false_iff_ne.2 (by omega)
 have t7 : ((m : Int) == 7) = false := beq_eq_false_iff_ne.2 (by omega)
 have t8 : ((m : Int) == 8) = false := beq_eq_false_iff_ne.2 (by omega)
 have t9 : ((m : Int) == 9) = false := beq_eq_false_iff_ne.2 (by omega)
 have hm : (m : Int) < 256 := by have := c1.toNat_lt; omega
 have hwr : IntKind.i64.wrap (m : Int) = (m : Int) := by rw [IntKind.wrap_i64]; omega
 have hre : aT (c0 :: c1 :: t) ⟨m, 0, 0, 0, 0, 0, false, 0, 0⟩ := ry hc h1 h2 h3 h4 h5 h6 h7 h8 h9
 replace hre := Lib.hid hre
 clear h1 h2 h3 h4 h5 h6 h7 h8 h9
 have jk : cap ≤ 9223372036854775807 := by unfold maxLen at hcm; omega
 have hn1 : 1 ≤ n := by omega
 have hc1 : ¬ cap = 1 := by omega
 have hc2 : 1 < cap := by omega
 have hc3 : ¬ cap - 1 = 0 := by omega
 have hrd := bZ _ (hr.keeps (w' := w.alloc (.cells #[.int .i64 0, .int .i64 0, .int .i64 0, .int .i64 0, .int .i64 0, .int .i64 0, .bool false, .int .i64 0, .int .i64 0] 28)) (dD.dG ((Below.refl _ _).alloc (Nat.le_refl _) _))) (by simp; omega)
 replace hn := Lib.hid hn
 obtain ⟨wA, ag⟩ : ∃ wA, wA = w.alloc (.cells #[.int .i64 0, .int .i64 0, .int .i64 0, .int .i64 0, .int .i64 0, .int .i64 0, .bool false, .int .i64 0, .int .i64 0] 28) := ⟨_, rfl⟩
 have bF : Hid (Below w.heap.size w wA) := by show Below _ _ _; rw [ag]; exact (Below.refl _ _).alloc (Nat.le_refl _) _
 have hsA : wA.heap.size = w.heap.size + 1 := by rw [ag]; simp
 have cB : aa wA w.heap.size af := by rw [ag]; exact heap_alloc_new w _
 clear hr hcm
 go_enter Tryz.func35, Tryz.ntmps35
 go_wp2_with fail
 go_at_call 68
 refine hrd.mono ?_
 clear hrd
 rw [← ag]
 rintro e w1 ⟨rfl, hu1, he1⟩
 rw [hsA] at hu1
 have aU : aa w1 w.heap.size af := cB.ext he1 (by omega)
 have hb1 : Hid (Below w.heap.size w w1) := bF.out.trans (he1.mono (by omega))
 have hs1 : w.heap.size + 1 < w1.heap.size := hu1.lt
 replace ag := Lib.hid ag
 clear he1 cB bF
 rw [hsA]
 clear hsA
 have hby := bY hu1
 clear hu1
 go_wp2_with fail
 go_at_call 69
 refine hby.mono ?_
 clear hby
 rintro e w2 ⟨c, o1, rfl, ⟨rfl, rfl⟩, hu2, ho2⟩
 rw [hcx.out]
 have hR2 : aa w2 w.heap.size af := aU.only ho2 (by omega)
 have hb2 : Hid (Below w.heap.size w w2) := hb1.out.trans (ho2.below (by omega))
 have hs2 : w.heap.size + 1 < w2.heap.size := by rw [ho2.size]; exact hs1
 clear aU hb1 ho2 hs1
 obtain ⟨w3, hw3⟩ : ∃ w3, w3 = w2.alloc (.cells #[.int .i64 (m : Int), .int .i64 0, .int .i64 0, .int .i64 0, .int .i64 0, .int .i64 0, .bool false, .int .i64 0, .int .i64 0] 28) := ⟨_, rfl⟩
 have hu3 : RU w3 (w.heap.size + 1) (some t) := by rw [hw3]; exact hu2.ext ((Below.refl _ _).alloc (Nat.le_refl _) _)
 have cK : aa w3 w2.heap.size ⟨(m : Int), 0, 0, 0, 0, 0, false, 0, 0⟩ := by rw [hw3]; exact heap_alloc_new w2 _
 have aO : aa w3 w.heap.size af := by rw [hw3]; exact hR2.past _
 have hb3 : Hid (Below w.heap.size w w3) := by show Below _ _ _; rw [hw3]; exact hb2.out.alloc (by omega) _
 clear hu2 hR2 hb2
 generalize hx : (⟨(m : Int), 0, 0, 0, 0, 0, false, 0, 0⟩ : Rq) = x at *
 have lR := aB x
 have zR := bD
 obtain ⟨k9, aF⟩ : ∃ k, k = 9 := ⟨_, rfl⟩
 rw [← aF] at lR zR
 replace aF := Lib.hid aF
 have hld := aH cK lR
 obtain ⟨hst, ed⟩ := aO.store x
 have hb6 : Hid (Below w.heap.size w (w3.setRow w.heap.size (encR x).toArray)) := dB hb3.out (Nat.le_refl _) _
 replace hx := Lib.hid hx
 rw [hw3] at hld hst
 go_wp2_with fail
 rw [← hw3]
 refine aZ rfl rfl rfl ed Tryz.underlying28 rfl (by kernel_rfl) ⟨x, rfl, ?_, hb6.out⟩
 first | exact hre.out | (rw [← hx.out]; exact hre.out)
theorem rC {b off n cap : Nat} {w : World} {c0 c1 : UInt8} {t : List UInt8} (hn : n = t.length + 2) (dm : n ≤ 64) (hcap : n ≤ cap) (hcm : cap ≤ maxLen) (hr : bz w (.slice (some ⟨b, off + 1, none⟩) (n - 1) (cap - 1)) (c1 :: t)) :
 Calls Tryz.prog 35 #[.slice (some ⟨b, off, none⟩) n cap] w fun e w' => ∃ x, e = .returned (.agg (encR x).toArray) ∧ aT (c0 :: c1 :: t) x ∧ Below w.heap.size w w' := by
 by_cases h1 : c1.toNat = 1
 ·exact uY h1 hn dm hcap hcm hr
 by_cases h2 : c1.toNat = 2
 ·exact uQ h2 hn dm hcap hcm hr
 by_cases h3 : c1.toNat = 3
 ·exact uR h3 hn dm hcap hcm hr
 by_cases h4 : c1.toNat = 4
 ·exact uS h4 hn dm hcap hcm hr
 by_cases h5 : c1.toNat = 5
 ·exact uT h5 hn dm hcap hcm hr
 by_cases h6 : c1.toNat = 6
 ·exact uU h6 hn dm hcap hcm hr
 by_cases h7 : c1.toNat = 7
 ·exact uV h7 hn dm hcap hcm hr
 by_cases h8 : c1.toNat = 8
 ·exact uW h8 hn dm hcap hcm hr
 by_cases h9 : c1.toNat = 9
 ·exact uX h9 hn dm hcap hcm hr
 exact rA rfl h1 h2 h3 h4 h5 h6 h7 h8 h9 hn dm hcap hcm hr
end Go.Proofs.YtbdfpbknckghgaaGreat

namespace Go.Proofs.YtbdfpbknckghgaaGreat
theorem kW {p : Prop} (f : p := by
 refine bodyPost_ret (iq (b := w.heap.size) (x := af) rfl rfl aO) rfl ?_
 exact ⟨af, 4, rfl, hP.out, hb3.out⟩) : p := f
end Go.Proofs.YtbdfpbknckghgaaGreat
namespace Go.Proofs.YtbdfpbknckghgaaGreat
open Go.RowKit
theorem rD {w : World} {b off cap : Nat} {c : UInt8} {t : List UInt8} (h : au dz 1 w (.slice (some ⟨b, off, none⟩) (t.length + 1) cap) (c :: t)) : bz w (.slice (some ⟨b, off + 1, none⟩) t.length (cap - 1)) t := by
 have h1 := jG h (by simp)
 rcases h1 with ⟨h1, _⟩ | ⟨b', off', cap', h1, hc⟩
 ·cases h1
 ·cases h1
  refine .inr ⟨b, off + 1, cap - 1, rfl, fun i hi => ?_⟩
  have := hc (i + 1) (by simp; omega)
  rw [show off + 1 + i = off + (i + 1) by omega, this]
  simp [List.getD]
theorem iq {fn : Func} {q u : Tmp} {b : Nat} {tmps : Array Value} {w : World} {x : Rq} (h : fn.results = #[.cell q 28, .tmp u]) (ha : tmps.getD q undef = .pointer (some ⟨b, 0, none⟩)) (hb : aa w b x) :
 (results fn tmps).run Tryz.prog w = .ok (.tuple #[.agg (encR x).toArray, tmps.getD u undef]) w := by
 have h1 : Sem.run Tryz.prog (loadCells ⟨b, 0, none⟩ 9) w = .ok (encR x).toArray w := aH hb (aB x)
 rw [results_cell_tmp h, ha]
 simp only [loadVar, asAddr, Sem.run_bind, Sem.run_pure, Result.andThen_ok, vN, bD, h1, if_true]
theorem jP {w : World} {b i : Nat} {v : Value} {cs : Array Value} {t : TypeId} {fz : Nat × Nat} (h : w.heap[b]? = some (.cells cs t fz)) (hv : cs[i]? = some v) : w.setCell ⟨b, i, none⟩ v = w := by
 have hlt := ak h
 have h3 : cs.setIfInBounds i v = cs := by
  refine Array.ext (by simp) fun q h4 h5 => ?_
  rw [Array.getElem_setIfInBounds]
  ·by_cases eq : i = q
   ·subst eq
    rw [Array.getElem?_eq_getElem h5] at hv
    rw [if_pos rfl]
    exact (Option.some.inj hv).symm
   ·rw [if_neg eq]
 have e : ∀ F : Obj → Obj, F (.cells cs t fz) = .cells cs t fz → w.heap.modify b F = w.heap := fun F hF => by
  refine Array.ext (by simp) fun j h1 h2 => ?_
  rw [Array.getElem_modify]
  by_cases ej : b = j
  ·subst ej
   rw [Array.getElem?_eq_getElem hlt] at h
   replace h := Option.some.inj h
   rw [if_pos rfl, h, hF]
  ·rw [if_neg ej]
 unfold World.setCell
 rw [e _ (by simp [h3])]
theorem aa.zero {w : World} {g : Nat} {r : Rq} (h : aa w g r) (j : Nat) (u : Value) (hj : (encR r)[j]? = some u) : w.cell? ⟨g, j, none⟩ = some u ∧ w.frozen? ⟨g, j, none⟩ = false ∧ w.setCell ⟨g, j, none⟩ u = w := ⟨ay h j u hj, h.free j, jP h (by simpa using hj)⟩
def mG (l : List UInt8) (w : World) (e : Ending) (w' : World) : Prop := ∃ x q, e = .returned (.tuple #[.agg (encR x).toArray, .int .i64 q]) ∧ iR l x q ∧ Below w.heap.size w w'
section
variable {v : Value} {l : List UInt8} {w : World}
theorem pz (h : au dz 1 w v l) (hl : l.length ≤ 100) (h64 : 64 < l.length) : Calls Tryz.prog 9 #[v] w (mG l w) := by
 obtain ⟨ao, cap, rfl, h1, h2, h3⟩ := h
 have hP : Hid (iR l af 3) := .inl ⟨h64, rfl, rfl⟩
 obtain ⟨n, hn⟩ : ∃ n, n = l.length := ⟨_, rfl⟩
 rw [← hn] at hl h64 ⊢
 replace hn := Lib.hid hn
 clear h1 h2 h3
 have n1 : (64 : Int) < (n : Int) := by omega
 go_enter Tryz.func9, Tryz.ntmps9
 go_wp2_with fail
 (try simp only [Exit.inBlock, Exit.then])
 refine bodyPost_ret (iq (b := w.heap.size) (x := af) rfl rfl (heap_alloc_new w _)) rfl ?_
 exact ⟨af, 3, rfl, hP.out, (Below.refl _ _).alloc (Nat.le_refl _) _⟩
theorem nR (h : au dz 1 w v l) (h3 : l.length < 3) : Calls Tryz.prog 9 #[v] w (mG l w) := by
 obtain ⟨ao, cap, rfl, h1, h2, _⟩ := h
 have hP : Hid (iR l af 2) := .inr (.inl ⟨h3, rfl, rfl⟩)
 obtain ⟨n, hn⟩ : ∃ n, n = l.length := ⟨_, rfl⟩
 rw [← hn] at h3 ⊢
 replace hn := Lib.hid hn
 clear h1 h2
 have n1 : ¬ (64 : Int) < (n : Int) := by omega
 have n2 : (n : Int) < 3 := by omega
 go_enter Tryz.func9, Tryz.ntmps9
 go_wp2_with fail
 (try simp only [Exit.inBlock, Exit.then])
 refine bodyPost_ret (iq (b := w.heap.size) (x := af) rfl rfl (heap_alloc_new w _)) rfl ?_
 exact ⟨af, 2, rfl, hP.out, (Below.refl _ _).alloc (Nat.le_refl _) _⟩
theorem rE (h : au dz 1 w v l) (h3 : 3 ≤ l.length) (h64 : l.length ≤ 64) : Calls Tryz.prog 9 #[v] w (mG l w) := by
 obtain ⟨n, hn⟩ : ∃ n, n = l.length := ⟨_, rfl⟩
 obtain ⟨c0, c1, t, rfl⟩ : ∃ c0 c1 t, l = c0 :: c1 :: t := by
  match l, h3 with
  | c0 :: c1 :: t, _ => exact ⟨c0, c1, t, rfl⟩
 obtain ⟨ao, cap, rfl, h1, h2, h4⟩ := id h
 obtain ⟨b, off, rfl, hlt, _⟩ := h4 (by omega)
 rw [← hn] at h1 h3 h64 ⊢
 have htn : n = t.length + 2 := hn
 obtain ⟨wA, ag⟩ : ∃ wA, wA = w.alloc (.cells #[.int .i64 0, .int .i64 0, .int .i64 0, .int .i64 0, .int .i64 0, .int .i64 0, .bool false, .int .i64 0, .int .i64 0] 28) := ⟨_, rfl⟩
 have bF : Hid (Below w.heap.size w wA) := by show Below _ _ _; rw [ag]; exact (Below.refl _ _).alloc (Nat.le_refl _) _
 have hsA : wA.heap.size = w.heap.size + 1 := by rw [ag]; simp
 have cB : aa wA w.heap.size af := by rw [ag]; exact heap_alloc_new w _
 have mH := h.below bF.out
 have htl : bz wA (.slice (some ⟨b, off + 1, none⟩) (n - 1) (cap - 1)) (c1 :: t) := by
  have := rD (t := c1 :: t) mH
  rw [show (c1 :: t).length = n - 1 by rw [htn]; simp] at this
  exact this
 have hgs := rC (c0 := c0) htn h64 h1 h2 htl
 rw [ag] at hgs
 have hlong : ¬ (64 : Int) < (n : Int) := by omega
 have hshort : ¬ (n : Int) < 3 := by omega
 generalize hl : c0 :: c1 :: t = l at *
 rw [← hn] at mH
 replace hn := Lib.hid hn
 replace htn := Lib.hid htn
 replace hl := Lib.hid hl
 clear h htl h1 h2 h4 hlt
 go_enter Tryz.func9, Tryz.ntmps9
 go_wp2_with fail
 go_at_call 35
 refine hgs.mono ?_
 clear hgs
 rw [← ag]
 rintro e w1 ⟨x, rfl, hx, he1⟩
 have aU : aa w1 w.heap.size af := cB.ext he1 (by omega)
 have hb1 : Hid (Below w.heap.size w w1) := bF.out.trans (he1.mono (by omega))
 have hs1 : w.heap.size < w1.heap.size := aU.lt
 have u6 := mH.below he1
 replace ag := Lib.hid ag
 clear he1 cB bF mH hsA
 have lR := aB x
 have hst := ji w1 w1.heap.size (encR x) (encR af) 28 rfl rfl (kz x)
 rw [show (encR af).toArray = #[.int .i64 0, .int .i64 0, .int .i64 0, .int .i64 0, .int .i64 0, .int .i64 0, .bool false, .int .i64 0, .int .i64 0] from rfl] at hst
 obtain ⟨w2, hw2⟩ : ∃ w2, w2 = w1.alloc (.cells (encR x).toArray 28) := ⟨_, rfl⟩
 have je : aa w2 w1.heap.size x := by rw [hw2]; exact heap_alloc_new w1 _
 have hR2 : aa w2 w.heap.size af := by rw [hw2]; exact aU.past _
 have hb2 : Hid (Below w.heap.size w w2) := by show Below _ _ _; rw [hw2]; exact hb1.out.alloc (by omega) _
 have hrow2 : au dz 1 w2 (.slice (some ⟨b, off, none⟩) n cap) l := u6.below (by rw [hw2]; exact (Below.refl _ _).alloc (Nat.le_refl _) _)
 have hld := aH je (aB x)
 rw [hw2] at hld
 replace hx := Lib.hid hx
 clear aU hb1 u6
 by_cases hrt : aW x = true
 ·have hput := pR x w2 hx.out.1 hrt
  rw [hw2] at hput
  go_wp2_with fail
  go_at_call 36
  change Calls _ _ #[.agg (encR x).toArray] _ _
  refine hput.mono ?_
  clear hput hld hst
  rw [← hw2]
  rintro e w3 ⟨v3, rfl, hrow3, mI⟩
  have aO : aa w3 w.heap.size af := hR2.below mI
  have cK : aa w3 w1.heap.size x := je.below mI
  have hb3 : Hid (Below w.heap.size w w3) := hb2.out.trans (mI.mono hb2.out.size)
  have heq := qL hrow3 (hrow2.below mI)
  replace hw2 := Lib.hid hw2
  clear hR2 je hb2 hrow2 hrow3 mI
  by_cases hel : dZ x = l
  ·rw [decide_eq_true hel] at heq
   have hP : Hid (iR l x 0) := .inr (.inr ⟨by rw [← hn.out]; exact h3, by rw [← hn.out]; exact h64, .inl ⟨hx.out.1, hrt, hel, rfl⟩⟩)
   have lR := aB x
   have zR := bD
   obtain ⟨k9, aF⟩ : ∃ k, k = 9 := ⟨_, rfl⟩
   rw [← aF] at lR zR
   replace aF := Lib.hid aF
   have hld := aH cK lR
   obtain ⟨hst, dF⟩ := aO.store x
   have hb4 : Hid (Below w.heap.size w (w3.setRow w.heap.size (encR x).toArray)) := dB hb3.out (Nat.le_refl _) _
   clear hel cK aO hb3
   go_wp2_with (go_at_call 37; go_must (refine heq.mono ?_); rintro e w' ⟨rfl, rfl⟩)
   (try simp only [Exit.inBlock, Exit.then])
   refine bodyPost_ret (iq (b := w.heap.size) (x := x) rfl rfl dF) rfl ?_
   exact ⟨x, 0, rfl, hP.out, hb4.out⟩
  ·rw [decide_eq_false hel] at heq
   have hP : Hid (iR l af 4) := .inr (.inr ⟨by rw [← hn.out]; exact h3, by rw [← hn.out]; exact h64, .inr ⟨fun r fr rr er => hel (by rw [hx.out.2 r fr rr er]; exact er), rfl, rfl⟩⟩)
   obtain ⟨a0, f0, s0⟩ := aO.zero 0 (.int .i64 0) rfl
   obtain ⟨a1, f1, s1⟩ := aO.zero 1 (.int .i64 0) rfl
   obtain ⟨a2, f2, s2⟩ := aO.zero 2 (.int .i64 0) rfl
   obtain ⟨a3, f3, s3⟩ := aO.zero 3 (.int .i64 0) rfl
   obtain ⟨a4, f4, s4⟩ := aO.zero 4 (.int .i64 0) rfl
   obtain ⟨a5, f5, s5⟩ := aO.zero 5 (.int .i64 0) rfl
   obtain ⟨a6, f6, s6⟩ := aO.zero 6 (.bool false) rfl
   obtain ⟨a7, f7, s7⟩ := aO.zero 7 (.int .i64 0) rfl
   obtain ⟨a8, f8, s8⟩ := aO.zero 8 (.int .i64 0) rfl
   clear hel cK
   go_wp2_with (go_at_call 37; go_must (refine heq.mono ?_); rintro e w' ⟨rfl, rfl⟩)
   (try simp only [Exit.inBlock, Exit.then])
   exact kW
 ·have hrf : aW x = false := by simpa using hrt
  have hbad := wh x w2 hrf
  rw [hw2] at hbad
  have hP : Hid (iR l af 4) := .inr (.inr ⟨by rw [← hn.out]; exact h3, by rw [← hn.out]; exact h64, .inr ⟨fun r fr rr er => hrt (by rw [hx.out.2 r fr rr er]; exact rr), rfl, rfl⟩⟩)
  clear hrt hrf
  go_wp2_with fail
  go_at_call 36
  change Calls _ _ #[.agg (encR x).toArray] _ _
  refine hbad.mono ?_
  clear hbad hld hst
  rw [← hw2]
  rintro e w3 ⟨rfl, mI⟩
  have aO : aa w3 w.heap.size af := hR2.below mI
  have hb3 : Hid (Below w.heap.size w w3) := hb2.out.trans (mI.mono hb2.out.size)
  replace hw2 := Lib.hid hw2
  clear hR2 je hb2 hrow2 mI
  obtain ⟨a0, f0, s0⟩ := aO.zero 0 (.int .i64 0) rfl
  obtain ⟨a1, f1, s1⟩ := aO.zero 1 (.int .i64 0) rfl
  obtain ⟨a2, f2, s2⟩ := aO.zero 2 (.int .i64 0) rfl
  obtain ⟨a3, f3, s3⟩ := aO.zero 3 (.int .i64 0) rfl
  obtain ⟨a4, f4, s4⟩ := aO.zero 4 (.int .i64 0) rfl
  obtain ⟨a5, f5, s5⟩ := aO.zero 5 (.int .i64 0) rfl
  obtain ⟨a6, f6, s6⟩ := aO.zero 6 (.bool false) rfl
  obtain ⟨a7, f7, s7⟩ := aO.zero 7 (.int .i64 0) rfl
  obtain ⟨a8, f8, s8⟩ := aO.zero 8 (.int .i64 0) rfl
  go_wp2_with fail
  (try simp only [Exit.inBlock, Exit.then])
  exact kW
theorem u7 (h : au dz 1 w v l) (hl : l.length ≤ 100) : Calls Tryz.prog 9 #[v] w (mG l w) := by
 by_cases h64 : 64 < l.length
 ·exact pz h hl h64
 by_cases h3 : l.length < 3
 ·exact nR h h3
 ·exact rE h (by omega) (by omega)
end
end Go.Proofs.YtbdfpbknckghgaaGreat

namespace Go.Proofs.YtbdfpbknckghgaaGreat
open Go.RowKit Go.Lib Go.Sort
def rL : Rq := ⟨11, 0, 0, 0, 0, 0, false, 0, 0⟩
theorem eQ : bf rL := by constructor <;> decide
theorem dQ : ah rL = rL := by decide
theorem fQ : aW rL = true := by decide
theorem jQ {r : Rq} (hf : bf r) (hq : aW r = true) {v : Value} {W : World} (hv : au dz 1 W v (dZ r)) : Calls Tryz.prog 9 #[v] W fun e w' => e = .returned (.tuple #[.agg (encR r).toArray, .int .i64 0]) ∧ Below W.heap.size W w' := by
 have hl := mq r
 refine (u7 hv (by omega)).mono ?_
 rintro e w' ⟨x, q, rfl, h, hb⟩
 rcases h with ⟨h, _⟩ | ⟨h, _⟩ | ⟨_, _, ⟨fx, rx, ex, q0⟩ | ⟨no, _⟩⟩
 ·omega
 ·omega
 ·rw [qK fx hf rx hq ex, q0]
  exact ⟨rfl, hb⟩
 ·exact absurd rfl (no r hf hq)
theorem pE (w : World) : Calls Tryz.prog 16 #[] w fun e w' => e = .returned (.bool true) ∧ Below w.heap.size w w' := by
 have hc := qX 3 w (by decide) (by decide)
 go_enter Tryz.func16, Tryz.ntmps16
 go_wp2_with fail
 go_at_call 8
 refine hc.mono ?_
 clear hc
 rintro e w1 ⟨q, k, t, d, p, v, g, lg, s, mp, rfl, gI, _, _, hG1, hL1, _, o1, o2, o3, o4, hb1⟩
 have hby := iY rL w1 eQ (by rw [dQ]; exact fQ) (by rw [dQ]; exact eQ)
 rw [dQ, show (encR rL).toArray = #[.int .i64 11, .int .i64 0, .int .i64 0, .int .i64 0, .int .i64 0, .int .i64 0, .bool false, .int .i64 0, .int .i64 0] from rfl] at hby
 obtain ⟨C0, hC0⟩ : ∃ C0 : Ct, C0 = ⟨k, lg, s, 0, .slice none 0 0, .map (some mp)⟩ := ⟨_, rfl⟩
 rw [← hC0] at gI
 have e0 : C0.tasks = 0 ∧ C0.live = .slice none 0 0 ∧ C0.log = lg ∧ C0.aQ = s := by rw [hC0]; exact ⟨rfl, rfl, rfl, rfl⟩
 replace gI := Lib.hid gI
 replace hG1 := Lib.hid hG1
 replace hL1 := Lib.hid hL1
 replace hb1 := Lib.hid hb1
 have jO : Hid (w.heap.size ≤ lg ∧ lg < s ∧ s < q) := ⟨o4, o1, by omega⟩
 clear hC0 o1 o2 o3 o4
 replace e0 := Lib.hid e0
 go_wp2_with fail
 go_at_call 44
 refine hby.mono ?_
 clear hby
 rintro e w2 ⟨v2, rfl, hv2, hb2⟩
 have hcall := nN (B := lg) (C := C0) (L := []) (E := []) (vl := .slice none 0 0) (st := 0) (gI.out.below hb2 gI.out.lt) (by rw [e0.out.2.1]; exact ⟨rfl, .inl ⟨rfl, rfl⟩⟩) (by rw [e0.out.2.2.1]; exact hG1.out.below hb2) (by decide) (by decide) (by rw [e0.out.1]; decide) rL v2 (fun W hW => jQ eQ fQ (hv2.below hW))
 have L2 := Lib.hid (hL1.out.below hb2 hL1.out.lt)
 have fH : Hid (Below w.heap.size w w2) := hb1.out.trans (hb2.mono hb1.out.size)
 clear gI hG1 hL1 hb1 hb2 hv2
 go_wp2_with fail
 go_at_call 10
 refine hcall.mono ?_
 clear hcall
 rintro e w3 ⟨oA, hA, bA, v3, Ab, rfl, C3, R3, G3, OA, HA, WA, Ac, Ad, Ae, ho3, hv3, hl3⟩
 rw [e0.out.1]
 rw [e0.out.1] at C3 R3 G3 HA
 rw [e0.out.2.2.1] at G3 ho3
 rw [e0.out.2.1] at ho3
 have L3 : Hid (az 94 w3 s ⟨0, 0, 0, 0⟩) := (ho3.block s L2.out.lt (by
  have := jO.out
  rintro (e | e | e | e)
  ·omega
  ·omega
  ·simp [Value.ownBlock] at e
  ·simp [Value.ownBlock] at e)).trans L2.out
 have vg : Hid (Below w.heap.size w w3) := fH.out.trans (ho3.below (by
  have := jO.out
  rintro k (e | e | e | e)
  ·omega
  ·omega
  ·simp [Value.ownBlock] at e
  ·simp [Value.ownBlock] at e) fH.out.size)
 obtain ⟨C1, gI⟩ : ∃ C1 : Ct, C1 = { C0 with tasks := 0 + 1, live := v3 } := ⟨_, rfl⟩
 rw [← gI] at C3
 have e1 : Hid (C1.tasks = 1 ∧ C1.live = v3 ∧ C1.log = lg ∧ C1.aQ = s) := by
  rw [gI]
  exact ⟨rfl, rfl, e0.out.2.2.1, e0.out.2.2.2⟩
 have hby := iY rL w3 eQ (by rw [dQ]; exact fQ) (by rw [dQ]; exact eQ)
 rw [dQ, show (encR rL).toArray = #[.int .i64 11, .int .i64 0, .int .i64 0, .int .i64 0, .int .i64 0, .int .i64 0, .bool false, .int .i64 0, .int .i64 0] from rfl] at hby
 replace C3 := Lib.hid C3
 replace R3 := Lib.hid R3
 replace G3 := Lib.hid G3
 replace OA := Lib.hid OA
 replace HA := Lib.hid HA
 have zm : Hid (w.heap.size ≤ hA) := by have := fH.out.size; exact Lib.hid (by omega)
 clear gI WA Ac Ad Ae ho3 hv3 hl3 L2 fH e0
 go_wp2_with fail
 go_at_call 44
 refine hby.mono ?_
 clear hby
 rintro e w4 ⟨v4, rfl, hv4, hb4⟩
 have R4 := Put.bG R3.out hb4
 have G4 := G3.out.below hb4
 have C4 := C3.out.below hb4 C3.out.lt
 have hcall := nN (B := lg) (C := C1) (L := [(oA, 0 + 1)]) (E := [] ++ [stamp 0 (mD (0 + 1) rL)]) (vl := Ab) (st := 0) C4 (by rw [e1.out.2.1]; exact R4) (by rw [e1.out.2.2.1]; exact G4) (by show 1 < 64; decide) (by show 1 ≤ 800; decide) (by rw [e1.out.1]; decide) rL v4 (fun W hW => jQ eQ fQ (hv4.below hW))
 have L4 := L3.out.below hb4 L3.out.lt
 have vk : bO w4 oA hA (ah rL) := (hb4.block oA OA.out.lt).trans OA.out
 have vo := HA.out.below hb4 HA.out.lt
 have vw : Hid (Below w.heap.size w w4) := vg.out.trans (hb4.mono vg.out.size)
 replace R4 := Lib.hid R4
 replace G4 := Lib.hid G4
 replace C4 := Lib.hid C4
 replace L4 := Lib.hid L4
 replace vk := Lib.hid vk
 replace vo := Lib.hid vo
 clear R3 G3 C3 L3 OA HA hb4 vg hv4
 go_wp2_with fail
 go_at_call 10
 refine hcall.mono ?_
 clear hcall
 rintro e w5 ⟨oB, hB, bB, v5, Af, rfl, C5, R5, G5, OB, HB, WB, Ag, sB2, Ah, fo, hv5, hl5⟩
 rw [e1.out.1]
 rw [e1.out.1] at C5 R5 HB
 rw [e1.out.2.2.1] at G5 fo
 rw [e1.out.2.1] at fo
 have mJ : ∀ (k : Nat) (cs : Array Value) (T : TypeId) (f : Nat × Nat), w4.heap[k]? = some (.cells cs T f) → T ≠ 91 → T ≠ 50 → T ≠ 109 → T ≠ 41 → w5.heap[k]? = some (.cells cs T f) := fun k cs T f hk h1 h2 h3 h4 => by
  refine (fo.block k (Put.lt_of_heap hk) ?_).trans hk
  rintro (e | e | e | e)
  ·subst e
   have := C4.out
   unfold aI at this
   rw [hk] at this
   exact h4 (Obj.cells.inj (Option.some.inj this)).2.1
  ·subst e
   have := G4.out.obj
   rw [hk] at this
   exact h1 (Obj.cells.inj (Option.some.inj this)).2.1
  ·exact dE G4.out.own hk h2 e
  ·exact dE R4.out hk h3 e
 have L5 : az 94 w5 s ⟨0, 0, 0, 0⟩ := mJ _ _ _ _ L4.out (by decide) (by decide) (by decide) (by decide)
 have rF : bO w5 oA hA (ah rL) := mJ _ _ _ _ vk.out (by decide) (by decide) (by decide) (by decide)
 have nS : ax w5 hA (eX bA (0 + 1) rL) := mJ _ _ _ _ vo.out (by decide) (by decide) (by decide) (by decide)
 have zn := jO.out
 have vz : Hid (Below w.heap.size w w5) := vw.out.trans (fo.below (by
  rintro k (e | e | e | e)
  ·omega
  ·omega
  ·have := (G4.out.own.lt k e).1; omega
  ·have := (R4.out.lt k e).1; omega) vw.out.size)
 have xQ : Hid (oB ≠ oA) := by
  have := vk.out.lt
  show oB ≠ oA
  omega
 have wU : Hid (hB ≠ hA) := by
  have := vo.out.lt
  show hB ≠ hA
  omega
 obtain ⟨C2, hC2⟩ : ∃ C2 : Ct, C2 = { C1 with tasks := 1 + 1, live := v5 } := ⟨_, rfl⟩
 rw [← hC2] at C5
 have e2 : Hid (C2.live = v5 ∧ C2.log = lg ∧ C2.aQ = s) := by
  rw [hC2]
  exact ⟨rfl, e1.out.2.2.1, e1.out.2.2.2⟩
 have rG : w5.ownsRow lg 109 2 v5 [(oA, (1 : Int)), (oB, 2)].length ([(oA, (1 : Int)), (oB, 2)].flatMap aP) := R5
 have hdo := uN (B := lg) (C := C2) (L := [(oA, (1 : Int)), (oB, 2)]) (o := oA) (tid := 1) C5 (by rw [e2.out.2.1]; exact G5) (by decide) (by rw [e2.out.1]; exact rG) (by show 0 < 2; decide) rfl rF nS (by rw [e2.out.2.2]; exact L5) rfl rfl (by show (1 : Int) ≠ 5; decide) (by decide) (by show (0 : Int) ≤ 0 ∧ (0 : Int) ≤ 3; decide)
 have zo : Hid (w5.heap[lg]? = some (.cells #[.int .i64 0, Af] 91 (0, 0))) := G5.obj
 replace C5 := Lib.hid C5
 replace rG := Lib.hid rG
 replace rF := Lib.hid rF
 replace nS := Lib.hid nS
 replace OB := Lib.hid OB
 replace HB := Lib.hid HB
 replace L5 := Lib.hid L5
 clear hC2 R5 G5 WB Ag sB2 Ah fo hv5 hl5 mJ e1 R4 G4 C4 L4 vk vo vw zn
 go_wp2_with fail
 go_at_call 20
 refine hdo.mono ?_
 clear hdo
 rintro e w6 ⟨rfl, H6, L6, jg⟩
 rw [e2.out.2.2] at L6 jg
 rw [e2.out.2.1] at jg
 have iT : ∀ (k : Nat) (cs : Array Value) (T : TypeId) (f : Nat × Nat), w5.heap[k]? = some (.cells cs T f) → T ≠ 91 → T ≠ 94 → k ≠ hA → w6.heap[k]? = some (.cells cs T f) := fun k cs T f hk h1 h2 h3 => by
  refine (jg.block k (Put.lt_of_heap hk) ?_).trans hk
  rintro (e | e | e)
  ·exact h3 e
  ·subst e
   have := L5.out
   unfold az at this
   rw [hk] at this
   exact h2 (Obj.cells.inj (Option.some.inj this)).2.1
  ·subst e
   have := zo.out
   rw [hk] at this
   exact h1 (Obj.cells.inj (Option.some.inj this)).2.1
 have C6 : aI w6 q C2 := iT _ _ _ _ C5.out (by decide) (by decide) (Put.aM C5.out nS.out (by decide))
 have xR : bO w6 oA hA (ah rL) := iT _ _ _ _ rF.out (by decide) (by decide) (Put.aM rF.out nS.out (by decide))
 have xS : bO w6 oB hB (ah rL) := iT _ _ _ _ OB.out (by decide) (by decide) (Put.aM OB.out nS.out (by decide))
 have xU : ax w6 hB (eX bB (1 + 1) rL) := iT _ _ _ _ HB.out (by decide) (by decide) wU.out
 have R6 : w6.ownsRow lg 109 2 v5 [(oA, (1 : Int)), (oB, 2)].length ([(oA, (1 : Int)), (oB, 2)].flatMap aP) := aD rG.out fun k hk => by
  obtain ⟨cur, hc⟩ := ik rG.out hk
  exact (iT _ _ _ _ hc (by decide) (by decide) (Put.aM hc nS.out (by decide))).trans hc.symm
 have vB : Hid (Below w.heap.size w w6) := vz.out.trans (jg.below (by
  have := jO.out
  have := zm.out
  rintro k (e | e | e) <;> omega) vz.out.size)
 have hrd := rf (L := [(oA, (1 : Int)), (oB, 2)]) (wt := fun o => if o = oA then false else true) C6 (by rw [e2.out.1]; exact au.gK R6 gJ rfl rfl) (by show 2 ≤ 64; decide) (fun W hW x hx => by
  rw [e2.out.2.2]
  have zq := L6.below hW L6.lt
  rcases List.mem_cons.1 hx with rfl | hx
  ·have hO : bO W oA hA (ah rL) := (hW.block oA xR.lt).trans xR
   have hwt := iG (H6.below hW H6.lt) zq
   refine ⟨hA, hO.c0, ?_⟩
   rw [show (if (oA, (1 : Int)).1 = oA then false else true) = false from if_pos rfl]
   exact hwt
  ·obtain rfl : x = (oB, 2) := by simpa using hx
   have hO : bO W oB hB (ah rL) := (hW.block oB xS.lt).trans xS
   have hwt := iG (xU.below hW xU.lt) zq
   refine ⟨hB, hO.c0, ?_⟩
   rw [show (if (oB, (2 : Int)).1 = oA then false else true) = true from if_neg xQ.out]
   exact hwt)
 have hrl : bg (fun o => if o = oA then false else true) [(oA, (1 : Int)), (oB, 2)] = [1] := by
  unfold bg
  simp [xQ.out]
 rw [hrl] at hrd
 replace C6 := Lib.hid C6
 replace R6 := Lib.hid R6
 clear H6 L6 jg iT xR xS xU C5 rG rF nS OB HB L5 vz zo hrl xQ wU zm jO
 go_wp2_with fail
 go_at_call 19
 refine hrd.mono ?_
 clear hrd
 rintro e w7 ⟨v7, rfl, R7, rz⟩
 obtain ⟨ao, cap, e7, r1, r2, r3⟩ := au.gK (enc := enc1) (l := [(1 : Int)]) R7 (fun _ => rfl) rfl rfl
 obtain ⟨g7, zt, rfl, _, zu⟩ := r3 (by decide)
 have c7 : w7.cell? ⟨g7, zt, none⟩ = some (.int .i64 1) := by simpa using zu 0 1 0 _ rfl rfl
 have hall := eY (C6.out.below rz C6.out.lt)
 obtain ⟨yT, cap5, xV, _⟩ := dR R6.out
 rw [e2.out.1, xV] at hall
 have hbz := ib hall
 rw [show ([(1 : Int)].length) = 1 from rfl] at e7
 subst e7
 have zw : Hid (Below w.heap.size w w7) := vB.out.trans (rz.mono vB.out.size)
 replace xV := Lib.hid xV
 clear R7 r1 r2 r3 zu hall rz vB C6 R6
 go_wp2_with (go_at_call 14; go_must (refine hbz.mono ?_); rintro e w' ⟨rfl, rfl⟩)
 go_ret
 exact ⟨rfl, zw.out⟩
end Go.Proofs.YtbdfpbknckghgaaGreat

namespace Go.Proofs.YtbdfpbknckghgaaGreat
open Go.RowKit Go.Lib Go.Sort
theorem kX {p : Value} {w : World} (h : Calls Tryz.prog 42 #[p] w fun e w' => e = .returned (.slice none 0 0) ∧ w = w') : Calls Tryz.prog 19 #[p] w fun e w' => e = .returned (.slice none 0 0) ∧ w = w' := by
 go_enter Tryz.func19, Tryz.ntmps19
 go_wp2_with (go_at_call 42; go_must (refine h.mono ?_); rintro e w' ⟨rfl, rfl⟩)
 go_loopw [3, 5, 9] (fun vv _ ii wr => vv = .slice none 0 0 ∧ ii = .int .i64 0 ∧ w = wr) (fun _ _ _ _ => 1)
 case atStart => exact ⟨rfl, rfl, rfl⟩
 case round =>
  obtain ⟨rfl, rfl, rfl⟩ := hrel
  go_wp2_with fail
  go_ret
  exact ⟨rfl, rfl⟩
theorem xW {p : Value} {w : World} (i : Int) (h : Calls Tryz.prog 42 #[p] w fun e w' => e = .returned (.slice none 0 0) ∧ w = w') : Calls Tryz.prog 20 #[p, .int .i64 i] w fun e w' => e = .returned (.bool false) ∧ w = w' := by
 go_enter Tryz.func20, Tryz.ntmps20
 go_wp2_with (go_at_call 42; go_must (refine h.mono ?_); rintro e w' ⟨rfl, rfl⟩)
 go_loopw [5, 6, 10] (fun _ _ ii wr => ii = .int .i64 0 ∧ w = wr) (fun _ _ _ _ => 1)
 case atStart => exact ⟨rfl, rfl⟩
 case round =>
  obtain ⟨rfl, rfl⟩ := hrel
  go_wp2_with fail
  go_ret
  exact ⟨rfl, rfl⟩
theorem vC {p : Value} {w : World} (i : Int) (h : Calls Tryz.prog 42 #[p] w fun e w' => e = .returned (.slice none 0 0) ∧ w = w') : Calls Tryz.prog 18 #[p, .int .i64 i] w fun e w' => e = .returned (.int .i64 0) ∧ w = w' := by
 have hr := kX h
 clear h
 go_enter Tryz.func18, Tryz.ntmps18
 go_wp2_with (go_at_call 19; go_must (refine hr.mono ?_); rintro e w' ⟨rfl, rfl⟩)
 go_ret
 exact ⟨rfl, rfl⟩
theorem rH {p : Value} {w : World} (h : Calls Tryz.prog 42 #[p] w fun e w' => e = .returned (.slice none 0 0) ∧ w = w') : Calls Tryz.prog 21 #[p] w fun e w' => e = .returned (.bool false) ∧ w = w' := by
 have hb := ib h
 clear h
 go_enter Tryz.func21, Tryz.ntmps21
 go_wp2_with (go_at_call 14; go_must (refine hb.mono ?_); rintro e w' ⟨rfl, rfl⟩)
 go_ret
 exact ⟨rfl, rfl⟩
theorem wI : ∀ w, Sem.run Tryz.prog (isAgg 44) w = .ok true w := Tryz.isAgg44
theorem wJ : ∀ w, Sem.run Tryz.prog (Go.sizeOf 44) w = .ok 9 w := Tryz.sizeOf44
theorem vE {fn : Func} {q u : Tmp} {b : Nat} {tmps : Array Value} {w : World} {E : List Value} (h : fn.results = #[.cell q 44, .tmp u]) (ha : tmps.getD q undef = .pointer (some ⟨b, 0, none⟩)) (hE : E.length = 9) (hb : w.heap[b]? = some (.cells E.toArray 44 (0, 0))) :
 (results fn tmps).run Tryz.prog w = .ok (.tuple #[.agg E.toArray, tmps.getD u undef]) w := by
 have h1 : Sem.run Tryz.prog (loadCells ⟨b, 0, none⟩ 9) w = .ok E.toArray w := by
  refine run_loadCellsFrom_list Tryz.prog w _ _ 9 hE fun j u hj => ?_
  rw [Go.WideShapes.add_plain]
  simp [World.cell?, hb, hj]
 rw [results_cell_tmp h, ha]
 simp only [loadVar, asAddr, Sem.run_bind, Sem.run_pure, Result.andThen_ok, wI, wJ, h1, if_true]
def Ai : List Value := [.int .i64 0, .int .i64 0, .int .i64 0, .int .i64 0, .int .i64 0, .int .i64 0, .int .i64 0, .int .i64 0, .int .i64 0]
theorem rJ (i : Int) (w : World) : Calls Tryz.prog 13 #[.pointer none, .int .i64 i] w fun e w' => e = .returned (.tuple #[.agg #[.int .i64 0, .int .i64 0, .int .i64 0, .int .i64 0, .int .i64 0, .int .i64 0, .int .i64 0, .int .i64 0, .int .i64 0], .bool false]) ∧ Below w.heap.size w w' := by
 go_enter Tryz.func13, Tryz.ntmps13
 go_wp2_with fail
 refine bodyPost_ret (vE (b := w.heap.size) (E := Ai) rfl rfl rfl (heap_alloc_new w _)) rfl ?_
 exact ⟨rfl, (Below.refl _ _).alloc (Nat.le_refl _) _⟩
end Go.Proofs.YtbdfpbknckghgaaGreat

namespace Go.Proofs.YtbdfpbknckghgaaGreat
open Go.RowKit Go.Lib Go.Sort
theorem dH.below {w w' : World} {c B : Nat} (q : dH w c) (hb : Below B w w') (hs : c < B) : dH w' c := (hb.block c hs).trans q
theorem rM (v : Value) (i : Int) (w : World) : Calls Tryz.prog 4 #[v, .int .i64 i] w fun e w' => e = .returned (.bool true) ∧ Below w.heap.size w w' := by
 obtain ⟨w1, hw1⟩ : ∃ w1, w1 = w.alloc (.cells #[.pointer none, .pointer none, .pointer none, .int .i64 0, .slice none 0 0, .map none] 41) := ⟨_, rfl⟩
 have hb1 : Below w.heap.size w w1 := by rw [hw1]; exact (Below.refl _ _).alloc (Nat.le_refl _) _
 have hz : dH w1 w.heap.size := by rw [hw1]; exact heap_alloc_new w _
 have hl1 : w.heap.size < w1.heap.size := by rw [hw1]; simp
 have hc1 := oN (v := v) (jL (jK w1))
 have hp1 := oO (v := .int .i64 1) (u := .int .i64 1) (jL (iW hz))
 have ht1 := rJ i w1
 replace hz := Lib.hid hz
 replace hb1 := Lib.hid hb1
 go_enter Tryz.func4, Tryz.ntmps4
 go_wp2_with fail
 rw [← hw1]
 clear hw1
 go_wp2_with (first
  | (go_at_call 10; go_must (refine hc1.mono ?_); clear hc1; rintro e w' ⟨rfl, rfl⟩)
  | (go_at_call 15; go_must (refine hp1.mono ?_); clear hp1; rintro e w' ⟨rfl, rfl⟩))
 go_at_call 13
 refine ht1.mono ?_
 clear ht1
 rintro e w2 ⟨rfl, hb2⟩
 obtain ⟨w3, hw3⟩ : ∃ w3, w3 = w2.alloc (.cells #[.int .i64 0, .int .i64 0, .int .i64 0, .int .i64 0, .int .i64 0, .int .i64 0, .int .i64 0, .int .i64 0, .int .i64 0] 44) := ⟨_, rfl⟩
 have hb3 : Below w2.heap.size w2 w3 := by rw [hw3]; exact (Below.refl _ _).alloc (Nat.le_refl _) _
 have hz3 := (hz.out.below hb2 hl1).below hb3 (by have := hb2.size; omega)
 have wV : Hid (Below w.heap.size w w3) := hb1.out.trans ((hb2.trans (hb3.mono hb2.size)).mono hb1.out.size)
 go_wp2_with fail
 rw [← hw3]
 clear hw3 hb2 hb3 hz hb1
 have n1 := jK w3
 have n2 := oM w3
 have n3 := vC i (iX w3)
 have n4 := xW i (iX w3)
 have z1 := iW hz3
 have z2 := ib (eZ hz3)
 have z3 := kX (eZ hz3)
 have z4 := rH (eZ hz3)
 have ha := pE w3
 clear hz3
 go_wp2_with (first
  | (go_at_call 17; refine n1.mono ?_; clear n1; rintro e w' ⟨rfl, rfl⟩)
  | (go_at_call 17; go_must (refine z1.mono ?_); clear z1; rintro e w' ⟨rfl, rfl⟩)
  | (go_at_call 12; go_must (refine n2.mono ?_); clear n2; rintro e w' ⟨rfl, rfl⟩)
  | (go_at_call 14; go_must (refine z2.mono ?_); clear z2; rintro e w' ⟨rfl, rfl⟩)
  | (go_at_call 18; go_must (refine n3.mono ?_); clear n3; rintro e w' ⟨rfl, rfl⟩)
  | (go_at_call 19; go_must (refine z3.mono ?_); clear z3; rintro e w' ⟨rfl, rfl⟩)
  | (go_at_call 20; go_must (refine n4.mono ?_); clear n4; rintro e w' ⟨rfl, rfl⟩)
  | (go_at_call 21; go_must (refine z4.mono ?_); clear z4; rintro e w' ⟨rfl, rfl⟩)
  | (go_at_call 16; go_must (refine ha.mono ?_); clear ha; rintro e w4 ⟨rfl, hb4⟩))
 go_ret
 exact ⟨rfl, wV.out.trans (hb4.mono wV.out.size)⟩
theorem jh (v : Value) (l : List UInt8) (i : Int) (w : World) (_ : au dz 1 w v l) (_ : -9223372036854775808 ≤ i ∧ i ≤ 9223372036854775807) : Calls Tryz.prog 4 #[v, .int .i64 i] w fun e w' => e = .returned (.bool true) ∧ Below w.heap.size w w' := rM v i w
end Go.Proofs.YtbdfpbknckghgaaGreat


namespace Go.Proofs.YtbdfpbknckghgaaGreat.ctrlNobody
open Go.ChangeShapes Go.WideShapes Go.ChangeAt Go.RowKit
theorem own : ownKnob Tryz.prog.godebug = none := by kernel_rfl
theorem laid : laidOutB Tryz.prog = true := by kernel_rfl
theorem readable : (Tryz.f4.params.toList.all fun t => Tryz.prog.readableRec t && decide (t < Tryz.prog.types.size)) = true := by kernel_rfl
theorem lifted (os : Os) (started : os.Started) (H : Type) (enc : TypeId × Value → H) :
 ReturnsInHanded {} Tryz.checked os 4 .any (Rows.ctrlNobodySpec.pre6 enc Tryz.prog Tryz.f4 Rows.ctrlNobodyRow.domain false) (Rows.ctrlNobodySpec.post enc Tryz.prog Tryz.f4 false true false false) := by
 refine returnsInHanded_of_change (C := Tryz.checked) own started (by kernel_rfl) Tryz.func4
  (ChangeSpec.witness6 (enc := enc) (C := Tryz.checked) false ⟨#[], #[.slice none 0 0, .int .i64 0], []⟩ 8 (by kernel_rfl) (by kernel_rfl) (by kernel_rfl) (by kernel_rfl)) ?_
 intro W base args ds gs before hval0 hW hcnd _
 have hval : ∀ (j : Nat) t v, Tryz.f4.params[j]? = some t → args[j]? = some v → Value.okWide Tryz.prog W .any base t v := hval0
 have hW' := hW
 obtain ⟨p, q, zx, hV, hpq, hfz, hnd⟩ := hW
 have hA : DataW.TrodAll enc Tryz.prog W 0 (fun _ => true) true Tryz.f4.params.toList args.toList ds p := zx
 rw [Tryz.params4] at hA hval
 obtain ⟨v0, AA, d0, ds0, p0, q0, hargs, rfl, rfl, h0, r0⟩ := trodAll_cons hA
 obtain ⟨v1, vs1, d1, ds1, p1, q1, rfl, rfl, rfl, h1, r1⟩ := trodAll_cons r0
 obtain ⟨rfl, rfl, rfl⟩ := trodAll_nil r1
 obtain rfl : args = #[v0, v1] := by cases args; simp_all
 obtain ⟨rfl, rfl⟩ := trodVars_none hV
 obtain ⟨l0, hl0⟩ := qx Tryz.underlying22 Tryz.underlying5 (by kernel_rfl) (hval 0 22 v0 rfl rfl) h0
 obtain ⟨a1, rfl, rfl, rfl, w1⟩ := open_int Tryz.underlying3 (hval 1 3 v1 rfl rfl) h1
 clear zx hval0
 refine (jh v0 l0 a1 W hl0 (bounds_i64 w1)).mono fun e W' ⟨he, hg⟩ => ?_
 subst he
 exact ⟨_, rfl, pU hW' rfl rfl rfl Tryz.underlying4 laid (vF readable) hg⟩
theorem over : Rows.ctrlNobodyRow.holds Tryz.pinned (OpenSpec.ofChange Rows.ctrlNobodySpec) :=
 OpenClaim.holds_of_wide 4 Tryz.f4 rfl rfl rfl rfl rfl rfl rfl ⟨rfl, rfl, rfl, rfl, rfl⟩ rfl rfl rfl rfl rfl (by kernel_rfl) Tryz.func4 (by kernel_rfl)
  (of_decide_eq_true (by kernel_rfl)) (by unfold Func.isWrapper; first | (rw [if_pos (by decide +kernel)]; kernel_rfl) | (rw [if_neg (by decide +kernel)]; exact ⟨rfl, rfl⟩))
  (fun os started H enc _ => lifted os started H enc)
theorem proved : Rows.CtrlNobodySaid := over
#print axioms proved
end Go.Proofs.YtbdfpbknckghgaaGreat.ctrlNobody
