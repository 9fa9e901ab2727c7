/-
  Own walks: the document's planning of items; choices that are the same.
-/
import Derived.Test.YtbnpeicmbbgboaaPgG
import Derived.Deep.LoopGhost
namespace Go.Proofs.Ytbnpeicmbbgboaa
set_option maxRecDepth 8000
open Go.RowKit Go.Sort Go.Lib

theorem raw_late (F : Int) {E : List Sp} (h : ∀ s ∈ E, SpOk s) (t : Int) (ht : 1152921504606846975 ≤ t) : raw F E t = raw F E 1152921504606846975 := by
  unfold raw
  congr 2
  refine List.map_congr_left fun s hs => ?_
  have h1 := h s hs
  have h2 := h1.ab
  have h3 := h1.b
  unfold hadS had
  by_cases hb : s.b = 1152921504606846976
  · rw [if_pos (by omega), if_pos (by omega)]
  · rw [if_neg (by omega), if_neg (by omega)]

/-- The document's profile, at the time 0. -/
structure QO (B : Nat) (w : World) (q : Nat) (F : Int) (E : List Sp) (ver : Int) (a : Nat) : Prop where
  y : QW B w q F 0 E ver
  ok : ∀ s ∈ E, SpOk s
  fr : ∀ t, 0 ≤ t → 0 ≤ raw F E t ∧ raw F E t ≤ 64
  F : 0 ≤ F ∧ F ≤ 64
  el : E.length ≤ a
  v : 0 ≤ ver ∧ ver ≤ a

section
variable {B : Nat} {w w' w2 : World} {q : Nat} {F : Int} {E : List Sp} {ver : Int} {a : Nat}
theorem QO.kept (h : QO B w q F E ver a) (hb : Below w.heap.size w w') : QO B w' q F E ver a := ⟨h.y.kept hb, h.ok, h.fr, h.F, h.el, h.v⟩
theorem QO.more (h : QO B w q F E ver a) {a' : Nat} (ha : a ≤ a') : QO B w q F E ver a' := ⟨h.y, h.ok, h.fr, h.F, Nat.le_trans h.el ha, by have := h.v; omega⟩
theorem QO.size (h : QO B w q F E ver a) : B ≤ w.heap.size := by
  obtain ⟨ao, cap, Q⟩ := h.y.facts
  have := Q.ql
  have := Q.bq
  omega
theorem QO.add (h : QO B w q F E ver a) (ha : a ≤ 50) (x y n : Int) : Calls Try.prog 23 #[.pointer (some ⟨q, 0, none⟩), .int .i64 x, .int .i64 y, .int .i64 n] w fun e w' => ∃ (r dv : Int) (E' : List Sp), e = .returned (.int .i64 r) ∧ AddR (raw F E) 0 x y n r (raw F E') dv ∧ QO B w' q F E' (ver + dv) (a + 1) ∧ OffT w w' ∧ Below B w w' := by
  refine (PAdd_any x y n h.y h.ok (by have := h.el; omega) h.F (by omega) (by have := h.v; omega)).mono ?_
  rintro e w' ⟨r, dv, E', he, hR, hQ, hE', hel, hT, hB⟩
  have hdv : 0 ≤ dv ∧ dv ≤ 1 := by
    rcases hR with ⟨_, _, _, h⟩ | ⟨_, _, _, _, h⟩ | ⟨_, _, _, _, _, h⟩ | ⟨_, _, _, _, _, h⟩ <;> omega
  have := h.el
  have := h.v
  exact ⟨r, dv, E', he, hR, ⟨hQ, hE', hR.range h.fr (fun t ht => raw_late F h.ok t ht), h.F, by omega, by omega⟩, hT, hB⟩
end

theorem QO.grew {B B2 : Nat} {w W : World} {q : Nat} {F : Int} {E : List Sp} {ver : Int} {a n n' : Nat} {cv v : Value} {xs ys : List Value} (h : QO B w q F E ver a) (hc : w.ownsRow B2 53 2 cv n xs) (hG : Grew2 B2 w cv n' ys v W) : QO B W q F E ver a := by
  obtain ⟨hq, s, h1, h2⟩ := h.y
  obtain ⟨_, hO⟩ := hG
  have ne := ownB_ne hc h1 (by decide)
  refine ⟨⟨hq, s, (hO.block q (lt_of_at h1) ne ne).trans h1, hO.own h2 fun k hk => ?_⟩, h.ok, h.fr, h.F, h.el, h.v⟩
  obtain ⟨cur, hk2⟩ := own_at h2 hk
  have := ownB_ne hc hk2 (by decide)
  exact ⟨this, this⟩

/-- What planning is by the document. -/
def PlannedP (B : Nat) (w : World) (q : Nat) (F : Int) (E : List Sp) (l : List It) (e : Ending) (w' : World) : Prop :=
  ∃ (v : Value) (c : List (Int × Int)) (E' : List Sp), e = .returned v ∧ w'.ownsRow w.heap.size 53 2 v c.length (prV c) ∧ PlansR 0 l (raw F E) (raw F E') c ∧ Below B w w' ∧ OffT w w'
theorem OffT.far {w w5 w9 : World} {c : Nat} (h : OffT w w5) (hO : Off c c w5 w9) (hc : w.heap.size ≤ c) : OffT w w9 :=
  ⟨hO.os.trans h.os, hO.tape.trans h.tape, hO.output.trans h.output, Nat.le_trans h.size hO.size, fun k hk hT => (hO.block k (Nat.lt_of_lt_of_le hk h.size) (by omega) (by omega)).trans (h.block k hk hT)⟩
def ItBox (w : World) (b : Nat) (x : It) : Prop := w.heap[b]? = some (.cells #[.int .i64 x.id, .int .i64 x.wd, .int .i64 x.lim, .int .i64 x.pl] 36 (0, 0))
theorem ItBox.cells {w : World} {b : Nat} {x : It} (h : ItBox w b x) : w.cell? ⟨b, 0, none⟩ = some (.int .i64 x.id) ∧ w.cell? ⟨b, 1, none⟩ = some (.int .i64 x.wd) ∧ w.cell? ⟨b, 2, none⟩ = some (.int .i64 x.lim) ∧ w.cell? ⟨b, 3, none⟩ = some (.int .i64 x.pl) := by
  unfold ItBox at h
  exact ⟨by simp [World.cell?, h], by simp [World.cell?, h], by simp [World.cell?, h], by simp [World.cell?, h]⟩
theorem OffT.box {w w' : World} {b : Nat} {x : It} (h : OffT w w') (hx : ItBox w b x) : ItBox w' b x := by
  unfold ItBox at hx ⊢
  rw [h.block b (lt_of_at hx) (fun cur T z e => by rw [hx] at e; injection e with e; injection e with _ e _; subst e; exact ⟨by decide, by decide⟩)]
  exact hx

set_option maxRecDepth 1000000 in
set_option maxHeartbeats 8000000 in
theorem planned_fn {B : Nat} {w : World} {q : Nat} {F : Int} {E : List Sp} {ver : Int} {v : Value} {l : List It} (h : QO B w q F E ver 15) (hv : ∀ W, Below B w W → RowAt encI 4 W v l) (hok : ∀ x ∈ l, x.ok) (hl : l.length ≤ 12) :
    Calls Try.prog 14 #[.pointer (some ⟨q, 0, none⟩), v] w (PlannedP B w q F E l) := by
  have hmix := pf_mixed
  obtain ⟨i0, hi0, hz0, hz1, hz2⟩ := info_parts infoChoice
  obtain ⟨ao, cap, rfl, _, hcm, _⟩ := hv w (Below.refl _ _)
  have hlm : l.length ≤ 9223372036854775807 := by omega
  have hBw := h.size
  have hq0 := Lib.hid h
  replace hv := Lib.hid hv
  replace hok := Lib.hid hok
  clear h
  go_enter Try.func14, Try.ntmps14
  go_wp2_with fail
  go_loopg [5, 6, 7, 8, 9] (l.length) (fun k oo ii _ _ _ wr => ∃ (i : Nat) (E' : List Sp) (ver' : Int) (ov : Value) (c : List (Int × Int)), i + k = l.length ∧ ov = oo ∧ ii = .int .i64 i ∧ Hid (QO B wr q F E' ver' (15 + 2 * i)) ∧ Hid (wr.ownsRow w.heap.size 53 2 ov c.length (prV c)) ∧ Hid (PlansR 0 (l.take i) (raw F E) (raw F E') c) ∧ Hid (Below B w wr ∧ OffT w wr))
  case atStart => exact ⟨0, E, ver, _, [], Nat.zero_add _, rfl, rfl, hq0, World.ownsRow_nil _ _ _ _, ⟨rfl, rfl⟩, Below.refl _ _, OffT.refl _⟩
  case round =>
    obtain ⟨i, E1, ver1, ov, c1, hik, rfl, rfl, hQ1, hO1, hR1, hb1⟩ := hrel
    by_cases hlt : i < l.length
    · have b2 : (i : Int) < (l.length : Int) := by omega
      have b1 : (0 : Int) ≤ i := by omega
      have wi : IntKind.i64.wrap ((i : Int) + 1) = (i : Int) + 1 := by rw [IntKind.wrap_i64]; omega
      obtain ⟨x, hx⟩ : ∃ x, l[i]? = some x := ⟨_, List.getElem?_eq_getElem hlt⟩
      have htk := Lib.hid (take_snoc hx)
      obtain ⟨⟨o1, o2⟩, ⟨o3, o4⟩, o5, o6⟩ := hok.out x (List.mem_of_getElem? hx)
      obtain ⟨ao', cap', e1, _, _, hcells⟩ := hv.out wr hb1.out.1
      obtain ⟨b, off, e2, hbw, hcell⟩ := hcells (by omega)
      injection e1 with e3 _ e4
      rw [e2] at e3
      obtain ⟨c0, c1', c2, c3⟩ := item_at hcell hx
      have hc1l : c1.length ≤ 12 := by have := PlansR.len _ hR1.out; rw [List.length_take] at this; omega
      have hw1 : IntKind.i64.wrap (x.pl + x.lim) = x.pl + x.lim := IntWalk.i64_in _ (by omega)
      have hw2 : IntKind.i64.wrap (-x.wd) = -x.wd := IntWalk.i64_in _ (by omega)
      obtain ⟨w1, hw1e⟩ : ∃ w1, w1 = wr.alloc (.cells #[.int .i64 x.id, .int .i64 x.wd, .int .i64 x.lim, .int .i64 x.pl] 36) := ⟨_, rfl⟩
      obtain ⟨ib, hib⟩ : ∃ ib, ib = wr.heap.size := ⟨_, rfl⟩
      have hal : Below wr.heap.size wr w1 := by rw [hw1e]; exact (Below.refl _ _).alloc (Nat.le_refl _) _
      have hX1 : Hid (ItBox w1 ib x) := by rw [hw1e, hib]; exact heap_alloc_new wr _
      have hQ2 := Lib.hid (hQ1.out.kept hal)
      have hO2 := Lib.hid (pf_own_kept hO1.out hal)
      have hb2 := Lib.hid (show Below B w w1 ∧ OffT w w1 from ⟨hb1.out.1.trans (hal.mono hQ1.out.size), hb1.out.2.trans (OffT.of_below hal)⟩)
      clear hx hcell hcells e2 e4 hal hQ1 hO1 hb1
      subst e3
      go_upto_region 6 with fail
      rw [← hw1e, ← hib]
      clear hw1e hib c0 c1' c2 c3
      go_cut [36] from 10 to 94 (fun v wd => ∃ (r1 : Int) (E2 : List Sp) (ver2 : Int), v = .bool (r1 != 0) ∧ Hid (QO B wd q F E2 ver2 (15 + 2 * i + 1)) ∧ Hid (wd.ownsRow w.heap.size 53 2 ov c1.length (prV c1)) ∧ Hid (FreedR 0 x (raw F E1) (raw F E2) r1) ∧ Hid (ItBox wd ib x) ∧ Hid (Below B w wd ∧ OffT w wd))
      case first =>
        obtain ⟨t0, t1, t2, t3⟩ := hX1.out.cells
        by_cases hp : 0 ≤ x.pl
        · have hadd := hQ2.out.add (by omega) x.pl (x.pl + x.lim) x.wd
          go_wp2_with fail
          go_at_call 23
          refine hadd.mono ?_
          clear hadd t0 t1 t2 t3
          rintro e w3 ⟨r, dv, E2, rfl, hR, hQ3, hT, hB⟩
          have hfin : Hid (∃ (r1 : Int) (E2 : List Sp) (ver2 : Int), (.bool (r != 0) : Value) = .bool (r1 != 0) ∧ Hid (QO B w3 q F E2 ver2 (15 + 2 * i + 1)) ∧ Hid (w3.ownsRow w.heap.size 53 2 ov c1.length (prV c1)) ∧ Hid (FreedR 0 x (raw F E1) (raw F E2) r1) ∧ Hid (ItBox w3 ib x) ∧ Hid (Below B w w3 ∧ OffT w w3)) :=
            ⟨r, E2, _, rfl, hQ3, hT.own hO2.out (by decide) (by decide), .inr ⟨by omega, dv, hR⟩, hT.box hX1.out, hb2.out.1.trans hB, hb2.out.2.trans hT⟩
          clear hR hQ3 hT hB hQ2 hO2 hX1 hb2
          go_wp2_with fail
          go_meet
          case rel => exact hfin.out
        · have hfin : Hid (∃ (r1 : Int) (E2 : List Sp) (ver2 : Int), (.bool false : Value) = .bool (r1 != 0) ∧ Hid (QO B w1 q F E2 ver2 (15 + 2 * i + 1)) ∧ Hid (w1.ownsRow w.heap.size 53 2 ov c1.length (prV c1)) ∧ Hid (FreedR 0 x (raw F E1) (raw F E2) r1) ∧ Hid (ItBox w1 ib x) ∧ Hid (Below B w w1 ∧ OffT w w1)) :=
            ⟨0, E1, ver1, rfl, hQ2.out.more (by omega), hO2, .inl ⟨by omega, rfl, rfl⟩, hX1, hb2⟩
          clear hQ2 hO2 hX1 hb2
          go_wp2_with fail
          go_meet
          case rel => exact hfin.out
      case rest =>
        obtain ⟨r1, E2, ver2, rfl, hQ3, hO3, hF3, hX3, hb3⟩ := hcut
        clear hQ2 hO2 hX1 hb2
        by_cases h0 : r1 = 0
        · subst h0
          have d1 : ((0 : Int) != 0) = false := rfl
          go_upto_region 7 with fail
          clear d1
          obtain ⟨aq, cq, hOq⟩ : ∃ aq cq, Hid (wc.heap[q]? = some (.cells #[.int .i64 F, .int .i64 0, .slice aq E2.length cq, .int .i64 ver2] 61 (0, 0))) := by
            obtain ⟨aq, cq, Q⟩ := hQ3.out.y.facts
            exact ⟨aq, cq, Q.obj⟩
          have hea : Hid (∀ W, Below wc.heap.size wc W → Calls Try.prog 24 #[.pointer (some ⟨q, 0, none⟩), .int .i64 0, .int .i64 x.lim, .int .i64 x.wd] W fun e w' => ∃ t e' : Int, e = .returned (.tuple #[.int .i64 t, .int .i64 e']) ∧ EarlP (raw F E2) 0 x.lim x.wd t e' ∧ Below W.heap.size W w') := fun W hW => PEarliest_any 0 x.lim x.wd (hQ3.out.y.kept hW) hQ3.out.ok (by have := hQ3.out.el; omega) hQ3.out.F (by omega) (by omega)
          have hXc : Hid (wc.heap[ib]? = some (.cells #[.int .i64 x.id, .int .i64 x.wd, .int .i64 x.lim, .int .i64 x.pl] 36 (0, 0))) := hX3.out
          refine Reg.region_mk 14 96 [[], [false], [false, true], [false, true, true], [false, true, true, true], [false, false, false, false, false], [false, false, false, false, false, true], [false, false, false, false, false, false, false], [false, false, false, false, false, false, false, true], [true, true, true, true, true, true, true, true, true], [true, true, true, true, true, true, true, true, true, true], [true, true, true, true, true, true, true, true, true, true, true], [true, true, true, true, true, true, true, true, true, true, true, false], [true, true, true, true, true, true, true, true, true, true, true, true, false]] [0, 0, 0, 0, 1, 0, 1, 0, 1, 1, 0, 0, 0, 0]
            [.pure, .pure, .pure, .pure, .minor Unit () (fun _ => .int .i64 0) (fun _ _ => True), .pure, .minor Unit () (fun _ => .int .i64 x.lim) (fun _ _ => True), .pure, .minor Unit () (fun _ => .int .i64 x.wd) (fun _ _ => True), .minor (Int × Int) (0, 0) (fun y => .tuple #[.int .i64 y.1, .int .i64 y.2]) (fun y W => EarlP (raw F E2) 0 x.lim x.wd y.1 y.2), .pure, .pure, .pure, .pure]
            (fun W => Below wc.heap.size wc W) (fun _ _ => True) (fun a b => Below a.heap.size a b) (by kernel_rfl) (by kernel_rfl) rfl rfl (fun vs a b h hs => trivial) ?_ ?_ ?_ ?_ ?_ ?_
          · intro a b he hb; exact hb.trans (Below.mono he hb.size)
          · intro a b he hb; exact hb.trans (Below.mono he hb.size)
          · exact ⟨trivial, trivial, trivial, trivial, ⟨fun _ _ _ _ _ => trivial, fun _ _ _ _ _ => trivial⟩, trivial, ⟨fun _ _ _ _ _ => trivial, fun _ _ _ _ _ => trivial⟩, trivial, ⟨fun _ _ _ _ _ => trivial, fun _ _ _ _ _ => trivial⟩, ⟨fun _ _ _ _ h => h, fun _ _ _ _ h => h⟩, trivial, trivial, trivial, trivial, trivial⟩
          · exact ⟨rfl, rfl, rfl, Nat.le_refl _, fun _ _ => rfl⟩
          · trivial
          dsimp only [Reg.mk, List.zip, List.zipWith, List.take]
          repeat (refine' Reg.pass_is _ (by rfl) (fun wz => ?_) ?_; rotate_left; (go_simp; first | rfl | rw [if_neg (by omega)]); simp only [Act.put, List.setIfInBounds_toArray, List.set_cons_zero, List.set_cons_succ]; (try simp only [List.nil_append]); (try simp only [List.cons_append]); (try simp only [id]))
          refine Reg.pass_minor (by rfl) (fun wz hI hF => ?_) (fun r4 => ?_)
          · unfold Reg.One
            have q0 : wz.cell? ⟨q, 1, none⟩ = some (.int .i64 0) := by simp [World.cell?, (hI.block _ (lt_of_at hOq.out)).trans hOq.out]
            go_wp2_with fail
            first | exact ⟨_, rfl, rfl, Reg.Ext.refl _⟩ | exact ⟨_, rfl, ⟨(), rfl, trivial⟩, Reg.Ext.refl _⟩
          simp only [Act.put, List.setIfInBounds_toArray, List.set_cons_zero, List.set_cons_succ]; (try simp only [List.nil_append]); (try simp only [List.cons_append]); (try simp only [id])
          repeat (refine' Reg.pass_is _ (by rfl) (fun wz => ?_) ?_; rotate_left; (go_simp; first | rfl | rw [if_neg (by omega)]); simp only [Act.put, List.setIfInBounds_toArray, List.set_cons_zero, List.set_cons_succ]; (try simp only [List.nil_append]); (try simp only [List.cons_append]); (try simp only [id]))
          refine Reg.pass_minor (by rfl) (fun wz hI hF => ?_) (fun r6 => ?_)
          · unfold Reg.One
            have q0 : wz.cell? ⟨ib, 2, none⟩ = some (.int .i64 x.lim) := by simp [World.cell?, (hI.block _ (lt_of_at hXc.out)).trans hXc.out]
            go_wp2_with fail
            first | exact ⟨_, rfl, rfl, Reg.Ext.refl _⟩ | exact ⟨_, rfl, ⟨(), rfl, trivial⟩, Reg.Ext.refl _⟩
          simp only [Act.put, List.setIfInBounds_toArray, List.set_cons_zero, List.set_cons_succ]; (try simp only [List.nil_append]); (try simp only [List.cons_append]); (try simp only [id])
          repeat (refine' Reg.pass_is _ (by rfl) (fun wz => ?_) ?_; rotate_left; (go_simp; first | rfl | rw [if_neg (by omega)]); simp only [Act.put, List.setIfInBounds_toArray, List.set_cons_zero, List.set_cons_succ]; (try simp only [List.nil_append]); (try simp only [List.cons_append]); (try simp only [id]))
          refine Reg.pass_minor (by rfl) (fun wz hI hF => ?_) (fun r8 => ?_)
          · unfold Reg.One
            have q0 : wz.cell? ⟨ib, 1, none⟩ = some (.int .i64 x.wd) := by simp [World.cell?, (hI.block _ (lt_of_at hXc.out)).trans hXc.out]
            go_wp2_with fail
            first | exact ⟨_, rfl, rfl, Reg.Ext.refl _⟩ | exact ⟨_, rfl, ⟨(), rfl, trivial⟩, Reg.Ext.refl _⟩
          simp only [Act.put, List.setIfInBounds_toArray, List.set_cons_zero, List.set_cons_succ]; (try simp only [List.nil_append]); (try simp only [List.cons_append]); (try simp only [id])
          refine Reg.pass_minor (by rfl) (fun wz hI hF => ?_) (fun r9 => ?_)
          · unfold Reg.One
            have hs2 := hea.out wz hI
            go_wp2_with (go_at_call 24; go_must (refine hs2.mono ?_); rintro e w5 ⟨t5, e5, rfl, hE5, hb5⟩)
            exact ⟨_, rfl, ⟨(t5, e5), rfl, hE5⟩, hb5⟩
          simp only [Act.put, List.setIfInBounds_toArray, List.set_cons_zero, List.set_cons_succ]; (try simp only [List.nil_append]); (try simp only [List.cons_append]); (try simp only [id])
          repeat (refine' Reg.pass_is _ (by rfl) (fun wz => ?_) ?_; rotate_left; (go_simp; first | rfl | rw [if_neg (by omega)]); simp only [Act.put, List.setIfInBounds_toArray, List.set_cons_zero, List.set_cons_succ]; (try simp only [List.nil_append]); (try simp only [List.cons_append]); (try simp only [id]))
          refine Reg.pass_end ?_
          intro w3 HI3 _ HF3
          have hE := HF3.2.2.2.2.2.2.2.2.2.1
          obtain ⟨t, e3⟩ := r9
          clear HF3
          dsimp only at hE
          dsimp only [List.drop]
          have hQ4 := Lib.hid (hQ3.out.kept HI3)
          have hO4 := Lib.hid (pf_own_kept hO3.out HI3)
          have hX4 : Hid (ItBox w3 ib x) := (HI3.block _ (lt_of_at hX3.out)).trans hX3.out
          have hb4 := Lib.hid (show Below B w w3 ∧ OffT w w3 from ⟨hb3.out.1.trans (HI3.mono hQ3.out.size), hb3.out.2.trans (OffT.of_below HI3)⟩)
          have hE2 : (e3 = 0 ∧ 0 ≤ t ∧ t ≤ 1099511627776) ∨ e3 = 16 := by
            rcases hE with ⟨h1, h2, h3, _⟩ | ⟨h1, _⟩
            · exact .inl ⟨h1, h2, h3⟩
            · exact .inr h1
          replace hE := Lib.hid hE
          clear hQ3 hO3 hX3 hb3 hOq hea hXc HI3
          obtain ⟨t0, t1, t2, t3⟩ := hX4.out.cells
          go_upto_region 8 with fail
          go_cut [62] from 10 to 94 (fun v wd => ∃ b : Bool, v = .bool b ∧ Hid (b = true ↔ PickR x t e3) ∧ w3 = wd)
          case first =>
            clear t0 t1 t2
            rcases hE2 with ⟨rfl, h1, h2⟩ | rfl
            · by_cases hp : x.pl < 0
              · have hq : Hid (PickR x t 0) := ⟨rfl, .inl (by omega)⟩
                go_wp2_with fail
                go_meet
                case rel => exact ⟨true, rfl, ⟨fun _ => hq.out, fun _ => rfl⟩, rfl⟩
              · by_cases hlt2 : t < x.pl
                · have hq : Hid (PickR x t 0) := ⟨rfl, .inr hlt2⟩
                  go_wp2_with fail
                  go_meet
                  case rel => exact ⟨true, rfl, ⟨fun _ => hq.out, fun _ => rfl⟩, rfl⟩
                · have hq : Hid (¬ PickR x t 0) := fun h => by rcases h.2 with h | h <;> omega
                  go_wp2_with fail
                  go_meet
                  case rel => exact ⟨false, rfl, ⟨fun h => (by cases h), fun h => absurd h hq.out⟩, rfl⟩
            · have hq : Hid (¬ PickR x t 16) := fun h => by have := h.1; omega
              go_wp2_with fail
              go_meet
              case rel => exact ⟨false, rfl, ⟨fun h => (by cases h), fun h => absurd h hq.out⟩, rfl⟩
          case rest =>
            obtain ⟨b, rfl, hbk, rfl⟩ := hcut
            cases b with
            | true =>
              have hpk := hbk.out.1 rfl
              obtain ⟨rfl, ht1, ht2⟩ := hE2.resolve_right (by rw [hpk.1]; decide)
              have hw3 : IntKind.i64.wrap (t + x.lim) = t + x.lim := IntWalk.i64_in _ (by omega)
              have hadd := hQ4.out.add (by omega) t (t + x.lim) (-x.wd)
              replace hpk := Lib.hid hpk
              clear hbk hE2
              go_wp2_with fail
              go_at_call 23
              refine hadd.mono ?_
              clear hadd t0 t1 t2 t3
              rintro e w5 ⟨r, dv, E3, rfl, hR, hQ5, hT, hB⟩
              have hO5 := hT.own hO4.out (by decide) (by decide)
              have hX5 := hT.box hX4.out
              have hL5 : Hid (PlansR 0 (l.take (i + 1)) (raw F E) (raw F E3) (c1 ++ [(x.id, t)])) := by
                rw [htk.out]
                exact hR1.out.snoc _ ⟨_, 0, hF3.out, .inr ⟨rfl, t, 0, hE.out, .inl ⟨hpk.out, rfl, r, dv, hR⟩⟩⟩
              have hb5 := Lib.hid (show Below B w w5 ∧ OffT w w5 from ⟨hb4.out.1.trans hB, hb4.out.2.trans hT⟩)
              obtain ⟨t0, t1, t2, t3⟩ := hX5.cells
              have hal5 : Below w5.heap.size w5 (w5.alloc (.cells #[.int .i64 x.id, .int .i64 t] 53)) := (Below.refl _ _).alloc (Nat.le_refl _) _
              have hsz5 := hQ5.size
              have hszw := hb5.out.2.size
              replace hal5 := Lib.hid hal5
              clear hR hT hB hQ4 hO4 hX4 hb4 hX5
              replace hQ5 := Lib.hid hQ5
              go_wp2_with (at_builtin; go_must (refine wpList_append_own _ rfl (.tmp 73) (.tmp 78) 30 rfl w.heap.size 53 i0 (.agg #[.int .i64 0, .int .i64 0]) 2 16 Try.underlying30 hi0 hz0 hz1 hz2 rfl (by decide) ov c1.length (prV c1) rfl (hO5.alloc _) ⟨w5.heap.size, 0, none⟩ 1 1 [.int .i64 x.id, .int .i64 t] rfl rfl ?c0 ?c1 ?c2 ?c3 ?c4 ?c5))
              case c0 => exact cells_new rfl
              case c1 => simp [Value.oneCell']
              case c2 => unfold maxLen; omega
              case c3 => omega
              case c4 => first | omega | (simp; omega)
              case c5 =>
                intro v9 w9 hown9 hgrow _
                have hG := (Grew2.of hO5 hal5.out hown9 hgrow).1
                have hQ9 := hQ5.out.grew hO5 hG
                have hge := ownB_ge hO5 hszw
                have hb9 := Lib.hid (show Below B w w9 ∧ OffT w w9 from ⟨hb5.out.1.trans (hG.2.below (by omega) (by omega) hsz5), hb5.out.2.far hG.2 hge⟩)
                have hO9 : Hid (w9.ownsRow w.heap.size 53 2 v9 (c1 ++ [(x.id, t)]).length (prV (c1 ++ [(x.id, t)]))) := by
                  have e1 : prV (c1 ++ [(x.id, t)]) = prV c1 ++ [.int .i64 x.id, .int .i64 t] := by simp [prV, enc2]
                  rw [e1, List.length_append, List.length_singleton]
                  exact hown9
                have hQ9' := Lib.hid (hQ9.more (show 15 + 2 * i + 1 + 1 ≤ 15 + 2 * (i + 1) by omega))
                clear hG hQ9 hown9 hgrow hQ5 hO5 hb5 hal5 t0 t1 t2 t3
                go_wp2_with fail
                go_roundg (gk - 1)
                case measure => omega
                case rel => exact ⟨i + 1, E3, _, v9, _, by omega, rfl, by go_num, hQ9', hO9, hL5, hb9⟩
            | false =>
              have hpk : ¬ PickR x t e3 := fun h => by have := hbk.out.2 h; cases this
              replace hpk := Lib.hid hpk
              clear hbk hE2
              by_cases hp : 0 ≤ x.pl
              · have hadd := hQ4.out.add (by omega) x.pl (x.pl + x.lim) (-x.wd)
                go_wp2_with fail
                go_at_call 23
                refine hadd.mono ?_
                clear hadd t0 t1 t2 t3
                rintro e w5 ⟨r, dv, E3, rfl, hR, hQ5, hT, hB⟩
                have hO5 := Lib.hid (hT.own hO4.out (by decide) (by decide))
                have hL5 : Hid (PlansR 0 (l.take (i + 1)) (raw F E) (raw F E3) (c1 ++ [])) := by
                  rw [htk.out]
                  exact hR1.out.snoc _ ⟨_, 0, hF3.out, .inr ⟨rfl, t, e3, hE.out, .inr ⟨hpk.out, rfl, .inr ⟨by omega, r, dv, hR⟩⟩⟩⟩
                rw [List.append_nil] at hL5
                have hb5 := Lib.hid (show Below B w w5 ∧ OffT w w5 from ⟨hb4.out.1.trans hB, hb4.out.2.trans hT⟩)
                have hQ6 := Lib.hid (hQ5.more (show 15 + 2 * i + 1 + 1 ≤ 15 + 2 * (i + 1) by omega))
                clear hR hT hB hQ4 hO4 hX4 hb4 hQ5
                go_wp2_with fail
                go_roundg (gk - 1)
                case measure => omega
                case rel => exact ⟨i + 1, E3, _, ov, c1, by omega, rfl, by go_num, hQ6, hO5, hL5, hb5⟩
              · have hL5 : Hid (PlansR 0 (l.take (i + 1)) (raw F E) (raw F E2) (c1 ++ [])) := by
                  rw [htk.out]
                  exact hR1.out.snoc _ ⟨_, 0, hF3.out, .inr ⟨rfl, t, e3, hE.out, .inr ⟨hpk.out, rfl, .inl ⟨by omega, rfl⟩⟩⟩⟩
                rw [List.append_nil] at hL5
                have hQ6 := Lib.hid (hQ4.out.more (show 15 + 2 * i + 1 ≤ 15 + 2 * (i + 1) by omega))
                go_wp2_with fail
                go_roundg (gk - 1)
                case measure => omega
                case rel => exact ⟨i + 1, E2, ver2, ov, c1, by omega, rfl, by go_num, hQ6, hO4, hL5, hb4⟩
        · have hbn : (r1 != 0) = true := by simp [h0]
          have hR3 : Hid (PlansR 0 (l.take (i + 1)) (raw F E) (raw F E2) (c1 ++ [])) := by rw [htk.out]; exact hR1.out.snoc _ ⟨_, r1, hF3.out, .inl ⟨h0, rfl, rfl⟩⟩
          rw [List.append_nil] at hR3
          have hQ4 := Lib.hid (hQ3.out.more (show 15 + 2 * i + 1 ≤ 15 + 2 * (i + 1) by omega))
          go_wp2_with fail
          go_roundg (gk - 1)
          case measure => omega
          case rel => exact ⟨i + 1, E2, ver2, ov, c1, by omega, rfl, by go_num, hQ4, hO3, hR3, hb3⟩
    · obtain rfl : i = l.length := by omega
      have hfin : Hid (PlannedP B w q F E l (.returned ov) wr) := ⟨ov, c1, E1, rfl, hO1.out, by have := hR1.out; rw [List.take_length] at this; exact this, hb1.out.1, hb1.out.2⟩
      obtain ⟨ao9, cap9, rfl, _⟩ := own_shape hO1.out
      clear hQ1 hO1 hR1 hb1
      go_wp2_with fail
      go_ret
      exact hfin.out

end Go.Proofs.Ytbnpeicmbbgboaa
