/-
  Own walks: Advance.
-/
import Derived.Test.YtnfnkojcoeonnaaPfO
namespace Go.Proofs.Ytnfnkojcoeonnaa
open Go.RowKit Go.Sort Go.Lib

/-- What Advance tells, and makes. -/
def AdvR (now t e now' dv : Int) : Prop :=
  ((t < now ∨ 1099511627776 < t) ∧ e = 5 ∧ now' = now ∧ dv = 0) ∨ (¬ (t < now ∨ 1099511627776 < t) ∧ t = now ∧ e = 0 ∧ now' = now ∧ dv = 0) ∨ (¬ (t < now ∨ 1099511627776 < t) ∧ t ≠ now ∧ e = 0 ∧ now' = t ∧ dv = 1)
theorem AdvR.uniq {now t e now' dv e2 now2 dv2 : Int} (h : AdvR now t e now' dv) (h' : AdvR now t e2 now2 dv2) : e = e2 ∧ now' = now2 ∧ dv = dv2 := by
  unfold AdvR at h h'
  omega

section
variable {w : World} {p g : Nat} {L : List (Int × Int)} {ver now : Int} {f : Int → Int}

theorem delete0 {cap : Nat} (k : Nat) (ho : w.ownsRow 0 59 2 (.slice (some ⟨g, 0, none⟩) L.length cap) L.length (prV L)) (hl : L.length ≤ 1000) (hk : k ≤ L.length) :
    Calls Try.prog 35 #[.slice (some ⟨g, 0, none⟩) L.length cap, .int .i64 0, .int .i64 k] w fun e w' => e = .returned (.slice (some ⟨g, 0, none⟩) (L.length - k) cap) ∧ w'.ownsRow 0 59 2 (.slice (some ⟨g, 0, none⟩) (L.length - k) cap) (L.length - k) (prV (L.drop k)) ∧ Off g g w w' := by
  have h := delete_any 0 k ho hl (Nat.zero_le _) hk
  rw [List.take_zero, List.nil_append, List.length_drop] at h
  exact h

/-- The first step's time is changed. -/
theorem PW_setA (t : Int) (h : PW w p g L ver) (hi : 0 < L.length) : PW (w.setCell ⟨g, 0, none⟩ (.int .i64 t)) p g (L.set 0 (t, tV L 0)) ver := by
  obtain ⟨cap, F⟩ := h.facts
  refine ⟨cap, ?_, ?_⟩
  · rw [List.length_set, Below.heap_setCell w ⟨g, 0, none⟩ _ p F.pg]
    exact F.obj
  · have h1 := (F.own.stored 0 (.int .i64 t)).1
    rw [prV_set, List.length_set]
    have e : ((prV L).set 0 (.int .i64 t)).set 1 (.int .i64 (tV L 0)) = (prV L).set 0 (.int .i64 t) := by
      have hg := (prV_get (get_tAV hi)).2
      obtain ⟨hlt, hv⟩ := List.getElem?_eq_some_iff.1 hg
      rw [List.set_comm _ _ (by decide)]
      have h2 : (prV L).set 1 (.int .i64 (tV L 0)) = prV L := by
        have hv' : (prV L)[1]'(by simpa using hlt) = .int .i64 (tV L 0) := by simpa using hv
        rw [← hv']
        exact List.set_getElem_self _
      rw [h2]
    show World.ownsRow _ 0 _ 2 _ _ (((prV L).set 0 (.int .i64 t)).set 1 (.int .i64 (tV L 0)))
    rw [e]
    exact h1

def SDel (w : World) (g : Nat) (L : List (Int × Int)) (k cap : Nat) : List Value → World → Prop
  | [], W => Below w.heap.size w W
  | _ :: _, W => W.ownsRow 0 59 2 (.slice (some ⟨g, 0, none⟩) (L.length - k) cap) (L.length - k) (prV (L.drop k)) ∧ Off g g w W
theorem SDel.ext {w : World} {g : Nat} {L : List (Int × Int)} {k cap : Nat} : ∀ (vs : List Value) (W W' : World), Reg.Ext W W' → SDel w g L k cap vs W → SDel w g L k cap vs W' := by
  intro vs W W' he h
  cases vs with
  | nil => exact Below.trans h (he.mono (Below.size h))
  | cons v vs => exact ⟨own_kept h.1 he, h.2.then_below he⟩

/-- What Advance makes. -/
def AdvPost (w : World) (p g : Nat) (L : List (Int × Int)) (ver now : Int) (f : Int → Int) (t : Int) (e : Ending) (w' : World) : Prop :=
  ∃ (r dv now' : Int) (L' : List (Int × Int)), e = .returned (.int .i64 r) ∧ AdvR now t r now' dv ∧ PW w' p g L' (ver + dv) ∧ Can L' now' f ∧ Off p g w w' ∧ L'.length ≤ L.length

theorem Adv_bad (t : Int) (hC : Can L now f) (h : PW w p g L ver) (hbad : t < now ∨ 1099511627776 < t) :
    Calls Try.prog 22 #[.pointer (some ⟨p, 0, none⟩), .int .i64 t] w (AdvPost w p g L ver now f t) := by
  have hno := none_any h hC.sm.pos
  have hnw := Now_any h hC.sm.pos
  rw [hC.sm.hd] at hnw
  have hfin : Hid (AdvPost w p g L ver now f t (.returned (.int .i64 5)) w) := ⟨5, 0, now, L, rfl, .inl ⟨hbad, rfl, rfl, rfl⟩, by rw [Int.add_zero]; exact h, hC, Off.refl _ _ _, Nat.le_refl _⟩
  by_cases h1 : t < now
  · go_enter Try.func22, Try.ntmps22
    go_wp2_with (first | (go_at_call 29; go_must (refine hno.mono ?_); rintro e w' ⟨rfl, rfl⟩) | (go_at_call 10; go_must (refine hnw.mono ?_); rintro e w' ⟨rfl, rfl⟩))
    go_ret
    exact hfin.out
  · have h2 : 1099511627776 < t := by omega
    clear hbad
    go_enter Try.func22, Try.ntmps22
    go_wp2_with (first | (go_at_call 29; go_must (refine hno.mono ?_); rintro e w' ⟨rfl, rfl⟩) | (go_at_call 10; go_must (refine hnw.mono ?_); rintro e w' ⟨rfl, rfl⟩))
    go_ret
    exact hfin.out

theorem Adv_same (hC : Can L now f) (h : PW w p g L ver) (hm : now ≤ 1099511627776) :
    Calls Try.prog 22 #[.pointer (some ⟨p, 0, none⟩), .int .i64 now] w (AdvPost w p g L ver now f now) := by
  have hno := none_any h hC.sm.pos
  have hnw := Now_any h hC.sm.pos
  rw [hC.sm.hd] at hnw
  have hfin : Hid (AdvPost w p g L ver now f now (.returned (.int .i64 0)) w) := ⟨0, 0, now, L, rfl, .inr (.inl ⟨by omega, rfl, rfl, rfl, rfl⟩), by rw [Int.add_zero]; exact h, hC, Off.refl _ _ _, Nat.le_refl _⟩
  have h1 : ¬ (now < now) := by omega
  have h2 : ¬ (1099511627776 < now) := by omega
  go_enter Try.func22, Try.ntmps22
  go_wp2_with (first | (go_at_call 29; go_must (refine hno.mono ?_); rintro e w' ⟨rfl, rfl⟩) | (go_at_call 10; go_must (refine hnw.mono ?_); rintro e w' ⟨rfl, rfl⟩))
  go_ret
  exact hfin.out

set_option maxRecDepth 100000 in
set_option maxHeartbeats 2000000 in
theorem Adv_on (t : Int) (hC : Can L now f) (h : PW w p g L ver) (hver : 0 ≤ ver ∧ ver ≤ 1000000) (hl : L.length ≤ 1000) (hlt : now < t) (hm : t ≤ 1099511627776) :
    Calls Try.prog 22 #[.pointer (some ⟨p, 0, none⟩), .int .i64 t] w (AdvPost w p g L ver now f t) := by
  have hmix := mixed
  have hno := none_any h hC.sm.pos
  have hnw := Now_any h hC.sm.pos
  rw [hC.sm.hd] at hnw
  obtain ⟨k, hk⟩ := hC.sm.ix t
  have hkl := hk.lt
  obtain ⟨cap, F⟩ := h.facts
  have c0 := F.c0
  have pl := F.pl
  have pg := F.pg
  have own1 := F.own
  have obj1 := F.obj
  clear F
  have h1 : ¬ (t < now) := by omega
  have h2 : ¬ (1099511627776 < t) := by omega
  have h3 : (t == now) = false := beq_eq_false_iff_ne.2 (by omega)
  have hwv : IntKind.i64.wrap (ver + 1) = ver + 1 := IntWalk.i64_in _ (by omega)
  have hcan : Hid (∀ L' : List (Int × Int), L' = (L.drop k).set 0 (t, tV (L.drop k) 0) → Can L' t f ∧ L'.length ≤ L.length ∧ 0 < L'.length) := by
    rintro L' rfl
    have hdl : (L.drop k).length = L.length - k := List.length_drop
    have hd0 : 0 < (L.drop k).length := by omega
    have gD : ∀ m, tA (L.drop k) m = tA L (m + k) ∧ tV (L.drop k) m = tV L (m + k) := fun m => by
      unfold tA tV
      rw [List.getD_eq_getElem?_getD, List.getD_eq_getElem?_getD, List.getElem?_drop, Nat.add_comm]
      exact ⟨rfl, rfl⟩
    refine ⟨hC.later hk (by omega) (by omega) (by rw [List.length_set]; exact hdl) ?_ (fun m hm0 => ?_) (fun m => ?_), by rw [List.length_set]; omega, by rw [List.length_set]; omega⟩
    · unfold tA; rw [List.getD_eq_getElem?_getD, List.getElem?_set_self hd0]; rfl
    · rw [← (gD m).1]
      unfold tA; rw [List.getD_eq_getElem?_getD, List.getD_eq_getElem?_getD, List.getElem?_set, if_neg (by omega)]
    · rw [tV_set hd0, ← (gD m).2]
      split
      · rename_i e; subst e; rfl
      · rfl
  replace hk := Lib.hid hk
  go_enter Try.func22, Try.ntmps22
  go_wp2_with (first | (go_at_call 29; go_must (refine hno.mono ?_); rintro e w' ⟨rfl, rfl⟩) | (go_at_call 10; go_must (refine hnw.mono ?_); rintro e w' ⟨rfl, rfl⟩))
  refine Reg.region_mk 9 44 [[], [false], [false, true], [false, true, true], [false, true, true, true], [false, false, false, false, false], [false, false, false, false, false, false], [false, false, false, false, false, true, true], [false, true, true, true, true, true, true, true]] [0, 0, 0, 0, 1, 0, 0, 2, 3]
    [.pure, .pure, .pure, .pure, .minor Unit () (fun _ => .slice (some ⟨g, 0, none⟩) L.length cap) (fun _ _ => True), .pure, .pure, .pinned Unit () (fun _ => .int .i64 k) (fun _ _ => True), .major Unit () (fun _ => .slice (some ⟨g, 0, none⟩) (L.length - k) cap)]
    (fun W => Off g g w W) (SDel w g L k cap) (fun W W' => Off g g W W') (by kernel_rfl) (by kernel_rfl) rfl rfl SDel.ext ?_ ?_ ?_ ?_ ?_ ?_
  · intro a b he hb; exact hb.then_below he
  · intro a b hg hb; exact hb.trans hg (.inl rfl)
  · refine ⟨trivial, trivial, trivial, trivial, ⟨?_, ?_⟩, trivial, trivial, ⟨?_, ?_⟩, trivial, trivial⟩
    all_goals (intro x a b hk hx; exact trivial)
  · exact (Off.refl _ _ _).drew
  · exact (Below.refl _ _).drew
  dsimp only [Reg.mk, List.zip, List.zipWith, List.take]
  repeat (refine' Reg.pass_is _ (by rfl) (fun wz => ?_) ?_; rotate_left; (go_simp; first | rfl | rw [if_neg (by omega)]); simp only [Act.put, List.setIfInBounds_toArray, List.set_cons_zero, List.set_cons_succ]; (try simp only [List.nil_append]); (try simp only [List.cons_append]))
  refine Reg.pass_minor (by rfl) (fun wz hI hF => ?_) (fun x4 => ?_)
  · unfold Reg.One
    have d0 : wz.cell? ⟨p, 0, none⟩ = _ := (hI.cell (a := ⟨p, 0, none⟩) pl pg pg).trans c0
    go_wp2_with fail
    exact ⟨_, rfl, ⟨(), rfl, trivial⟩, Reg.Ext.refl _⟩
  simp only [Act.put, List.setIfInBounds_toArray, List.set_cons_zero, List.set_cons_succ]; (try simp only [List.nil_append]); (try simp only [List.cons_append]); (try simp only [id])
  repeat (refine' Reg.pass_is _ (by rfl) (fun wz => ?_) ?_; rotate_left; (go_simp; first | rfl | rw [if_neg (by omega)]); simp only [Act.put, List.setIfInBounds_toArray, List.set_cons_zero, List.set_cons_succ]; (try simp only [List.nil_append]); (try simp only [List.cons_append]))
  refine Reg.pass_pinned (by rfl) (fun wz hI hS hF => ?_) (fun x7 => ?_)
  · unfold Reg.One
    have hS1 : Below w.heap.size w wz := hS
    go_wp2_with (go_at_call 32; go_must (refine (at_is t hk.out hC.sm hl (h.kept hS1)).mono ?_); rintro e w1 ⟨rfl, hbl1⟩)
    exact ⟨_, rfl, ⟨(), rfl, trivial⟩, hbl1⟩
  simp only [Act.put, List.setIfInBounds_toArray, List.set_cons_zero, List.set_cons_succ]; (try simp only [List.nil_append]); (try simp only [List.cons_append]); (try simp only [id])
  refine Reg.pass_major (by rfl) (fun wz hI hS hF => ?_) (fun x8 => ?_)
  · unfold Reg.One
    have hS1 : Below w.heap.size w wz := hS
    go_wp2_with (go_at_call 35; go_must (refine (delete0 k (own_kept own1 hS1) hl (Nat.le_of_lt hkl)).mono ?_); rintro e w5 ⟨rfl, h52, h53⟩)
    exact ⟨_, rfl, ⟨⟨(), rfl⟩, h52, (Off.of_below hS1).trans h53 (.inl rfl)⟩, h53⟩
  simp only [Act.put, List.setIfInBounds_toArray, List.set_cons_zero, List.set_cons_succ]; (try simp only [List.nil_append]); (try simp only [List.cons_append]); (try simp only [id])
  refine Reg.pass_end ?_
  intro w3 HI3 HS3 _
  obtain ⟨ho3, hoff3⟩ := HS3
  have hp3 := obj1
  rw [← hoff3.block p pl pg pg] at hp3
  have d0 : w3.cell? ⟨p, 0, none⟩ = _ := (hoff3.cell (a := ⟨p, 0, none⟩) pl pg pg).trans c0
  have dz : w3.frozen? ⟨p, 0, none⟩ = false := by simp [World.frozen?, hp3]
  obtain ⟨w4, hw4⟩ : ∃ w4, w4 = w3.setCell ⟨p, 0, none⟩ (.slice (some ⟨g, 0, none⟩) (L.length - k) cap) := ⟨_, rfl⟩
  have hP4 : PW w4 p g (L.drop k) ver := by
    rw [hw4]
    have := PW_put (L' := L.drop k) hp3 (cap' := cap) (g' := g) (by rw [List.length_drop]; exact ho3)
    rw [List.length_drop] at this
    exact this
  have hoff4 : Off p g w w4 := by rw [hw4]; exact hoff3.mono.setCell (.inl rfl)
  have hd0 : 0 < (L.drop k).length := by rw [List.length_drop]; omega
  have hP5 := PW_setA t hP4 hd0
  have hoff5 := hoff4.setCell (j := 0) (v := .int .i64 t) (.inr (.inl rfl))
  obtain ⟨cap4, F4⟩ := hP4.facts
  have k0 := F4.c0
  have s0 := (step_cells F4.own hd0).1
  have z0 := F4.own.frozenAt 0
  rw [Nat.zero_mul] at s0
  obtain ⟨w5, hw5⟩ : ∃ w5, w5 = w4.setCell ⟨g, 0, none⟩ (.int .i64 t) := ⟨_, rfl⟩
  rw [← hw5] at hP5 hoff5
  obtain ⟨cap5, F5⟩ := hP5.facts
  have k1 := F5.c1
  have z1 := F5.fz 1
  have hP6 := PW_ver (ver + 1) hP5
  have hoff6 := hoff5.setCell (j := 1) (v := .int .i64 (ver + 1)) (.inl rfl)
  obtain ⟨hc1, hc2, hc3⟩ := hcan.out _ rfl
  have hfin : Hid (AdvPost w p g L ver now f t (.returned (.int .i64 0)) (w5.setCell ⟨p, 1, none⟩ (.int .i64 (ver + 1)))) := ⟨0, 1, t, _, rfl, .inr (.inr ⟨by omega, by omega, rfl, rfl, rfl⟩), hP6, hc1, hoff6, hc2⟩
  have hdp : (0 : Int) < ((L.drop k).length : Int) := by omega
  obtain ⟨nn, hnn⟩ : ∃ nn, nn = (L.drop k).length := ⟨_, rfl⟩
  obtain ⟨xx, hxx⟩ : ∃ xx, xx = tA (L.drop k) 0 := ⟨_, rfl⟩
  rw [← hnn] at k0 hdp
  rw [← hxx] at s0
  clear HI3 ho3 hoff3 hp3 c0 own1 obj1 hP4 hoff4 hP5 hoff5 F4 F5 hP6 hoff6 hc1 hc2 hc3 hcan h hnw hno
  replace hnn := Lib.hid hnn
  replace hxx := Lib.hid hxx
  dsimp only [List.drop]
  show wpList _ _ _ [_, _, _] _ _
  subst hw4
  subst hw5
  go_wp2_with fail
  go_ret
  exact hfin.out
end

end Go.Proofs.Ytnfnkojcoeonnaa
