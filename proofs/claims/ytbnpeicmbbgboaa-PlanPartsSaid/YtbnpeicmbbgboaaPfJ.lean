/-
  Own walks: a step begins at a time.
-/
import Derived.Test.YtbnpeicmbbgboaaPfI
namespace Go.Proofs.Ytbnpeicmbbgboaa
set_option maxRecDepth 8000
open Go.RowKit Go.Sort Go.Lib

section
variable {w : World} {p g : Nat} {L : List (Int × Int)} {ver now : Int} {f : Int → Int}

theorem cut_forever (h : PW w p g L ver) : Calls Try.prog 50 #[.pointer (some ⟨p, 0, none⟩), .int .i64 1152921504606846976] w fun e w' => e = .returned (.int .i64 L.length) ∧ w = w' := by
  obtain ⟨cap, F⟩ := h.facts
  have c0 := F.c0
  clear F h
  go_enter Try.func50, Try.ntmps50
  go_wp2_with fail
  go_ret
  exact ⟨rfl, rfl⟩

set_option maxHeartbeats 1000000 in
theorem cut_found (t : Int) {i : Nat} (ht : t < 1152921504606846976) (hi : IsIx L t i) (he : tA L i = t) (hs : Sm L now f) (hl : L.length ≤ 1000) (h : PW w p g L ver) :
    Calls Try.prog 50 #[.pointer (some ⟨p, 0, none⟩), .int .i64 t] w fun e w' => e = .returned (.int .i64 i) ∧ Below w.heap.size w w' := by
  have hat := at_is t hi hs hl h
  have hil := hi.lt
  have hne : (t == 1152921504606846976) = false := beq_eq_false_iff_ne.2 (by omega)
  have b1 : (0 : Int) ≤ i := by omega
  have b2 : (i : Int) < (L.length : Int) := by omega
  replace hi := Lib.hid hi
  replace he := Lib.hid he
  go_enter Try.func50, Try.ntmps50
  go_wp2_with fail
  go_at_call 43
  refine hat.mono ?_
  clear hat
  rintro e w2 ⟨rfl, hb⟩
  obtain ⟨cap, F⟩ := (h.kept hb).facts
  have c0 := F.c0
  have s0 := (step_cells F.own hil).1
  rw [he.out] at s0
  clear F
  go_wp2_with fail
  go_ret
  exact ⟨rfl, hb⟩

/-- How a step is put in, as a state of the statement that does it. -/
def SCut (w : World) (g : Nat) (L : List (Int × Int)) (k : Nat) (x : Int × Int) : List Value → World → Prop
  | [], W => Below w.heap.size w W
  | v :: _, W => ∃ g' cap', v = .slice (some ⟨g', 0, none⟩) (L.length + 1) cap' ∧ (g' = g ∨ w.heap.size ≤ g') ∧ W.ownsRow 0 49 2 (.slice (some ⟨g', 0, none⟩) (L.length + 1) cap') (L.length + 1) (prV (insL L k x)) ∧ Off g g w W
theorem SCut.ext {w : World} {g : Nat} {L : List (Int × Int)} {k : Nat} {x : Int × Int} : ∀ (vs : List Value) (W W' : World), Reg.Ext W W' → SCut w g L k x vs W → SCut w g L k x vs W' := by
  intro vs W W' he h
  cases vs with
  | nil => exact Below.trans h (he.mono (Below.size h))
  | cons v vs =>
    obtain ⟨g', cap', h1, h2, h3, h4⟩ := h
    exact ⟨g', cap', h1, h2, pf_own_kept h3 he, h4.then_below he⟩

set_option maxRecDepth 100000 in
set_option maxHeartbeats 2000000 in
theorem cut_ins (t : Int) {i : Nat} (ht : t < 1152921504606846976) (hi : IsIx L t i) (he : tA L i ≠ t) (hs : Sm L now f) (hl : L.length ≤ 900) (h : PW w p g L ver) :
    Calls Try.prog 50 #[.pointer (some ⟨p, 0, none⟩), .int .i64 t] w fun e w' => e = .returned (.int .i64 ((i : Int) + 1)) ∧ ∃ g', PW w' p g' (insL L (i + 1) (t, tV L i)) ver ∧ (g' = g ∨ w.heap.size ≤ g') ∧ Off p g w w' := by
  have hmix := pf_mixed
  have hat := at_is t hi hs (by omega) h
  have hil := hi.lt
  have hne : (t == 1152921504606846976) = false := beq_eq_false_iff_ne.2 (by omega)
  have b1 : (0 : Int) ≤ i := by omega
  have b2 : (i : Int) < (L.length : Int) := by omega
  obtain ⟨k, hk⟩ : ∃ k, k = i + 1 := ⟨_, rfl⟩
  obtain ⟨fv, hfv⟩ : ∃ fv, fv = tV L i := ⟨_, rfl⟩
  obtain ⟨av, hav⟩ : ∃ av, av = tA L i := ⟨_, rfl⟩
  rw [← hav] at he
  have e1 : (av == t) = false := beq_eq_false_iff_ne.2 he
  have hw1 : IntKind.i64.wrap ((i : Int) + 1) = (k : Int) := by rw [IntWalk.i64_in _ (by omega)]; omega
  have hk2 : Hid ((i : Int) + 1 = (k : Int)) := by show _ = _; omega
  have hkl : k ≤ L.length := by omega
  rw [← hk, ← hfv]
  rw [hk2.out]
  replace hi := Lib.hid hi
  replace he := Lib.hid he
  replace hk := Lib.hid hk
  replace hfv := Lib.hid hfv
  replace hav := Lib.hid hav
  go_enter Try.func50, Try.ntmps50
  go_wp2_with fail
  go_at_call 43
  refine hat.mono ?_
  clear hat
  rintro e w1 ⟨rfl, hb1⟩
  obtain ⟨cap, F⟩ := (h.kept hb1).facts
  have c0 := F.c0
  have s0 := (step_cells F.own hil).1
  rw [← hav.out] at s0
  have pl := F.pl
  have pg := F.pg
  have own1 := F.own
  have obj1 := F.obj
  clear F h
  go_wp2_with fail
  refine Reg.region_mk 19 50 [[], [false], [false, true], [false, true, true], [false, true, true, true], [false, false, false, false, false], [false, false, false, false, false, true], [false, false, false, false, false, false, false], [false, false, false, false, false, false, false, false], [false, false, false, false, false, false, false, false, true], [false, false, false, false, false, false, false, false, true, true], [false, false, false, false, false, false, false, false, true, true, true], [false, false, false, false, false, false, false, false, false, false, false, false], [false, false, false, false, false, false, false, false, true, true, true, true, true], [false, false, false, false, false, false, false, false, true, true, true, true, true, true], [false, false, false, false, false, false, false, false, true, true, true, true, true, true, true], [false, false, false, false, false, false, false, true, true, true, true, true, true, true, true, true], [false, false, false, false, false, false, false, true, true, true, true, true, true, true, true, true, true], [false, true, true, true, true, true, true, true, true, true, true, true, true, true, true, true, true, true]] [0, 0, 0, 0, 1, 0, 0, 0, 0, 0, 0, 1, 0, 0, 0, 2, 0, 1, 3]
    [.pure, .pure, .pure, .pure, .minor Unit () (fun _ => .slice (some ⟨g, 0, none⟩) L.length cap) (fun _ _ => True), .pure, .pure, .pure, .pure, .pure, .pure, .minor Unit () (fun _ => .slice (some ⟨g, 0, none⟩) L.length cap) (fun _ _ => True), .pure, .pure, .pure, .pinned Unit () (fun _ => .int .i64 fv) (fun _ _ => True), .pure, .minor Nat 0 (fun b => .slice (some ⟨b, 0, none⟩) 1 1) (fun b W => One1 W b (t, fv) ∧ b ≠ g), .major Value undef id]
    (fun W => Off g g w1 W) (SCut w1 g L k (t, fv)) (fun W W' => Off g g W W') (by kernel_rfl) (by kernel_rfl) rfl rfl SCut.ext ?_ ?_ ?_ ?_ ?_ ?_
  · intro a b he hb; exact hb.then_below he
  · intro a b hg hb; exact hb.trans hg (.inl rfl)
  · refine ⟨trivial, trivial, trivial, trivial, ⟨?_, ?_⟩, trivial, trivial, trivial, trivial, trivial, trivial, ⟨?_, ?_⟩, trivial, trivial, trivial, ⟨?_, ?_⟩, trivial, ⟨?_, ?_⟩, trivial, trivial⟩
    all_goals (intro x a b hk hx; first | exact trivial | exact ⟨hx.1.off (p := g) (q := g) (Off.of_below hk) ⟨hx.2, hx.2⟩, hx.2⟩ | exact ⟨hx.1.off hk ⟨hx.2, hx.2⟩, hx.2⟩)
  · exact (Off.refl _ _ _).drew
  · exact (Below.refl _ _).drew
  dsimp only [Reg.mk, List.zip, List.zipWith, List.take]
  repeat (refine' Reg.pass_is _ (by rfl) (fun wz => ?_) ?_; rotate_left; (go_simp; first | rfl | rw [if_neg (by omega)]); simp only [Act.put, List.setIfInBounds_toArray, List.set_cons_zero, List.set_cons_succ]; (try simp only [List.nil_append]); (try simp only [List.cons_append]))
  refine Reg.pass_minor (by rfl) (fun wz hI hF => ?_) (fun x4 => ?_)
  · unfold Reg.One
    have d0 : wz.cell? ⟨p, 0, none⟩ = _ := (hI.cell (a := ⟨p, 0, none⟩) pl pg pg).trans c0
    go_wp2_with fail
    exact ⟨_, rfl, ⟨(), rfl, trivial⟩, Reg.Ext.refl _⟩
  simp only [Act.put, List.setIfInBounds_toArray, List.set_cons_zero, List.set_cons_succ]; (try simp only [List.nil_append]); (try simp only [List.cons_append]); (try simp only [id])
  repeat (refine' Reg.pass_is _ (by rfl) (fun wz => ?_) ?_; rotate_left; (go_simp; first | rfl | rw [if_neg (by omega)]); simp only [Act.put, List.setIfInBounds_toArray, List.set_cons_zero, List.set_cons_succ]; (try simp only [List.nil_append]); (try simp only [List.cons_append]))
  refine Reg.pass_minor (by rfl) (fun wz hI hF => ?_) (fun x11 => ?_)
  · unfold Reg.One
    have d0 : wz.cell? ⟨p, 0, none⟩ = _ := (hI.cell (a := ⟨p, 0, none⟩) pl pg pg).trans c0
    go_wp2_with fail
    exact ⟨_, rfl, ⟨(), rfl, trivial⟩, Reg.Ext.refl _⟩
  simp only [Act.put, List.setIfInBounds_toArray, List.set_cons_zero, List.set_cons_succ]; (try simp only [List.nil_append]); (try simp only [List.cons_append]); (try simp only [id])
  repeat (refine' Reg.pass_is _ (by rfl) (fun wz => ?_) ?_; rotate_left; (go_simp; first | rfl | rw [if_neg (by omega)]); simp only [Act.put, List.setIfInBounds_toArray, List.set_cons_zero, List.set_cons_succ]; (try simp only [List.nil_append]); (try simp only [List.cons_append]))
  refine Reg.pass_pinned (by rfl) (fun wz hI hS hF => ?_) (fun x15 => ?_)
  · unfold Reg.One
    have hS1 : Below w1.heap.size w1 wz := hS
    have d1 := (step_cells (pf_own_kept own1 hS1) hil).2
    rw [← hfv.out] at d1
    go_wp2_with fail
    exact ⟨_, rfl, ⟨(), rfl, trivial⟩, Reg.Ext.refl _⟩
  simp only [Act.put, List.setIfInBounds_toArray, List.set_cons_zero, List.set_cons_succ]; (try simp only [List.nil_append]); (try simp only [List.cons_append]); (try simp only [id])
  repeat (refine' Reg.pass_is _ (by rfl) (fun wz => ?_) ?_; rotate_left; (go_simp; first | rfl | rw [if_neg (by omega)]); simp only [Act.put, List.setIfInBounds_toArray, List.set_cons_zero, List.set_cons_succ]; (try simp only [List.nil_append]); (try simp only [List.cons_append]))
  refine Reg.pass_minor (by rfl) (fun wz hI hF => ?_) (fun x17 => ?_)
  · unfold Reg.One
    go_wp2_with fail
    exact ⟨_, rfl, ⟨wz.heap.size, rfl, heap_alloc_new wz _, by have := hI.size; have := (own1.lt g rfl).2; omega⟩, (Below.refl _ _).alloc (Nat.le_refl _) _⟩
  simp only [Act.put, List.setIfInBounds_toArray, List.set_cons_zero, List.set_cons_succ]; (try simp only [List.nil_append]); (try simp only [List.cons_append]); (try simp only [id])
  refine Reg.pass_major (by rfl) (fun wz hI hS hF => ?_) (fun x18 => ?_)
  · unfold Reg.One
    have hS1 : Below w1.heap.size w1 wz := hS
    have hone := hF.2.2.2.2.2.2.2.2.2.2.2.2.2.2.2.2.1
    go_wp2_with (go_at_call 53; go_must (refine (insert_any (t, fv) k _ (pf_own_kept own1 hS1) (by omega) hkl hone.1 hone.2).mono ?_); rintro e w5 ⟨g5, cap5, rfl, h51, h52, h53⟩)
    exact ⟨_, rfl, ⟨⟨_, rfl⟩, ⟨g5, cap5, rfl, by have := hS1.size; omega, h52, (Off.of_below hS1).trans h53 (.inl rfl)⟩⟩, h53⟩
  simp only [Act.put, List.setIfInBounds_toArray, List.set_cons_zero, List.set_cons_succ]; (try simp only [List.nil_append]); (try simp only [List.cons_append]); (try simp only [id])
  refine Reg.pass_end ?_
  intro w3 HI3 HS3 _
  obtain ⟨g', cap', rfl, hg', ho3, hoff3⟩ := HS3
  have hp3 := obj1
  rw [← hoff3.block p pl pg pg] at hp3
  have d0 : w3.cell? ⟨p, 0, none⟩ = _ := (hoff3.cell (a := ⟨p, 0, none⟩) pl pg pg).trans c0
  have dz : w3.frozen? ⟨p, 0, none⟩ = false := by simp [World.frozen?, hp3]
  have hlen := length_insL (L := L) (k := k) (x := (t, fv)) hkl
  obtain ⟨n, hn⟩ : ∃ n, n = L.length + 1 := ⟨_, rfl⟩
  have hfin : Hid (PW (w3.setCell ⟨p, 0, none⟩ (.slice (some ⟨g', 0, none⟩) (L.length + 1) cap')) p g' (insL L k (t, fv)) ver) := by
    rw [← hlen] at ho3 ⊢
    exact PW_put hp3 ho3
  have hoff : Hid (Off p g w (w3.setCell ⟨p, 0, none⟩ (.slice (some ⟨g', 0, none⟩) (L.length + 1) cap'))) := ((Off.of_below hb1).trans hoff3.mono (.inl rfl)).setCell (.inl rfl)
  have hgg : Hid (g' = g ∨ w.heap.size ≤ g') := by show _ ∨ _; have := hb1.size; omega
  clear HI3 ho3 hoff3 hp3 hlen c0 s0 own1 obj1 hg' hn
  dsimp only [List.drop]
  go_wp2_with fail
  go_ret
  exact ⟨rfl, g', hfin.out, hgg.out, hoff.out⟩
end

end Go.Proofs.Ytbnpeicmbbgboaa
