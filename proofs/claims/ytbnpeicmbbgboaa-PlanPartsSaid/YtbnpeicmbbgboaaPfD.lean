/-
  Own walks: a profile's copy, how many are free at a time, which steps hold in a stretch, and the least of them.
-/
import Derived.Test.YtbnpeicmbbgboaaPfC
import Derived.Test.YtbnpeicmbbgboaaReg
namespace Go.Proofs.Ytbnpeicmbbgboaa
set_option maxRecDepth 8000
open Go.RowKit Go.Sort Go.Lib

theorem pf_mixed : Try.prog.follows .mixedOrders = true := by kernel_rfl

section
variable {w : World} {p g : Nat} {L : List (Int × Int)} {ver now : Int} {f : Int → Int}

theorem IsIx.uniq (hs : Sm L now f) {t : Int} {i j : Nat} (h : IsIx L t i) (h' : IsIx L t j) : i = j := by
  have key : ∀ {i j : Nat}, IsIx L t i → IsIx L t j → ¬ i < j := by
    intro i j h h' hlt
    have h1 := h.nx (by have := h'.lt; omega)
    have h2 := h'.le (by omega)
    have h3 := hs.le (i := i + 1) (j := j) hlt h'.lt
    omega
  have := key h h'
  have := key h' h
  omega

theorem at_is (t : Int) {i : Nat} (hi : IsIx L t i) (hs : Sm L now f) (hl : L.length ≤ 1000) (h : PW w p g L ver) :
    Calls Try.prog 43 #[.pointer (some ⟨p, 0, none⟩), .int .i64 t] w fun e w' => e = .returned (.int .i64 i) ∧ Below w.heap.size w w' := by
  refine (pf_at_any t hs hl h).mono ?_
  rintro e w' ⟨j, rfl, hj, hb⟩
  rw [hi.uniq hs hj]
  exact ⟨rfl, hb⟩

set_option maxRecDepth 100000 in
set_option maxHeartbeats 1000000 in
theorem pf_Copy_any (h : PW w p g L ver) (hp : 0 < L.length) (hl : L.length ≤ 1000) :
    Calls Try.prog 25 #[.pointer (some ⟨p, 0, none⟩)] w fun e w' => ∃ p' g' : Nat, e = .returned (.pointer (some ⟨p', 0, none⟩)) ∧ PW w' p' g' L ver ∧ w.heap.size ≤ p' ∧ w.heap.size ≤ g' ∧ Below w.heap.size w w' := by
  have hn := pf_none_any h hp
  have hmix := pf_mixed
  go_enter Try.func25, Try.ntmps25
  go_wp2_with (go_at_call 30; go_must (refine hn.mono ?_); rintro e w' ⟨rfl, rfl⟩)
  refine Reg.region_mk 6 13 [[], [true], [false, false], [false, false, true], [false, false, true, true], [false, false, true, true, true]] [0, 1, 0, 0, 0, 1]
    [.pure, .minor (Nat × Nat) (0, 0) (fun x => .slice (some ⟨x.1, 0, none⟩) L.length x.2) (fun x W => w.heap.size ≤ x.1 ∧ W.ownsRow 0 49 2 (.slice (some ⟨x.1, 0, none⟩) L.length x.2) L.length (prV L)), .pure, .pure, .pure, .minor Unit () (fun _ => .int .i64 ver) (fun _ _ => True)]
    (fun W => Below w.heap.size w W) (fun _ _ => True) (fun _ _ => False) (by kernel_rfl) (by kernel_rfl) rfl rfl (fun _ _ _ _ h => h) ?_ ?_ ?_ ?_ ?_ ?_
  · intro w1 w2 he hb; exact hb.trans (he.mono hb.size)
  · intro _ _ h; exact h.elim
  · refine ⟨trivial, ⟨?_, ?_⟩, trivial, trivial, trivial, ⟨?_, ?_⟩, trivial⟩
    all_goals (first | exact fun _ _ _ _ h => h | exact fun _ _ _ h => h.elim | exact fun _ w1 w2 he hx => ⟨hx.1, pf_own_kept hx.2 he⟩)
  · exact (Below.refl _ _).drew
  · exact trivial
  dsimp only [Reg.mk, List.zip, List.zipWith, List.take]
  repeat (refine' Reg.pass_is _ (by rfl) (fun wz => ?_) ?_; rotate_left; (go_simp; first | rfl | rw [if_neg (by omega)]); simp only [Act.put, List.setIfInBounds_toArray, List.set_cons_zero, List.set_cons_succ]; (try simp only [List.nil_append]); (try simp only [List.cons_append]))
  refine Reg.pass_minor (by rfl) (fun wz hI hF => ?_) (fun x1 => ?_)
  · unfold Reg.One
    go_wp2_with (go_at_call 18; go_must (refine (pf_Steps_any (h.kept hI) hp hl).mono ?_); rintro e w1 ⟨g1, cap1, rfl, h1, h2, h3⟩)
    exact ⟨_, rfl, ⟨(g1, cap1), rfl, Nat.le_trans hI.size h1, h2⟩, h3⟩
  simp only [Act.put, List.setIfInBounds_toArray, List.set_cons_zero, List.set_cons_succ]; (try simp only [List.nil_append]); (try simp only [List.cons_append]); (try simp only [id])
  repeat (refine' Reg.pass_is _ (by rfl) (fun wz => ?_) ?_; rotate_left; (go_simp; first | rfl | rw [if_neg (by omega)]); simp only [Act.put, List.setIfInBounds_toArray, List.set_cons_zero, List.set_cons_succ]; (try simp only [List.nil_append]); (try simp only [List.cons_append]))
  refine Reg.pass_minor (by rfl) (fun wz hI hF => ?_) (fun x5 => ?_)
  · unfold Reg.One
    obtain ⟨cap, F⟩ := (h.kept hI).facts
    have c1 := F.c1
    clear F
    go_wp2_with fail
    exact ⟨_, rfl, ⟨(), rfl, trivial⟩, Reg.Ext.refl _⟩
  simp only [Act.put, List.setIfInBounds_toArray, List.set_cons_zero, List.set_cons_succ]; (try simp only [List.nil_append]); (try simp only [List.cons_append]); (try simp only [id])
  refine Reg.pass_end ?_
  intro w3 HI3 _ HF3
  obtain ⟨g', cap'⟩ := x1
  have hg := HF3.2.1
  clear HF3
  have hsz := HI3.size
  have hn' : Hid (PW (w3.alloc (.cells #[.slice (some ⟨g', 0, none⟩) L.length cap', .int .i64 ver] 56)) w3.heap.size g' L ver) := ⟨cap', heap_alloc_new w3 _, pf_own_kept hg.2 ((Below.refl _ _).alloc (Nat.le_refl _) _)⟩
  have hge := hg.1
  clear hg
  dsimp only [List.drop]
  go_wp2_with fail
  go_ret
  exact ⟨w3.heap.size, rfl, g', hn'.out, hsz, hge, HI3.alloc hsz _⟩

theorem part_none (a b : Int) (h : PW w p g L ver) (hp : 0 < L.length) (hab : b ≤ max a (tA L 0)) :
    Calls Try.prog 45 #[.pointer (some ⟨p, 0, none⟩), .int .i64 a, .int .i64 b] w fun e w' => e = .returned (.slice none 0 0) ∧ w = w' := by
  have hn := Now_any h hp
  obtain ⟨m, hm⟩ : ∃ m, max a (tA L 0) = m := ⟨_, rfl⟩
  rw [hm] at hab
  go_enter Try.func45, Try.ntmps45
  go_wp2_with (go_at_call 41; go_must (refine hn.mono ?_); rintro e w' ⟨rfl, rfl⟩)
  go_ret
  exact ⟨rfl, rfl⟩

set_option maxRecDepth 100000 in
set_option maxHeartbeats 1000000 in
theorem part_some (a b m : Int) {i j cap : Nat} (hm : max a (tA L 0) = m) (hab : m < b) (hb64 : -9223372036854775808 < b ∧ b ≤ 9223372036854775807) (hi : IsIx L m i) (hj : IsIx L (b - 1) j) (hij : i ≤ j) (hs : Sm L now f) (hl : L.length ≤ 1000) (h : PW w p g L ver) (F : PFacts w p g L ver cap) :
    Calls Try.prog 45 #[.pointer (some ⟨p, 0, none⟩), .int .i64 a, .int .i64 b] w fun e w' => e = .returned (.slice (some ⟨g, i * 2, none⟩) (j + 1 - i) (cap - i)) ∧ Below w.heap.size w w' := by
  have hn := Now_any h hs.pos
  have hmix := pf_mixed
  have hjl := hj.lt
  have hlc := F.lc
  have pl := F.pl
  have c0 := F.c0
  have hw1 : IntKind.i64.wrap (b - 1) = b - 1 := IntWalk.i64_in _ (by omega)
  have hw2 : IntKind.i64.wrap ((j : Int) + 1) = (j : Int) + 1 := IntWalk.i64_in _ (by omega)
  have hnab : ¬ (b ≤ m) := by omega
  clear F
  replace hi := Lib.hid hi
  replace hj := Lib.hid hj
  go_enter Try.func45, Try.ntmps45
  go_wp2_with (go_at_call 41; go_must (refine hn.mono ?_); rintro e w' ⟨rfl, rfl⟩)
  refine Reg.region_mk 12 27 [[], [true], [true, true], [true, true, true], [false, false, false, false], [false, false, false, false, false], [false, false, false, false, true, true], [false, false, false, false, false, false, false], [false, false, false, false, false, false, false, false], [false, false, false, false, false, false, false, false, true], [false, false, false, false, true, true, true, true, true, true], [false, false, false, false, true, true, true, true, true, true, true]] [0, 0, 0, 1, 0, 0, 1, 0, 0, 0, 1, 0]
    [.pure, .pure, .pure, .minor Unit () (fun _ => .slice (some ⟨g, 0, none⟩) L.length cap) (fun _ _ => True), .pure, .pure, .minor Unit () (fun _ => .int .i64 i) (fun _ _ => True), .pure, .pure, .pure, .minor Unit () (fun _ => .int .i64 j) (fun _ _ => True), .pure]
    (fun W => Below w.heap.size w W) (fun _ _ => True) (fun _ _ => False) (by kernel_rfl) (by kernel_rfl) rfl rfl (fun _ _ _ _ h => h) ?_ ?_ ?_ ?_ ?_ ?_
  · intro w1 w2 he hb; exact hb.trans (he.mono hb.size)
  · intro _ _ h; exact h.elim
  · refine ⟨trivial, trivial, trivial, ⟨?_, ?_⟩, trivial, trivial, ⟨?_, ?_⟩, trivial, trivial, trivial, ⟨?_, ?_⟩, trivial, trivial⟩
    all_goals (first | exact fun _ _ _ _ h => h | exact fun _ _ _ h => h.elim | exact fun _ w1 w2 he hx => ⟨hx.1, pf_own_kept hx.2 he⟩)
  · exact (Below.refl _ _).drew
  · exact trivial
  dsimp only [Reg.mk, List.zip, List.zipWith, List.take]
  repeat (refine' Reg.pass_is _ (by rfl) (fun wz => ?_) ?_; rotate_left; (go_simp; first | rfl | rw [if_neg (by omega)]); simp only [Act.put, List.setIfInBounds_toArray, List.set_cons_zero, List.set_cons_succ]; (try simp only [List.nil_append]); (try simp only [List.cons_append]))
  refine Reg.pass_minor (by rfl) (fun wz hI hF => ?_) (fun x3 => ?_)
  · unfold Reg.One
    have d0 := (hI.cell (p := ⟨p, 0, none⟩) pl).trans c0
    go_wp2_with fail
    exact ⟨_, rfl, ⟨(), rfl, trivial⟩, Reg.Ext.refl _⟩
  simp only [Act.put, List.setIfInBounds_toArray, List.set_cons_zero, List.set_cons_succ]; (try simp only [List.nil_append]); (try simp only [List.cons_append]); (try simp only [id])
  repeat (refine' Reg.pass_is _ (by rfl) (fun wz => ?_) ?_; rotate_left; (go_simp; first | rfl | rw [if_neg (by omega)]); simp only [Act.put, List.setIfInBounds_toArray, List.set_cons_zero, List.set_cons_succ]; (try simp only [List.nil_append]); (try simp only [List.cons_append]))
  refine Reg.pass_minor (by rfl) (fun wz hI hF => ?_) (fun x6 => ?_)
  · unfold Reg.One
    go_wp2_with (go_at_call 43; go_must (refine (at_is m hi.out hs hl (h.kept hI)).mono ?_); rintro e w1 ⟨rfl, hbl1⟩)
    exact ⟨_, rfl, ⟨(), rfl, trivial⟩, hbl1⟩
  simp only [Act.put, List.setIfInBounds_toArray, List.set_cons_zero, List.set_cons_succ]; (try simp only [List.nil_append]); (try simp only [List.cons_append]); (try simp only [id])
  repeat (refine' Reg.pass_is _ (by rfl) (fun wz => ?_) ?_; rotate_left; (go_simp; first | rfl | rw [if_neg (by omega)]); simp only [Act.put, List.setIfInBounds_toArray, List.set_cons_zero, List.set_cons_succ]; (try simp only [List.nil_append]); (try simp only [List.cons_append]))
  refine Reg.pass_minor (by rfl) (fun wz hI hF => ?_) (fun x10 => ?_)
  · unfold Reg.One
    go_wp2_with (go_at_call 43; go_must (refine (at_is (b - 1) hj.out hs hl (h.kept hI)).mono ?_); rintro e w1 ⟨rfl, hbl1⟩)
    exact ⟨_, rfl, ⟨(), rfl, trivial⟩, hbl1⟩
  simp only [Act.put, List.setIfInBounds_toArray, List.set_cons_zero, List.set_cons_succ]; (try simp only [List.nil_append]); (try simp only [List.cons_append]); (try simp only [id])
  repeat (refine' Reg.pass_is _ (by rfl) (fun wz => ?_) ?_; rotate_left; (go_simp; first | rfl | rw [if_neg (by omega)]); simp only [Act.put, List.setIfInBounds_toArray, List.set_cons_zero, List.set_cons_succ]; (try simp only [List.nil_append]); (try simp only [List.cons_append]))
  refine Reg.pass_end ?_
  intro w3 HI3 _ HF3
  clear HF3 c0
  have b1 : (0 : Int) ≤ i := by omega
  have b2 : (i : Int) ≤ (j : Int) + 1 := by omega
  have b3 : (j : Int) + 1 ≤ (cap : Int) := by omega
  have b4 : ((j : Int) + 1).toNat = j + 1 := by omega
  have b5 : ¬ (cap = i) := by omega
  have b6 : i ≤ j + 1 := by omega
  have b7 : j + 1 ≤ cap := by omega
  dsimp only [List.drop]
  go_wp2_with fail
  go_ret
  exact ⟨by go_num, HI3⟩
end

end Go.Proofs.Ytbnpeicmbbgboaa
