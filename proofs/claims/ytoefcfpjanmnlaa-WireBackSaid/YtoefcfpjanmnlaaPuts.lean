/-
  The statement on the bytes of numbers, truths and texts: its walk.
-/
import Derived.Test.YtoefcfpjanmnlaaLit
namespace Go.Proofs.Ytoefcfpjanmnlaa
open Go.RowKit

def SLit (B : Nat) (vs : List Value) (w : World) : Prop := ∀ v, vs.getLast? = some v → ∃ g, v = litVal g ∧ LitAt B w g
theorem SLit.nil (B : Nat) (w : World) : SLit B [] w := fun v h => by simp at h
theorem SLit.one {B : Nat} {w : World} {g : Nat} (h : LitAt B w g) (vs : List Value) : SLit B (vs ++ [litVal g]) w := fun v hv => by
  simp at hv; exact ⟨g, hv.symm, h⟩
theorem SLit.ext {B : Nat} (vs : List Value) (w w' : World) (he : Reg.Ext w w') (h : SLit B vs w) : SLit B vs w' := fun v hv => by
  obtain ⟨g, h1, h2⟩ := h v hv; exact ⟨g, h1, h2.ext he⟩
theorem SLit.buf {B : Nat} {vs : List Value} {v : Value} {w : World} (h : SLit B vs w) (hv : vs.getLast? = some v) (base : Nat) : BBuf w base v [120] ∧ BRead w v [120] := by
  obtain ⟨g, rfl, h2⟩ := h v hv; exact ⟨h2.buf base, h2.read⟩

/-- What Put lays behind the literal. -/
def putP (a : Int) : List UInt8 := if a < 0 then [] else enc a.toNat

theorem Put_lit (a : Int) (h : -9223372036854775808 ≤ a ∧ a ≤ 9223372036854775807) (v : Value) (w : World) (hb : BBuf w w.heap.size v [120]) (hr : BRead w v [120]) :
    Calls Try.prog 8 #[v, .int .i64 a] w fun e w' => ∃ v', e = .returned v' ∧ BRead w' v' (120 :: putP a) ∧ Reg.Ext w w' := by
  by_cases hn : a < 0
  · refine (Put_neg a hn v w).mono ?_
    rintro e w' ⟨rfl, rfl⟩
    exact ⟨v, rfl, by unfold putP; rw [if_pos hn]; exact hr, Reg.Ext.refl _⟩
  · refine (Put_any a ⟨by omega, h.2⟩ [120] v w.heap.size w hb (by simp) (Nat.le_refl _)).mono ?_
    rintro e w' ⟨v', rfl, ho, hbl⟩
    exact ⟨v', rfl, by unfold putP; rw [if_neg hn]; exact ho.read, hbl⟩

theorem Sign_lit (a : Int) (h : -9223372036854775808 ≤ a ∧ a ≤ 9223372036854775807) (v : Value) (w : World) (hb : BBuf w w.heap.size v [120]) :
    Calls Try.prog 9 #[v, .int .i64 a] w fun e w' => ∃ v', e = .returned v' ∧ BRead w' v' (120 :: enc (zg a)) ∧ Reg.Ext w w' := by
  refine (Sign_any a h [120] v w.heap.size w hb (by simp) (Nat.le_refl _)).mono ?_
  rintro e w' ⟨v', rfl, ho, hbl⟩
  exact ⟨v', rfl, ho.read, hbl⟩

theorem Bool_lit (a : Bool) (v : Value) (w : World) (hb : BBuf w w.heap.size v [120]) :
    Calls Try.prog 12 #[v, .bool a] w fun e w' => ∃ v', e = .returned v' ∧ BRead w' v' [120, if a then 1 else 0] ∧ Reg.Ext w w' := by
  refine (Bool_any a [120] v w.heap.size w hb (by simp) (Nat.le_refl _)).mono ?_
  rintro e w' ⟨v', rfl, ho, hbl⟩
  exact ⟨v', rfl, ho.read, hbl⟩

theorem Text_lit (s : ByteArray) (hs : s.size ≤ 200) (v : Value) (w : World) (hb : BBuf w w.heap.size v [120]) :
    Calls Try.prog 13 #[v, .string s] w fun e w' => ∃ v', e = .returned v' ∧ BRead w' v' (120 :: (enc s.size ++ tb s)) ∧ Reg.Ext w w' := by
  refine (Text_any s (by omega) [120] v w.heap.size w hb (by simp) (Nat.le_refl _)).mono ?_
  rintro e w' ⟨v', rfl, ho, hbl⟩
  exact ⟨v', rfl, by have := ho.read; rw [List.append_assoc] at this; exact this, hbl⟩

/-- Two numbers in a new block. -/
def numsVal (g : Nat) : Value := .slice (some ⟨g, 0, none⟩) 2 2
def NumsAt (w : World) (g : Nat) (a b : Int) : Prop := g < w.heap.size ∧ w.cell? ⟨g, 0, none⟩ = some (.int .i64 a) ∧ w.cell? ⟨g, 1, none⟩ = some (.int .i64 b)
theorem NumsAt.new (w : World) (a b : Int) : NumsAt (w.alloc (.cells #[.int .i64 a, .int .i64 b] 2)) w.heap.size a b :=
  ⟨by simp, by simp only [World.cell?, heap_alloc_new]; rfl, by simp only [World.cell?, heap_alloc_new]; rfl⟩
theorem NumsAt.keeps {w w' : World} {g : Nat} {a b : Int} (h : NumsAt w g a b) (hk : Keeps w w') : NumsAt w' g a b :=
  ⟨World.block_lt_of_cell? w' ⟨g, 0, none⟩ (hk _ _ h.2.1), hk _ _ h.2.1, hk _ _ h.2.2⟩

theorem All_lit (a b : Int) (ha : -9223372036854775808 ≤ a ∧ a ≤ 9223372036854775807) (hb : -9223372036854775808 ≤ b ∧ b ≤ 9223372036854775807) (v : Value) (g : Nat) (w : World) (hv : BBuf w w.heap.size v [120]) (hn : NumsAt w g a b) :
    Calls Try.prog 11 #[v, numsVal g] w fun e w' => ∃ v', e = .returned v' ∧ BRead w' v' (120 :: (enc (zg a) ++ enc (zg b))) ∧ Reg.Ext w w' := by
  refine (All_any [a, b] (by simp; exact ⟨ha, hb⟩) (by simp) g 0 2 [120] v w.heap.size w hv (by simp) (Nat.le_refl _) hn.1 (fun j hj => ?_)).mono ?_
  · have : j = 0 ∨ j = 1 := by simp at hj; omega
    rcases this with rfl | rfl
    · exact hn.2.1
    · exact hn.2.2
  · rintro e w' ⟨v', rfl, _, ho, hbl⟩
    rcases ho with ho | ho
    · cases ho
    · refine ⟨v', rfl, ?_, hbl⟩
      have := ho.read
      simp only [encAll, List.flatMap_cons, List.flatMap_nil, List.append_nil] at this
      exact this

theorem str_cut (s : ByteArray) (l : List UInt8) : str l ++ s = str (l ++ tb s) := by
  apply ByteArray.ext
  simp [str, tb]

/-- raw at an int that is a number. -/
theorem raw_i (a : Int) (h : 0 ≤ a ∧ a ≤ 9223372036854775807) (w : World) :
    Calls Try.prog 7 #[.int .u64 a] w fun e w' => e = .returned (.string (str (enc a.toNat))) ∧ Below w.heap.size w w' := by
  obtain ⟨n, rfl⟩ := Int.eq_ofNat_of_zero_le h.1
  exact raw_any n (by omega) w

theorem lit_cat (l : List UInt8) : ({ data := #[120] } : ByteArray) ++ str l = str (120 :: l) := by
  apply ByteArray.ext
  simp [str]

set_option maxHeartbeats 2000000 in
set_option maxRecDepth 100000 in
theorem puts_pos_f (a0 : Int) (a1 : Int) (s : ByteArray) (hsign : 0 ≤ a0) (h0 : -9223372036854775808 ≤ a0 ∧ a0 ≤ 9223372036854775807) (h1 : -9223372036854775808 ≤ a1 ∧ a1 ≤ 9223372036854775807) (hs : s.size ≤ maxLen) (w : World) :
    Calls Try.prog 3 #[.int .i64 a0, .int .i64 a1, .bool false, .string s] w fun e w' => e = .returned (.bool true) ∧ Below w.heap.size w w' := by
  have hcs : (cut200 s).size ≤ 200 := cut200_size s
  have hs' : s.size ≤ 9223372036854775807 := by unfold maxLen at hs; omega
  clear hs
  have HZ0 := Lib.hid (zg_lt h0)
  have HZ1 := Lib.hid (zg_lt h1)
  have hcat := lit_cat
  have hcut := str_cut (cut200 s)
  have hone0 : ({ data := #[120] } : ByteArray) ++ { data := #[0] } = str [120, 0] := by decide
  have hone1 : ({ data := #[120] } : ByteArray) ++ { data := #[1] } = str [120, 1] := by decide
  have hcat2 := str_cat
  have hsz := str_size
  have hl0 := (enc_length (zg a0)).2
  have hl1 := (enc_length (zg a1)).2
  have hl2 := (enc_length (cut200 s).size).2
  have htl := str_toList
  have hp : (putP a0).length ≤ 10 := by unfold putP; split <;> first | exact (enc_length _).2 | simp
  have hP : putP a0 = enc a0.toNat := by unfold putP; rw [if_neg (by omega)]
  have hPl := (enc_length a0.toNat).2
  have hun : IntKind.u64.wrap a0 = a0 := by rw [IntKind.wrap_u64]; omega
  go_enter Try.func3, Try.ntmps3
  go_wp2_with (first | (go_at_call 6; go_must (refine (cut_any s hs' _).mono ?_); rintro e w1 ⟨rfl, rfl⟩) | (go_at_call 7; go_must (refine (raw_i a0 ⟨hsign, h0.2⟩ w).mono ?_); rintro e wq ⟨rfl, hbq⟩))
  have HB : Below w.heap.size w wq := hbq
  refine Reg.region_mk 19 81 [[], [true], [false, false], [true, true, true], [true, true, true, true], [false, false, false, false, false], [true, true, true, true, true, true], [true, true, true, true, true, true, true], [true, true, true, true, true, true, true, true], [true, true, true, true, true, true, true, true, true], [true, true, true, true, true, true, true, true, false, false], [true, true, true, true, true, true, true, true, true, true, true], [true, true, true, true, true, true, true, true, true, true, true, true], [true, true, true, true, true, true, true, true, false, false, false, false, false], [true, true, true, true, true, true, true, true, true, true, true, true, false, true], [true, true, true, true, true, true, true, true, true, true, true, true, false, true, true], [true, true, true, true, true, true, true, true, true, true, true, true, false, true, true, true], [true, true, true, true, true, true, true, true, true, true, true, true, true, true, true, true, true], [true, true, true, true, true, true, true, true, true, true, true, true, true, true, true, true, true, true]] [1, 3, 0, 2, 1, 0, 0, 0, 1, 3, 0, 2, 1, 0, 1, 1, 0, 0, 0]
    [.minor Nat 0 litVal (fun g w1 => LitAt w.heap.size w1 g), .major Nat 0 litVal, .pure, .pinned Value undef id (fun v w => BRead w v (120 :: enc a0.toNat)), .minor Unit () (fun _ => .string (str (120 :: enc a0.toNat))) (fun _ _ => True), .pure, .pure, .pure, .minor Nat 0 litVal (fun g w1 => LitAt w.heap.size w1 g), .major Nat 0 litVal, .pure, .pinned Value undef id (fun v w => BRead w v (120 :: enc (zg a0))), .minor Unit () (fun _ => .string (str (120 :: enc (zg a0)))) (fun _ _ => True), .pure, .minor Unit () (fun _ => .int .u64 (zg a0)) (fun _ _ => True), .minor Unit () (fun _ => .string (str (enc (zg a0)))) (fun _ _ => True), .pure, .pure, .pure]
    (fun W => Below w.heap.size w W) (SLit w.heap.size) (Marked w.heap.size) (by kernel_rfl) (by kernel_rfl) rfl rfl SLit.ext ?_ ?_ ?_ ?_ (SLit.nil _ _) ?_
  · intro w1 w2 he hb; exact hb.trans (he.mono hb.size)
  · intro w1 w2 hm hb; exact hb.trans hm.below
  · refine ⟨⟨?_, ?_⟩, trivial, trivial, ⟨?_, ?_⟩, ⟨?_, ?_⟩, trivial, trivial, trivial, ⟨?_, ?_⟩, trivial, trivial, ⟨?_, ?_⟩, ⟨?_, ?_⟩, trivial, ⟨?_, ?_⟩, ⟨?_, ?_⟩, trivial, trivial, trivial, trivial⟩
    all_goals (intro x w1 w2 hk hx; first | exact trivial | exact LitAt.ext hx hk | exact LitAt.marked hx hk | exact NumsAt.keeps hx (Keeps.of_ext hk) | exact NumsAt.keeps hx (Marked.keeps hk) | exact BRead.keeps hx (Keeps.of_ext hk) | exact BRead.keeps hx (Marked.keeps hk))
  · exact HB.drew
  dsimp only [Reg.mk, List.zip, List.zipWith, List.take]
  refine Reg.pass_minor (by rfl) (fun wz hI hF => ?_) (fun x0 => ?_)
  · unfold Reg.One
    go_wp2_with fail
    exact ⟨_, rfl, ⟨wz.heap.size, rfl, hI.size, Or.inl (heap_alloc_new wz _)⟩, (Below.refl _ _).alloc (Nat.le_refl _) _⟩
  simp only [Act.put, List.setIfInBounds_toArray, List.set_cons_zero, List.set_cons_succ]; (try simp only [List.nil_append]); (try simp only [List.cons_append]); (try simp only [id])
  refine Reg.pass_major (by rfl) (fun wz hI hS hF => ?_) (fun x1 => ?_)
  · unfold Reg.One
    obtain ⟨w9, hrun, hmk, hlit⟩ := run_mark hF.1
    go_wp2_with fail
    exact ⟨_, rfl, ⟨⟨_, rfl⟩, SLit.one hlit _⟩, hmk⟩
  simp only [Act.put, List.setIfInBounds_toArray, List.set_cons_zero, List.set_cons_succ]; (try simp only [List.nil_append]); (try simp only [List.cons_append]); (try simp only [id])
  repeat (refine' Reg.pass_is _ (by rfl) (fun wz => ?_) ?_; rotate_left; (go_simp; first | rfl | rw [if_neg (by omega)]); simp only [Act.put, List.setIfInBounds_toArray, List.set_cons_zero, List.set_cons_succ]; (try simp only [List.nil_append]); (try simp only [List.cons_append]))
  refine Reg.pass_pinned (by rfl) (fun wz hI hS hF => ?_) (fun x3 => ?_)
  · unfold Reg.One
    obtain ⟨hbuf, hrd⟩ := SLit.buf hS rfl wz.heap.size
    go_wp2_with (go_at_call 8; go_must (refine (Put_lit a0 h0 _ _ hbuf hrd).mono ?_); rintro e w1 ⟨v1, rfl, hown1, hbl1⟩)
    rw [hP] at hown1
    exact ⟨_, rfl, ⟨_, rfl, hown1⟩, hbl1⟩
  simp only [Act.put, List.setIfInBounds_toArray, List.set_cons_zero, List.set_cons_succ]; (try simp only [List.nil_append]); (try simp only [List.cons_append]); (try simp only [id])
  refine Reg.pass_minor (by rfl) (fun wz hI hF => ?_) (fun x4 => ?_)
  · unfold Reg.One
    have hcv := conv_read hF.2.2.2.1
    go_wp2_with fail
    exact ⟨_, rfl, ⟨(), rfl, trivial⟩, Reg.Ext.refl _⟩
  simp only [Act.put, List.setIfInBounds_toArray, List.set_cons_zero, List.set_cons_succ]; (try simp only [List.nil_append]); (try simp only [List.cons_append]); (try simp only [id])
  repeat (refine' Reg.pass_is _ (by rfl) (fun wz => ?_) ?_; rotate_left; (go_simp; first | rfl | rw [if_neg (by omega)]); simp only [Act.put, List.setIfInBounds_toArray, List.set_cons_zero, List.set_cons_succ]; (try simp only [List.nil_append]); (try simp only [List.cons_append]))
  refine Reg.pass_minor (by rfl) (fun wz hI hF => ?_) (fun x8 => ?_)
  · unfold Reg.One
    go_wp2_with fail
    exact ⟨_, rfl, ⟨wz.heap.size, rfl, hI.size, Or.inl (heap_alloc_new wz _)⟩, (Below.refl _ _).alloc (Nat.le_refl _) _⟩
  simp only [Act.put, List.setIfInBounds_toArray, List.set_cons_zero, List.set_cons_succ]; (try simp only [List.nil_append]); (try simp only [List.cons_append]); (try simp only [id])
  refine Reg.pass_major (by rfl) (fun wz hI hS hF => ?_) (fun x9 => ?_)
  · unfold Reg.One
    obtain ⟨w9, hrun, hmk, hlit⟩ := run_mark hF.2.2.2.2.2.2.2.2.1
    go_wp2_with fail
    exact ⟨_, rfl, ⟨⟨_, rfl⟩, SLit.one hlit _⟩, hmk⟩
  simp only [Act.put, List.setIfInBounds_toArray, List.set_cons_zero, List.set_cons_succ]; (try simp only [List.nil_append]); (try simp only [List.cons_append]); (try simp only [id])
  repeat (refine' Reg.pass_is _ (by rfl) (fun wz => ?_) ?_; rotate_left; (go_simp; first | rfl | rw [if_neg (by omega)]); simp only [Act.put, List.setIfInBounds_toArray, List.set_cons_zero, List.set_cons_succ]; (try simp only [List.nil_append]); (try simp only [List.cons_append]))
  refine Reg.pass_pinned (by rfl) (fun wz hI hS hF => ?_) (fun x11 => ?_)
  · unfold Reg.One
    obtain ⟨hbuf, hrd⟩ := SLit.buf hS rfl wz.heap.size
    go_wp2_with (go_at_call 9; go_must (refine (Sign_lit a0 h0 _ _ hbuf).mono ?_); rintro e w1 ⟨v1, rfl, hown1, hbl1⟩)
    exact ⟨_, rfl, ⟨_, rfl, hown1⟩, hbl1⟩
  simp only [Act.put, List.setIfInBounds_toArray, List.set_cons_zero, List.set_cons_succ]; (try simp only [List.nil_append]); (try simp only [List.cons_append]); (try simp only [id])
  refine Reg.pass_minor (by rfl) (fun wz hI hF => ?_) (fun x12 => ?_)
  · unfold Reg.One
    have hcv := conv_read hF.2.2.2.2.2.2.2.2.2.2.2.1
    go_wp2_with fail
    exact ⟨_, rfl, ⟨(), rfl, trivial⟩, Reg.Ext.refl _⟩
  simp only [Act.put, List.setIfInBounds_toArray, List.set_cons_zero, List.set_cons_succ]; (try simp only [List.nil_append]); (try simp only [List.cons_append]); (try simp only [id])
  repeat (refine' Reg.pass_is _ (by rfl) (fun wz => ?_) ?_; rotate_left; (go_simp; first | rfl | rw [if_neg (by omega)]); simp only [Act.put, List.setIfInBounds_toArray, List.set_cons_zero, List.set_cons_succ]; (try simp only [List.nil_append]); (try simp only [List.cons_append]))
  refine Reg.pass_minor (by rfl) (fun wz hI hF => ?_) (fun x14 => ?_)
  · unfold Reg.One
    go_wp2_with (go_at_call 10; go_must (refine (zig_any a0 wz h0).mono ?_); rintro e w1 ⟨rfl, rfl⟩)
    exact ⟨_, rfl, ⟨(), rfl, trivial⟩, Reg.Ext.refl _⟩
  simp only [Act.put, List.setIfInBounds_toArray, List.set_cons_zero, List.set_cons_succ]; (try simp only [List.nil_append]); (try simp only [List.cons_append]); (try simp only [id])
  refine Reg.pass_minor (by rfl) (fun wz hI hF => ?_) (fun x15 => ?_)
  · unfold Reg.One
    go_wp2_with (go_at_call 7; go_must (refine (raw_any (zg a0) HZ0.out wz).mono ?_); rintro e w1 ⟨rfl, hbl1⟩)
    exact ⟨_, rfl, ⟨(), rfl, trivial⟩, hbl1⟩
  simp only [Act.put, List.setIfInBounds_toArray, List.set_cons_zero, List.set_cons_succ]; (try simp only [List.nil_append]); (try simp only [List.cons_append]); (try simp only [id])
  repeat (refine' Reg.pass_is _ (by rfl) (fun wz => ?_) ?_; rotate_left; (go_simp; first | rfl | rw [if_neg (by omega)]); simp only [Act.put, List.setIfInBounds_toArray, List.set_cons_zero, List.set_cons_succ]; (try simp only [List.nil_append]); (try simp only [List.cons_append]))
  refine Reg.pass_end ?_
  intro w3 HB3 _ _
  show wpList _ _ _ [] _ _
  have HB := HB3
  clear HB3
  go_wp2_with fail
  refine Reg.region_mk 26 81 [[], [true], [false, false], [false, false, false], [false, false, true, true], [true, true, true, true, true], [true, true, true, true, true, true], [false, false, false, false, false, false, false], [true, true, true, true, true, true, false, true], [true, true, true, true, true, true, false, true, true], [true, true, true, true, true, true, false, true, true, true], [false, false, false, false, false, false, false, false, false, false, false], [true, true, true, true, true, true, false, true, true, true, false, true], [true, true, true, true, true, true, false, true, true, true, false, true, true], [true, true, true, true, true, true, false, true, true, true, true, true, true, true], [true, true, true, true, true, true, true, true, true, true, true, true, true, true, true], [true, true, true, true, true, true, true, true, true, true, true, true, true, true, true, true], [true, true, true, true, true, true, true, true, true, true, true, true, true, true, true, true, true], [true, true, true, true, true, true, true, true, true, true, true, true, true, true, true, true, true, true], [true, true, true, true, true, true, true, true, true, true, true, true, true, true, true, true, true, false, false], [true, true, true, true, true, true, true, true, true, true, true, true, true, true, true, true, true, true, true, true], [true, true, true, true, true, true, true, true, true, true, true, true, true, true, true, true, true, true, true, true, true], [true, true, true, true, true, true, true, true, true, true, true, true, true, true, true, true, true, false, false, false, false, false], [true, true, true, true, true, true, true, true, true, true, true, true, true, true, true, true, true, false, false, false, false, false, true], [true, true, true, true, true, true, true, true, true, true, true, true, true, true, true, true, true, true, true, true, true, true, true, true], [true, true, true, true, true, true, true, true, true, true, true, true, true, true, true, true, true, true, true, true, true, true, true, true, true]] [1, 3, 0, 0, 1, 2, 1, 0, 1, 1, 0, 0, 1, 1, 0, 0, 0, 1, 3, 0, 2, 1, 0, 0, 0, 0]
    [.minor Nat 0 litVal (fun g w1 => LitAt w.heap.size w1 g), .major Nat 0 litVal, .pure, .pure, .minor Nat 0 numsVal (fun g w1 => NumsAt w1 g a0 a1), .pinned Value undef id (fun v w => BRead w v (120 :: (enc (zg a0) ++ enc (zg a1)))), .minor Unit () (fun _ => .string (str (120 :: (enc (zg a0) ++ enc (zg a1))))) (fun _ _ => True), .pure, .minor Unit () (fun _ => .int .u64 (zg a0)) (fun _ _ => True), .minor Unit () (fun _ => .string (str (enc (zg a0)))) (fun _ _ => True), .pure, .pure, .minor Unit () (fun _ => .int .u64 (zg a1)) (fun _ _ => True), .minor Unit () (fun _ => .string (str (enc (zg a1)))) (fun _ _ => True), .pure, .pure, .pure, .minor Nat 0 litVal (fun g w1 => LitAt w.heap.size w1 g), .major Nat 0 litVal, .pure, .pinned Value undef id (fun v w => BRead w v ([120, 0])), .minor Unit () (fun _ => .string (str ([120, 0]))) (fun _ _ => True), .pure, .pure, .pure, .pure]
    (fun W => Below w.heap.size w W) (SLit w.heap.size) (Marked w.heap.size) (by kernel_rfl) (by kernel_rfl) rfl rfl SLit.ext ?_ ?_ ?_ ?_ (SLit.nil _ _) ?_
  · intro w1 w2 he hb; exact hb.trans (he.mono hb.size)
  · intro w1 w2 hm hb; exact hb.trans hm.below
  · refine ⟨⟨?_, ?_⟩, trivial, trivial, trivial, ⟨?_, ?_⟩, ⟨?_, ?_⟩, ⟨?_, ?_⟩, trivial, ⟨?_, ?_⟩, ⟨?_, ?_⟩, trivial, trivial, ⟨?_, ?_⟩, ⟨?_, ?_⟩, trivial, trivial, trivial, ⟨?_, ?_⟩, trivial, trivial, ⟨?_, ?_⟩, ⟨?_, ?_⟩, trivial, trivial, trivial, trivial, trivial⟩
    all_goals (intro x w1 w2 hk hx; first | exact trivial | exact LitAt.ext hx hk | exact LitAt.marked hx hk | exact NumsAt.keeps hx (Keeps.of_ext hk) | exact NumsAt.keeps hx (Marked.keeps hk) | exact BRead.keeps hx (Keeps.of_ext hk) | exact BRead.keeps hx (Marked.keeps hk))
  · exact HB.drew
  dsimp only [Reg.mk, List.zip, List.zipWith, List.take]
  refine Reg.pass_minor (by rfl) (fun wz hI hF => ?_) (fun x0 => ?_)
  · unfold Reg.One
    go_wp2_with fail
    exact ⟨_, rfl, ⟨wz.heap.size, rfl, hI.size, Or.inl (heap_alloc_new wz _)⟩, (Below.refl _ _).alloc (Nat.le_refl _) _⟩
  simp only [Act.put, List.setIfInBounds_toArray, List.set_cons_zero, List.set_cons_succ]; (try simp only [List.nil_append]); (try simp only [List.cons_append]); (try simp only [id])
  refine Reg.pass_major (by rfl) (fun wz hI hS hF => ?_) (fun x1 => ?_)
  · unfold Reg.One
    obtain ⟨w9, hrun, hmk, hlit⟩ := run_mark hF.1
    go_wp2_with fail
    exact ⟨_, rfl, ⟨⟨_, rfl⟩, SLit.one hlit _⟩, hmk⟩
  simp only [Act.put, List.setIfInBounds_toArray, List.set_cons_zero, List.set_cons_succ]; (try simp only [List.nil_append]); (try simp only [List.cons_append]); (try simp only [id])
  repeat (refine' Reg.pass_is _ (by rfl) (fun wz => ?_) ?_; rotate_left; (go_simp; first | rfl | rw [if_neg (by omega)]); simp only [Act.put, List.setIfInBounds_toArray, List.set_cons_zero, List.set_cons_succ]; (try simp only [List.nil_append]); (try simp only [List.cons_append]))
  refine Reg.pass_minor (by rfl) (fun wz hI hF => ?_) (fun x4 => ?_)
  · unfold Reg.One
    go_wp2_with fail
    exact ⟨_, rfl, ⟨wz.heap.size, rfl, NumsAt.new wz a0 a1⟩, (Below.refl _ _).alloc (Nat.le_refl _) _⟩
  simp only [Act.put, List.setIfInBounds_toArray, List.set_cons_zero, List.set_cons_succ]; (try simp only [List.nil_append]); (try simp only [List.cons_append]); (try simp only [id])
  refine Reg.pass_pinned (by rfl) (fun wz hI hS hF => ?_) (fun x5 => ?_)
  · unfold Reg.One
    obtain ⟨hbuf, hrd⟩ := SLit.buf hS rfl wz.heap.size
    have hnum : NumsAt wz x4 a0 a1 := hF.2.2.2.2.1
    go_wp2_with (go_at_call 11; go_must (refine (All_lit a0 a1 h0 h1 _ _ _ hbuf hnum).mono ?_); rintro e w1 ⟨v1, rfl, hown1, hbl1⟩)
    exact ⟨_, rfl, ⟨_, rfl, hown1⟩, hbl1⟩
  simp only [Act.put, List.setIfInBounds_toArray, List.set_cons_zero, List.set_cons_succ]; (try simp only [List.nil_append]); (try simp only [List.cons_append]); (try simp only [id])
  refine Reg.pass_minor (by rfl) (fun wz hI hF => ?_) (fun x6 => ?_)
  · unfold Reg.One
    have hcv := conv_read hF.2.2.2.2.2.1
    go_wp2_with fail
    exact ⟨_, rfl, ⟨(), rfl, trivial⟩, Reg.Ext.refl _⟩
  simp only [Act.put, List.setIfInBounds_toArray, List.set_cons_zero, List.set_cons_succ]; (try simp only [List.nil_append]); (try simp only [List.cons_append]); (try simp only [id])
  repeat (refine' Reg.pass_is _ (by rfl) (fun wz => ?_) ?_; rotate_left; (go_simp; first | rfl | rw [if_neg (by omega)]); simp only [Act.put, List.setIfInBounds_toArray, List.set_cons_zero, List.set_cons_succ]; (try simp only [List.nil_append]); (try simp only [List.cons_append]))
  refine Reg.pass_minor (by rfl) (fun wz hI hF => ?_) (fun x8 => ?_)
  · unfold Reg.One
    go_wp2_with (go_at_call 10; go_must (refine (zig_any a0 wz h0).mono ?_); rintro e w1 ⟨rfl, rfl⟩)
    exact ⟨_, rfl, ⟨(), rfl, trivial⟩, Reg.Ext.refl _⟩
  simp only [Act.put, List.setIfInBounds_toArray, List.set_cons_zero, List.set_cons_succ]; (try simp only [List.nil_append]); (try simp only [List.cons_append]); (try simp only [id])
  refine Reg.pass_minor (by rfl) (fun wz hI hF => ?_) (fun x9 => ?_)
  · unfold Reg.One
    go_wp2_with (go_at_call 7; go_must (refine (raw_any (zg a0) HZ0.out wz).mono ?_); rintro e w1 ⟨rfl, hbl1⟩)
    exact ⟨_, rfl, ⟨(), rfl, trivial⟩, hbl1⟩
  simp only [Act.put, List.setIfInBounds_toArray, List.set_cons_zero, List.set_cons_succ]; (try simp only [List.nil_append]); (try simp only [List.cons_append]); (try simp only [id])
  repeat (refine' Reg.pass_is _ (by rfl) (fun wz => ?_) ?_; rotate_left; (go_simp; first | rfl | rw [if_neg (by omega)]); simp only [Act.put, List.setIfInBounds_toArray, List.set_cons_zero, List.set_cons_succ]; (try simp only [List.nil_append]); (try simp only [List.cons_append]))
  refine Reg.pass_minor (by rfl) (fun wz hI hF => ?_) (fun x12 => ?_)
  · unfold Reg.One
    go_wp2_with (go_at_call 10; go_must (refine (zig_any a1 wz h1).mono ?_); rintro e w1 ⟨rfl, rfl⟩)
    exact ⟨_, rfl, ⟨(), rfl, trivial⟩, Reg.Ext.refl _⟩
  simp only [Act.put, List.setIfInBounds_toArray, List.set_cons_zero, List.set_cons_succ]; (try simp only [List.nil_append]); (try simp only [List.cons_append]); (try simp only [id])
  refine Reg.pass_minor (by rfl) (fun wz hI hF => ?_) (fun x13 => ?_)
  · unfold Reg.One
    go_wp2_with (go_at_call 7; go_must (refine (raw_any (zg a1) HZ1.out wz).mono ?_); rintro e w1 ⟨rfl, hbl1⟩)
    exact ⟨_, rfl, ⟨(), rfl, trivial⟩, hbl1⟩
  simp only [Act.put, List.setIfInBounds_toArray, List.set_cons_zero, List.set_cons_succ]; (try simp only [List.nil_append]); (try simp only [List.cons_append]); (try simp only [id])
  repeat (refine' Reg.pass_is _ (by rfl) (fun wz => ?_) ?_; rotate_left; (go_simp; first | rfl | rw [if_neg (by omega)]); simp only [Act.put, List.setIfInBounds_toArray, List.set_cons_zero, List.set_cons_succ]; (try simp only [List.nil_append]); (try simp only [List.cons_append]))
  refine Reg.pass_minor (by rfl) (fun wz hI hF => ?_) (fun x17 => ?_)
  · unfold Reg.One
    go_wp2_with fail
    exact ⟨_, rfl, ⟨wz.heap.size, rfl, hI.size, Or.inl (heap_alloc_new wz _)⟩, (Below.refl _ _).alloc (Nat.le_refl _) _⟩
  simp only [Act.put, List.setIfInBounds_toArray, List.set_cons_zero, List.set_cons_succ]; (try simp only [List.nil_append]); (try simp only [List.cons_append]); (try simp only [id])
  refine Reg.pass_major (by rfl) (fun wz hI hS hF => ?_) (fun x18 => ?_)
  · unfold Reg.One
    obtain ⟨w9, hrun, hmk, hlit⟩ := run_mark hF.2.2.2.2.2.2.2.2.2.2.2.2.2.2.2.2.2.1
    go_wp2_with fail
    exact ⟨_, rfl, ⟨⟨_, rfl⟩, SLit.one hlit _⟩, hmk⟩
  simp only [Act.put, List.setIfInBounds_toArray, List.set_cons_zero, List.set_cons_succ]; (try simp only [List.nil_append]); (try simp only [List.cons_append]); (try simp only [id])
  repeat (refine' Reg.pass_is _ (by rfl) (fun wz => ?_) ?_; rotate_left; (go_simp; first | rfl | rw [if_neg (by omega)]); simp only [Act.put, List.setIfInBounds_toArray, List.set_cons_zero, List.set_cons_succ]; (try simp only [List.nil_append]); (try simp only [List.cons_append]))
  refine Reg.pass_pinned (by rfl) (fun wz hI hS hF => ?_) (fun x20 => ?_)
  · unfold Reg.One
    obtain ⟨hbuf, hrd⟩ := SLit.buf hS rfl wz.heap.size
    go_wp2_with (go_at_call 12; go_must (refine (Bool_lit _ _ _ hbuf).mono ?_); rintro e w1 ⟨v1, rfl, hown1, hbl1⟩)
    exact ⟨_, rfl, ⟨_, rfl, hown1⟩, hbl1⟩
  simp only [Act.put, List.setIfInBounds_toArray, List.set_cons_zero, List.set_cons_succ]; (try simp only [List.nil_append]); (try simp only [List.cons_append]); (try simp only [id])
  refine Reg.pass_minor (by rfl) (fun wz hI hF => ?_) (fun x21 => ?_)
  · unfold Reg.One
    have hcv := conv_read hF.2.2.2.2.2.2.2.2.2.2.2.2.2.2.2.2.2.2.2.2.1
    go_wp2_with fail
    exact ⟨_, rfl, ⟨(), rfl, trivial⟩, Reg.Ext.refl _⟩
  simp only [Act.put, List.setIfInBounds_toArray, List.set_cons_zero, List.set_cons_succ]; (try simp only [List.nil_append]); (try simp only [List.cons_append]); (try simp only [id])
  repeat (refine' Reg.pass_is _ (by rfl) (fun wz => ?_) ?_; rotate_left; (go_simp; first | rfl | rw [if_neg (by omega)]); simp only [Act.put, List.setIfInBounds_toArray, List.set_cons_zero, List.set_cons_succ]; (try simp only [List.nil_append]); (try simp only [List.cons_append]))
  refine Reg.pass_end ?_
  intro w3 HB3 _ _
  show wpList _ _ _ [] _ _
  have HB := HB3
  clear HB3
  go_wp2_with fail
  refine Reg.region_mk 16 81 [[], [true], [false, false], [true, true, true], [true, true, true, true], [false, false, false, false, false], [false, false, false, false, false, true], [false, false, false, false, false, true, true], [true, true, true, true, false, true, true, true], [true, true, true, true, false, true, true, true, true], [false, false, false, false, false, false, false, false, false, false], [true, true, true, true, false, true, true, true, true, true, true], [true, true, true, true, true, true, true, true, true, true, true, true], [true, true, true, true, true, true, true, true, true, true, true, true, true], [true, true, true, true, true, true, true, true, true, true, true, true, true, true], [true, true, true, true, true, true, true, true, true, true, true, true, true, true, true]] [1, 3, 0, 2, 1, 0, 0, 0, 1, 0, 0, 0, 0, 0, 1, 0]
    [.minor Nat 0 litVal (fun g w1 => LitAt w.heap.size w1 g), .major Nat 0 litVal, .pure, .pinned Value undef id (fun v w => BRead w v (120 :: (enc (cut200 s).size ++ tb (cut200 s)))), .minor Unit () (fun _ => .string (str (120 :: (enc (cut200 s).size ++ tb (cut200 s))))) (fun _ _ => True), .pure, .pure, .pure, .minor Unit () (fun _ => .string (str (enc (cut200 s).size))) (fun _ _ => True), .pure, .pure, .pure, .pure, .pure, .minor Unit () (fun _ => .bool true) (fun _ _ => True), .pure]
    (fun W => Below w.heap.size w W) (SLit w.heap.size) (Marked w.heap.size) (by kernel_rfl) (by kernel_rfl) rfl rfl SLit.ext ?_ ?_ ?_ ?_ (SLit.nil _ _) ?_
  · intro w1 w2 he hb; exact hb.trans (he.mono hb.size)
  · intro w1 w2 hm hb; exact hb.trans hm.below
  · refine ⟨⟨?_, ?_⟩, trivial, trivial, ⟨?_, ?_⟩, ⟨?_, ?_⟩, trivial, trivial, trivial, ⟨?_, ?_⟩, trivial, trivial, trivial, trivial, trivial, ⟨?_, ?_⟩, trivial, trivial⟩
    all_goals (intro x w1 w2 hk hx; first | exact trivial | exact LitAt.ext hx hk | exact LitAt.marked hx hk | exact NumsAt.keeps hx (Keeps.of_ext hk) | exact NumsAt.keeps hx (Marked.keeps hk) | exact BRead.keeps hx (Keeps.of_ext hk) | exact BRead.keeps hx (Marked.keeps hk))
  · exact HB.drew
  dsimp only [Reg.mk, List.zip, List.zipWith, List.take]
  refine Reg.pass_minor (by rfl) (fun wz hI hF => ?_) (fun x0 => ?_)
  · unfold Reg.One
    go_wp2_with fail
    exact ⟨_, rfl, ⟨wz.heap.size, rfl, hI.size, Or.inl (heap_alloc_new wz _)⟩, (Below.refl _ _).alloc (Nat.le_refl _) _⟩
  simp only [Act.put, List.setIfInBounds_toArray, List.set_cons_zero, List.set_cons_succ]; (try simp only [List.nil_append]); (try simp only [List.cons_append]); (try simp only [id])
  refine Reg.pass_major (by rfl) (fun wz hI hS hF => ?_) (fun x1 => ?_)
  · unfold Reg.One
    obtain ⟨w9, hrun, hmk, hlit⟩ := run_mark hF.1
    go_wp2_with fail
    exact ⟨_, rfl, ⟨⟨_, rfl⟩, SLit.one hlit _⟩, hmk⟩
  simp only [Act.put, List.setIfInBounds_toArray, List.set_cons_zero, List.set_cons_succ]; (try simp only [List.nil_append]); (try simp only [List.cons_append]); (try simp only [id])
  repeat (refine' Reg.pass_is _ (by rfl) (fun wz => ?_) ?_; rotate_left; (go_simp; first | rfl | rw [if_neg (by omega)]); simp only [Act.put, List.setIfInBounds_toArray, List.set_cons_zero, List.set_cons_succ]; (try simp only [List.nil_append]); (try simp only [List.cons_append]))
  refine Reg.pass_pinned (by rfl) (fun wz hI hS hF => ?_) (fun x3 => ?_)
  · unfold Reg.One
    obtain ⟨hbuf, hrd⟩ := SLit.buf hS rfl wz.heap.size
    go_wp2_with (go_at_call 13; go_must (refine (Text_lit (cut200 s) hcs _ _ hbuf).mono ?_); rintro e w1 ⟨v1, rfl, hown1, hbl1⟩)
    exact ⟨_, rfl, ⟨_, rfl, hown1⟩, hbl1⟩
  simp only [Act.put, List.setIfInBounds_toArray, List.set_cons_zero, List.set_cons_succ]; (try simp only [List.nil_append]); (try simp only [List.cons_append]); (try simp only [id])
  refine Reg.pass_minor (by rfl) (fun wz hI hF => ?_) (fun x4 => ?_)
  · unfold Reg.One
    have hcv := conv_read hF.2.2.2.1
    go_wp2_with fail
    exact ⟨_, rfl, ⟨(), rfl, trivial⟩, Reg.Ext.refl _⟩
  simp only [Act.put, List.setIfInBounds_toArray, List.set_cons_zero, List.set_cons_succ]; (try simp only [List.nil_append]); (try simp only [List.cons_append]); (try simp only [id])
  repeat (refine' Reg.pass_is _ (by rfl) (fun wz => ?_) ?_; rotate_left; (go_simp; first | rfl | rw [if_neg (by omega)]); simp only [Act.put, List.setIfInBounds_toArray, List.set_cons_zero, List.set_cons_succ]; (try simp only [List.nil_append]); (try simp only [List.cons_append]))
  refine Reg.pass_minor (by rfl) (fun wz hI hF => ?_) (fun x8 => ?_)
  · unfold Reg.One
    go_wp2_with (go_at_call 7; go_must (refine (raw_any (cut200 s).size (by omega) wz).mono ?_); rintro e w1 ⟨rfl, hbl1⟩)
    exact ⟨_, rfl, ⟨(), rfl, trivial⟩, hbl1⟩
  simp only [Act.put, List.setIfInBounds_toArray, List.set_cons_zero, List.set_cons_succ]; (try simp only [List.nil_append]); (try simp only [List.cons_append]); (try simp only [id])
  repeat (refine' Reg.pass_is _ (by rfl) (fun wz => ?_) ?_; rotate_left; (go_simp; first | rfl | rw [if_neg (by omega)]); simp only [Act.put, List.setIfInBounds_toArray, List.set_cons_zero, List.set_cons_succ]; (try simp only [List.nil_append]); (try simp only [List.cons_append]))
  refine Reg.pass_minor (by rfl) (fun wz hI hF => ?_) (fun x14 => ?_)
  · unfold Reg.One
    go_wp2_with (go_at_call 14; go_must (refine (awake_any wz).mono ?_); rintro e w1 ⟨rfl, hbl1⟩)
    exact ⟨_, rfl, ⟨(), rfl, trivial⟩, hbl1⟩
  simp only [Act.put, List.setIfInBounds_toArray, List.set_cons_zero, List.set_cons_succ]; (try simp only [List.nil_append]); (try simp only [List.cons_append]); (try simp only [id])
  repeat (refine' Reg.pass_is _ (by rfl) (fun wz => ?_) ?_; rotate_left; (go_simp; first | rfl | rw [if_neg (by omega)]); simp only [Act.put, List.setIfInBounds_toArray, List.set_cons_zero, List.set_cons_succ]; (try simp only [List.nil_append]); (try simp only [List.cons_append]))
  refine Reg.pass_end ?_
  intro w3 HB3 _ _
  go_wp2_with fail
  go_ret
  exact ⟨rfl, HB3⟩

set_option maxHeartbeats 2000000 in
set_option maxRecDepth 100000 in
theorem puts_pos_t (a0 : Int) (a1 : Int) (s : ByteArray) (hsign : 0 ≤ a0) (h0 : -9223372036854775808 ≤ a0 ∧ a0 ≤ 9223372036854775807) (h1 : -9223372036854775808 ≤ a1 ∧ a1 ≤ 9223372036854775807) (hs : s.size ≤ maxLen) (w : World) :
    Calls Try.prog 3 #[.int .i64 a0, .int .i64 a1, .bool true, .string s] w fun e w' => e = .returned (.bool true) ∧ Below w.heap.size w w' := by
  have hcs : (cut200 s).size ≤ 200 := cut200_size s
  have hs' : s.size ≤ 9223372036854775807 := by unfold maxLen at hs; omega
  clear hs
  have HZ0 := Lib.hid (zg_lt h0)
  have HZ1 := Lib.hid (zg_lt h1)
  have hcat := lit_cat
  have hcut := str_cut (cut200 s)
  have hone0 : ({ data := #[120] } : ByteArray) ++ { data := #[0] } = str [120, 0] := by decide
  have hone1 : ({ data := #[120] } : ByteArray) ++ { data := #[1] } = str [120, 1] := by decide
  have hcat2 := str_cat
  have hsz := str_size
  have hl0 := (enc_length (zg a0)).2
  have hl1 := (enc_length (zg a1)).2
  have hl2 := (enc_length (cut200 s).size).2
  have htl := str_toList
  have hp : (putP a0).length ≤ 10 := by unfold putP; split <;> first | exact (enc_length _).2 | simp
  have hP : putP a0 = enc a0.toNat := by unfold putP; rw [if_neg (by omega)]
  have hPl := (enc_length a0.toNat).2
  have hun : IntKind.u64.wrap a0 = a0 := by rw [IntKind.wrap_u64]; omega
  go_enter Try.func3, Try.ntmps3
  go_wp2_with (first | (go_at_call 6; go_must (refine (cut_any s hs' _).mono ?_); rintro e w1 ⟨rfl, rfl⟩) | (go_at_call 7; go_must (refine (raw_i a0 ⟨hsign, h0.2⟩ w).mono ?_); rintro e wq ⟨rfl, hbq⟩))
  have HB : Below w.heap.size w wq := hbq
  refine Reg.region_mk 19 81 [[], [true], [false, false], [true, true, true], [true, true, true, true], [false, false, false, false, false], [true, true, true, true, true, true], [true, true, true, true, true, true, true], [true, true, true, true, true, true, true, true], [true, true, true, true, true, true, true, true, true], [true, true, true, true, true, true, true, true, false, false], [true, true, true, true, true, true, true, true, true, true, true], [true, true, true, true, true, true, true, true, true, true, true, true], [true, true, true, true, true, true, true, true, false, false, false, false, false], [true, true, true, true, true, true, true, true, true, true, true, true, false, true], [true, true, true, true, true, true, true, true, true, true, true, true, false, true, true], [true, true, true, true, true, true, true, true, true, true, true, true, false, true, true, true], [true, true, true, true, true, true, true, true, true, true, true, true, true, true, true, true, true], [true, true, true, true, true, true, true, true, true, true, true, true, true, true, true, true, true, true]] [1, 3, 0, 2, 1, 0, 0, 0, 1, 3, 0, 2, 1, 0, 1, 1, 0, 0, 0]
    [.minor Nat 0 litVal (fun g w1 => LitAt w.heap.size w1 g), .major Nat 0 litVal, .pure, .pinned Value undef id (fun v w => BRead w v (120 :: enc a0.toNat)), .minor Unit () (fun _ => .string (str (120 :: enc a0.toNat))) (fun _ _ => True), .pure, .pure, .pure, .minor Nat 0 litVal (fun g w1 => LitAt w.heap.size w1 g), .major Nat 0 litVal, .pure, .pinned Value undef id (fun v w => BRead w v (120 :: enc (zg a0))), .minor Unit () (fun _ => .string (str (120 :: enc (zg a0)))) (fun _ _ => True), .pure, .minor Unit () (fun _ => .int .u64 (zg a0)) (fun _ _ => True), .minor Unit () (fun _ => .string (str (enc (zg a0)))) (fun _ _ => True), .pure, .pure, .pure]
    (fun W => Below w.heap.size w W) (SLit w.heap.size) (Marked w.heap.size) (by kernel_rfl) (by kernel_rfl) rfl rfl SLit.ext ?_ ?_ ?_ ?_ (SLit.nil _ _) ?_
  · intro w1 w2 he hb; exact hb.trans (he.mono hb.size)
  · intro w1 w2 hm hb; exact hb.trans hm.below
  · refine ⟨⟨?_, ?_⟩, trivial, trivial, ⟨?_, ?_⟩, ⟨?_, ?_⟩, trivial, trivial, trivial, ⟨?_, ?_⟩, trivial, trivial, ⟨?_, ?_⟩, ⟨?_, ?_⟩, trivial, ⟨?_, ?_⟩, ⟨?_, ?_⟩, trivial, trivial, trivial, trivial⟩
    all_goals (intro x w1 w2 hk hx; first | exact trivial | exact LitAt.ext hx hk | exact LitAt.marked hx hk | exact NumsAt.keeps hx (Keeps.of_ext hk) | exact NumsAt.keeps hx (Marked.keeps hk) | exact BRead.keeps hx (Keeps.of_ext hk) | exact BRead.keeps hx (Marked.keeps hk))
  · exact HB.drew
  dsimp only [Reg.mk, List.zip, List.zipWith, List.take]
  refine Reg.pass_minor (by rfl) (fun wz hI hF => ?_) (fun x0 => ?_)
  · unfold Reg.One
    go_wp2_with fail
    exact ⟨_, rfl, ⟨wz.heap.size, rfl, hI.size, Or.inl (heap_alloc_new wz _)⟩, (Below.refl _ _).alloc (Nat.le_refl _) _⟩
  simp only [Act.put, List.setIfInBounds_toArray, List.set_cons_zero, List.set_cons_succ]; (try simp only [List.nil_append]); (try simp only [List.cons_append]); (try simp only [id])
  refine Reg.pass_major (by rfl) (fun wz hI hS hF => ?_) (fun x1 => ?_)
  · unfold Reg.One
    obtain ⟨w9, hrun, hmk, hlit⟩ := run_mark hF.1
    go_wp2_with fail
    exact ⟨_, rfl, ⟨⟨_, rfl⟩, SLit.one hlit _⟩, hmk⟩
  simp only [Act.put, List.setIfInBounds_toArray, List.set_cons_zero, List.set_cons_succ]; (try simp only [List.nil_append]); (try simp only [List.cons_append]); (try simp only [id])
  repeat (refine' Reg.pass_is _ (by rfl) (fun wz => ?_) ?_; rotate_left; (go_simp; first | rfl | rw [if_neg (by omega)]); simp only [Act.put, List.setIfInBounds_toArray, List.set_cons_zero, List.set_cons_succ]; (try simp only [List.nil_append]); (try simp only [List.cons_append]))
  refine Reg.pass_pinned (by rfl) (fun wz hI hS hF => ?_) (fun x3 => ?_)
  · unfold Reg.One
    obtain ⟨hbuf, hrd⟩ := SLit.buf hS rfl wz.heap.size
    go_wp2_with (go_at_call 8; go_must (refine (Put_lit a0 h0 _ _ hbuf hrd).mono ?_); rintro e w1 ⟨v1, rfl, hown1, hbl1⟩)
    rw [hP] at hown1
    exact ⟨_, rfl, ⟨_, rfl, hown1⟩, hbl1⟩
  simp only [Act.put, List.setIfInBounds_toArray, List.set_cons_zero, List.set_cons_succ]; (try simp only [List.nil_append]); (try simp only [List.cons_append]); (try simp only [id])
  refine Reg.pass_minor (by rfl) (fun wz hI hF => ?_) (fun x4 => ?_)
  · unfold Reg.One
    have hcv := conv_read hF.2.2.2.1
    go_wp2_with fail
    exact ⟨_, rfl, ⟨(), rfl, trivial⟩, Reg.Ext.refl _⟩
  simp only [Act.put, List.setIfInBounds_toArray, List.set_cons_zero, List.set_cons_succ]; (try simp only [List.nil_append]); (try simp only [List.cons_append]); (try simp only [id])
  repeat (refine' Reg.pass_is _ (by rfl) (fun wz => ?_) ?_; rotate_left; (go_simp; first | rfl | rw [if_neg (by omega)]); simp only [Act.put, List.setIfInBounds_toArray, List.set_cons_zero, List.set_cons_succ]; (try simp only [List.nil_append]); (try simp only [List.cons_append]))
  refine Reg.pass_minor (by rfl) (fun wz hI hF => ?_) (fun x8 => ?_)
  · unfold Reg.One
    go_wp2_with fail
    exact ⟨_, rfl, ⟨wz.heap.size, rfl, hI.size, Or.inl (heap_alloc_new wz _)⟩, (Below.refl _ _).alloc (Nat.le_refl _) _⟩
  simp only [Act.put, List.setIfInBounds_toArray, List.set_cons_zero, List.set_cons_succ]; (try simp only [List.nil_append]); (try simp only [List.cons_append]); (try simp only [id])
  refine Reg.pass_major (by rfl) (fun wz hI hS hF => ?_) (fun x9 => ?_)
  · unfold Reg.One
    obtain ⟨w9, hrun, hmk, hlit⟩ := run_mark hF.2.2.2.2.2.2.2.2.1
    go_wp2_with fail
    exact ⟨_, rfl, ⟨⟨_, rfl⟩, SLit.one hlit _⟩, hmk⟩
  simp only [Act.put, List.setIfInBounds_toArray, List.set_cons_zero, List.set_cons_succ]; (try simp only [List.nil_append]); (try simp only [List.cons_append]); (try simp only [id])
  repeat (refine' Reg.pass_is _ (by rfl) (fun wz => ?_) ?_; rotate_left; (go_simp; first | rfl | rw [if_neg (by omega)]); simp only [Act.put, List.setIfInBounds_toArray, List.set_cons_zero, List.set_cons_succ]; (try simp only [List.nil_append]); (try simp only [List.cons_append]))
  refine Reg.pass_pinned (by rfl) (fun wz hI hS hF => ?_) (fun x11 => ?_)
  · unfold Reg.One
    obtain ⟨hbuf, hrd⟩ := SLit.buf hS rfl wz.heap.size
    go_wp2_with (go_at_call 9; go_must (refine (Sign_lit a0 h0 _ _ hbuf).mono ?_); rintro e w1 ⟨v1, rfl, hown1, hbl1⟩)
    exact ⟨_, rfl, ⟨_, rfl, hown1⟩, hbl1⟩
  simp only [Act.put, List.setIfInBounds_toArray, List.set_cons_zero, List.set_cons_succ]; (try simp only [List.nil_append]); (try simp only [List.cons_append]); (try simp only [id])
  refine Reg.pass_minor (by rfl) (fun wz hI hF => ?_) (fun x12 => ?_)
  · unfold Reg.One
    have hcv := conv_read hF.2.2.2.2.2.2.2.2.2.2.2.1
    go_wp2_with fail
    exact ⟨_, rfl, ⟨(), rfl, trivial⟩, Reg.Ext.refl _⟩
  simp only [Act.put, List.setIfInBounds_toArray, List.set_cons_zero, List.set_cons_succ]; (try simp only [List.nil_append]); (try simp only [List.cons_append]); (try simp only [id])
  repeat (refine' Reg.pass_is _ (by rfl) (fun wz => ?_) ?_; rotate_left; (go_simp; first | rfl | rw [if_neg (by omega)]); simp only [Act.put, List.setIfInBounds_toArray, List.set_cons_zero, List.set_cons_succ]; (try simp only [List.nil_append]); (try simp only [List.cons_append]))
  refine Reg.pass_minor (by rfl) (fun wz hI hF => ?_) (fun x14 => ?_)
  · unfold Reg.One
    go_wp2_with (go_at_call 10; go_must (refine (zig_any a0 wz h0).mono ?_); rintro e w1 ⟨rfl, rfl⟩)
    exact ⟨_, rfl, ⟨(), rfl, trivial⟩, Reg.Ext.refl _⟩
  simp only [Act.put, List.setIfInBounds_toArray, List.set_cons_zero, List.set_cons_succ]; (try simp only [List.nil_append]); (try simp only [List.cons_append]); (try simp only [id])
  refine Reg.pass_minor (by rfl) (fun wz hI hF => ?_) (fun x15 => ?_)
  · unfold Reg.One
    go_wp2_with (go_at_call 7; go_must (refine (raw_any (zg a0) HZ0.out wz).mono ?_); rintro e w1 ⟨rfl, hbl1⟩)
    exact ⟨_, rfl, ⟨(), rfl, trivial⟩, hbl1⟩
  simp only [Act.put, List.setIfInBounds_toArray, List.set_cons_zero, List.set_cons_succ]; (try simp only [List.nil_append]); (try simp only [List.cons_append]); (try simp only [id])
  repeat (refine' Reg.pass_is _ (by rfl) (fun wz => ?_) ?_; rotate_left; (go_simp; first | rfl | rw [if_neg (by omega)]); simp only [Act.put, List.setIfInBounds_toArray, List.set_cons_zero, List.set_cons_succ]; (try simp only [List.nil_append]); (try simp only [List.cons_append]))
  refine Reg.pass_end ?_
  intro w3 HB3 _ _
  show wpList _ _ _ [] _ _
  have HB := HB3
  clear HB3
  go_wp2_with fail
  refine Reg.region_mk 26 81 [[], [true], [false, false], [false, false, false], [false, false, true, true], [true, true, true, true, true], [true, true, true, true, true, true], [false, false, false, false, false, false, false], [true, true, true, true, true, true, false, true], [true, true, true, true, true, true, false, true, true], [true, true, true, true, true, true, false, true, true, true], [false, false, false, false, false, false, false, false, false, false, false], [true, true, true, true, true, true, false, true, true, true, false, true], [true, true, true, true, true, true, false, true, true, true, false, true, true], [true, true, true, true, true, true, false, true, true, true, true, true, true, true], [true, true, true, true, true, true, true, true, true, true, true, true, true, true, true], [true, true, true, true, true, true, true, true, true, true, true, true, true, true, true, true], [true, true, true, true, true, true, true, true, true, true, true, true, true, true, true, true, true], [true, true, true, true, true, true, true, true, true, true, true, true, true, true, true, true, true, true], [true, true, true, true, true, true, true, true, true, true, true, true, true, true, true, true, true, false, false], [true, true, true, true, true, true, true, true, true, true, true, true, true, true, true, true, true, true, true, true], [true, true, true, true, true, true, true, true, true, true, true, true, true, true, true, true, true, true, true, true, true], [true, true, true, true, true, true, true, true, true, true, true, true, true, true, true, true, true, false, false, false, false, false], [true, true, true, true, true, true, true, true, true, true, true, true, true, true, true, true, true, false, false, false, false, false, true], [true, true, true, true, true, true, true, true, true, true, true, true, true, true, true, true, true, true, true, true, true, true, true, true], [true, true, true, true, true, true, true, true, true, true, true, true, true, true, true, true, true, true, true, true, true, true, true, true, true]] [1, 3, 0, 0, 1, 2, 1, 0, 1, 1, 0, 0, 1, 1, 0, 0, 0, 1, 3, 0, 2, 1, 0, 0, 0, 0]
    [.minor Nat 0 litVal (fun g w1 => LitAt w.heap.size w1 g), .major Nat 0 litVal, .pure, .pure, .minor Nat 0 numsVal (fun g w1 => NumsAt w1 g a0 a1), .pinned Value undef id (fun v w => BRead w v (120 :: (enc (zg a0) ++ enc (zg a1)))), .minor Unit () (fun _ => .string (str (120 :: (enc (zg a0) ++ enc (zg a1))))) (fun _ _ => True), .pure, .minor Unit () (fun _ => .int .u64 (zg a0)) (fun _ _ => True), .minor Unit () (fun _ => .string (str (enc (zg a0)))) (fun _ _ => True), .pure, .pure, .minor Unit () (fun _ => .int .u64 (zg a1)) (fun _ _ => True), .minor Unit () (fun _ => .string (str (enc (zg a1)))) (fun _ _ => True), .pure, .pure, .pure, .minor Nat 0 litVal (fun g w1 => LitAt w.heap.size w1 g), .major Nat 0 litVal, .pure, .pinned Value undef id (fun v w => BRead w v ([120, 1])), .minor Unit () (fun _ => .string (str ([120, 1]))) (fun _ _ => True), .pure, .pure, .pure, .pure]
    (fun W => Below w.heap.size w W) (SLit w.heap.size) (Marked w.heap.size) (by kernel_rfl) (by kernel_rfl) rfl rfl SLit.ext ?_ ?_ ?_ ?_ (SLit.nil _ _) ?_
  · intro w1 w2 he hb; exact hb.trans (he.mono hb.size)
  · intro w1 w2 hm hb; exact hb.trans hm.below
  · refine ⟨⟨?_, ?_⟩, trivial, trivial, trivial, ⟨?_, ?_⟩, ⟨?_, ?_⟩, ⟨?_, ?_⟩, trivial, ⟨?_, ?_⟩, ⟨?_, ?_⟩, trivial, trivial, ⟨?_, ?_⟩, ⟨?_, ?_⟩, trivial, trivial, trivial, ⟨?_, ?_⟩, trivial, trivial, ⟨?_, ?_⟩, ⟨?_, ?_⟩, trivial, trivial, trivial, trivial, trivial⟩
    all_goals (intro x w1 w2 hk hx; first | exact trivial | exact LitAt.ext hx hk | exact LitAt.marked hx hk | exact NumsAt.keeps hx (Keeps.of_ext hk) | exact NumsAt.keeps hx (Marked.keeps hk) | exact BRead.keeps hx (Keeps.of_ext hk) | exact BRead.keeps hx (Marked.keeps hk))
  · exact HB.drew
  dsimp only [Reg.mk, List.zip, List.zipWith, List.take]
  refine Reg.pass_minor (by rfl) (fun wz hI hF => ?_) (fun x0 => ?_)
  · unfold Reg.One
    go_wp2_with fail
    exact ⟨_, rfl, ⟨wz.heap.size, rfl, hI.size, Or.inl (heap_alloc_new wz _)⟩, (Below.refl _ _).alloc (Nat.le_refl _) _⟩
  simp only [Act.put, List.setIfInBounds_toArray, List.set_cons_zero, List.set_cons_succ]; (try simp only [List.nil_append]); (try simp only [List.cons_append]); (try simp only [id])
  refine Reg.pass_major (by rfl) (fun wz hI hS hF => ?_) (fun x1 => ?_)
  · unfold Reg.One
    obtain ⟨w9, hrun, hmk, hlit⟩ := run_mark hF.1
    go_wp2_with fail
    exact ⟨_, rfl, ⟨⟨_, rfl⟩, SLit.one hlit _⟩, hmk⟩
  simp only [Act.put, List.setIfInBounds_toArray, List.set_cons_zero, List.set_cons_succ]; (try simp only [List.nil_append]); (try simp only [List.cons_append]); (try simp only [id])
  repeat (refine' Reg.pass_is _ (by rfl) (fun wz => ?_) ?_; rotate_left; (go_simp; first | rfl | rw [if_neg (by omega)]); simp only [Act.put, List.setIfInBounds_toArray, List.set_cons_zero, List.set_cons_succ]; (try simp only [List.nil_append]); (try simp only [List.cons_append]))
  refine Reg.pass_minor (by rfl) (fun wz hI hF => ?_) (fun x4 => ?_)
  · unfold Reg.One
    go_wp2_with fail
    exact ⟨_, rfl, ⟨wz.heap.size, rfl, NumsAt.new wz a0 a1⟩, (Below.refl _ _).alloc (Nat.le_refl _) _⟩
  simp only [Act.put, List.setIfInBounds_toArray, List.set_cons_zero, List.set_cons_succ]; (try simp only [List.nil_append]); (try simp only [List.cons_append]); (try simp only [id])
  refine Reg.pass_pinned (by rfl) (fun wz hI hS hF => ?_) (fun x5 => ?_)
  · unfold Reg.One
    obtain ⟨hbuf, hrd⟩ := SLit.buf hS rfl wz.heap.size
    have hnum : NumsAt wz x4 a0 a1 := hF.2.2.2.2.1
    go_wp2_with (go_at_call 11; go_must (refine (All_lit a0 a1 h0 h1 _ _ _ hbuf hnum).mono ?_); rintro e w1 ⟨v1, rfl, hown1, hbl1⟩)
    exact ⟨_, rfl, ⟨_, rfl, hown1⟩, hbl1⟩
  simp only [Act.put, List.setIfInBounds_toArray, List.set_cons_zero, List.set_cons_succ]; (try simp only [List.nil_append]); (try simp only [List.cons_append]); (try simp only [id])
  refine Reg.pass_minor (by rfl) (fun wz hI hF => ?_) (fun x6 => ?_)
  · unfold Reg.One
    have hcv := conv_read hF.2.2.2.2.2.1
    go_wp2_with fail
    exact ⟨_, rfl, ⟨(), rfl, trivial⟩, Reg.Ext.refl _⟩
  simp only [Act.put, List.setIfInBounds_toArray, List.set_cons_zero, List.set_cons_succ]; (try simp only [List.nil_append]); (try simp only [List.cons_append]); (try simp only [id])
  repeat (refine' Reg.pass_is _ (by rfl) (fun wz => ?_) ?_; rotate_left; (go_simp; first | rfl | rw [if_neg (by omega)]); simp only [Act.put, List.setIfInBounds_toArray, List.set_cons_zero, List.set_cons_succ]; (try simp only [List.nil_append]); (try simp only [List.cons_append]))
  refine Reg.pass_minor (by rfl) (fun wz hI hF => ?_) (fun x8 => ?_)
  · unfold Reg.One
    go_wp2_with (go_at_call 10; go_must (refine (zig_any a0 wz h0).mono ?_); rintro e w1 ⟨rfl, rfl⟩)
    exact ⟨_, rfl, ⟨(), rfl, trivial⟩, Reg.Ext.refl _⟩
  simp only [Act.put, List.setIfInBounds_toArray, List.set_cons_zero, List.set_cons_succ]; (try simp only [List.nil_append]); (try simp only [List.cons_append]); (try simp only [id])
  refine Reg.pass_minor (by rfl) (fun wz hI hF => ?_) (fun x9 => ?_)
  · unfold Reg.One
    go_wp2_with (go_at_call 7; go_must (refine (raw_any (zg a0) HZ0.out wz).mono ?_); rintro e w1 ⟨rfl, hbl1⟩)
    exact ⟨_, rfl, ⟨(), rfl, trivial⟩, hbl1⟩
  simp only [Act.put, List.setIfInBounds_toArray, List.set_cons_zero, List.set_cons_succ]; (try simp only [List.nil_append]); (try simp only [List.cons_append]); (try simp only [id])
  repeat (refine' Reg.pass_is _ (by rfl) (fun wz => ?_) ?_; rotate_left; (go_simp; first | rfl | rw [if_neg (by omega)]); simp only [Act.put, List.setIfInBounds_toArray, List.set_cons_zero, List.set_cons_succ]; (try simp only [List.nil_append]); (try simp only [List.cons_append]))
  refine Reg.pass_minor (by rfl) (fun wz hI hF => ?_) (fun x12 => ?_)
  · unfold Reg.One
    go_wp2_with (go_at_call 10; go_must (refine (zig_any a1 wz h1).mono ?_); rintro e w1 ⟨rfl, rfl⟩)
    exact ⟨_, rfl, ⟨(), rfl, trivial⟩, Reg.Ext.refl _⟩
  simp only [Act.put, List.setIfInBounds_toArray, List.set_cons_zero, List.set_cons_succ]; (try simp only [List.nil_append]); (try simp only [List.cons_append]); (try simp only [id])
  refine Reg.pass_minor (by rfl) (fun wz hI hF => ?_) (fun x13 => ?_)
  · unfold Reg.One
    go_wp2_with (go_at_call 7; go_must (refine (raw_any (zg a1) HZ1.out wz).mono ?_); rintro e w1 ⟨rfl, hbl1⟩)
    exact ⟨_, rfl, ⟨(), rfl, trivial⟩, hbl1⟩
  simp only [Act.put, List.setIfInBounds_toArray, List.set_cons_zero, List.set_cons_succ]; (try simp only [List.nil_append]); (try simp only [List.cons_append]); (try simp only [id])
  repeat (refine' Reg.pass_is _ (by rfl) (fun wz => ?_) ?_; rotate_left; (go_simp; first | rfl | rw [if_neg (by omega)]); simp only [Act.put, List.setIfInBounds_toArray, List.set_cons_zero, List.set_cons_succ]; (try simp only [List.nil_append]); (try simp only [List.cons_append]))
  refine Reg.pass_minor (by rfl) (fun wz hI hF => ?_) (fun x17 => ?_)
  · unfold Reg.One
    go_wp2_with fail
    exact ⟨_, rfl, ⟨wz.heap.size, rfl, hI.size, Or.inl (heap_alloc_new wz _)⟩, (Below.refl _ _).alloc (Nat.le_refl _) _⟩
  simp only [Act.put, List.setIfInBounds_toArray, List.set_cons_zero, List.set_cons_succ]; (try simp only [List.nil_append]); (try simp only [List.cons_append]); (try simp only [id])
  refine Reg.pass_major (by rfl) (fun wz hI hS hF => ?_) (fun x18 => ?_)
  · unfold Reg.One
    obtain ⟨w9, hrun, hmk, hlit⟩ := run_mark hF.2.2.2.2.2.2.2.2.2.2.2.2.2.2.2.2.2.1
    go_wp2_with fail
    exact ⟨_, rfl, ⟨⟨_, rfl⟩, SLit.one hlit _⟩, hmk⟩
  simp only [Act.put, List.setIfInBounds_toArray, List.set_cons_zero, List.set_cons_succ]; (try simp only [List.nil_append]); (try simp only [List.cons_append]); (try simp only [id])
  repeat (refine' Reg.pass_is _ (by rfl) (fun wz => ?_) ?_; rotate_left; (go_simp; first | rfl | rw [if_neg (by omega)]); simp only [Act.put, List.setIfInBounds_toArray, List.set_cons_zero, List.set_cons_succ]; (try simp only [List.nil_append]); (try simp only [List.cons_append]))
  refine Reg.pass_pinned (by rfl) (fun wz hI hS hF => ?_) (fun x20 => ?_)
  · unfold Reg.One
    obtain ⟨hbuf, hrd⟩ := SLit.buf hS rfl wz.heap.size
    go_wp2_with (go_at_call 12; go_must (refine (Bool_lit _ _ _ hbuf).mono ?_); rintro e w1 ⟨v1, rfl, hown1, hbl1⟩)
    exact ⟨_, rfl, ⟨_, rfl, hown1⟩, hbl1⟩
  simp only [Act.put, List.setIfInBounds_toArray, List.set_cons_zero, List.set_cons_succ]; (try simp only [List.nil_append]); (try simp only [List.cons_append]); (try simp only [id])
  refine Reg.pass_minor (by rfl) (fun wz hI hF => ?_) (fun x21 => ?_)
  · unfold Reg.One
    have hcv := conv_read hF.2.2.2.2.2.2.2.2.2.2.2.2.2.2.2.2.2.2.2.2.1
    go_wp2_with fail
    exact ⟨_, rfl, ⟨(), rfl, trivial⟩, Reg.Ext.refl _⟩
  simp only [Act.put, List.setIfInBounds_toArray, List.set_cons_zero, List.set_cons_succ]; (try simp only [List.nil_append]); (try simp only [List.cons_append]); (try simp only [id])
  repeat (refine' Reg.pass_is _ (by rfl) (fun wz => ?_) ?_; rotate_left; (go_simp; first | rfl | rw [if_neg (by omega)]); simp only [Act.put, List.setIfInBounds_toArray, List.set_cons_zero, List.set_cons_succ]; (try simp only [List.nil_append]); (try simp only [List.cons_append]))
  refine Reg.pass_end ?_
  intro w3 HB3 _ _
  show wpList _ _ _ [] _ _
  have HB := HB3
  clear HB3
  go_wp2_with fail
  refine Reg.region_mk 16 81 [[], [true], [false, false], [true, true, true], [true, true, true, true], [false, false, false, false, false], [false, false, false, false, false, true], [false, false, false, false, false, true, true], [true, true, true, true, false, true, true, true], [true, true, true, true, false, true, true, true, true], [false, false, false, false, false, false, false, false, false, false], [true, true, true, true, false, true, true, true, true, true, true], [true, true, true, true, true, true, true, true, true, true, true, true], [true, true, true, true, true, true, true, true, true, true, true, true, true], [true, true, true, true, true, true, true, true, true, true, true, true, true, true], [true, true, true, true, true, true, true, true, true, true, true, true, true, true, true]] [1, 3, 0, 2, 1, 0, 0, 0, 1, 0, 0, 0, 0, 0, 1, 0]
    [.minor Nat 0 litVal (fun g w1 => LitAt w.heap.size w1 g), .major Nat 0 litVal, .pure, .pinned Value undef id (fun v w => BRead w v (120 :: (enc (cut200 s).size ++ tb (cut200 s)))), .minor Unit () (fun _ => .string (str (120 :: (enc (cut200 s).size ++ tb (cut200 s))))) (fun _ _ => True), .pure, .pure, .pure, .minor Unit () (fun _ => .string (str (enc (cut200 s).size))) (fun _ _ => True), .pure, .pure, .pure, .pure, .pure, .minor Unit () (fun _ => .bool true) (fun _ _ => True), .pure]
    (fun W => Below w.heap.size w W) (SLit w.heap.size) (Marked w.heap.size) (by kernel_rfl) (by kernel_rfl) rfl rfl SLit.ext ?_ ?_ ?_ ?_ (SLit.nil _ _) ?_
  · intro w1 w2 he hb; exact hb.trans (he.mono hb.size)
  · intro w1 w2 hm hb; exact hb.trans hm.below
  · refine ⟨⟨?_, ?_⟩, trivial, trivial, ⟨?_, ?_⟩, ⟨?_, ?_⟩, trivial, trivial, trivial, ⟨?_, ?_⟩, trivial, trivial, trivial, trivial, trivial, ⟨?_, ?_⟩, trivial, trivial⟩
    all_goals (intro x w1 w2 hk hx; first | exact trivial | exact LitAt.ext hx hk | exact LitAt.marked hx hk | exact NumsAt.keeps hx (Keeps.of_ext hk) | exact NumsAt.keeps hx (Marked.keeps hk) | exact BRead.keeps hx (Keeps.of_ext hk) | exact BRead.keeps hx (Marked.keeps hk))
  · exact HB.drew
  dsimp only [Reg.mk, List.zip, List.zipWith, List.take]
  refine Reg.pass_minor (by rfl) (fun wz hI hF => ?_) (fun x0 => ?_)
  · unfold Reg.One
    go_wp2_with fail
    exact ⟨_, rfl, ⟨wz.heap.size, rfl, hI.size, Or.inl (heap_alloc_new wz _)⟩, (Below.refl _ _).alloc (Nat.le_refl _) _⟩
  simp only [Act.put, List.setIfInBounds_toArray, List.set_cons_zero, List.set_cons_succ]; (try simp only [List.nil_append]); (try simp only [List.cons_append]); (try simp only [id])
  refine Reg.pass_major (by rfl) (fun wz hI hS hF => ?_) (fun x1 => ?_)
  · unfold Reg.One
    obtain ⟨w9, hrun, hmk, hlit⟩ := run_mark hF.1
    go_wp2_with fail
    exact ⟨_, rfl, ⟨⟨_, rfl⟩, SLit.one hlit _⟩, hmk⟩
  simp only [Act.put, List.setIfInBounds_toArray, List.set_cons_zero, List.set_cons_succ]; (try simp only [List.nil_append]); (try simp only [List.cons_append]); (try simp only [id])
  repeat (refine' Reg.pass_is _ (by rfl) (fun wz => ?_) ?_; rotate_left; (go_simp; first | rfl | rw [if_neg (by omega)]); simp only [Act.put, List.setIfInBounds_toArray, List.set_cons_zero, List.set_cons_succ]; (try simp only [List.nil_append]); (try simp only [List.cons_append]))
  refine Reg.pass_pinned (by rfl) (fun wz hI hS hF => ?_) (fun x3 => ?_)
  · unfold Reg.One
    obtain ⟨hbuf, hrd⟩ := SLit.buf hS rfl wz.heap.size
    go_wp2_with (go_at_call 13; go_must (refine (Text_lit (cut200 s) hcs _ _ hbuf).mono ?_); rintro e w1 ⟨v1, rfl, hown1, hbl1⟩)
    exact ⟨_, rfl, ⟨_, rfl, hown1⟩, hbl1⟩
  simp only [Act.put, List.setIfInBounds_toArray, List.set_cons_zero, List.set_cons_succ]; (try simp only [List.nil_append]); (try simp only [List.cons_append]); (try simp only [id])
  refine Reg.pass_minor (by rfl) (fun wz hI hF => ?_) (fun x4 => ?_)
  · unfold Reg.One
    have hcv := conv_read hF.2.2.2.1
    go_wp2_with fail
    exact ⟨_, rfl, ⟨(), rfl, trivial⟩, Reg.Ext.refl _⟩
  simp only [Act.put, List.setIfInBounds_toArray, List.set_cons_zero, List.set_cons_succ]; (try simp only [List.nil_append]); (try simp only [List.cons_append]); (try simp only [id])
  repeat (refine' Reg.pass_is _ (by rfl) (fun wz => ?_) ?_; rotate_left; (go_simp; first | rfl | rw [if_neg (by omega)]); simp only [Act.put, List.setIfInBounds_toArray, List.set_cons_zero, List.set_cons_succ]; (try simp only [List.nil_append]); (try simp only [List.cons_append]))
  refine Reg.pass_minor (by rfl) (fun wz hI hF => ?_) (fun x8 => ?_)
  · unfold Reg.One
    go_wp2_with (go_at_call 7; go_must (refine (raw_any (cut200 s).size (by omega) wz).mono ?_); rintro e w1 ⟨rfl, hbl1⟩)
    exact ⟨_, rfl, ⟨(), rfl, trivial⟩, hbl1⟩
  simp only [Act.put, List.setIfInBounds_toArray, List.set_cons_zero, List.set_cons_succ]; (try simp only [List.nil_append]); (try simp only [List.cons_append]); (try simp only [id])
  repeat (refine' Reg.pass_is _ (by rfl) (fun wz => ?_) ?_; rotate_left; (go_simp; first | rfl | rw [if_neg (by omega)]); simp only [Act.put, List.setIfInBounds_toArray, List.set_cons_zero, List.set_cons_succ]; (try simp only [List.nil_append]); (try simp only [List.cons_append]))
  refine Reg.pass_minor (by rfl) (fun wz hI hF => ?_) (fun x14 => ?_)
  · unfold Reg.One
    go_wp2_with (go_at_call 14; go_must (refine (awake_any wz).mono ?_); rintro e w1 ⟨rfl, hbl1⟩)
    exact ⟨_, rfl, ⟨(), rfl, trivial⟩, hbl1⟩
  simp only [Act.put, List.setIfInBounds_toArray, List.set_cons_zero, List.set_cons_succ]; (try simp only [List.nil_append]); (try simp only [List.cons_append]); (try simp only [id])
  repeat (refine' Reg.pass_is _ (by rfl) (fun wz => ?_) ?_; rotate_left; (go_simp; first | rfl | rw [if_neg (by omega)]); simp only [Act.put, List.setIfInBounds_toArray, List.set_cons_zero, List.set_cons_succ]; (try simp only [List.nil_append]); (try simp only [List.cons_append]))
  refine Reg.pass_end ?_
  intro w3 HB3 _ _
  go_wp2_with fail
  go_ret
  exact ⟨rfl, HB3⟩

set_option maxHeartbeats 2000000 in
set_option maxRecDepth 100000 in
theorem puts_neg_f (a0 : Int) (a1 : Int) (s : ByteArray) (hsign : a0 < 0) (h0 : -9223372036854775808 ≤ a0 ∧ a0 ≤ 9223372036854775807) (h1 : -9223372036854775808 ≤ a1 ∧ a1 ≤ 9223372036854775807) (hs : s.size ≤ maxLen) (w : World) :
    Calls Try.prog 3 #[.int .i64 a0, .int .i64 a1, .bool false, .string s] w fun e w' => e = .returned (.bool true) ∧ Below w.heap.size w w' := by
  have hcs : (cut200 s).size ≤ 200 := cut200_size s
  have hs' : s.size ≤ 9223372036854775807 := by unfold maxLen at hs; omega
  clear hs
  have HZ0 := Lib.hid (zg_lt h0)
  have HZ1 := Lib.hid (zg_lt h1)
  have hcat := lit_cat
  have hcut := str_cut (cut200 s)
  have hone0 : ({ data := #[120] } : ByteArray) ++ { data := #[0] } = str [120, 0] := by decide
  have hone1 : ({ data := #[120] } : ByteArray) ++ { data := #[1] } = str [120, 1] := by decide
  have hcat2 := str_cat
  have hsz := str_size
  have hl0 := (enc_length (zg a0)).2
  have hl1 := (enc_length (zg a1)).2
  have hl2 := (enc_length (cut200 s).size).2
  have htl := str_toList
  have hp : (putP a0).length ≤ 10 := by unfold putP; split <;> first | exact (enc_length _).2 | simp
  have hP : putP a0 = [] := by unfold putP; rw [if_pos (by omega)]
  have hlit : ({ data := #[120] } : ByteArray).toList = [120] := ByteArray.toList_mk [120]
  go_enter Try.func3, Try.ntmps3
  go_wp2_with (go_at_call 6; go_must (refine (cut_any s hs' _).mono ?_); rintro e w1 ⟨rfl, rfl⟩)
  have hbq := Below.refl w.heap.size w
  have HB := hbq
  refine Reg.region_mk 19 81 [[], [true], [false, false], [true, true, true], [true, true, true, true], [false, false, false, false, false], [true, true, true, true, true, true], [true, true, true, true, true, true, true], [true, true, true, true, true, true, true, true], [true, true, true, true, true, true, true, true, true], [true, true, true, true, true, true, true, true, false, false], [true, true, true, true, true, true, true, true, true, true, true], [true, true, true, true, true, true, true, true, true, true, true, true], [true, true, true, true, true, true, true, true, false, false, false, false, false], [true, true, true, true, true, true, true, true, true, true, true, true, false, true], [true, true, true, true, true, true, true, true, true, true, true, true, false, true, true], [true, true, true, true, true, true, true, true, true, true, true, true, false, true, true, true], [true, true, true, true, true, true, true, true, true, true, true, true, true, true, true, true, true], [true, true, true, true, true, true, true, true, true, true, true, true, true, true, true, true, true, true]] [1, 3, 0, 2, 1, 0, 0, 0, 1, 3, 0, 2, 1, 0, 1, 1, 0, 0, 0]
    [.minor Nat 0 litVal (fun g w1 => LitAt w.heap.size w1 g), .major Nat 0 litVal, .pure, .pinned Value undef id (fun v w => BRead w v (120 :: [])), .minor Unit () (fun _ => .string (str (120 :: []))) (fun _ _ => True), .pure, .pure, .pure, .minor Nat 0 litVal (fun g w1 => LitAt w.heap.size w1 g), .major Nat 0 litVal, .pure, .pinned Value undef id (fun v w => BRead w v (120 :: enc (zg a0))), .minor Unit () (fun _ => .string (str (120 :: enc (zg a0)))) (fun _ _ => True), .pure, .minor Unit () (fun _ => .int .u64 (zg a0)) (fun _ _ => True), .minor Unit () (fun _ => .string (str (enc (zg a0)))) (fun _ _ => True), .pure, .pure, .pure]
    (fun W => Below w.heap.size w W) (SLit w.heap.size) (Marked w.heap.size) (by kernel_rfl) (by kernel_rfl) rfl rfl SLit.ext ?_ ?_ ?_ ?_ (SLit.nil _ _) ?_
  · intro w1 w2 he hb; exact hb.trans (he.mono hb.size)
  · intro w1 w2 hm hb; exact hb.trans hm.below
  · refine ⟨⟨?_, ?_⟩, trivial, trivial, ⟨?_, ?_⟩, ⟨?_, ?_⟩, trivial, trivial, trivial, ⟨?_, ?_⟩, trivial, trivial, ⟨?_, ?_⟩, ⟨?_, ?_⟩, trivial, ⟨?_, ?_⟩, ⟨?_, ?_⟩, trivial, trivial, trivial, trivial⟩
    all_goals (intro x w1 w2 hk hx; first | exact trivial | exact LitAt.ext hx hk | exact LitAt.marked hx hk | exact NumsAt.keeps hx (Keeps.of_ext hk) | exact NumsAt.keeps hx (Marked.keeps hk) | exact BRead.keeps hx (Keeps.of_ext hk) | exact BRead.keeps hx (Marked.keeps hk))
  · exact HB.drew
  dsimp only [Reg.mk, List.zip, List.zipWith, List.take]
  refine Reg.pass_minor (by rfl) (fun wz hI hF => ?_) (fun x0 => ?_)
  · unfold Reg.One
    go_wp2_with fail
    exact ⟨_, rfl, ⟨wz.heap.size, rfl, hI.size, Or.inl (heap_alloc_new wz _)⟩, (Below.refl _ _).alloc (Nat.le_refl _) _⟩
  simp only [Act.put, List.setIfInBounds_toArray, List.set_cons_zero, List.set_cons_succ]; (try simp only [List.nil_append]); (try simp only [List.cons_append]); (try simp only [id])
  refine Reg.pass_major (by rfl) (fun wz hI hS hF => ?_) (fun x1 => ?_)
  · unfold Reg.One
    obtain ⟨w9, hrun, hmk, hlit⟩ := run_mark hF.1
    go_wp2_with fail
    exact ⟨_, rfl, ⟨⟨_, rfl⟩, SLit.one hlit _⟩, hmk⟩
  simp only [Act.put, List.setIfInBounds_toArray, List.set_cons_zero, List.set_cons_succ]; (try simp only [List.nil_append]); (try simp only [List.cons_append]); (try simp only [id])
  repeat (refine' Reg.pass_is _ (by rfl) (fun wz => ?_) ?_; rotate_left; (go_simp; first | rfl | rw [if_neg (by omega)]); simp only [Act.put, List.setIfInBounds_toArray, List.set_cons_zero, List.set_cons_succ]; (try simp only [List.nil_append]); (try simp only [List.cons_append]))
  refine Reg.pass_pinned (by rfl) (fun wz hI hS hF => ?_) (fun x3 => ?_)
  · unfold Reg.One
    obtain ⟨hbuf, hrd⟩ := SLit.buf hS rfl wz.heap.size
    go_wp2_with (go_at_call 8; go_must (refine (Put_lit a0 h0 _ _ hbuf hrd).mono ?_); rintro e w1 ⟨v1, rfl, hown1, hbl1⟩)
    rw [hP] at hown1
    exact ⟨_, rfl, ⟨_, rfl, hown1⟩, hbl1⟩
  simp only [Act.put, List.setIfInBounds_toArray, List.set_cons_zero, List.set_cons_succ]; (try simp only [List.nil_append]); (try simp only [List.cons_append]); (try simp only [id])
  refine Reg.pass_minor (by rfl) (fun wz hI hF => ?_) (fun x4 => ?_)
  · unfold Reg.One
    have hcv := conv_read hF.2.2.2.1
    go_wp2_with fail
    exact ⟨_, rfl, ⟨(), rfl, trivial⟩, Reg.Ext.refl _⟩
  simp only [Act.put, List.setIfInBounds_toArray, List.set_cons_zero, List.set_cons_succ]; (try simp only [List.nil_append]); (try simp only [List.cons_append]); (try simp only [id])
  repeat (refine' Reg.pass_is _ (by rfl) (fun wz => ?_) ?_; rotate_left; (go_simp; first | rfl | rw [if_neg (by omega)]); simp only [Act.put, List.setIfInBounds_toArray, List.set_cons_zero, List.set_cons_succ]; (try simp only [List.nil_append]); (try simp only [List.cons_append]))
  refine Reg.pass_minor (by rfl) (fun wz hI hF => ?_) (fun x8 => ?_)
  · unfold Reg.One
    go_wp2_with fail
    exact ⟨_, rfl, ⟨wz.heap.size, rfl, hI.size, Or.inl (heap_alloc_new wz _)⟩, (Below.refl _ _).alloc (Nat.le_refl _) _⟩
  simp only [Act.put, List.setIfInBounds_toArray, List.set_cons_zero, List.set_cons_succ]; (try simp only [List.nil_append]); (try simp only [List.cons_append]); (try simp only [id])
  refine Reg.pass_major (by rfl) (fun wz hI hS hF => ?_) (fun x9 => ?_)
  · unfold Reg.One
    obtain ⟨w9, hrun, hmk, hlit⟩ := run_mark hF.2.2.2.2.2.2.2.2.1
    go_wp2_with fail
    exact ⟨_, rfl, ⟨⟨_, rfl⟩, SLit.one hlit _⟩, hmk⟩
  simp only [Act.put, List.setIfInBounds_toArray, List.set_cons_zero, List.set_cons_succ]; (try simp only [List.nil_append]); (try simp only [List.cons_append]); (try simp only [id])
  repeat (refine' Reg.pass_is _ (by rfl) (fun wz => ?_) ?_; rotate_left; (go_simp; first | rfl | rw [if_neg (by omega)]); simp only [Act.put, List.setIfInBounds_toArray, List.set_cons_zero, List.set_cons_succ]; (try simp only [List.nil_append]); (try simp only [List.cons_append]))
  refine Reg.pass_pinned (by rfl) (fun wz hI hS hF => ?_) (fun x11 => ?_)
  · unfold Reg.One
    obtain ⟨hbuf, hrd⟩ := SLit.buf hS rfl wz.heap.size
    go_wp2_with (go_at_call 9; go_must (refine (Sign_lit a0 h0 _ _ hbuf).mono ?_); rintro e w1 ⟨v1, rfl, hown1, hbl1⟩)
    exact ⟨_, rfl, ⟨_, rfl, hown1⟩, hbl1⟩
  simp only [Act.put, List.setIfInBounds_toArray, List.set_cons_zero, List.set_cons_succ]; (try simp only [List.nil_append]); (try simp only [List.cons_append]); (try simp only [id])
  refine Reg.pass_minor (by rfl) (fun wz hI hF => ?_) (fun x12 => ?_)
  · unfold Reg.One
    have hcv := conv_read hF.2.2.2.2.2.2.2.2.2.2.2.1
    go_wp2_with fail
    exact ⟨_, rfl, ⟨(), rfl, trivial⟩, Reg.Ext.refl _⟩
  simp only [Act.put, List.setIfInBounds_toArray, List.set_cons_zero, List.set_cons_succ]; (try simp only [List.nil_append]); (try simp only [List.cons_append]); (try simp only [id])
  repeat (refine' Reg.pass_is _ (by rfl) (fun wz => ?_) ?_; rotate_left; (go_simp; first | rfl | rw [if_neg (by omega)]); simp only [Act.put, List.setIfInBounds_toArray, List.set_cons_zero, List.set_cons_succ]; (try simp only [List.nil_append]); (try simp only [List.cons_append]))
  refine Reg.pass_minor (by rfl) (fun wz hI hF => ?_) (fun x14 => ?_)
  · unfold Reg.One
    go_wp2_with (go_at_call 10; go_must (refine (zig_any a0 wz h0).mono ?_); rintro e w1 ⟨rfl, rfl⟩)
    exact ⟨_, rfl, ⟨(), rfl, trivial⟩, Reg.Ext.refl _⟩
  simp only [Act.put, List.setIfInBounds_toArray, List.set_cons_zero, List.set_cons_succ]; (try simp only [List.nil_append]); (try simp only [List.cons_append]); (try simp only [id])
  refine Reg.pass_minor (by rfl) (fun wz hI hF => ?_) (fun x15 => ?_)
  · unfold Reg.One
    go_wp2_with (go_at_call 7; go_must (refine (raw_any (zg a0) HZ0.out wz).mono ?_); rintro e w1 ⟨rfl, hbl1⟩)
    exact ⟨_, rfl, ⟨(), rfl, trivial⟩, hbl1⟩
  simp only [Act.put, List.setIfInBounds_toArray, List.set_cons_zero, List.set_cons_succ]; (try simp only [List.nil_append]); (try simp only [List.cons_append]); (try simp only [id])
  repeat (refine' Reg.pass_is _ (by rfl) (fun wz => ?_) ?_; rotate_left; (go_simp; first | rfl | rw [if_neg (by omega)]); simp only [Act.put, List.setIfInBounds_toArray, List.set_cons_zero, List.set_cons_succ]; (try simp only [List.nil_append]); (try simp only [List.cons_append]))
  refine Reg.pass_end ?_
  intro w3 HB3 _ _
  show wpList _ _ _ [] _ _
  have HB := HB3
  clear HB3
  go_wp2_with fail
  refine Reg.region_mk 26 81 [[], [true], [false, false], [false, false, false], [false, false, true, true], [true, true, true, true, true], [true, true, true, true, true, true], [false, false, false, false, false, false, false], [true, true, true, true, true, true, false, true], [true, true, true, true, true, true, false, true, true], [true, true, true, true, true, true, false, true, true, true], [false, false, false, false, false, false, false, false, false, false, false], [true, true, true, true, true, true, false, true, true, true, false, true], [true, true, true, true, true, true, false, true, true, true, false, true, true], [true, true, true, true, true, true, false, true, true, true, true, true, true, true], [true, true, true, true, true, true, true, true, true, true, true, true, true, true, true], [true, true, true, true, true, true, true, true, true, true, true, true, true, true, true, true], [true, true, true, true, true, true, true, true, true, true, true, true, true, true, true, true, true], [true, true, true, true, true, true, true, true, true, true, true, true, true, true, true, true, true, true], [true, true, true, true, true, true, true, true, true, true, true, true, true, true, true, true, true, false, false], [true, true, true, true, true, true, true, true, true, true, true, true, true, true, true, true, true, true, true, true], [true, true, true, true, true, true, true, true, true, true, true, true, true, true, true, true, true, true, true, true, true], [true, true, true, true, true, true, true, true, true, true, true, true, true, true, true, true, true, false, false, false, false, false], [true, true, true, true, true, true, true, true, true, true, true, true, true, true, true, true, true, false, false, false, false, false, true], [true, true, true, true, true, true, true, true, true, true, true, true, true, true, true, true, true, true, true, true, true, true, true, true], [true, true, true, true, true, true, true, true, true, true, true, true, true, true, true, true, true, true, true, true, true, true, true, true, true]] [1, 3, 0, 0, 1, 2, 1, 0, 1, 1, 0, 0, 1, 1, 0, 0, 0, 1, 3, 0, 2, 1, 0, 0, 0, 0]
    [.minor Nat 0 litVal (fun g w1 => LitAt w.heap.size w1 g), .major Nat 0 litVal, .pure, .pure, .minor Nat 0 numsVal (fun g w1 => NumsAt w1 g a0 a1), .pinned Value undef id (fun v w => BRead w v (120 :: (enc (zg a0) ++ enc (zg a1)))), .minor Unit () (fun _ => .string (str (120 :: (enc (zg a0) ++ enc (zg a1))))) (fun _ _ => True), .pure, .minor Unit () (fun _ => .int .u64 (zg a0)) (fun _ _ => True), .minor Unit () (fun _ => .string (str (enc (zg a0)))) (fun _ _ => True), .pure, .pure, .minor Unit () (fun _ => .int .u64 (zg a1)) (fun _ _ => True), .minor Unit () (fun _ => .string (str (enc (zg a1)))) (fun _ _ => True), .pure, .pure, .pure, .minor Nat 0 litVal (fun g w1 => LitAt w.heap.size w1 g), .major Nat 0 litVal, .pure, .pinned Value undef id (fun v w => BRead w v ([120, 0])), .minor Unit () (fun _ => .string (str ([120, 0]))) (fun _ _ => True), .pure, .pure, .pure, .pure]
    (fun W => Below w.heap.size w W) (SLit w.heap.size) (Marked w.heap.size) (by kernel_rfl) (by kernel_rfl) rfl rfl SLit.ext ?_ ?_ ?_ ?_ (SLit.nil _ _) ?_
  · intro w1 w2 he hb; exact hb.trans (he.mono hb.size)
  · intro w1 w2 hm hb; exact hb.trans hm.below
  · refine ⟨⟨?_, ?_⟩, trivial, trivial, trivial, ⟨?_, ?_⟩, ⟨?_, ?_⟩, ⟨?_, ?_⟩, trivial, ⟨?_, ?_⟩, ⟨?_, ?_⟩, trivial, trivial, ⟨?_, ?_⟩, ⟨?_, ?_⟩, trivial, trivial, trivial, ⟨?_, ?_⟩, trivial, trivial, ⟨?_, ?_⟩, ⟨?_, ?_⟩, trivial, trivial, trivial, trivial, trivial⟩
    all_goals (intro x w1 w2 hk hx; first | exact trivial | exact LitAt.ext hx hk | exact LitAt.marked hx hk | exact NumsAt.keeps hx (Keeps.of_ext hk) | exact NumsAt.keeps hx (Marked.keeps hk) | exact BRead.keeps hx (Keeps.of_ext hk) | exact BRead.keeps hx (Marked.keeps hk))
  · exact HB.drew
  dsimp only [Reg.mk, List.zip, List.zipWith, List.take]
  refine Reg.pass_minor (by rfl) (fun wz hI hF => ?_) (fun x0 => ?_)
  · unfold Reg.One
    go_wp2_with fail
    exact ⟨_, rfl, ⟨wz.heap.size, rfl, hI.size, Or.inl (heap_alloc_new wz _)⟩, (Below.refl _ _).alloc (Nat.le_refl _) _⟩
  simp only [Act.put, List.setIfInBounds_toArray, List.set_cons_zero, List.set_cons_succ]; (try simp only [List.nil_append]); (try simp only [List.cons_append]); (try simp only [id])
  refine Reg.pass_major (by rfl) (fun wz hI hS hF => ?_) (fun x1 => ?_)
  · unfold Reg.One
    obtain ⟨w9, hrun, hmk, hlit⟩ := run_mark hF.1
    go_wp2_with fail
    exact ⟨_, rfl, ⟨⟨_, rfl⟩, SLit.one hlit _⟩, hmk⟩
  simp only [Act.put, List.setIfInBounds_toArray, List.set_cons_zero, List.set_cons_succ]; (try simp only [List.nil_append]); (try simp only [List.cons_append]); (try simp only [id])
  repeat (refine' Reg.pass_is _ (by rfl) (fun wz => ?_) ?_; rotate_left; (go_simp; first | rfl | rw [if_neg (by omega)]); simp only [Act.put, List.setIfInBounds_toArray, List.set_cons_zero, List.set_cons_succ]; (try simp only [List.nil_append]); (try simp only [List.cons_append]))
  refine Reg.pass_minor (by rfl) (fun wz hI hF => ?_) (fun x4 => ?_)
  · unfold Reg.One
    go_wp2_with fail
    exact ⟨_, rfl, ⟨wz.heap.size, rfl, NumsAt.new wz a0 a1⟩, (Below.refl _ _).alloc (Nat.le_refl _) _⟩
  simp only [Act.put, List.setIfInBounds_toArray, List.set_cons_zero, List.set_cons_succ]; (try simp only [List.nil_append]); (try simp only [List.cons_append]); (try simp only [id])
  refine Reg.pass_pinned (by rfl) (fun wz hI hS hF => ?_) (fun x5 => ?_)
  · unfold Reg.One
    obtain ⟨hbuf, hrd⟩ := SLit.buf hS rfl wz.heap.size
    have hnum : NumsAt wz x4 a0 a1 := hF.2.2.2.2.1
    go_wp2_with (go_at_call 11; go_must (refine (All_lit a0 a1 h0 h1 _ _ _ hbuf hnum).mono ?_); rintro e w1 ⟨v1, rfl, hown1, hbl1⟩)
    exact ⟨_, rfl, ⟨_, rfl, hown1⟩, hbl1⟩
  simp only [Act.put, List.setIfInBounds_toArray, List.set_cons_zero, List.set_cons_succ]; (try simp only [List.nil_append]); (try simp only [List.cons_append]); (try simp only [id])
  refine Reg.pass_minor (by rfl) (fun wz hI hF => ?_) (fun x6 => ?_)
  · unfold Reg.One
    have hcv := conv_read hF.2.2.2.2.2.1
    go_wp2_with fail
    exact ⟨_, rfl, ⟨(), rfl, trivial⟩, Reg.Ext.refl _⟩
  simp only [Act.put, List.setIfInBounds_toArray, List.set_cons_zero, List.set_cons_succ]; (try simp only [List.nil_append]); (try simp only [List.cons_append]); (try simp only [id])
  repeat (refine' Reg.pass_is _ (by rfl) (fun wz => ?_) ?_; rotate_left; (go_simp; first | rfl | rw [if_neg (by omega)]); simp only [Act.put, List.setIfInBounds_toArray, List.set_cons_zero, List.set_cons_succ]; (try simp only [List.nil_append]); (try simp only [List.cons_append]))
  refine Reg.pass_minor (by rfl) (fun wz hI hF => ?_) (fun x8 => ?_)
  · unfold Reg.One
    go_wp2_with (go_at_call 10; go_must (refine (zig_any a0 wz h0).mono ?_); rintro e w1 ⟨rfl, rfl⟩)
    exact ⟨_, rfl, ⟨(), rfl, trivial⟩, Reg.Ext.refl _⟩
  simp only [Act.put, List.setIfInBounds_toArray, List.set_cons_zero, List.set_cons_succ]; (try simp only [List.nil_append]); (try simp only [List.cons_append]); (try simp only [id])
  refine Reg.pass_minor (by rfl) (fun wz hI hF => ?_) (fun x9 => ?_)
  · unfold Reg.One
    go_wp2_with (go_at_call 7; go_must (refine (raw_any (zg a0) HZ0.out wz).mono ?_); rintro e w1 ⟨rfl, hbl1⟩)
    exact ⟨_, rfl, ⟨(), rfl, trivial⟩, hbl1⟩
  simp only [Act.put, List.setIfInBounds_toArray, List.set_cons_zero, List.set_cons_succ]; (try simp only [List.nil_append]); (try simp only [List.cons_append]); (try simp only [id])
  repeat (refine' Reg.pass_is _ (by rfl) (fun wz => ?_) ?_; rotate_left; (go_simp; first | rfl | rw [if_neg (by omega)]); simp only [Act.put, List.setIfInBounds_toArray, List.set_cons_zero, List.set_cons_succ]; (try simp only [List.nil_append]); (try simp only [List.cons_append]))
  refine Reg.pass_minor (by rfl) (fun wz hI hF => ?_) (fun x12 => ?_)
  · unfold Reg.One
    go_wp2_with (go_at_call 10; go_must (refine (zig_any a1 wz h1).mono ?_); rintro e w1 ⟨rfl, rfl⟩)
    exact ⟨_, rfl, ⟨(), rfl, trivial⟩, Reg.Ext.refl _⟩
  simp only [Act.put, List.setIfInBounds_toArray, List.set_cons_zero, List.set_cons_succ]; (try simp only [List.nil_append]); (try simp only [List.cons_append]); (try simp only [id])
  refine Reg.pass_minor (by rfl) (fun wz hI hF => ?_) (fun x13 => ?_)
  · unfold Reg.One
    go_wp2_with (go_at_call 7; go_must (refine (raw_any (zg a1) HZ1.out wz).mono ?_); rintro e w1 ⟨rfl, hbl1⟩)
    exact ⟨_, rfl, ⟨(), rfl, trivial⟩, hbl1⟩
  simp only [Act.put, List.setIfInBounds_toArray, List.set_cons_zero, List.set_cons_succ]; (try simp only [List.nil_append]); (try simp only [List.cons_append]); (try simp only [id])
  repeat (refine' Reg.pass_is _ (by rfl) (fun wz => ?_) ?_; rotate_left; (go_simp; first | rfl | rw [if_neg (by omega)]); simp only [Act.put, List.setIfInBounds_toArray, List.set_cons_zero, List.set_cons_succ]; (try simp only [List.nil_append]); (try simp only [List.cons_append]))
  refine Reg.pass_minor (by rfl) (fun wz hI hF => ?_) (fun x17 => ?_)
  · unfold Reg.One
    go_wp2_with fail
    exact ⟨_, rfl, ⟨wz.heap.size, rfl, hI.size, Or.inl (heap_alloc_new wz _)⟩, (Below.refl _ _).alloc (Nat.le_refl _) _⟩
  simp only [Act.put, List.setIfInBounds_toArray, List.set_cons_zero, List.set_cons_succ]; (try simp only [List.nil_append]); (try simp only [List.cons_append]); (try simp only [id])
  refine Reg.pass_major (by rfl) (fun wz hI hS hF => ?_) (fun x18 => ?_)
  · unfold Reg.One
    obtain ⟨w9, hrun, hmk, hlit⟩ := run_mark hF.2.2.2.2.2.2.2.2.2.2.2.2.2.2.2.2.2.1
    go_wp2_with fail
    exact ⟨_, rfl, ⟨⟨_, rfl⟩, SLit.one hlit _⟩, hmk⟩
  simp only [Act.put, List.setIfInBounds_toArray, List.set_cons_zero, List.set_cons_succ]; (try simp only [List.nil_append]); (try simp only [List.cons_append]); (try simp only [id])
  repeat (refine' Reg.pass_is _ (by rfl) (fun wz => ?_) ?_; rotate_left; (go_simp; first | rfl | rw [if_neg (by omega)]); simp only [Act.put, List.setIfInBounds_toArray, List.set_cons_zero, List.set_cons_succ]; (try simp only [List.nil_append]); (try simp only [List.cons_append]))
  refine Reg.pass_pinned (by rfl) (fun wz hI hS hF => ?_) (fun x20 => ?_)
  · unfold Reg.One
    obtain ⟨hbuf, hrd⟩ := SLit.buf hS rfl wz.heap.size
    go_wp2_with (go_at_call 12; go_must (refine (Bool_lit _ _ _ hbuf).mono ?_); rintro e w1 ⟨v1, rfl, hown1, hbl1⟩)
    exact ⟨_, rfl, ⟨_, rfl, hown1⟩, hbl1⟩
  simp only [Act.put, List.setIfInBounds_toArray, List.set_cons_zero, List.set_cons_succ]; (try simp only [List.nil_append]); (try simp only [List.cons_append]); (try simp only [id])
  refine Reg.pass_minor (by rfl) (fun wz hI hF => ?_) (fun x21 => ?_)
  · unfold Reg.One
    have hcv := conv_read hF.2.2.2.2.2.2.2.2.2.2.2.2.2.2.2.2.2.2.2.2.1
    go_wp2_with fail
    exact ⟨_, rfl, ⟨(), rfl, trivial⟩, Reg.Ext.refl _⟩
  simp only [Act.put, List.setIfInBounds_toArray, List.set_cons_zero, List.set_cons_succ]; (try simp only [List.nil_append]); (try simp only [List.cons_append]); (try simp only [id])
  repeat (refine' Reg.pass_is _ (by rfl) (fun wz => ?_) ?_; rotate_left; (go_simp; first | rfl | rw [if_neg (by omega)]); simp only [Act.put, List.setIfInBounds_toArray, List.set_cons_zero, List.set_cons_succ]; (try simp only [List.nil_append]); (try simp only [List.cons_append]))
  refine Reg.pass_end ?_
  intro w3 HB3 _ _
  show wpList _ _ _ [] _ _
  have HB := HB3
  clear HB3
  go_wp2_with fail
  refine Reg.region_mk 16 81 [[], [true], [false, false], [true, true, true], [true, true, true, true], [false, false, false, false, false], [false, false, false, false, false, true], [false, false, false, false, false, true, true], [true, true, true, true, false, true, true, true], [true, true, true, true, false, true, true, true, true], [false, false, false, false, false, false, false, false, false, false], [true, true, true, true, false, true, true, true, true, true, true], [true, true, true, true, true, true, true, true, true, true, true, true], [true, true, true, true, true, true, true, true, true, true, true, true, true], [true, true, true, true, true, true, true, true, true, true, true, true, true, true], [true, true, true, true, true, true, true, true, true, true, true, true, true, true, true]] [1, 3, 0, 2, 1, 0, 0, 0, 1, 0, 0, 0, 0, 0, 1, 0]
    [.minor Nat 0 litVal (fun g w1 => LitAt w.heap.size w1 g), .major Nat 0 litVal, .pure, .pinned Value undef id (fun v w => BRead w v (120 :: (enc (cut200 s).size ++ tb (cut200 s)))), .minor Unit () (fun _ => .string (str (120 :: (enc (cut200 s).size ++ tb (cut200 s))))) (fun _ _ => True), .pure, .pure, .pure, .minor Unit () (fun _ => .string (str (enc (cut200 s).size))) (fun _ _ => True), .pure, .pure, .pure, .pure, .pure, .minor Unit () (fun _ => .bool true) (fun _ _ => True), .pure]
    (fun W => Below w.heap.size w W) (SLit w.heap.size) (Marked w.heap.size) (by kernel_rfl) (by kernel_rfl) rfl rfl SLit.ext ?_ ?_ ?_ ?_ (SLit.nil _ _) ?_
  · intro w1 w2 he hb; exact hb.trans (he.mono hb.size)
  · intro w1 w2 hm hb; exact hb.trans hm.below
  · refine ⟨⟨?_, ?_⟩, trivial, trivial, ⟨?_, ?_⟩, ⟨?_, ?_⟩, trivial, trivial, trivial, ⟨?_, ?_⟩, trivial, trivial, trivial, trivial, trivial, ⟨?_, ?_⟩, trivial, trivial⟩
    all_goals (intro x w1 w2 hk hx; first | exact trivial | exact LitAt.ext hx hk | exact LitAt.marked hx hk | exact NumsAt.keeps hx (Keeps.of_ext hk) | exact NumsAt.keeps hx (Marked.keeps hk) | exact BRead.keeps hx (Keeps.of_ext hk) | exact BRead.keeps hx (Marked.keeps hk))
  · exact HB.drew
  dsimp only [Reg.mk, List.zip, List.zipWith, List.take]
  refine Reg.pass_minor (by rfl) (fun wz hI hF => ?_) (fun x0 => ?_)
  · unfold Reg.One
    go_wp2_with fail
    exact ⟨_, rfl, ⟨wz.heap.size, rfl, hI.size, Or.inl (heap_alloc_new wz _)⟩, (Below.refl _ _).alloc (Nat.le_refl _) _⟩
  simp only [Act.put, List.setIfInBounds_toArray, List.set_cons_zero, List.set_cons_succ]; (try simp only [List.nil_append]); (try simp only [List.cons_append]); (try simp only [id])
  refine Reg.pass_major (by rfl) (fun wz hI hS hF => ?_) (fun x1 => ?_)
  · unfold Reg.One
    obtain ⟨w9, hrun, hmk, hlit⟩ := run_mark hF.1
    go_wp2_with fail
    exact ⟨_, rfl, ⟨⟨_, rfl⟩, SLit.one hlit _⟩, hmk⟩
  simp only [Act.put, List.setIfInBounds_toArray, List.set_cons_zero, List.set_cons_succ]; (try simp only [List.nil_append]); (try simp only [List.cons_append]); (try simp only [id])
  repeat (refine' Reg.pass_is _ (by rfl) (fun wz => ?_) ?_; rotate_left; (go_simp; first | rfl | rw [if_neg (by omega)]); simp only [Act.put, List.setIfInBounds_toArray, List.set_cons_zero, List.set_cons_succ]; (try simp only [List.nil_append]); (try simp only [List.cons_append]))
  refine Reg.pass_pinned (by rfl) (fun wz hI hS hF => ?_) (fun x3 => ?_)
  · unfold Reg.One
    obtain ⟨hbuf, hrd⟩ := SLit.buf hS rfl wz.heap.size
    go_wp2_with (go_at_call 13; go_must (refine (Text_lit (cut200 s) hcs _ _ hbuf).mono ?_); rintro e w1 ⟨v1, rfl, hown1, hbl1⟩)
    exact ⟨_, rfl, ⟨_, rfl, hown1⟩, hbl1⟩
  simp only [Act.put, List.setIfInBounds_toArray, List.set_cons_zero, List.set_cons_succ]; (try simp only [List.nil_append]); (try simp only [List.cons_append]); (try simp only [id])
  refine Reg.pass_minor (by rfl) (fun wz hI hF => ?_) (fun x4 => ?_)
  · unfold Reg.One
    have hcv := conv_read hF.2.2.2.1
    go_wp2_with fail
    exact ⟨_, rfl, ⟨(), rfl, trivial⟩, Reg.Ext.refl _⟩
  simp only [Act.put, List.setIfInBounds_toArray, List.set_cons_zero, List.set_cons_succ]; (try simp only [List.nil_append]); (try simp only [List.cons_append]); (try simp only [id])
  repeat (refine' Reg.pass_is _ (by rfl) (fun wz => ?_) ?_; rotate_left; (go_simp; first | rfl | rw [if_neg (by omega)]); simp only [Act.put, List.setIfInBounds_toArray, List.set_cons_zero, List.set_cons_succ]; (try simp only [List.nil_append]); (try simp only [List.cons_append]))
  refine Reg.pass_minor (by rfl) (fun wz hI hF => ?_) (fun x8 => ?_)
  · unfold Reg.One
    go_wp2_with (go_at_call 7; go_must (refine (raw_any (cut200 s).size (by omega) wz).mono ?_); rintro e w1 ⟨rfl, hbl1⟩)
    exact ⟨_, rfl, ⟨(), rfl, trivial⟩, hbl1⟩
  simp only [Act.put, List.setIfInBounds_toArray, List.set_cons_zero, List.set_cons_succ]; (try simp only [List.nil_append]); (try simp only [List.cons_append]); (try simp only [id])
  repeat (refine' Reg.pass_is _ (by rfl) (fun wz => ?_) ?_; rotate_left; (go_simp; first | rfl | rw [if_neg (by omega)]); simp only [Act.put, List.setIfInBounds_toArray, List.set_cons_zero, List.set_cons_succ]; (try simp only [List.nil_append]); (try simp only [List.cons_append]))
  refine Reg.pass_minor (by rfl) (fun wz hI hF => ?_) (fun x14 => ?_)
  · unfold Reg.One
    go_wp2_with (go_at_call 14; go_must (refine (awake_any wz).mono ?_); rintro e w1 ⟨rfl, hbl1⟩)
    exact ⟨_, rfl, ⟨(), rfl, trivial⟩, hbl1⟩
  simp only [Act.put, List.setIfInBounds_toArray, List.set_cons_zero, List.set_cons_succ]; (try simp only [List.nil_append]); (try simp only [List.cons_append]); (try simp only [id])
  repeat (refine' Reg.pass_is _ (by rfl) (fun wz => ?_) ?_; rotate_left; (go_simp; first | rfl | rw [if_neg (by omega)]); simp only [Act.put, List.setIfInBounds_toArray, List.set_cons_zero, List.set_cons_succ]; (try simp only [List.nil_append]); (try simp only [List.cons_append]))
  refine Reg.pass_end ?_
  intro w3 HB3 _ _
  go_wp2_with fail
  go_ret
  exact ⟨rfl, HB3⟩

set_option maxHeartbeats 2000000 in
set_option maxRecDepth 100000 in
theorem puts_neg_t (a0 : Int) (a1 : Int) (s : ByteArray) (hsign : a0 < 0) (h0 : -9223372036854775808 ≤ a0 ∧ a0 ≤ 9223372036854775807) (h1 : -9223372036854775808 ≤ a1 ∧ a1 ≤ 9223372036854775807) (hs : s.size ≤ maxLen) (w : World) :
    Calls Try.prog 3 #[.int .i64 a0, .int .i64 a1, .bool true, .string s] w fun e w' => e = .returned (.bool true) ∧ Below w.heap.size w w' := by
  have hcs : (cut200 s).size ≤ 200 := cut200_size s
  have hs' : s.size ≤ 9223372036854775807 := by unfold maxLen at hs; omega
  clear hs
  have HZ0 := Lib.hid (zg_lt h0)
  have HZ1 := Lib.hid (zg_lt h1)
  have hcat := lit_cat
  have hcut := str_cut (cut200 s)
  have hone0 : ({ data := #[120] } : ByteArray) ++ { data := #[0] } = str [120, 0] := by decide
  have hone1 : ({ data := #[120] } : ByteArray) ++ { data := #[1] } = str [120, 1] := by decide
  have hcat2 := str_cat
  have hsz := str_size
  have hl0 := (enc_length (zg a0)).2
  have hl1 := (enc_length (zg a1)).2
  have hl2 := (enc_length (cut200 s).size).2
  have htl := str_toList
  have hp : (putP a0).length ≤ 10 := by unfold putP; split <;> first | exact (enc_length _).2 | simp
  have hP : putP a0 = [] := by unfold putP; rw [if_pos (by omega)]
  have hlit : ({ data := #[120] } : ByteArray).toList = [120] := ByteArray.toList_mk [120]
  go_enter Try.func3, Try.ntmps3
  go_wp2_with (go_at_call 6; go_must (refine (cut_any s hs' _).mono ?_); rintro e w1 ⟨rfl, rfl⟩)
  have hbq := Below.refl w.heap.size w
  have HB := hbq
  refine Reg.region_mk 19 81 [[], [true], [false, false], [true, true, true], [true, true, true, true], [false, false, false, false, false], [true, true, true, true, true, true], [true, true, true, true, true, true, true], [true, true, true, true, true, true, true, true], [true, true, true, true, true, true, true, true, true], [true, true, true, true, true, true, true, true, false, false], [true, true, true, true, true, true, true, true, true, true, true], [true, true, true, true, true, true, true, true, true, true, true, true], [true, true, true, true, true, true, true, true, false, false, false, false, false], [true, true, true, true, true, true, true, true, true, true, true, true, false, true], [true, true, true, true, true, true, true, true, true, true, true, true, false, true, true], [true, true, true, true, true, true, true, true, true, true, true, true, false, true, true, true], [true, true, true, true, true, true, true, true, true, true, true, true, true, true, true, true, true], [true, true, true, true, true, true, true, true, true, true, true, true, true, true, true, true, true, true]] [1, 3, 0, 2, 1, 0, 0, 0, 1, 3, 0, 2, 1, 0, 1, 1, 0, 0, 0]
    [.minor Nat 0 litVal (fun g w1 => LitAt w.heap.size w1 g), .major Nat 0 litVal, .pure, .pinned Value undef id (fun v w => BRead w v (120 :: [])), .minor Unit () (fun _ => .string (str (120 :: []))) (fun _ _ => True), .pure, .pure, .pure, .minor Nat 0 litVal (fun g w1 => LitAt w.heap.size w1 g), .major Nat 0 litVal, .pure, .pinned Value undef id (fun v w => BRead w v (120 :: enc (zg a0))), .minor Unit () (fun _ => .string (str (120 :: enc (zg a0)))) (fun _ _ => True), .pure, .minor Unit () (fun _ => .int .u64 (zg a0)) (fun _ _ => True), .minor Unit () (fun _ => .string (str (enc (zg a0)))) (fun _ _ => True), .pure, .pure, .pure]
    (fun W => Below w.heap.size w W) (SLit w.heap.size) (Marked w.heap.size) (by kernel_rfl) (by kernel_rfl) rfl rfl SLit.ext ?_ ?_ ?_ ?_ (SLit.nil _ _) ?_
  · intro w1 w2 he hb; exact hb.trans (he.mono hb.size)
  · intro w1 w2 hm hb; exact hb.trans hm.below
  · refine ⟨⟨?_, ?_⟩, trivial, trivial, ⟨?_, ?_⟩, ⟨?_, ?_⟩, trivial, trivial, trivial, ⟨?_, ?_⟩, trivial, trivial, ⟨?_, ?_⟩, ⟨?_, ?_⟩, trivial, ⟨?_, ?_⟩, ⟨?_, ?_⟩, trivial, trivial, trivial, trivial⟩
    all_goals (intro x w1 w2 hk hx; first | exact trivial | exact LitAt.ext hx hk | exact LitAt.marked hx hk | exact NumsAt.keeps hx (Keeps.of_ext hk) | exact NumsAt.keeps hx (Marked.keeps hk) | exact BRead.keeps hx (Keeps.of_ext hk) | exact BRead.keeps hx (Marked.keeps hk))
  · exact HB.drew
  dsimp only [Reg.mk, List.zip, List.zipWith, List.take]
  refine Reg.pass_minor (by rfl) (fun wz hI hF => ?_) (fun x0 => ?_)
  · unfold Reg.One
    go_wp2_with fail
    exact ⟨_, rfl, ⟨wz.heap.size, rfl, hI.size, Or.inl (heap_alloc_new wz _)⟩, (Below.refl _ _).alloc (Nat.le_refl _) _⟩
  simp only [Act.put, List.setIfInBounds_toArray, List.set_cons_zero, List.set_cons_succ]; (try simp only [List.nil_append]); (try simp only [List.cons_append]); (try simp only [id])
  refine Reg.pass_major (by rfl) (fun wz hI hS hF => ?_) (fun x1 => ?_)
  · unfold Reg.One
    obtain ⟨w9, hrun, hmk, hlit⟩ := run_mark hF.1
    go_wp2_with fail
    exact ⟨_, rfl, ⟨⟨_, rfl⟩, SLit.one hlit _⟩, hmk⟩
  simp only [Act.put, List.setIfInBounds_toArray, List.set_cons_zero, List.set_cons_succ]; (try simp only [List.nil_append]); (try simp only [List.cons_append]); (try simp only [id])
  repeat (refine' Reg.pass_is _ (by rfl) (fun wz => ?_) ?_; rotate_left; (go_simp; first | rfl | rw [if_neg (by omega)]); simp only [Act.put, List.setIfInBounds_toArray, List.set_cons_zero, List.set_cons_succ]; (try simp only [List.nil_append]); (try simp only [List.cons_append]))
  refine Reg.pass_pinned (by rfl) (fun wz hI hS hF => ?_) (fun x3 => ?_)
  · unfold Reg.One
    obtain ⟨hbuf, hrd⟩ := SLit.buf hS rfl wz.heap.size
    go_wp2_with (go_at_call 8; go_must (refine (Put_lit a0 h0 _ _ hbuf hrd).mono ?_); rintro e w1 ⟨v1, rfl, hown1, hbl1⟩)
    rw [hP] at hown1
    exact ⟨_, rfl, ⟨_, rfl, hown1⟩, hbl1⟩
  simp only [Act.put, List.setIfInBounds_toArray, List.set_cons_zero, List.set_cons_succ]; (try simp only [List.nil_append]); (try simp only [List.cons_append]); (try simp only [id])
  refine Reg.pass_minor (by rfl) (fun wz hI hF => ?_) (fun x4 => ?_)
  · unfold Reg.One
    have hcv := conv_read hF.2.2.2.1
    go_wp2_with fail
    exact ⟨_, rfl, ⟨(), rfl, trivial⟩, Reg.Ext.refl _⟩
  simp only [Act.put, List.setIfInBounds_toArray, List.set_cons_zero, List.set_cons_succ]; (try simp only [List.nil_append]); (try simp only [List.cons_append]); (try simp only [id])
  repeat (refine' Reg.pass_is _ (by rfl) (fun wz => ?_) ?_; rotate_left; (go_simp; first | rfl | rw [if_neg (by omega)]); simp only [Act.put, List.setIfInBounds_toArray, List.set_cons_zero, List.set_cons_succ]; (try simp only [List.nil_append]); (try simp only [List.cons_append]))
  refine Reg.pass_minor (by rfl) (fun wz hI hF => ?_) (fun x8 => ?_)
  · unfold Reg.One
    go_wp2_with fail
    exact ⟨_, rfl, ⟨wz.heap.size, rfl, hI.size, Or.inl (heap_alloc_new wz _)⟩, (Below.refl _ _).alloc (Nat.le_refl _) _⟩
  simp only [Act.put, List.setIfInBounds_toArray, List.set_cons_zero, List.set_cons_succ]; (try simp only [List.nil_append]); (try simp only [List.cons_append]); (try simp only [id])
  refine Reg.pass_major (by rfl) (fun wz hI hS hF => ?_) (fun x9 => ?_)
  · unfold Reg.One
    obtain ⟨w9, hrun, hmk, hlit⟩ := run_mark hF.2.2.2.2.2.2.2.2.1
    go_wp2_with fail
    exact ⟨_, rfl, ⟨⟨_, rfl⟩, SLit.one hlit _⟩, hmk⟩
  simp only [Act.put, List.setIfInBounds_toArray, List.set_cons_zero, List.set_cons_succ]; (try simp only [List.nil_append]); (try simp only [List.cons_append]); (try simp only [id])
  repeat (refine' Reg.pass_is _ (by rfl) (fun wz => ?_) ?_; rotate_left; (go_simp; first | rfl | rw [if_neg (by omega)]); simp only [Act.put, List.setIfInBounds_toArray, List.set_cons_zero, List.set_cons_succ]; (try simp only [List.nil_append]); (try simp only [List.cons_append]))
  refine Reg.pass_pinned (by rfl) (fun wz hI hS hF => ?_) (fun x11 => ?_)
  · unfold Reg.One
    obtain ⟨hbuf, hrd⟩ := SLit.buf hS rfl wz.heap.size
    go_wp2_with (go_at_call 9; go_must (refine (Sign_lit a0 h0 _ _ hbuf).mono ?_); rintro e w1 ⟨v1, rfl, hown1, hbl1⟩)
    exact ⟨_, rfl, ⟨_, rfl, hown1⟩, hbl1⟩
  simp only [Act.put, List.setIfInBounds_toArray, List.set_cons_zero, List.set_cons_succ]; (try simp only [List.nil_append]); (try simp only [List.cons_append]); (try simp only [id])
  refine Reg.pass_minor (by rfl) (fun wz hI hF => ?_) (fun x12 => ?_)
  · unfold Reg.One
    have hcv := conv_read hF.2.2.2.2.2.2.2.2.2.2.2.1
    go_wp2_with fail
    exact ⟨_, rfl, ⟨(), rfl, trivial⟩, Reg.Ext.refl _⟩
  simp only [Act.put, List.setIfInBounds_toArray, List.set_cons_zero, List.set_cons_succ]; (try simp only [List.nil_append]); (try simp only [List.cons_append]); (try simp only [id])
  repeat (refine' Reg.pass_is _ (by rfl) (fun wz => ?_) ?_; rotate_left; (go_simp; first | rfl | rw [if_neg (by omega)]); simp only [Act.put, List.setIfInBounds_toArray, List.set_cons_zero, List.set_cons_succ]; (try simp only [List.nil_append]); (try simp only [List.cons_append]))
  refine Reg.pass_minor (by rfl) (fun wz hI hF => ?_) (fun x14 => ?_)
  · unfold Reg.One
    go_wp2_with (go_at_call 10; go_must (refine (zig_any a0 wz h0).mono ?_); rintro e w1 ⟨rfl, rfl⟩)
    exact ⟨_, rfl, ⟨(), rfl, trivial⟩, Reg.Ext.refl _⟩
  simp only [Act.put, List.setIfInBounds_toArray, List.set_cons_zero, List.set_cons_succ]; (try simp only [List.nil_append]); (try simp only [List.cons_append]); (try simp only [id])
  refine Reg.pass_minor (by rfl) (fun wz hI hF => ?_) (fun x15 => ?_)
  · unfold Reg.One
    go_wp2_with (go_at_call 7; go_must (refine (raw_any (zg a0) HZ0.out wz).mono ?_); rintro e w1 ⟨rfl, hbl1⟩)
    exact ⟨_, rfl, ⟨(), rfl, trivial⟩, hbl1⟩
  simp only [Act.put, List.setIfInBounds_toArray, List.set_cons_zero, List.set_cons_succ]; (try simp only [List.nil_append]); (try simp only [List.cons_append]); (try simp only [id])
  repeat (refine' Reg.pass_is _ (by rfl) (fun wz => ?_) ?_; rotate_left; (go_simp; first | rfl | rw [if_neg (by omega)]); simp only [Act.put, List.setIfInBounds_toArray, List.set_cons_zero, List.set_cons_succ]; (try simp only [List.nil_append]); (try simp only [List.cons_append]))
  refine Reg.pass_end ?_
  intro w3 HB3 _ _
  show wpList _ _ _ [] _ _
  have HB := HB3
  clear HB3
  go_wp2_with fail
  refine Reg.region_mk 26 81 [[], [true], [false, false], [false, false, false], [false, false, true, true], [true, true, true, true, true], [true, true, true, true, true, true], [false, false, false, false, false, false, false], [true, true, true, true, true, true, false, true], [true, true, true, true, true, true, false, true, true], [true, true, true, true, true, true, false, true, true, true], [false, false, false, false, false, false, false, false, false, false, false], [true, true, true, true, true, true, false, true, true, true, false, true], [true, true, true, true, true, true, false, true, true, true, false, true, true], [true, true, true, true, true, true, false, true, true, true, true, true, true, true], [true, true, true, true, true, true, true, true, true, true, true, true, true, true, true], [true, true, true, true, true, true, true, true, true, true, true, true, true, true, true, true], [true, true, true, true, true, true, true, true, true, true, true, true, true, true, true, true, true], [true, true, true, true, true, true, true, true, true, true, true, true, true, true, true, true, true, true], [true, true, true, true, true, true, true, true, true, true, true, true, true, true, true, true, true, false, false], [true, true, true, true, true, true, true, true, true, true, true, true, true, true, true, true, true, true, true, true], [true, true, true, true, true, true, true, true, true, true, true, true, true, true, true, true, true, true, true, true, true], [true, true, true, true, true, true, true, true, true, true, true, true, true, true, true, true, true, false, false, false, false, false], [true, true, true, true, true, true, true, true, true, true, true, true, true, true, true, true, true, false, false, false, false, false, true], [true, true, true, true, true, true, true, true, true, true, true, true, true, true, true, true, true, true, true, true, true, true, true, true], [true, true, true, true, true, true, true, true, true, true, true, true, true, true, true, true, true, true, true, true, true, true, true, true, true]] [1, 3, 0, 0, 1, 2, 1, 0, 1, 1, 0, 0, 1, 1, 0, 0, 0, 1, 3, 0, 2, 1, 0, 0, 0, 0]
    [.minor Nat 0 litVal (fun g w1 => LitAt w.heap.size w1 g), .major Nat 0 litVal, .pure, .pure, .minor Nat 0 numsVal (fun g w1 => NumsAt w1 g a0 a1), .pinned Value undef id (fun v w => BRead w v (120 :: (enc (zg a0) ++ enc (zg a1)))), .minor Unit () (fun _ => .string (str (120 :: (enc (zg a0) ++ enc (zg a1))))) (fun _ _ => True), .pure, .minor Unit () (fun _ => .int .u64 (zg a0)) (fun _ _ => True), .minor Unit () (fun _ => .string (str (enc (zg a0)))) (fun _ _ => True), .pure, .pure, .minor Unit () (fun _ => .int .u64 (zg a1)) (fun _ _ => True), .minor Unit () (fun _ => .string (str (enc (zg a1)))) (fun _ _ => True), .pure, .pure, .pure, .minor Nat 0 litVal (fun g w1 => LitAt w.heap.size w1 g), .major Nat 0 litVal, .pure, .pinned Value undef id (fun v w => BRead w v ([120, 1])), .minor Unit () (fun _ => .string (str ([120, 1]))) (fun _ _ => True), .pure, .pure, .pure, .pure]
    (fun W => Below w.heap.size w W) (SLit w.heap.size) (Marked w.heap.size) (by kernel_rfl) (by kernel_rfl) rfl rfl SLit.ext ?_ ?_ ?_ ?_ (SLit.nil _ _) ?_
  · intro w1 w2 he hb; exact hb.trans (he.mono hb.size)
  · intro w1 w2 hm hb; exact hb.trans hm.below
  · refine ⟨⟨?_, ?_⟩, trivial, trivial, trivial, ⟨?_, ?_⟩, ⟨?_, ?_⟩, ⟨?_, ?_⟩, trivial, ⟨?_, ?_⟩, ⟨?_, ?_⟩, trivial, trivial, ⟨?_, ?_⟩, ⟨?_, ?_⟩, trivial, trivial, trivial, ⟨?_, ?_⟩, trivial, trivial, ⟨?_, ?_⟩, ⟨?_, ?_⟩, trivial, trivial, trivial, trivial, trivial⟩
    all_goals (intro x w1 w2 hk hx; first | exact trivial | exact LitAt.ext hx hk | exact LitAt.marked hx hk | exact NumsAt.keeps hx (Keeps.of_ext hk) | exact NumsAt.keeps hx (Marked.keeps hk) | exact BRead.keeps hx (Keeps.of_ext hk) | exact BRead.keeps hx (Marked.keeps hk))
  · exact HB.drew
  dsimp only [Reg.mk, List.zip, List.zipWith, List.take]
  refine Reg.pass_minor (by rfl) (fun wz hI hF => ?_) (fun x0 => ?_)
  · unfold Reg.One
    go_wp2_with fail
    exact ⟨_, rfl, ⟨wz.heap.size, rfl, hI.size, Or.inl (heap_alloc_new wz _)⟩, (Below.refl _ _).alloc (Nat.le_refl _) _⟩
  simp only [Act.put, List.setIfInBounds_toArray, List.set_cons_zero, List.set_cons_succ]; (try simp only [List.nil_append]); (try simp only [List.cons_append]); (try simp only [id])
  refine Reg.pass_major (by rfl) (fun wz hI hS hF => ?_) (fun x1 => ?_)
  · unfold Reg.One
    obtain ⟨w9, hrun, hmk, hlit⟩ := run_mark hF.1
    go_wp2_with fail
    exact ⟨_, rfl, ⟨⟨_, rfl⟩, SLit.one hlit _⟩, hmk⟩
  simp only [Act.put, List.setIfInBounds_toArray, List.set_cons_zero, List.set_cons_succ]; (try simp only [List.nil_append]); (try simp only [List.cons_append]); (try simp only [id])
  repeat (refine' Reg.pass_is _ (by rfl) (fun wz => ?_) ?_; rotate_left; (go_simp; first | rfl | rw [if_neg (by omega)]); simp only [Act.put, List.setIfInBounds_toArray, List.set_cons_zero, List.set_cons_succ]; (try simp only [List.nil_append]); (try simp only [List.cons_append]))
  refine Reg.pass_minor (by rfl) (fun wz hI hF => ?_) (fun x4 => ?_)
  · unfold Reg.One
    go_wp2_with fail
    exact ⟨_, rfl, ⟨wz.heap.size, rfl, NumsAt.new wz a0 a1⟩, (Below.refl _ _).alloc (Nat.le_refl _) _⟩
  simp only [Act.put, List.setIfInBounds_toArray, List.set_cons_zero, List.set_cons_succ]; (try simp only [List.nil_append]); (try simp only [List.cons_append]); (try simp only [id])
  refine Reg.pass_pinned (by rfl) (fun wz hI hS hF => ?_) (fun x5 => ?_)
  · unfold Reg.One
    obtain ⟨hbuf, hrd⟩ := SLit.buf hS rfl wz.heap.size
    have hnum : NumsAt wz x4 a0 a1 := hF.2.2.2.2.1
    go_wp2_with (go_at_call 11; go_must (refine (All_lit a0 a1 h0 h1 _ _ _ hbuf hnum).mono ?_); rintro e w1 ⟨v1, rfl, hown1, hbl1⟩)
    exact ⟨_, rfl, ⟨_, rfl, hown1⟩, hbl1⟩
  simp only [Act.put, List.setIfInBounds_toArray, List.set_cons_zero, List.set_cons_succ]; (try simp only [List.nil_append]); (try simp only [List.cons_append]); (try simp only [id])
  refine Reg.pass_minor (by rfl) (fun wz hI hF => ?_) (fun x6 => ?_)
  · unfold Reg.One
    have hcv := conv_read hF.2.2.2.2.2.1
    go_wp2_with fail
    exact ⟨_, rfl, ⟨(), rfl, trivial⟩, Reg.Ext.refl _⟩
  simp only [Act.put, List.setIfInBounds_toArray, List.set_cons_zero, List.set_cons_succ]; (try simp only [List.nil_append]); (try simp only [List.cons_append]); (try simp only [id])
  repeat (refine' Reg.pass_is _ (by rfl) (fun wz => ?_) ?_; rotate_left; (go_simp; first | rfl | rw [if_neg (by omega)]); simp only [Act.put, List.setIfInBounds_toArray, List.set_cons_zero, List.set_cons_succ]; (try simp only [List.nil_append]); (try simp only [List.cons_append]))
  refine Reg.pass_minor (by rfl) (fun wz hI hF => ?_) (fun x8 => ?_)
  · unfold Reg.One
    go_wp2_with (go_at_call 10; go_must (refine (zig_any a0 wz h0).mono ?_); rintro e w1 ⟨rfl, rfl⟩)
    exact ⟨_, rfl, ⟨(), rfl, trivial⟩, Reg.Ext.refl _⟩
  simp only [Act.put, List.setIfInBounds_toArray, List.set_cons_zero, List.set_cons_succ]; (try simp only [List.nil_append]); (try simp only [List.cons_append]); (try simp only [id])
  refine Reg.pass_minor (by rfl) (fun wz hI hF => ?_) (fun x9 => ?_)
  · unfold Reg.One
    go_wp2_with (go_at_call 7; go_must (refine (raw_any (zg a0) HZ0.out wz).mono ?_); rintro e w1 ⟨rfl, hbl1⟩)
    exact ⟨_, rfl, ⟨(), rfl, trivial⟩, hbl1⟩
  simp only [Act.put, List.setIfInBounds_toArray, List.set_cons_zero, List.set_cons_succ]; (try simp only [List.nil_append]); (try simp only [List.cons_append]); (try simp only [id])
  repeat (refine' Reg.pass_is _ (by rfl) (fun wz => ?_) ?_; rotate_left; (go_simp; first | rfl | rw [if_neg (by omega)]); simp only [Act.put, List.setIfInBounds_toArray, List.set_cons_zero, List.set_cons_succ]; (try simp only [List.nil_append]); (try simp only [List.cons_append]))
  refine Reg.pass_minor (by rfl) (fun wz hI hF => ?_) (fun x12 => ?_)
  · unfold Reg.One
    go_wp2_with (go_at_call 10; go_must (refine (zig_any a1 wz h1).mono ?_); rintro e w1 ⟨rfl, rfl⟩)
    exact ⟨_, rfl, ⟨(), rfl, trivial⟩, Reg.Ext.refl _⟩
  simp only [Act.put, List.setIfInBounds_toArray, List.set_cons_zero, List.set_cons_succ]; (try simp only [List.nil_append]); (try simp only [List.cons_append]); (try simp only [id])
  refine Reg.pass_minor (by rfl) (fun wz hI hF => ?_) (fun x13 => ?_)
  · unfold Reg.One
    go_wp2_with (go_at_call 7; go_must (refine (raw_any (zg a1) HZ1.out wz).mono ?_); rintro e w1 ⟨rfl, hbl1⟩)
    exact ⟨_, rfl, ⟨(), rfl, trivial⟩, hbl1⟩
  simp only [Act.put, List.setIfInBounds_toArray, List.set_cons_zero, List.set_cons_succ]; (try simp only [List.nil_append]); (try simp only [List.cons_append]); (try simp only [id])
  repeat (refine' Reg.pass_is _ (by rfl) (fun wz => ?_) ?_; rotate_left; (go_simp; first | rfl | rw [if_neg (by omega)]); simp only [Act.put, List.setIfInBounds_toArray, List.set_cons_zero, List.set_cons_succ]; (try simp only [List.nil_append]); (try simp only [List.cons_append]))
  refine Reg.pass_minor (by rfl) (fun wz hI hF => ?_) (fun x17 => ?_)
  · unfold Reg.One
    go_wp2_with fail
    exact ⟨_, rfl, ⟨wz.heap.size, rfl, hI.size, Or.inl (heap_alloc_new wz _)⟩, (Below.refl _ _).alloc (Nat.le_refl _) _⟩
  simp only [Act.put, List.setIfInBounds_toArray, List.set_cons_zero, List.set_cons_succ]; (try simp only [List.nil_append]); (try simp only [List.cons_append]); (try simp only [id])
  refine Reg.pass_major (by rfl) (fun wz hI hS hF => ?_) (fun x18 => ?_)
  · unfold Reg.One
    obtain ⟨w9, hrun, hmk, hlit⟩ := run_mark hF.2.2.2.2.2.2.2.2.2.2.2.2.2.2.2.2.2.1
    go_wp2_with fail
    exact ⟨_, rfl, ⟨⟨_, rfl⟩, SLit.one hlit _⟩, hmk⟩
  simp only [Act.put, List.setIfInBounds_toArray, List.set_cons_zero, List.set_cons_succ]; (try simp only [List.nil_append]); (try simp only [List.cons_append]); (try simp only [id])
  repeat (refine' Reg.pass_is _ (by rfl) (fun wz => ?_) ?_; rotate_left; (go_simp; first | rfl | rw [if_neg (by omega)]); simp only [Act.put, List.setIfInBounds_toArray, List.set_cons_zero, List.set_cons_succ]; (try simp only [List.nil_append]); (try simp only [List.cons_append]))
  refine Reg.pass_pinned (by rfl) (fun wz hI hS hF => ?_) (fun x20 => ?_)
  · unfold Reg.One
    obtain ⟨hbuf, hrd⟩ := SLit.buf hS rfl wz.heap.size
    go_wp2_with (go_at_call 12; go_must (refine (Bool_lit _ _ _ hbuf).mono ?_); rintro e w1 ⟨v1, rfl, hown1, hbl1⟩)
    exact ⟨_, rfl, ⟨_, rfl, hown1⟩, hbl1⟩
  simp only [Act.put, List.setIfInBounds_toArray, List.set_cons_zero, List.set_cons_succ]; (try simp only [List.nil_append]); (try simp only [List.cons_append]); (try simp only [id])
  refine Reg.pass_minor (by rfl) (fun wz hI hF => ?_) (fun x21 => ?_)
  · unfold Reg.One
    have hcv := conv_read hF.2.2.2.2.2.2.2.2.2.2.2.2.2.2.2.2.2.2.2.2.1
    go_wp2_with fail
    exact ⟨_, rfl, ⟨(), rfl, trivial⟩, Reg.Ext.refl _⟩
  simp only [Act.put, List.setIfInBounds_toArray, List.set_cons_zero, List.set_cons_succ]; (try simp only [List.nil_append]); (try simp only [List.cons_append]); (try simp only [id])
  repeat (refine' Reg.pass_is _ (by rfl) (fun wz => ?_) ?_; rotate_left; (go_simp; first | rfl | rw [if_neg (by omega)]); simp only [Act.put, List.setIfInBounds_toArray, List.set_cons_zero, List.set_cons_succ]; (try simp only [List.nil_append]); (try simp only [List.cons_append]))
  refine Reg.pass_end ?_
  intro w3 HB3 _ _
  show wpList _ _ _ [] _ _
  have HB := HB3
  clear HB3
  go_wp2_with fail
  refine Reg.region_mk 16 81 [[], [true], [false, false], [true, true, true], [true, true, true, true], [false, false, false, false, false], [false, false, false, false, false, true], [false, false, false, false, false, true, true], [true, true, true, true, false, true, true, true], [true, true, true, true, false, true, true, true, true], [false, false, false, false, false, false, false, false, false, false], [true, true, true, true, false, true, true, true, true, true, true], [true, true, true, true, true, true, true, true, true, true, true, true], [true, true, true, true, true, true, true, true, true, true, true, true, true], [true, true, true, true, true, true, true, true, true, true, true, true, true, true], [true, true, true, true, true, true, true, true, true, true, true, true, true, true, true]] [1, 3, 0, 2, 1, 0, 0, 0, 1, 0, 0, 0, 0, 0, 1, 0]
    [.minor Nat 0 litVal (fun g w1 => LitAt w.heap.size w1 g), .major Nat 0 litVal, .pure, .pinned Value undef id (fun v w => BRead w v (120 :: (enc (cut200 s).size ++ tb (cut200 s)))), .minor Unit () (fun _ => .string (str (120 :: (enc (cut200 s).size ++ tb (cut200 s))))) (fun _ _ => True), .pure, .pure, .pure, .minor Unit () (fun _ => .string (str (enc (cut200 s).size))) (fun _ _ => True), .pure, .pure, .pure, .pure, .pure, .minor Unit () (fun _ => .bool true) (fun _ _ => True), .pure]
    (fun W => Below w.heap.size w W) (SLit w.heap.size) (Marked w.heap.size) (by kernel_rfl) (by kernel_rfl) rfl rfl SLit.ext ?_ ?_ ?_ ?_ (SLit.nil _ _) ?_
  · intro w1 w2 he hb; exact hb.trans (he.mono hb.size)
  · intro w1 w2 hm hb; exact hb.trans hm.below
  · refine ⟨⟨?_, ?_⟩, trivial, trivial, ⟨?_, ?_⟩, ⟨?_, ?_⟩, trivial, trivial, trivial, ⟨?_, ?_⟩, trivial, trivial, trivial, trivial, trivial, ⟨?_, ?_⟩, trivial, trivial⟩
    all_goals (intro x w1 w2 hk hx; first | exact trivial | exact LitAt.ext hx hk | exact LitAt.marked hx hk | exact NumsAt.keeps hx (Keeps.of_ext hk) | exact NumsAt.keeps hx (Marked.keeps hk) | exact BRead.keeps hx (Keeps.of_ext hk) | exact BRead.keeps hx (Marked.keeps hk))
  · exact HB.drew
  dsimp only [Reg.mk, List.zip, List.zipWith, List.take]
  refine Reg.pass_minor (by rfl) (fun wz hI hF => ?_) (fun x0 => ?_)
  · unfold Reg.One
    go_wp2_with fail
    exact ⟨_, rfl, ⟨wz.heap.size, rfl, hI.size, Or.inl (heap_alloc_new wz _)⟩, (Below.refl _ _).alloc (Nat.le_refl _) _⟩
  simp only [Act.put, List.setIfInBounds_toArray, List.set_cons_zero, List.set_cons_succ]; (try simp only [List.nil_append]); (try simp only [List.cons_append]); (try simp only [id])
  refine Reg.pass_major (by rfl) (fun wz hI hS hF => ?_) (fun x1 => ?_)
  · unfold Reg.One
    obtain ⟨w9, hrun, hmk, hlit⟩ := run_mark hF.1
    go_wp2_with fail
    exact ⟨_, rfl, ⟨⟨_, rfl⟩, SLit.one hlit _⟩, hmk⟩
  simp only [Act.put, List.setIfInBounds_toArray, List.set_cons_zero, List.set_cons_succ]; (try simp only [List.nil_append]); (try simp only [List.cons_append]); (try simp only [id])
  repeat (refine' Reg.pass_is _ (by rfl) (fun wz => ?_) ?_; rotate_left; (go_simp; first | rfl | rw [if_neg (by omega)]); simp only [Act.put, List.setIfInBounds_toArray, List.set_cons_zero, List.set_cons_succ]; (try simp only [List.nil_append]); (try simp only [List.cons_append]))
  refine Reg.pass_pinned (by rfl) (fun wz hI hS hF => ?_) (fun x3 => ?_)
  · unfold Reg.One
    obtain ⟨hbuf, hrd⟩ := SLit.buf hS rfl wz.heap.size
    go_wp2_with (go_at_call 13; go_must (refine (Text_lit (cut200 s) hcs _ _ hbuf).mono ?_); rintro e w1 ⟨v1, rfl, hown1, hbl1⟩)
    exact ⟨_, rfl, ⟨_, rfl, hown1⟩, hbl1⟩
  simp only [Act.put, List.setIfInBounds_toArray, List.set_cons_zero, List.set_cons_succ]; (try simp only [List.nil_append]); (try simp only [List.cons_append]); (try simp only [id])
  refine Reg.pass_minor (by rfl) (fun wz hI hF => ?_) (fun x4 => ?_)
  · unfold Reg.One
    have hcv := conv_read hF.2.2.2.1
    go_wp2_with fail
    exact ⟨_, rfl, ⟨(), rfl, trivial⟩, Reg.Ext.refl _⟩
  simp only [Act.put, List.setIfInBounds_toArray, List.set_cons_zero, List.set_cons_succ]; (try simp only [List.nil_append]); (try simp only [List.cons_append]); (try simp only [id])
  repeat (refine' Reg.pass_is _ (by rfl) (fun wz => ?_) ?_; rotate_left; (go_simp; first | rfl | rw [if_neg (by omega)]); simp only [Act.put, List.setIfInBounds_toArray, List.set_cons_zero, List.set_cons_succ]; (try simp only [List.nil_append]); (try simp only [List.cons_append]))
  refine Reg.pass_minor (by rfl) (fun wz hI hF => ?_) (fun x8 => ?_)
  · unfold Reg.One
    go_wp2_with (go_at_call 7; go_must (refine (raw_any (cut200 s).size (by omega) wz).mono ?_); rintro e w1 ⟨rfl, hbl1⟩)
    exact ⟨_, rfl, ⟨(), rfl, trivial⟩, hbl1⟩
  simp only [Act.put, List.setIfInBounds_toArray, List.set_cons_zero, List.set_cons_succ]; (try simp only [List.nil_append]); (try simp only [List.cons_append]); (try simp only [id])
  repeat (refine' Reg.pass_is _ (by rfl) (fun wz => ?_) ?_; rotate_left; (go_simp; first | rfl | rw [if_neg (by omega)]); simp only [Act.put, List.setIfInBounds_toArray, List.set_cons_zero, List.set_cons_succ]; (try simp only [List.nil_append]); (try simp only [List.cons_append]))
  refine Reg.pass_minor (by rfl) (fun wz hI hF => ?_) (fun x14 => ?_)
  · unfold Reg.One
    go_wp2_with (go_at_call 14; go_must (refine (awake_any wz).mono ?_); rintro e w1 ⟨rfl, hbl1⟩)
    exact ⟨_, rfl, ⟨(), rfl, trivial⟩, hbl1⟩
  simp only [Act.put, List.setIfInBounds_toArray, List.set_cons_zero, List.set_cons_succ]; (try simp only [List.nil_append]); (try simp only [List.cons_append]); (try simp only [id])
  repeat (refine' Reg.pass_is _ (by rfl) (fun wz => ?_) ?_; rotate_left; (go_simp; first | rfl | rw [if_neg (by omega)]); simp only [Act.put, List.setIfInBounds_toArray, List.set_cons_zero, List.set_cons_succ]; (try simp only [List.nil_append]); (try simp only [List.cons_append]))
  refine Reg.pass_end ?_
  intro w3 HB3 _ _
  go_wp2_with fail
  go_ret
  exact ⟨rfl, HB3⟩

theorem puts_walk (a0 : Int) (a1 : Int) (a2 : Bool) (s : ByteArray) (h0 : -9223372036854775808 ≤ a0 ∧ a0 ≤ 9223372036854775807) (h1 : -9223372036854775808 ≤ a1 ∧ a1 ≤ 9223372036854775807) (hs : s.size ≤ maxLen) (w : World) :
    Calls Try.prog 3 #[.int .i64 a0, .int .i64 a1, .bool a2, .string s] w fun e w' => e = .returned (.bool true) ∧ Below w.heap.size w w' := by
  by_cases hn : a0 < 0
  · cases a2
    · exact puts_neg_f a0 a1 s hn h0 h1 hs w
    · exact puts_neg_t a0 a1 s hn h0 h1 hs w
  · cases a2
    · exact puts_pos_f a0 a1 s (by omega) h0 h1 hs w
    · exact puts_pos_t a0 a1 s (by omega) h0 h1 hs w

end Go.Proofs.Ytoefcfpjanmnlaa
