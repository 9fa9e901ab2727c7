/-
  Own walks: a new planner; all choices for items.
-/
import Derived.Test.YtbnpeicmbbgboaaPgD
namespace Go.Proofs.Ytbnpeicmbbgboaa
set_option maxRecDepth 8000
open Go.RowKit Go.Sort Go.Lib

/-- What a new planner is, or why there is none. -/
def PNewPost (w : World) (L : List (Int × Int)) (ver now : Int) (f : Int → Int) (a : Nat) (m : Int) (l : List It) (depth : Int) (e : Ending) (w' : World) : Prop :=
  Below w.heap.size w w' ∧ (((depth < 1 ∨ 64 < depth) ∧ e = .returned (.tuple #[.pointer none, .int .i64 1])) ∨
    ((1 ≤ depth ∧ depth ≤ 64) ∧ (∃ x ∈ l.take depth.toNat, ¬ x.ok) ∧ e = .returned (.tuple #[.pointer none, .int .i64 5])) ∨
    ((1 ≤ depth ∧ depth ≤ 64) ∧ (∀ x ∈ l.take depth.toNat, x.ok) ∧ ∃ (z p' g' : Nat) (lv : Value), e = .returned (.tuple #[.pointer (some ⟨z, 0, none⟩), .int .i64 0]) ∧
      PlW w.heap.size w' z p' g' lv (.slice none 0 0) L ver now f [] a m ∧ LeftAt w' lv (l.take depth.toNat)))

/-- A profile as it is planned on. -/
structure PfOk (w : World) (p g : Nat) (L : List (Int × Int)) (ver now : Int) (f : Int → Int) (a : Nat) (m : Int) : Prop where
  x : PW w p g L ver
  can : Can L now f
  fr : ∀ t, now ≤ t → 0 ≤ f t ∧ f t ≤ 64
  now0 : 0 ≤ now ∧ now ≤ 1099511627776
  ll : L.length ≤ a
  v : 0 ≤ ver ∧ ver ≤ m

section
variable {w : World} {p g : Nat} {v : Value} {L : List (Int × Int)} {ver now : Int} {f : Int → Int} {a : Nat} {m : Int} {l : List It}

theorem PfOk.kept {w' : World} (h : PfOk w p g L ver now f a m) (hb : Below w.heap.size w w') : PfOk w' p g L ver now f a m := ⟨h.x.kept hb, h.can, h.fr, h.now0, h.ll, h.v⟩

set_option maxRecDepth 1000000 in
set_option maxHeartbeats 4000000 in
theorem planNew_fn (depth : Int) (h : PfOk w p g L ver now f a m) (ha : a ≤ 1000) (hv : RowAt encI 4 w v l) (hl : l.length ≤ 1000) :
    Calls Try.prog 15 #[.pointer (some ⟨p, 0, none⟩), .int .i64 depth, v] w (PNewPost w L ver now f a m l depth) := by
  have hcp := pf_Copy_any h.x h.can.sm.pos (Nat.le_trans h.ll ha)
  have hrec := Lib.hid h
  clear h
  by_cases hd : depth < 1 ∨ 64 < depth
  · obtain ⟨ao, cap, rfl, _⟩ := hv
    have hd' := Lib.hid hd
    rcases hd with hd | hd
    · go_enter Try.func15, Try.ntmps15
      go_wp2_with (go_at_call 25; go_must (refine hcp.mono ?_); rintro e w1 ⟨p1, g1, rfl, h1, h2, h3, hb⟩)
      go_ret2
      exact ⟨hb, .inl ⟨hd'.out, rfl⟩⟩
    · have hd2 : ¬ depth < 1 := by omega
      go_enter Try.func15, Try.ntmps15
      go_wp2_with (go_at_call 25; go_must (refine hcp.mono ?_); rintro e w1 ⟨p1, g1, rfl, h1, h2, h3, hb⟩)
      go_ret2
      exact ⟨hb, .inl ⟨hd'.out, rfl⟩⟩
  · obtain ⟨K, rfl⟩ : ∃ K : Nat, depth = (K : Int) := ⟨depth.toNat, by omega⟩
    have hd1 : ¬ ((K : Int) < 1) := by omega
    have hd2 : ¬ (64 < (K : Int)) := by omega
    have hd0 : Hid (1 ≤ (K : Int) ∧ (K : Int) ≤ 64) := by show _ ∧ _; omega
    clear hd
    obtain ⟨ao, cap, rfl, q1, q2, q3⟩ := hv
    obtain ⟨n, hn⟩ : ∃ n, n = min K l.length := ⟨_, rfl⟩
    have hmin : min (K : Int) (l.length : Int) = (n : Int) := by omega
    have hv : RowAt encI 4 w (.slice ao n cap) (l.take n) := RowAt.cut ⟨ao, cap, rfl, q1, q2, q3⟩ (by omega)
    have htk : Hid (l.take (K : Int).toNat = l.take n) := by
      show _ = _
      rw [Int.toNat_natCast]
      rcases Nat.le_total K l.length with h1 | h1
      · rw [hn, Nat.min_eq_left h1]
      · rw [hn, Nat.min_eq_right h1, List.take_of_length_le h1, List.take_of_length_le (Nat.le_refl _)]
    have hnl : n ≤ l.length := by omega
    have hln : (l.take n).length ≤ 1000 := by rw [List.length_take]; omega
    have hcf := fun (W : World) (hW : Below w.heap.size w W) => Contains_fn (hv.below hW) hln
    have hcl := fun (W : World) (hW : Below w.heap.size w W) => CloneI_fn (hv.below hW) hln
    replace hcf := Lib.hid hcf
    replace hcl := Lib.hid hcl
    clear q3 hv
    replace hn := Lib.hid hn
    have b0 : (0 : Int) ≤ n := by omega
    have b1 : n ≤ cap := by omega
    go_enter Try.func15, Try.ntmps15
    go_wp2_with (go_at_call 25; go_must (refine hcp.mono ?_); rintro e w1 ⟨p1, g1, rfl, h1, h2, h3, hb⟩)
    go_at_call 26
    refine (hcf.out w1 hb).mono ?_
    clear hcf hcp
    rintro e w2 ⟨bb, rfl, hno, hyes, hb2⟩
    cases bb with
    | true =>
      have hfin : Hid (PNewPost w L ver now f a m l K (.returned (.tuple #[.pointer none, .int .i64 5])) w2) := ⟨hb.trans (hb2.mono hb.size), .inr (.inl ⟨hd0.out, by rw [htk.out]; exact hyes rfl, rfl⟩)⟩
      clear hno hyes h1 h2 h3 hb hb2
      go_wp2_with fail
      go_ret2
      exact hfin.out
    | false =>
      have hall := Lib.hid (hno rfl)
      clear hno hyes
      have hb12 := hb.trans (hb2.mono hb.size)
      have hx2 := h1.kept hb2
      have hcl2 := hcl.out w2 hb12
      clear hcl h1 hb hb2
      replace hx2 := Lib.hid hx2
      go_wp2_with fail
      go_at_call 28
      refine hcl2.mono ?_
      clear hcl2
      rintro e w3 ⟨v3, rfl, ho3, hb3⟩
      have hx3 := hx2.out.kept hb3
      have hsz := hb12.size
      have hsz3 := hb3.size
      have hlen : (l.take n).length = n := by rw [List.length_take]; omega
      rw [hlen] at ho3
      obtain ⟨ao3, cap3, rfl, _⟩ := own_shape ho3
      have hb4 := hb12.trans (hb3.mono hsz)
      obtain ⟨o, ho⟩ : ∃ o, o = Obj.cells #[.pointer (some ⟨p1, 0, none⟩), .slice ao3 n cap3, .slice none 0 0] 71 := ⟨_, rfl⟩
      have hal : Below w3.heap.size w3 (w3.alloc o) := (Below.refl _ _).alloc (Nat.le_refl _) _
      have hobj : (w3.alloc o).heap[w3.heap.size]? = some o := heap_alloc_new w3 o
      rw [show some o = some (Obj.cells #[.pointer (some ⟨p1, 0, none⟩), .slice ao3 n cap3, .slice none 0 0] 71) from by rw [ho]] at hobj
      have hfin : Hid (PNewPost w L ver now f a m l K (.returned (.tuple #[.pointer (some ⟨w3.heap.size, 0, none⟩), .int .i64 0])) (w3.alloc o)) :=
        ⟨hb4.alloc (by have := hb4.size; omega) _, .inr (.inr ⟨hd0.out, by rw [htk.out]; exact hall.out, w3.heap.size, p1, g1, _, rfl,
          ⟨by have := hb4.size; omega, hobj, hx3.kept hal, hrec.out.can, hrec.out.fr, hrec.out.now0, hrec.out.ll, hrec.out.v, h2, h3, World.ownsRow_nil _ w.heap.size 53 2⟩,
          by rw [htk.out]; exact LeftAt.of_own (pf_own_kept ho3 hal) rfl hlen.symm⟩)⟩
      rw [ho] at hfin
      clear hobj hal hb4 hx3 ho3 hb3 hx2 hall hb12 ho
      go_wp2_with fail
      go_ret2
      exact hfin.out

/-- What all choices are, or why there are none. -/
def AllP (w : World) (now : Int) (f : Int → Int) (l : List It) (depth : Int) (e : Ending) (w' : World) : Prop :=
  Below w.heap.size w w' ∧ (((depth < 1 ∨ 64 < depth) ∧ e = .returned (.tuple #[.slice none 0 0, .int .i64 1])) ∨
    ((1 ≤ depth ∧ depth ≤ 64) ∧ (∃ x ∈ l.take depth.toNat, ¬ x.ok) ∧ e = .returned (.tuple #[.slice none 0 0, .int .i64 5])) ∨
    ((1 ≤ depth ∧ depth ≤ 64) ∧ (∀ x ∈ l.take depth.toNat, x.ok) ∧ ∃ (v' : Value) (c : List (Int × Int)) (f' : Int → Int), e = .returned (.tuple #[v', .int .i64 0]) ∧
      w'.ownsRow w.heap.size 53 2 v' c.length (prV c) ∧ PlansR now (l.take depth.toNat) f f' c))

set_option maxRecDepth 1000000 in
set_option maxHeartbeats 4000000 in
theorem All_fn (depth : Int) (h : PfOk w p g L ver now f a m) (ha : a ≤ 400) (hm : m ≤ 800000) (hm0 : 0 ≤ m) (hv : RowAt encI 4 w v l) (hl : l.length ≤ 1000) :
    Calls Try.prog 10 #[.pointer (some ⟨p, 0, none⟩), .int .i64 depth, v] w (AllP w now f l depth) := by
  have hnew := planNew_fn depth h (by omega) hv hl
  obtain ⟨ao, cap, rfl, _⟩ := hv
  clear h
  go_enter Try.func10, Try.ntmps10
  go_wp2_with fail
  go_at_call 15
  refine hnew.mono ?_
  clear hnew
  rintro e w1 ⟨hb, hr⟩
  rcases hr with ⟨h1, rfl⟩ | ⟨h1, h2, rfl⟩ | ⟨h1, h2, z, p1, g1, lv, rfl, hP, hL⟩
  · have hfin : Hid (AllP w now f l depth (.returned (.tuple #[.slice none 0 0, .int .i64 1])) w1) := ⟨hb, .inl ⟨h1, rfl⟩⟩
    clear hb h1
    go_wp2_with fail
    go_ret2
    exact hfin.out
  · have hfin : Hid (AllP w now f l depth (.returned (.tuple #[.slice none 0 0, .int .i64 5])) w1) := ⟨hb, .inr (.inl ⟨h1, h2, rfl⟩)⟩
    clear hb h1 h2
    go_wp2_with fail
    go_ret2
    exact hfin.out
  · obtain ⟨r, hr⟩ : ∃ r, r = l.take depth.toNat := ⟨_, rfl⟩
    have hrl : r.length ≤ 64 := by rw [hr, List.length_take]; omega
    rw [← hr] at hL h2
    have hlf := Left_fn hP hL
    have hnx := Next_fn (r.length : Int) hP hL h2 (by omega) (by omega) hm0 (by simp; omega)
    replace h1 := Lib.hid h1
    replace h2 := Lib.hid h2
    replace hr := Lib.hid hr
    have hsz := hb.size
    clear hP hL
    go_wp2_with (go_at_call 17; go_must (refine hlf.mono ?_); rintro e w' ⟨rfl, rfl⟩)
    go_at_call 16
    refine hnx.mono ?_
    clear hnx hlf
    rintro e w2 ⟨K, hK, rfl, g2, lv2, cv2, L2, ver2, f2, c2, hP2, hL2, hR2, hb2⟩
    have hKr : K = r.length := by omega
    subst hKr
    rw [List.take_length] at hR2
    rw [List.nil_append] at hP2
    have hcl := PlansR.len _ hR2
    have hch := Choices_fn hP2 (by omega)
    have hb12 := hb.trans hb2
    replace hR2 := Lib.hid hR2
    have hsz2 := hb2.size
    clear hP2 hL2 hK hb hb2
    go_wp2_with fail
    go_at_call 20
    refine hch.mono ?_
    clear hch
    rintro e w3 ⟨v3, rfl, ho3, hb3⟩
    have hfin : Hid (AllP w now f l depth (.returned (.tuple #[v3, .int .i64 0])) w3) := ⟨hb12.trans (hb3.mono (by omega)), .inr (.inr ⟨h1.out, by rw [← hr.out]; exact h2.out, v3, c2, f2, rfl, ownsRow_mono ho3 (by omega), by rw [← hr.out]; exact hR2.out⟩)⟩
    obtain ⟨ao3, cap3, rfl, _⟩ := own_shape ho3
    clear ho3 hb3 hb12
    go_wp2_with fail
    go_ret2
    exact hfin.out

/-- No planner on no profile. -/
theorem planNew_none (depth : Int) {q : Value} (hq : q = .pointer none ∨ ∃ k, q = .pointer (some ⟨k, 0, none⟩)) (hc : Calls Try.prog 25 #[q] w fun e w' => e = .returned (.pointer none) ∧ Below w.heap.size w w') (hv : ∃ ao n cap, v = .slice ao n cap) :
    Calls Try.prog 15 #[q, .int .i64 depth, v] w fun e w' => e = .returned (.tuple #[.pointer none, .int .i64 1]) ∧ Below w.heap.size w w' := by
  obtain ⟨ao, n, cap, rfl⟩ := hv
  rcases hq with rfl | ⟨k, rfl⟩
  · go_enter Try.func15, Try.ntmps15
    go_wp2_with (go_at_call 25; go_must (refine hc.mono ?_); rintro e w1 ⟨rfl, hb⟩)
    go_ret2
    exact ⟨rfl, hb⟩
  · go_enter Try.func15, Try.ntmps15
    go_wp2_with (go_at_call 25; go_must (refine hc.mono ?_); rintro e w1 ⟨rfl, hb⟩)
    go_ret2
    exact ⟨rfl, hb⟩
theorem Next_nil (n : Int) (w : World) : Calls Try.prog 16 #[.pointer none, .int .i64 n] w fun e w' => e = .returned (.int .i64 0) ∧ w = w' := by
  have h := Left_nil w
  have h2 : max 0 (min n (0 : Int)) = 0 := by omega
  go_enter Try.func16, Try.ntmps16
  go_wp2_with (go_at_call 17; go_must (refine h.mono ?_); rintro e w' ⟨rfl, rfl⟩)
  go_loopw [11] (fun ii wr => ii = .int .i64 0 ∧ w = wr) (fun _ _ => 0)
  case atStart => exact ⟨rfl, rfl⟩
  case round =>
    obtain ⟨rfl, rfl⟩ := hrel
    go_wp2_with fail
    go_ret
    exact ⟨rfl, rfl⟩
end

end Go.Proofs.Ytbnpeicmbbgboaa
