/-
  Own walks: package span's Cut and Area.
-/
import Derived.Test.YtnajcgicbhohhaaSpT
import Derived.Test.YtnajcgicbhohhaaSatC
namespace Go.Proofs.Ytnajcgicbhohhaa
open Go.RowKit

theorem infoSpan : (Try.prog.info? 26).map (fun i => (i.zero, i.size, i.bytes)) = some (some (.agg #[.int .i64 0, .int .i64 0, .int .i64 0]), 3, 24) := by kernel_rfl

/-- What is left of a span from a time on. -/
def cutS (from_ : Int) (s : Sp) : Sp := ⟨max s.a from_, s.b, s.n⟩
/-- What is left of spans from a time on. -/
def cutF (from_ : Int) (l : List Sp) : List Sp := l.flatMap fun s => if rightB s = true ∧ from_ < s.b then [cutS from_ s] else []
theorem cutF_yes {from_ : Int} {l : List Sp} {s : Sp} (h : rightB s = true ∧ from_ < s.b) : cutF from_ (l ++ [s]) = cutF from_ l ++ [cutS from_ s] := by simp [cutF, h]
theorem cutF_no {from_ : Int} {l : List Sp} {s : Sp} (h : ¬ (rightB s = true ∧ from_ < s.b)) : cutF from_ (l ++ [s]) = cutF from_ l := by
  simp only [cutF, List.flatMap_append, List.flatMap_cons, List.flatMap_nil, List.append_nil]
  rw [if_neg h, List.append_nil]
theorem cutF_length (from_ : Int) (l : List Sp) : (cutF from_ l).length ≤ l.length := by
  induction l with
  | nil => simp [cutF]
  | cons s l ih =>
    have e : cutF from_ (s :: l) = (if rightB s = true ∧ from_ < s.b then [cutS from_ s] else []) ++ cutF from_ l := by simp [cutF]
    rw [e, List.length_append, List.length_cons]
    split <;> simp <;> omega
def spV (l : List Sp) : List Value := l.flatMap enc3

set_option maxRecDepth 100000 in
set_option maxHeartbeats 1000000 in
theorem Cut_any (f : Int) (v : Value) (l : List Sp) (w : World) (h : RowAt enc3 3 w v l) (hlen : l.length ≤ 30) :
    Calls Try.prog 19 #[.int .i64 f, v] w fun e w' => ∃ v', e = .returned v' ∧ w'.ownsRow w.heap.size 26 3 v' (cutF f l).length (spV (cutF f l)) ∧ Below w.heap.size w w' := by
  obtain ⟨i0, hi0, hz0, hz1, hz2⟩ := info_parts infoSpan
  obtain ⟨ao, cap, rfl, hlc, hcm, hcells⟩ := h
  clear hcm
  go_enter Try.func19, Try.ntmps19
  go_wp2_with fail
  go_loopw [5, 10] (fun o i wr => ∃ (k : Nat), k ≤ l.length ∧ i = .int .i64 k ∧ wr.ownsRow w.heap.size 26 3 o (cutF f (l.take k)).length (spV (cutF f (l.take k))) ∧ Below w.heap.size w wr) (fun _ i _ => l.length - (intOf i).toNat)
  case atStart => exact ⟨0, Nat.zero_le _, rfl, World.ownsRow_nil _ _ _ _, Below.refl _ _⟩
  case round =>
    obtain ⟨k, hk, rfl, hown, hb⟩ := hrel
    by_cases hlt : k < l.length
    · obtain ⟨b, off, rfl, hbw, hcell⟩ := hcells (by omega)
      obtain ⟨s, hs⟩ : ∃ s, l[k]? = some s := ⟨_, List.getElem?_eq_getElem hlt⟩
      obtain ⟨c0, c1, c2⟩ := span_at hcell hs
      rw [← hb.cell (p := ⟨b, _, none⟩) hbw] at c0 c1 c2
      have hsz := hb.size
      have hcl := cutF_length f (l.take k)
      have hkl : (l.take k).length ≤ 30 := by rw [List.length_take]; omega
      clear hcell hcells
      have hbd : Below w.heap.size w ((wr.alloc (.cells #[.int .i64 s.a, .int .i64 s.b, .int .i64 s.n] 26)).alloc (.cells #[.int .i64 s.a, .int .i64 s.b, .int .i64 s.n] 26)) := (hb.alloc hb.size _).alloc (Nat.le_trans hb.size (by simp)) _
      by_cases hr : rightB s = true
      · by_cases h1 : f < s.b
        · have HN : Hid (cutF f (l.take (k + 1)) = cutF f (l.take k) ++ [cutS f s]) := by show _ = _; rw [take_snoc hs, cutF_yes ⟨hr, h1⟩]
          go_wp2_with (first | (go_at_call 8; go_must (refine (Right_any s _).mono ?_); rintro e w' ⟨rfl, rfl⟩; rw [hr]) | (at_builtin; go_must (refine wpList_append_own _ rfl (.tmp 27) (.tmp 29) 22 rfl w.heap.size 26 i0 (.agg #[.int .i64 0, .int .i64 0, .int .i64 0]) 3 24 Try.underlying22 hi0 hz0 hz1 hz2 rfl (by decide) u5 (cutF f (l.take k)).length (spV (cutF f (l.take k))) rfl (((hown.alloc _).alloc _).alloc _) ⟨wr.heap.size + 1 + 1, 0, none⟩ 1 1 [.int .i64 (max s.a f), .int .i64 s.b, .int .i64 s.n] rfl rfl ?c0 ?c1 ?c2 ?c3 ?c4 ?c5)))
          case c0 => exact cells_new (by simp)
          case c1 => simp [Value.oneCell']
          case c2 => unfold maxLen; omega
          case c3 => omega
          case c4 => first | omega | (simp; omega)
          case c5 =>
            intro v' w2 hown3 hgrow _
            have hb2 : Below w.heap.size w w2 := (((hb.alloc hsz _).alloc (by simp; omega) _).alloc (by simp; omega) _).grown hgrow (by simp; omega) (fun q hq => (hown.lt q hq).1)
            have hown4 : w2.ownsRow w.heap.size 26 3 v' (cutF f (l.take k) ++ [cutS f s]).length (spV (cutF f (l.take k) ++ [cutS f s])) := by simpa [spV, enc3, cutS] using hown3
            clear hown3 hgrow hown hbd hb
            go_wp2_with fail
            go_roundw
            case rel => exact ⟨k + 1, by omega, by go_num, by rw [HN.out]; exact hown4, hb2⟩
            case measure => simp [intOf]; omega
        · have h1' : s.b ≤ f := by omega
          have HN : Hid (cutF f (l.take (k + 1)) = cutF f (l.take k)) := by show _ = _; rw [take_snoc hs, cutF_no (fun h => h1 h.2)]
          go_wp2_with (go_at_call 8; go_must (refine (Right_any s _).mono ?_); rintro e w' ⟨rfl, rfl⟩; rw [hr])
          go_roundw
          case rel => exact ⟨k + 1, by omega, by go_num, by rw [HN.out]; exact (hown.alloc _).alloc _, hbd⟩
          case measure => simp [intOf]; omega
      · have hr' : rightB s = false := by simpa using hr
        have HN : Hid (cutF f (l.take (k + 1)) = cutF f (l.take k)) := by show _ = _; rw [take_snoc hs, cutF_no (fun h => hr h.1)]
        clear hr
        go_wp2_with (go_at_call 8; go_must (refine (Right_any s _).mono ?_); rintro e w' ⟨rfl, rfl⟩; rw [hr'])
        go_roundw
        case rel => exact ⟨k + 1, by omega, by go_num, by rw [HN.out]; exact (hown.alloc _).alloc _, hbd⟩
        case measure => simp [intOf]; omega
    · obtain rfl : k = l.length := by omega
      rw [List.take_of_length_le (Nat.le_refl _)] at hown
      go_wp2_with fail
      go_ret
      exact ⟨_, rfl, hown, hb⟩

theorem Meet_yes (a b c d : Int) (w : World) (h : max a c < min b d) :
    Calls Try.prog 22 #[.int .i64 a, .int .i64 b, .int .i64 c, .int .i64 d] w fun e w' => e = .returned (.tuple #[.int .i64 (max a c), .int .i64 (min b d), .bool true]) ∧ w = w' := by
  have := Meet_any a b c d w
  rw [if_neg (by omega), if_neg (by omega), decide_eq_false (by omega)] at this
  exact this
theorem Meet_no (a b c d : Int) (w : World) (h : min b d ≤ max a c) :
    Calls Try.prog 22 #[.int .i64 a, .int .i64 b, .int .i64 c, .int .i64 d] w fun e w' => e = .returned (.tuple #[.int .i64 0, .int .i64 0, .bool false]) ∧ w = w' := by
  have := Meet_any a b c d w
  rw [if_pos h, if_pos h, decide_eq_true h] at this
  exact this

theorem pair_new (w : World) (n : Nat) (hn : n = w.heap.size) (x y : Int) (hx : -9223372036854775808 ≤ x ∧ x ≤ 9223372036854775807) (hy : -9223372036854775808 ≤ y ∧ y ≤ 9223372036854775807) :
    IntsAt (w.alloc (.cells #[.int .i64 x, .int .i64 y] 2)) (.slice (some ⟨n, 0, none⟩) 2 2) [x, y] := by
  subst hn
  exact pair_at w x y _ hx hy

/-- What spans come to, held each time. -/
def stepA (f t sum : Int) (s : Sp) : Int := if rightB s = true ∧ max f s.a < min t s.b then hd (sum + hd (s.n * (min t s.b - max f s.a))) else sum
def areaF (f t : Int) (l : List Sp) : Int := l.foldl (stepA f t) 0
theorem areaF_snoc (f t : Int) (l : List Sp) (s : Sp) : areaF f t (l ++ [s]) = stepA f t (areaF f t l) s := by unfold areaF; rw [List.foldl_append]; rfl
theorem stepA_range {f t sum : Int} {s : Sp} (h : 0 ≤ sum ∧ sum ≤ 1152921504606846976) : 0 ≤ stepA f t sum s ∧ stepA f t sum s ≤ 1152921504606846976 := by
  unfold stepA
  split
  · exact hd_range _
  · exact h
theorem areaF_range (f t : Int) (l : List Sp) : 0 ≤ areaF f t l ∧ areaF f t l ≤ 1152921504606846976 := by
  have key : ∀ (l : List Sp) (x : Int), (0 ≤ x ∧ x ≤ 1152921504606846976) → 0 ≤ l.foldl (stepA f t) x ∧ l.foldl (stepA f t) x ≤ 1152921504606846976 := by
    intro l
    induction l with
    | nil => intro x h; exact h
    | cons s l ih => intro x h; exact ih _ (stepA_range h)
  exact key l 0 (by omega)
theorem area_step {f t sum : Int} {s : Sp} (hr : rightB s = true) (hm : max f s.a < min t s.b) (h : 0 ≤ sum ∧ sum ≤ 1152921504606846976) :
    sumF [sum, hd (hd s.n * hd (hd (hd (min t s.b) - hd (max f s.a))))] = stepA f t sum s := by
  have hn := rightB_yes hr
  rw [stepA, if_pos ⟨hr, hm⟩]
  rw [hd_mid (v := s.n) (by omega) (by omega), hd_mid (v := min t s.b) (by omega) (by omega), hd_mid (v := max f s.a) (by omega) (by omega)]
  rw [hd_mid (v := min t s.b - max f s.a) (by omega) (by omega)]
  rw [hd_mid (v := min t s.b - max f s.a) (by omega) (by omega)]
  have hz := hd_range (s.n * (min t s.b - max f s.a))
  obtain ⟨z, hz'⟩ : ∃ z, z = hd (s.n * (min t s.b - max f s.a)) := ⟨_, rfl⟩
  rw [← hz'] at hz ⊢
  show hd (hd (0 + hd sum) + hd z) = _
  rw [hd_mid (v := z) hz.1 hz.2, hd_mid (v := sum) h.1 h.2, hd_mid (v := 0 + sum) (by omega) (by omega), Int.zero_add]

set_option maxRecDepth 100000 in
set_option maxHeartbeats 1000000 in
theorem SArea_any (f t : Int) (v : Value) (l : List Sp) (w : World) (h : RowAt enc3 3 w v l) (hlen : l.length ≤ 30) :
    Calls Try.prog 17 #[.int .i64 f, .int .i64 t, v] w fun e w' => e = .returned (.int .i64 (areaF f t l)) ∧ Below w.heap.size w w' := by
  obtain ⟨ao, cap, rfl, hlc, hcm, hcells⟩ := h
  clear hcm
  go_enter Try.func17, Try.ntmps17
  go_wp2_with fail
  go_loopw [7, 15] (fun u i wr => ∃ (k : Nat), k ≤ l.length ∧ i = .int .i64 k ∧ u = .int .i64 (areaF f t (l.take k)) ∧ Below w.heap.size w wr) (fun _ i _ => l.length - (intOf i).toNat)
  case atStart => exact ⟨0, Nat.zero_le _, rfl, rfl, Below.refl _ _⟩
  case round =>
    obtain ⟨k, hk, rfl, rfl, hb⟩ := hrel
    by_cases hlt : k < l.length
    · obtain ⟨b, off, rfl, hbw, hcell⟩ := hcells (by omega)
      obtain ⟨s, hs⟩ : ∃ s, l[k]? = some s := ⟨_, List.getElem?_eq_getElem hlt⟩
      obtain ⟨c0, c1, c2⟩ := span_at hcell hs
      rw [← hb.cell (p := ⟨b, _, none⟩) hbw] at c0 c1 c2
      have hsz := hb.size
      clear hcell hcells
      have hn : areaF f t (l.take (k + 1)) = stepA f t (areaF f t (l.take k)) s := by rw [take_snoc hs, areaF_snoc]
      have hu := areaF_range f t (l.take k)
      obtain ⟨u, hU⟩ : ∃ u, u = areaF f t (l.take k) := ⟨_, rfl⟩
      rw [← hU] at hn hu ⊢
      clear hU
      have hbd1 : Below w.heap.size w (wr.alloc (.cells #[.int .i64 s.a, .int .i64 s.b, .int .i64 s.n] 26)) := hb.alloc hb.size _
      have hbd : Below w.heap.size w ((wr.alloc (.cells #[.int .i64 s.a, .int .i64 s.b, .int .i64 s.n] 26)).alloc (.cells #[.int .i64 s.a, .int .i64 s.b, .int .i64 s.n] 26)) := (hb.alloc hb.size _).alloc (Nat.le_trans hb.size (by simp)) _
      by_cases hm : max f s.a < min t s.b
      · by_cases hr : rightB s = true
        · have hst := area_step hr hm hu
          obtain ⟨A, hA⟩ : ∃ A, A = hd (hd s.n * hd (hd (hd (min t s.b) - hd (max f s.a)))) := ⟨_, rfl⟩
          have hAr := hd_range (hd s.n * hd (hd (hd (min t s.b) - hd (max f s.a))))
          rw [← hA] at hst hAr
          have HN : Hid (areaF f t (l.take (k + 1)) = sumF [u, A]) := by show _ = _; rw [hn, hst]
          replace hA := Lib.hid hA.symm
          clear hn hst
          obtain ⟨S, hS⟩ : ∃ S, S = sumF [u, A] := ⟨_, rfl⟩
          replace hS := Lib.hid hS.symm
          go_wp2_with (first | (go_at_call 22; go_must (refine (Meet_yes _ _ _ _ _ (by assumption)).mono ?_); rintro e w' ⟨rfl, rfl⟩) | (go_at_call 8; go_must (refine (Right_any s _).mono ?_); rintro e w' ⟨rfl, rfl⟩; rw [hr]) | (go_at_call 24; go_must (refine (Area_any _ _ _ _).mono ?_); rintro e w' ⟨rfl, rfl⟩; rw [hA.out]) | (go_at_call 23; go_must (refine (Add_any _ _ _ (pair_new _ _ ?hn u A ?hx ?hy)).mono ?hk)))
          case hn => simp
          case hx => omega
          case hy => omega
          case hk =>
            rintro e w' ⟨rfl, rfl⟩
            rw [hS.out]
            have hbd3 : Below w.heap.size w (((wr.alloc (.cells #[.int .i64 s.a, .int .i64 s.b, .int .i64 s.n] 26)).alloc (.cells #[.int .i64 s.a, .int .i64 s.b, .int .i64 s.n] 26)).alloc (.cells #[.int .i64 u, .int .i64 A] 2)) := hbd.alloc hbd.size _
            go_wp2_with fail
            go_roundw
            case rel => exact ⟨k + 1, by omega, by go_num, by rw [HN.out, hS.out], hbd3⟩
            case measure => simp [intOf]; omega
        · have hr' : rightB s = false := by simpa using hr
          have HN : Hid (areaF f t (l.take (k + 1)) = u) := by show _ = _; rw [hn, stepA, if_neg (fun h => hr h.1)]
          clear hn hr
          go_wp2_with (first | (go_at_call 22; go_must (refine (Meet_yes _ _ _ _ _ (by assumption)).mono ?_); rintro e w' ⟨rfl, rfl⟩) | (go_at_call 8; go_must (refine (Right_any s _).mono ?_); rintro e w' ⟨rfl, rfl⟩; rw [hr']))
          go_roundw
          case rel => exact ⟨k + 1, by omega, by go_num, by rw [HN.out], hbd⟩
          case measure => simp [intOf]; omega
      · have hm' : min t s.b ≤ max f s.a := by omega
        have HN : Hid (areaF f t (l.take (k + 1)) = u) := by show _ = _; rw [hn, stepA, if_neg (fun h => hm h.2)]
        clear hn hm
        go_wp2_with (go_at_call 22; go_must (refine (Meet_no _ _ _ _ _ (by assumption)).mono ?_); rintro e w' ⟨rfl, rfl⟩)
        go_roundw
        case rel => exact ⟨k + 1, by omega, by go_num, by rw [HN.out], hbd1⟩
        case measure => simp [intOf]; omega
    · obtain rfl : k = l.length := by omega
      rw [List.take_of_length_le (Nat.le_refl _)]
      go_wp2_with fail
      go_ret
      exact ⟨rfl, hb⟩

end Go.Proofs.Ytnajcgicbhohhaa
