/-
  Own walks: the law's own list of times.
-/
import Derived.Test.YtnajcgicbhohhaaSpC
import Derived.Test.YtnajcgicbhohhaaTm
import Derived.Test.YtnajcgicbhohhaaOwn
namespace Go.Proofs.Ytnajcgicbhohhaa
open Go.RowKit

theorem infoI : (Try.prog.info? 2).map (fun i => (i.zero, i.size, i.bytes)) = some (some (.int .i64 0), 1, 8) := by kernel_rfl
/-- Numbers as they lie. -/
def encI (x : Int) : List Value := [.int .i64 x]
def intsV (l : List Int) : List Value := l.map (Value.int .i64)
theorem intsV_flat (l : List Int) : intsV l = l.flatMap encI := by
  induction l with
  | nil => rfl
  | cons a l ih => rw [List.flatMap_cons, ← ih]; rfl
theorem own_kept {w w' : World} {base : Nat} {e : TypeId} {size : Nat} {v : Value} {n : Nat} {xs : List Value} (h : w.ownsRow base e size v n xs) (hb : Below w.heap.size w w') : w'.ownsRow base e size v n xs :=
  ownsRow_below h hb fun k hk => (h.lt k hk).2

theorem best_fold (m : Int) {l : List Sp} {s : Sp} {k : Nat} (hs : l[k]? = some s) (hr : rightB s = true) : bestT m (allT (l.take (k + 1))) = stepT m (stepT m (bestT m (allT (l.take k))) s.a) s.b := by
  rw [take_snoc hs, allT_snoc_yes hr, bestT_two]
theorem best_skip (m : Int) {l : List Sp} {s : Sp} {k : Nat} (hs : l[k]? = some s) (hr : rightB s = false) : bestT m (allT (l.take (k + 1))) = bestT m (allT (l.take k)) := by
  rw [take_snoc hs, allT_snoc_no hr]

set_option maxRecDepth 100000 in
set_option maxHeartbeats 2000000 in
theorem times_any (v : Value) (l : List Sp) (w : World) (h : RowAt enc3 3 w v l) (hlen : l.length ≤ 30) :
    Calls Try.prog 11 #[v] w fun e w' => ∃ v' r, e = .returned v' ∧ IsT l r ∧ w'.ownsRow w.heap.size 2 1 v' r.length (intsV r) ∧ Below w.heap.size w w' := by
  obtain ⟨i0, hi0, hz0, hz1, hz2⟩ := info_parts infoI
  obtain ⟨ao, cap, rfl, hlc, hcm, hcells⟩ := h
  clear hcm
  go_enter Try.func11, Try.ntmps11
  go_wp2_with fail
  go_loopw [3, 4, 5] (fun o m i wr => ∃ (r : List Int) (mm : Int) (k : Nat), k ≤ 2 * l.length ∧ i = .int .i64 k ∧ m = .int .i64 mm ∧ TInv l r mm k ∧ wr.ownsRow w.heap.size 2 1 o r.length (intsV r) ∧ Below w.heap.size w wr) (fun _ _ i _ => 2 * l.length - (intOf i).toNat)
  case atStart => exact ⟨[], -1, 0, Nat.zero_le _, rfl, rfl, TInv.start l, World.ownsRow_nil _ _ _ _, Below.refl _ _⟩
  case round =>
    obtain ⟨r, mm, k, hk, rfl, rfl, hT, hown, hb⟩ := hrel
    by_cases hlt : k < 2 * l.length
    · have hmm := hT.1
      have hlt' : (k : Int) < 2 * (l.length : Int) := by omega
      obtain ⟨wo, rfl⟩ : ∃ wo : World, wo = wr := ⟨_, rfl⟩
      go_wp2_with fail
      go_loopw [6, 7] (fun bs i wr => ∃ (j : Nat), j ≤ l.length ∧ i = .int .i64 j ∧ bs = .int .i64 (bestT mm (allT (l.take j))) ∧ Below wo.heap.size wo wr) (fun _ i _ => l.length - (intOf i).toNat)
      case atStart => exact ⟨0, Nat.zero_le _, rfl, rfl, Below.refl _ _⟩
      case round =>
        obtain ⟨j, hj, rfl, rfl, hb2⟩ := hrel
        by_cases hjl : j < l.length
        · obtain ⟨b, off, rfl, hbw, hcell⟩ := hcells (by omega)
          obtain ⟨s, hs⟩ : ∃ s, l[j]? = some s := ⟨_, List.getElem?_eq_getElem hjl⟩
          obtain ⟨c0, c1, c2⟩ := span_at hcell hs
          have hsz := hb.size
          have hsz2 := hb2.size
          rw [← hb.cell (p := ⟨b, _, none⟩) hbw, ← hb2.cell (p := ⟨b, _, none⟩) (by show b < _; omega)] at c0 c1 c2
          have hbw' : b < wr.heap.size := by omega
          clear hcell hcells hT hown
          have hbd : Below wo.heap.size wo (wr.alloc (.cells #[.int .i64 s.a, .int .i64 s.b, .int .i64 s.n] 26)) := hb2.alloc hb2.size _
          obtain ⟨B, hB⟩ : ∃ B, B = bestT mm (allT (l.take j)) := ⟨_, rfl⟩
          have hBr := bestT_range mm hmm (l.take j)
          rw [← hB] at hBr ⊢
          by_cases hr : rightB s = true
          · have hf := best_fold mm hs hr
            have hnr := rightB_yes hr
            obtain ⟨hn0, hn1, hn3, -, -⟩ := hnr
            rw [← hB] at hf
            clear hB
            by_cases h1 : mm < s.a
            · by_cases h2 : B < 0
              · have HN : Hid (bestT mm (allT (l.take (j + 1))) = s.a) := by show _ = _; rw [hf, stepT_yes (m := mm) (b := B) (t := s.a) ⟨h1, Or.inl h2⟩, stepT_no (m := mm) (b := s.a) (t := s.b) (by omega)]
                clear hf
                go_wp2_with (go_at_call 9; go_must (refine (right_any s _).mono ?_); rintro e w' ⟨rfl, rfl⟩; rw [hr])
                go_roundw
                case rel => exact ⟨j + 1, by omega, by go_num, by rw [HN.out], hbd⟩
                case measure => simp [intOf]; omega
              · by_cases h3 : s.a < B
                · have HN : Hid (bestT mm (allT (l.take (j + 1))) = s.a) := by show _ = _; rw [hf, stepT_yes (m := mm) (b := B) (t := s.a) ⟨h1, Or.inr h3⟩, stepT_no (m := mm) (b := s.a) (t := s.b) (by omega)]
                  clear hf
                  go_wp2_with (go_at_call 9; go_must (refine (right_any s _).mono ?_); rintro e w' ⟨rfl, rfl⟩; rw [hr])
                  go_roundw
                  case rel => exact ⟨j + 1, by omega, by go_num, by rw [HN.out], hbd⟩
                  case measure => simp [intOf]; omega
                · have h3' : B ≤ s.a := by omega
                  have h4 : B < s.b := by omega
                  have h4' : mm < s.b := by omega
                  have HN : Hid (bestT mm (allT (l.take (j + 1))) = B) := by show _ = _; rw [hf, stepT_no (m := mm) (b := B) (t := s.a) (by omega), stepT_no (m := mm) (b := B) (t := s.b) (by omega)]
                  clear hf
                  go_wp2_with (go_at_call 9; go_must (refine (right_any s _).mono ?_); rintro e w' ⟨rfl, rfl⟩; rw [hr])
                  go_roundw
                  case rel => exact ⟨j + 1, by omega, by go_num, by rw [HN.out], hbd⟩
                  case measure => simp [intOf]; omega
            · have h1' : s.a ≤ mm := by omega
              by_cases h4 : mm < s.b
              · by_cases h2 : B < 0
                · have HN : Hid (bestT mm (allT (l.take (j + 1))) = s.b) := by show _ = _; rw [hf, stepT_no (m := mm) (b := B) (t := s.a) (by omega), stepT_yes (m := mm) (b := B) (t := s.b) ⟨h4, Or.inl h2⟩]
                  clear hf
                  go_wp2_with (go_at_call 9; go_must (refine (right_any s _).mono ?_); rintro e w' ⟨rfl, rfl⟩; rw [hr])
                  go_roundw
                  case rel => exact ⟨j + 1, by omega, by go_num, by rw [HN.out], hbd⟩
                  case measure => simp [intOf]; omega
                · by_cases h3 : s.b < B
                  · have HN : Hid (bestT mm (allT (l.take (j + 1))) = s.b) := by show _ = _; rw [hf, stepT_no (m := mm) (b := B) (t := s.a) (by omega), stepT_yes (m := mm) (b := B) (t := s.b) ⟨h4, Or.inr h3⟩]
                    clear hf
                    go_wp2_with (go_at_call 9; go_must (refine (right_any s _).mono ?_); rintro e w' ⟨rfl, rfl⟩; rw [hr])
                    go_roundw
                    case rel => exact ⟨j + 1, by omega, by go_num, by rw [HN.out], hbd⟩
                    case measure => simp [intOf]; omega
                  · have h3' : B ≤ s.b := by omega
                    have HN : Hid (bestT mm (allT (l.take (j + 1))) = B) := by show _ = _; rw [hf, stepT_no (m := mm) (b := B) (t := s.a) (by omega), stepT_no (m := mm) (b := B) (t := s.b) (by omega)]
                    clear hf
                    go_wp2_with (go_at_call 9; go_must (refine (right_any s _).mono ?_); rintro e w' ⟨rfl, rfl⟩; rw [hr])
                    go_roundw
                    case rel => exact ⟨j + 1, by omega, by go_num, by rw [HN.out], hbd⟩
                    case measure => simp [intOf]; omega
              · have h4' : s.b ≤ mm := by omega
                have HN : Hid (bestT mm (allT (l.take (j + 1))) = B) := by show _ = _; rw [hf, stepT_no (m := mm) (b := B) (t := s.a) (by omega), stepT_no (m := mm) (b := B) (t := s.b) (by omega)]
                clear hf
                go_wp2_with (go_at_call 9; go_must (refine (right_any s _).mono ?_); rintro e w' ⟨rfl, rfl⟩; rw [hr])
                go_roundw
                case rel => exact ⟨j + 1, by omega, by go_num, by rw [HN.out], hbd⟩
                case measure => simp [intOf]; omega
          · have hr' : rightB s = false := by simpa using hr
            have HN : Hid (bestT mm (allT (l.take (j + 1))) = B) := by show _ = _; rw [best_skip mm hs hr', hB]
            clear hB hr
            go_wp2_with (go_at_call 9; go_must (refine (right_any s _).mono ?_); rintro e w' ⟨rfl, rfl⟩; rw [hr'])
            go_roundw
            case rel => exact ⟨j + 1, by omega, by go_num, by rw [HN.out], hbd⟩
            case measure => simp [intOf]; omega
        · obtain rfl : j = l.length := by omega
          rw [List.take_of_length_le (Nat.le_refl _)]
          clear hcells
          have hspec := bestT_spec mm hmm (allT l)
          have hBr := bestT_range mm hmm l
          obtain ⟨B, hB⟩ : ∃ B, B = bestT mm (allT l) := ⟨_, rfl⟩
          rw [← hB] at hspec hBr ⊢
          clear hB
          have hown2 := own_kept hown hb2
          have hbb : Below w.heap.size w wr := hb.trans (hb2.mono hb.size)
          have hsz := hbb.size
          clear hown hb hb2
          by_cases hneg : B < 0
          · have HT : Hid (IsT l r) := by
              rcases hspec with ⟨_, hno⟩ | ⟨h0, _⟩
              · exact hT.done hno
              · omega
            clear hspec hT
            go_wp2_with fail
            go_ret
            exact ⟨_, r, rfl, HT.out, hown2, hbb⟩
          · have HT : Hid (TInv l (r ++ [B]) B (k + 1)) := by
              rcases hspec with ⟨h0, _⟩ | ⟨_, hx⟩
              · omega
              · exact hT.step hx
            have hrl : r.length ≤ 60 := by have := hT.2.1; omega
            clear hspec hT
            go_wp2_with (at_builtin; go_must (refine wpList_append_own _ rfl (.tmp 80) (.tmp 82) 27 rfl w.heap.size 2 i0 (.int .i64 0) 1 8 Try.underlying27 hi0 hz0 hz1 hz2 rfl (by decide) u3 r.length (intsV r) rfl (hown2.alloc _) ⟨wr.heap.size, 0, none⟩ 1 1 [.int .i64 B] rfl rfl ?c0 ?c1 ?c2 ?c3 ?c4 ?c5))
            case c1 => simp [Value.oneCell']
            case c2 => unfold maxLen; omega
            case c3 => omega
            case c4 => first | omega | (simp; omega)
            case c5 =>
              intro v' w2 hown3 hgrow _
              have hb2 : Below w.heap.size w w2 := (hbb.alloc hsz _).grown hgrow (by simp; omega) (fun q hq => (hown2.lt q hq).1)
              have hown4 : w2.ownsRow w.heap.size 2 1 v' (r ++ [B]).length (intsV (r ++ [B])) := by simpa [intsV] using hown3
              clear hown3 hgrow hown2 hbb
              go_wp2_with fail
              go_roundw
              case rel => exact ⟨r ++ [B], B, k + 1, by omega, by go_num, rfl, HT.out, hown4, hb2⟩
              case measure => simp [intOf]; omega
    · obtain rfl : k = 2 * l.length := by omega
      have HT : Hid (IsT l r) := hT.full
      clear hT hcells
      go_wp2_with fail
      go_ret
      exact ⟨_, r, rfl, HT.out, hown, hb⟩

end Go.Proofs.Ytnajcgicbhohhaa
