/-
  Own walks: package span's Times.
-/
import Derived.Test.YtnajcgicbhohhaaSpS
namespace Go.Proofs.Ytnajcgicbhohhaa
open Go.RowKit Go.Lib

set_option maxRecDepth 100000 in
set_option maxHeartbeats 1000000 in
theorem Times_any (v : Value) (l : List Sp) (w : World) (h : RowAt enc3 3 w v l) (hlen : l.length ≤ 30) :
    Calls Try.prog 10 #[v] w fun e w' => ∃ v' r, e = .returned v' ∧ IsT l r ∧ w'.ownsRow w.heap.size 2 1 v' r.length (intsV r) ∧ Below w.heap.size w w' := by
  obtain ⟨i0, hi0, hz0, hz1, hz2⟩ := info_parts infoI
  obtain ⟨ao, cap, rfl, hlc, hcm, hcells⟩ := h
  clear hcm
  go_enter Try.func10, Try.ntmps10
  go_wp2_with fail
  go_loopw [3, 8] (fun o i wr => ∃ (k : Nat), k ≤ l.length ∧ i = .int .i64 k ∧ wr.ownsRow w.heap.size 2 1 o (allT (l.take k)).length (intsV (allT (l.take k))) ∧ Below w.heap.size w wr) (fun _ i _ => l.length - (intOf i).toNat)
  case atStart => exact ⟨0, Nat.zero_le _, rfl, World.ownsRow_nil _ _ _ _, Below.refl _ _⟩
  case round =>
    obtain ⟨k, hk, rfl, hown, hb⟩ := hrel
    by_cases hlt : k < l.length
    · obtain ⟨b, off, rfl, hbw, hcell⟩ := hcells (by omega)
      obtain ⟨s, hs⟩ : ∃ s, l[k]? = some s := ⟨_, List.getElem?_eq_getElem hlt⟩
      obtain ⟨c0, c1, c2⟩ := span_at hcell hs
      rw [← hb.cell (p := ⟨b, _, none⟩) hbw] at c0 c1 c2
      have hsz := hb.size
      have hkl := allT_take_le l k hlen
      clear hcell hcells
      have hbd : Below w.heap.size w ((wr.alloc (.cells #[.int .i64 s.a, .int .i64 s.b, .int .i64 s.n] 26)).alloc (.cells #[.int .i64 s.a, .int .i64 s.b, .int .i64 s.n] 26)) := (hb.alloc hb.size _).alloc (Nat.le_trans hb.size (by simp)) _
      by_cases hr : rightB s = true
      · have HN : Hid (allT (l.take (k + 1)) = allT (l.take k) ++ [s.a, s.b]) := by show _ = _; rw [take_snoc hs, allT_snoc_yes hr]
        go_wp2_with (first | (go_at_call 8; go_must (refine (Right_any s _).mono ?_); rintro e w' ⟨rfl, rfl⟩; rw [hr]) | (at_builtin; go_must (refine wpList_append_own _ rfl (.tmp 14) (.tmp 19) 27 rfl w.heap.size 2 i0 (.int .i64 0) 1 8 Try.underlying27 hi0 hz0 hz1 hz2 rfl (by decide) u3 (allT (l.take k)).length (intsV (allT (l.take k))) rfl (((hown.alloc _).alloc _).alloc _) ⟨wr.heap.size + 1 + 1, 0, none⟩ 2 2 [.int .i64 s.a, .int .i64 s.b] rfl rfl ?c0 ?c1 ?c2 ?c3 ?c4 ?c5)))
        case c0 => exact cells_new (by simp)
        case c1 => simp [Value.oneCell']
        case c2 => unfold maxLen; omega
        case c3 => omega
        case c4 => first | omega | (simp; omega)
        case c5 =>
          intro v' w2 hown3 hgrow _
          have hb2 : Below w.heap.size w w2 := (((hb.alloc hsz _).alloc (by simp; omega) _).alloc (by simp; omega) _).grown hgrow (by simp; omega) (fun q hq => (hown.lt q hq).1)
          have hown4 : w2.ownsRow w.heap.size 2 1 v' (allT (l.take k) ++ [s.a, s.b]).length (intsV (allT (l.take k) ++ [s.a, s.b])) := by simpa [intsV] using hown3
          clear hown3 hgrow hown hbd hb
          go_wp2_with fail
          go_roundw
          case rel => exact ⟨k + 1, by omega, by go_num, by rw [HN.out]; exact hown4, hb2⟩
          case measure => simp [intOf]; omega
      · have hr' : rightB s = false := by simpa using hr
        have HN : Hid (allT (l.take (k + 1)) = allT (l.take k)) := by show _ = _; rw [take_snoc hs, allT_snoc_no hr']
        clear hr
        go_wp2_with (go_at_call 8; go_must (refine (Right_any s _).mono ?_); rintro e w' ⟨rfl, rfl⟩; rw [hr'])
        go_roundw
        case rel => exact ⟨k + 1, by omega, by go_num, by rw [HN.out]; exact (hown.alloc _).alloc _, hbd⟩
        case measure => simp [intOf]; omega
    · obtain rfl : k = l.length := by omega
      rw [List.take_of_length_le (Nat.le_refl _)] at hown
      have hT := compact_sort l
      have hkl := allT_take_le l l.length hlen
      rw [List.take_of_length_le (Nat.le_refl _)] at hkl
      have hsl : ((allT l).mergeSort fun x y => decide (x ≤ y)).length = (allT l).length := List.length_mergeSort _
      obtain ⟨zs, hzs⟩ : ∃ zs, zs = (allT l).mergeSort fun x y => decide (x ≤ y) := ⟨_, rfl⟩
      have hc1 := sort_own u3 (allT l) wr hown hkl hb.size
      rw [← hzs] at hT hsl hc1
      clear hzs hcells
      have hsl' : zs.length ≤ 60 := by omega
      rw [← hsl] at hc1
      replace hT := Lib.hid hT
      clear hsl hown hkl
      go_wp2_with (first | (go_at_call 20; go_must (refine hc1.mono ?_); rintro e w2 ⟨rfl, h2, hb2⟩) | (go_at_call 21; go_must (refine (compact_own _ zs _ h2 hsl').mono ?_); rintro e w3 ⟨v3, rfl, h3, hb3⟩))
      go_ret
      exact ⟨_, _, rfl, hT.out, h3, (hb.trans hb2).trans hb3⟩

end Go.Proofs.Ytnajcgicbhohhaa
