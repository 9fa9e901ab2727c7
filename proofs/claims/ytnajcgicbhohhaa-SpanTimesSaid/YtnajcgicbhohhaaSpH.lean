/-
  Own walks: package span's changes.
-/
import Derived.Test.YtnajcgicbhohhaaSpG
namespace Go.Proofs.Ytnajcgicbhohhaa
open Go.RowKit

set_option maxRecDepth 100000 in
set_option maxHeartbeats 1000000 in
theorem changes_any (v : Value) (l : List Sp) (w : World) (h : RowAt enc3 3 w v l) (hlen : l.length ≤ 30) :
    Calls Try.prog 25 #[v] w fun e w' => ∃ v' cs, e = .returned v' ∧ cs.Perm (chF l) ∧ cs.Pairwise (fun x y => x.1 ≤ y.1) ∧ w'.ownsRow w.heap.size 53 2 v' cs.length (prV cs) ∧ Below w.heap.size w w' := by
  obtain ⟨i0, hi0, hz0, hz1, hz2⟩ := info_parts infoChange
  obtain ⟨ao, cap, rfl, hlc, hcm, hcells⟩ := h
  clear hcm
  go_enter Try.func25, Try.ntmps25
  go_wp2_with fail
  go_loopw [3, 8] (fun o i wr => ∃ (k : Nat), k ≤ l.length ∧ i = .int .i64 k ∧ wr.ownsRow w.heap.size 53 2 o (chF (l.take k)).length (prV (chF (l.take k))) ∧ Below w.heap.size w wr) (fun _ i _ => l.length - (intOf i).toNat)
  case atStart => exact ⟨0, Nat.zero_le _, rfl, World.ownsRow_nil _ _ _ _, Below.refl _ _⟩
  case round =>
    obtain ⟨k, hk, rfl, hown, hb⟩ := hrel
    by_cases hlt : k < l.length
    · obtain ⟨b, off, rfl, hbw, hcell⟩ := hcells (by omega)
      obtain ⟨s, hs⟩ : ∃ s, l[k]? = some s := ⟨_, List.getElem?_eq_getElem hlt⟩
      obtain ⟨c0, c1, c2⟩ := span_at hcell hs
      rw [← hb.cell (p := ⟨b, _, none⟩) hbw] at c0 c1 c2
      have hsz := hb.size
      have hkl := chF_take_le l k hlen
      clear hcell hcells
      have hbd : Below w.heap.size w ((wr.alloc (.cells #[.int .i64 s.a, .int .i64 s.b, .int .i64 s.n] 26)).alloc (.cells #[.int .i64 s.a, .int .i64 s.b, .int .i64 s.n] 26)) := (hb.alloc hb.size _).alloc (Nat.le_trans hb.size (by simp)) _
      by_cases hr : rightB s = true
      · have HN : Hid (chF (l.take (k + 1)) = chF (l.take k) ++ [(s.a, s.n), (s.b, -s.n)]) := by show _ = _; rw [take_snoc hs, chF_snoc_yes hr]
        have hnr := rightB_yes hr
        obtain ⟨-, -, -, hn1, hn2⟩ := hnr
        go_wp2_with (first | (go_at_call 8; go_must (refine (Right_any s _).mono ?_); rintro e w' ⟨rfl, rfl⟩; rw [hr]) | (at_builtin; go_must (refine wpList_append_own _ rfl (.tmp 14) (.tmp 26) 50 rfl w.heap.size 53 i0 (.agg #[.int .i64 0, .int .i64 0]) 2 16 Try.underlying50 hi0 hz0 hz1 hz2 rfl (by decide) u3 (chF (l.take k)).length (prV (chF (l.take k))) rfl (((hown.alloc _).alloc _).alloc _) ⟨wr.heap.size + 1 + 1, 0, none⟩ 2 2 [.int .i64 s.a, .int .i64 s.n, .int .i64 s.b, .int .i64 (-s.n)] rfl rfl ?c0 ?c1 ?c2 ?c3 ?c4 ?c5)))
        case c0 => exact cells_new (by simp)
        case c1 => simp [Value.oneCell']
        case c2 => unfold maxLen; omega
        case c3 => omega
        case c4 => first | omega | (simp; omega)
        case c5 =>
          intro v' w2 hown3 hgrow _
          have hb2 : Below w.heap.size w w2 := (((hb.alloc hsz _).alloc (by simp; omega) _).alloc (by simp; omega) _).grown hgrow (by simp; omega) (fun q hq => (hown.lt q hq).1)
          have hown4 : w2.ownsRow w.heap.size 53 2 v' (chF (l.take k) ++ [(s.a, s.n), (s.b, -s.n)]).length (prV (chF (l.take k) ++ [(s.a, s.n), (s.b, -s.n)])) := by simpa [prV, enc2] using hown3
          clear hown3 hgrow hown hbd hb
          go_wp2_with fail
          go_roundw
          case rel => exact ⟨k + 1, by omega, by go_num, by rw [HN.out]; exact hown4, hb2⟩
          case measure => simp [intOf]; omega
      · have hr' : rightB s = false := by simpa using hr
        have HN : Hid (chF (l.take (k + 1)) = chF (l.take k)) := by show _ = _; rw [take_snoc hs, chF_snoc_no hr']
        clear hr
        go_wp2_with (go_at_call 8; go_must (refine (Right_any s _).mono ?_); rintro e w' ⟨rfl, rfl⟩; rw [hr'])
        go_roundw
        case rel => exact ⟨k + 1, by omega, by go_num, by rw [HN.out]; exact (hown.alloc _).alloc _, hbd⟩
        case measure => simp [intOf]; omega
    · obtain rfl : k = l.length := by omega
      rw [List.take_of_length_le (Nat.le_refl _)] at hown
      have hkl := chF_take_le l l.length hlen
      rw [List.take_of_length_le (Nat.le_refl _)] at hkl
      have hc1 := sortFn_own u3 (chF l) wr hown hkl hb.size
      clear hcells hown hkl
      go_wp2_with (go_at_call 33; go_must (refine hc1.mono ?_); rintro e w2 ⟨rfl, cs, hp, hs, h2, hb2⟩)
      go_ret
      exact ⟨_, cs, rfl, hp, hs, h2, hb.trans hb2⟩

end Go.Proofs.Ytnajcgicbhohhaa
