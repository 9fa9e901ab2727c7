/-
  Own walks: the least and the most of a stretch of the document's profile.
-/
import Derived.Test.YtbnpeicmbbgboaaPlB
namespace Go.Proofs.Ytbnpeicmbbgboaa
set_option maxRecDepth 8000
open Go.RowKit Go.Sort Go.Lib

/-- What has been looked at so far. -/
structure BSo (f : Int → Int) (lo hi : Int) (cs : List Int) (k : Nat) (m M : Int) : Prop where
  m64 : m ≤ 64
  M0 : 0 ≤ M
  all : ∀ r, r < k → lo ≤ cs.getD r 0 → cs.getD r 0 < hi → m ≤ f (cs.getD r 0) ∧ f (cs.getD r 0) ≤ M
  one : m = 64 ∨ ∃ t, lo ≤ t ∧ t < hi ∧ f t = m
  oneM : M = 0 ∨ ∃ t, lo ≤ t ∧ t < hi ∧ f t = M
theorem BSo.skip {f : Int → Int} {lo hi : Int} {cs : List Int} {k : Nat} {m M : Int} (h : BSo f lo hi cs k m M) (hn : ¬ (lo ≤ cs.getD k 0 ∧ cs.getD k 0 < hi)) : BSo f lo hi cs (k + 1) m M :=
  ⟨h.m64, h.M0, fun r hr h1 h2 => by
    rcases Nat.lt_or_ge r k with h3 | h3
    · exact h.all r h3 h1 h2
    · have : r = k := by omega
      subst this; exact absurd ⟨h1, h2⟩ hn, h.one, h.oneM⟩
theorem BSo.next {f : Int → Int} {lo hi : Int} {cs : List Int} {k : Nat} {m M x : Int} (h : BSo f lo hi cs k m M) (h1 : lo ≤ cs.getD k 0) (h2 : cs.getD k 0 < hi) (hx : f (cs.getD k 0) = x) : BSo f lo hi cs (k + 1) (if x < m then x else m) (if M < x then x else M) := by
  refine ⟨by have := h.m64; split <;> omega, by have := h.M0; split <;> omega, fun r hr h3 h4 => ?_, ?_, ?_⟩
  · rcases Nat.lt_or_ge r k with h5 | h5
    · have := h.all r h5 h3 h4
      split <;> split <;> omega
    · have : r = k := by omega
      subst this
      split <;> split <;> omega
  · split
    · exact .inr ⟨_, h1, h2, hx⟩
    · exact h.one
  · split
    · exact .inr ⟨_, h1, h2, hx⟩
    · exact h.oneM
theorem BSo.done {E : List Sp} {now : Int} {es : List Int} {F lo hi m M : Int} (hE : EdgesOf E now es) (hok : ∀ s ∈ E, SpOk s) (hn : now ≤ lo) (h : BSo (raw F E) lo hi (lo :: es) (es.length + 1) m M) : BL (raw F E) lo hi m ∧ BM (raw F E) lo hi M := by
  have hall : ∀ t, lo ≤ t → t < hi → m ≤ raw F E t ∧ raw F E t ≤ M := fun t h1 h2 => by
    obtain ⟨k, hk, h3, h4, h5⟩ := hE.cand hok F hn h1
    have := h.all k (by omega) h3 (by omega)
    rw [h5 _ (Int.le_refl _) h4] at this
    exact this
  exact ⟨⟨h.m64, fun t h1 h2 => (hall t h1 h2).1, h.one⟩, ⟨h.M0, fun t h1 h2 => (hall t h1 h2).2, h.oneM⟩⟩

section
variable {B : Nat} {w : World} {q : Nat} {F now : Int} {E : List Sp} {ver : Int}

/-- A list of one time and the edges. -/
theorem cand_row (es : List Int) (a : Int) : inV (a :: es) = [.int .i64 a] ++ inV es := rfl

theorem PBounds_none (a b : Int) (h : QW B w q F now E ver) (hab : b ≤ max a now) :
    Calls Try.prog 36 #[.pointer (some ⟨q, 0, none⟩), .int .i64 a, .int .i64 b] w fun e w' => e = .returned (.tuple #[.int .i64 64, .int .i64 0]) ∧ w = w' := by
  obtain ⟨ao, cap, Q⟩ := h.facts
  have c1 := Q.c1
  clear Q h
  by_cases h1 : a < now
  · have h2 : b ≤ now := by omega
    clear hab
    go_enter Try.func36, Try.ntmps36
    go_wp2_with fail
    go_ret2
    exact ⟨rfl, rfl⟩
  · have h2 : b ≤ a := by omega
    clear hab
    go_enter Try.func36, Try.ntmps36
    go_wp2_with fail
    go_ret2
    exact ⟨rfl, rfl⟩

set_option maxRecDepth 100000 in
set_option maxHeartbeats 4000000 in
theorem PBounds_some (a b m0 : Int) (hm0 : (m0 = a ∧ now ≤ a) ∨ (m0 = now ∧ a < now)) (hlt : m0 < b) (h : QW B w q F now E ver) (hE : ∀ s ∈ E, SpOk s) (hl : E.length ≤ 60) (hF : 0 ≤ F ∧ F ≤ 64) (hn : now < 1152921504606846976) :
    Calls Try.prog 36 #[.pointer (some ⟨q, 0, none⟩), .int .i64 a, .int .i64 b] w fun e w' => ∃ m M : Int, e = .returned (.tuple #[.int .i64 m, .int .i64 M]) ∧ BL (raw F E) m0 b m ∧ BM (raw F E) m0 b M ∧ Below w.heap.size w w' := by
  obtain ⟨i0, hi0, hz0, hz1, hz2⟩ := info_parts infoI64
  obtain ⟨ao, cap, Q⟩ := h.facts
  have c1 := Q.c1
  clear Q
  have hnm : now ≤ m0 := by omega
  have hnb : ¬ (b ≤ m0) := by omega
  have hb0 : Below w.heap.size w (w.alloc (.cells #[.int .i64 m0] 2)) := (Below.refl _ _).alloc (Nat.le_refl _) _
  have hed := Edges_any (h.kept hb0) hl hn
  have hown0 : (w.alloc (.cells #[.int .i64 m0] 2)).ownsRow w.heap.size 2 1 (.slice (some ⟨w.heap.size, 0, none⟩) 1 1) 1 (inV [m0]) := own_new (n := 1) (vs := [.int .i64 m0]) rfl (Nat.le_refl _) rfl (by decide)
  rcases hm0 with ⟨rfl, h1⟩ | ⟨rfl, h1⟩
  · have h2 : ¬ (m0 < now) := by omega
    go_enter Try.func36, Try.ntmps36
    go_wp2_with fail
    go_at_call 32
    refine hed.mono ?_
    clear hed
    rintro e w1 ⟨g, cp, es, rfl, ho1, hes, hln, hb1⟩
    have hown1 := pf_own_kept hown0 hb1
    have hb01 : Below w.heap.size w w1 := hb0.trans (hb1.mono hb0.size)
    have hpos := hes.pos
    have hsz1 := hb01.size
    go_wp2_with (at_builtin; go_must (refine wpList_append_own _ rfl (.tmp 29) (.tmp 31) 74 rfl w.heap.size 2 i0 (.int .i64 0) 1 8 Try.underlying74 hi0 hz0 hz1 hz2 rfl (by decide) (.slice (some ⟨w.heap.size, 0, none⟩) 1 1) 1 (inV [m0]) rfl hown1 ⟨g, 0, none⟩ es.length cp (inV es) rfl (inV_length es) ?c0 (inV_one es) ?c2 ?c3 ?c4 ?c5))
    case c0 => exact fun j u hj => ho1.cells (g := g) rfl j u hj
    case c2 => unfold maxLen; omega
    case c3 => omega
    case c4 => exact hsz1
    case c5 =>
      intro v' w2 hown3 hgrow _
      have hb2 : Below w.heap.size w w2 := hb01.grown hgrow hsz1 (fun z hz => by cases hz; exact Nat.le_refl _)
      obtain ⟨g2, cp2, rfl, _⟩ := own_block hown3 (by omega)
      have hown4 : w2.ownsRow w.heap.size 2 1 (.slice (some ⟨g2, 0, none⟩) (1 + es.length) cp2) (1 + es.length) (inV (m0 :: es)) := hown3
      obtain ⟨n, hnn⟩ : ∃ n, n = 1 + es.length := ⟨_, rfl⟩
      rw [← hnn] at hown4 ⊢
      have hQ := h.kept hb2
      obtain ⟨cs, hcs⟩ : ∃ cs, cs = m0 :: es := ⟨_, rfl⟩
      have hcl : cs.length = n := by rw [hcs, List.length_cons]; omega
      have hnl : n ≤ 122 := by omega
      rw [← hcs] at hown4
      have hcge : ∀ k, k < n → now ≤ cs.getD k 0 := fun k hk => by
        rw [hcs]
        rcases k with _ | k
        · simpa using hnm
        · rw [List.getD_cons_succ]; exact hes.ge_now (by omega)
      have hfin : Hid (∀ m M, BSo (raw F E) m0 b cs n m M → BL (raw F E) m0 b m ∧ BM (raw F E) m0 b M) := fun m M hB => by
        rw [hcs, hnn, Nat.add_comm] at hB
        exact BSo.done hes hE hnm hB
      clear hown3 hgrow hown1 hown0 hb01 hb1 hb0 ho1 hes hln hsz1 c1 h
      replace hnn := Lib.hid hnn
      replace hcs := Lib.hid hcs
      replace hcge := Lib.hid hcge
      replace hcl := Lib.hid hcl
      replace hpos := Lib.hid hpos
      go_wp2_with fail
      go_loopw [8, 9, 11] (fun u v kk wr => ∃ (k : Nat) (m M : Int), k ≤ n ∧ kk = .int .i64 k ∧ u = .int .i64 m ∧ v = .int .i64 M ∧ BSo (raw F E) m0 b cs k m M ∧ wr = w2) (fun _ _ kk _ => n - (intOf kk).toNat)
      case atStart => exact ⟨0, 64, 0, Nat.zero_le _, rfl, rfl, rfl, ⟨Int.le_refl _, Int.le_refl _, fun r hr => by omega, .inl rfl, .inl rfl⟩, rfl⟩
      case round =>
        obtain ⟨k, m, M, hk, rfl, rfl, rfl, hB, rfl⟩ := hrel
        by_cases hkn : k < n
        · have hck := int_cell hown4 (i := k) (x := cs.getD k 0) (by rw [List.getD_eq_getElem?_getD, List.getElem?_eq_getElem (by rw [hcl.out]; exact hkn)]; rfl)
          have hge := hcge.out k hkn
          have hat := PAt_any (cs.getD k 0) hQ hE hl hF
          rw [show max (cs.getD k 0) now = cs.getD k 0 by omega] at hat
          have hsk := fun hh => hB.skip hh
          have hnx := fun h1 h2 => hB.next h1 h2 rfl
          obtain ⟨c, hc⟩ : ∃ c, c = cs.getD k 0 := ⟨_, rfl⟩
          rw [← hc] at hck hge hat hsk hnx
          obtain ⟨x, hx⟩ : ∃ x, x = raw F E c := ⟨_, rfl⟩
          rw [← hx] at hat hnx
          have hw2 : IntKind.i64.wrap ((k : Int) + 1) = (k : Int) + 1 := IntWalk.i64_in _ (by omega)
          have b1 : (0 : Int) ≤ k := by omega
          have b2 : (k : Int) < (n : Int) := by omega
          replace hc := Lib.hid hc
          replace hx := Lib.hid hx
          by_cases hA : c < m0
          · have dA : decide (c < m0) = true := decide_eq_true hA
            have hB2 := hsk (by omega)
            replace hB2 := Lib.hid hB2
            clear hB hsk hnx hat
            go_wp2_with fail
            go_roundw
            case rel => exact ⟨k + 1, m, M, by omega, by go_num, rfl, rfl, hB2.out, trivial⟩
            case measure => simp [intOf]; omega
          · have dA : decide (c < m0) = false := decide_eq_false hA
            by_cases hC : b ≤ c
            · have dC : decide (b ≤ c) = true := decide_eq_true hC
              have hB2 := hsk (by omega)
              replace hB2 := Lib.hid hB2
              clear hB hsk hnx hat
              go_wp2_with fail
              go_roundw
              case rel => exact ⟨k + 1, m, M, by omega, by go_num, rfl, rfl, hB2.out, trivial⟩
              case measure => simp [intOf]; omega
            · have dC : decide (b ≤ c) = false := decide_eq_false hC
              have hB2 := hnx (by omega) (by omega)
              clear hB hsk hnx
              by_cases hm : x < m
              · rw [if_pos hm] at hB2
                by_cases hM : M < x
                · rw [if_pos hM] at hB2
                  replace hB2 := Lib.hid hB2
                  go_wp2_with (go_at_call 33; go_must (refine hat.mono ?_); rintro e w5 ⟨rfl, rfl⟩)
                  go_roundw
                  case rel => exact ⟨k + 1, x, x, by omega, by go_num, rfl, rfl, hB2.out, trivial⟩
                  case measure => simp [intOf]; omega
                · rw [if_neg hM] at hB2
                  replace hB2 := Lib.hid hB2
                  go_wp2_with (go_at_call 33; go_must (refine hat.mono ?_); rintro e w5 ⟨rfl, rfl⟩)
                  go_roundw
                  case rel => exact ⟨k + 1, x, M, by omega, by go_num, rfl, rfl, hB2.out, trivial⟩
                  case measure => simp [intOf]; omega
              · rw [if_neg hm] at hB2
                by_cases hM : M < x
                · rw [if_pos hM] at hB2
                  replace hB2 := Lib.hid hB2
                  go_wp2_with (go_at_call 33; go_must (refine hat.mono ?_); rintro e w5 ⟨rfl, rfl⟩)
                  go_roundw
                  case rel => exact ⟨k + 1, m, x, by omega, by go_num, rfl, rfl, hB2.out, trivial⟩
                  case measure => simp [intOf]; omega
                · rw [if_neg hM] at hB2
                  replace hB2 := Lib.hid hB2
                  go_wp2_with (go_at_call 33; go_must (refine hat.mono ?_); rintro e w5 ⟨rfl, rfl⟩)
                  go_roundw
                  case rel => exact ⟨k + 1, m, M, by omega, by go_num, rfl, rfl, hB2.out, trivial⟩
                  case measure => simp [intOf]; omega
        · obtain rfl : k = n := by omega
          obtain ⟨f1, f2⟩ := hfin.out m M hB
          replace f1 := Lib.hid f1
          replace f2 := Lib.hid f2
          clear hB
          go_wp2_with fail
          go_ret2
          exact ⟨m, M, rfl, f1.out, f2.out, hb2⟩
  · have h2 := h1
    go_enter Try.func36, Try.ntmps36
    go_wp2_with fail
    go_at_call 32
    refine hed.mono ?_
    clear hed
    rintro e w1 ⟨g, cp, es, rfl, ho1, hes, hln, hb1⟩
    have hown1 := pf_own_kept hown0 hb1
    have hb01 : Below w.heap.size w w1 := hb0.trans (hb1.mono hb0.size)
    have hpos := hes.pos
    have hsz1 := hb01.size
    go_wp2_with (at_builtin; go_must (refine wpList_append_own _ rfl (.tmp 29) (.tmp 31) 74 rfl w.heap.size 2 i0 (.int .i64 0) 1 8 Try.underlying74 hi0 hz0 hz1 hz2 rfl (by decide) (.slice (some ⟨w.heap.size, 0, none⟩) 1 1) 1 (inV [m0]) rfl hown1 ⟨g, 0, none⟩ es.length cp (inV es) rfl (inV_length es) ?c0 (inV_one es) ?c2 ?c3 ?c4 ?c5))
    case c0 => exact fun j u hj => ho1.cells (g := g) rfl j u hj
    case c2 => unfold maxLen; omega
    case c3 => omega
    case c4 => exact hsz1
    case c5 =>
      intro v' w2 hown3 hgrow _
      have hb2 : Below w.heap.size w w2 := hb01.grown hgrow hsz1 (fun z hz => by cases hz; exact Nat.le_refl _)
      obtain ⟨g2, cp2, rfl, _⟩ := own_block hown3 (by omega)
      have hown4 : w2.ownsRow w.heap.size 2 1 (.slice (some ⟨g2, 0, none⟩) (1 + es.length) cp2) (1 + es.length) (inV (m0 :: es)) := hown3
      obtain ⟨n, hnn⟩ : ∃ n, n = 1 + es.length := ⟨_, rfl⟩
      rw [← hnn] at hown4 ⊢
      have hQ := h.kept hb2
      obtain ⟨cs, hcs⟩ : ∃ cs, cs = m0 :: es := ⟨_, rfl⟩
      have hcl : cs.length = n := by rw [hcs, List.length_cons]; omega
      have hnl : n ≤ 122 := by omega
      rw [← hcs] at hown4
      have hcge : ∀ k, k < n → m0 ≤ cs.getD k 0 := fun k hk => by
        rw [hcs]
        rcases k with _ | k
        · simp
        · rw [List.getD_cons_succ]; exact hes.ge_now (by omega)
      have hfin : Hid (∀ m M, BSo (raw F E) m0 b cs n m M → BL (raw F E) m0 b m ∧ BM (raw F E) m0 b M) := fun m M hB => by
        rw [hcs, hnn, Nat.add_comm] at hB
        exact BSo.done hes hE hnm hB
      clear hown3 hgrow hown1 hown0 hb01 hb1 hb0 ho1 hes hln hsz1 c1 h
      replace hnn := Lib.hid hnn
      replace hcs := Lib.hid hcs
      replace hcge := Lib.hid hcge
      replace hcl := Lib.hid hcl
      replace hpos := Lib.hid hpos
      go_wp2_with fail
      go_loopw [8, 9, 11] (fun u v kk wr => ∃ (k : Nat) (m M : Int), k ≤ n ∧ kk = .int .i64 k ∧ u = .int .i64 m ∧ v = .int .i64 M ∧ BSo (raw F E) m0 b cs k m M ∧ wr = w2) (fun _ _ kk _ => n - (intOf kk).toNat)
      case atStart => exact ⟨0, 64, 0, Nat.zero_le _, rfl, rfl, rfl, ⟨Int.le_refl _, Int.le_refl _, fun r hr => by omega, .inl rfl, .inl rfl⟩, rfl⟩
      case round =>
        obtain ⟨k, m, M, hk, rfl, rfl, rfl, hB, rfl⟩ := hrel
        by_cases hkn : k < n
        · have hck := int_cell hown4 (i := k) (x := cs.getD k 0) (by rw [List.getD_eq_getElem?_getD, List.getElem?_eq_getElem (by rw [hcl.out]; exact hkn)]; rfl)
          have hge := hcge.out k hkn
          have hat := PAt_any (cs.getD k 0) hQ hE hl hF
          rw [show max (cs.getD k 0) m0 = cs.getD k 0 by omega] at hat
          have hsk := fun hh => hB.skip hh
          have hnx := fun h1 h2 => hB.next h1 h2 rfl
          obtain ⟨c, hc⟩ : ∃ c, c = cs.getD k 0 := ⟨_, rfl⟩
          rw [← hc] at hck hge hat hsk hnx
          obtain ⟨x, hx⟩ : ∃ x, x = raw F E c := ⟨_, rfl⟩
          rw [← hx] at hat hnx
          have hw2 : IntKind.i64.wrap ((k : Int) + 1) = (k : Int) + 1 := IntWalk.i64_in _ (by omega)
          have b1 : (0 : Int) ≤ k := by omega
          have b2 : (k : Int) < (n : Int) := by omega
          replace hc := Lib.hid hc
          replace hx := Lib.hid hx
          by_cases hA : c < m0
          · have dA : decide (c < m0) = true := decide_eq_true hA
            have hB2 := hsk (by omega)
            replace hB2 := Lib.hid hB2
            clear hB hsk hnx hat
            go_wp2_with fail
            go_roundw
            case rel => exact ⟨k + 1, m, M, by omega, by go_num, rfl, rfl, hB2.out, trivial⟩
            case measure => simp [intOf]; omega
          · have dA : decide (c < m0) = false := decide_eq_false hA
            by_cases hC : b ≤ c
            · have dC : decide (b ≤ c) = true := decide_eq_true hC
              have hB2 := hsk (by omega)
              replace hB2 := Lib.hid hB2
              clear hB hsk hnx hat
              go_wp2_with fail
              go_roundw
              case rel => exact ⟨k + 1, m, M, by omega, by go_num, rfl, rfl, hB2.out, trivial⟩
              case measure => simp [intOf]; omega
            · have dC : decide (b ≤ c) = false := decide_eq_false hC
              have hB2 := hnx (by omega) (by omega)
              clear hB hsk hnx
              by_cases hm : x < m
              · rw [if_pos hm] at hB2
                by_cases hM : M < x
                · rw [if_pos hM] at hB2
                  replace hB2 := Lib.hid hB2
                  go_wp2_with (go_at_call 33; go_must (refine hat.mono ?_); rintro e w5 ⟨rfl, rfl⟩)
                  go_roundw
                  case rel => exact ⟨k + 1, x, x, by omega, by go_num, rfl, rfl, hB2.out, trivial⟩
                  case measure => simp [intOf]; omega
                · rw [if_neg hM] at hB2
                  replace hB2 := Lib.hid hB2
                  go_wp2_with (go_at_call 33; go_must (refine hat.mono ?_); rintro e w5 ⟨rfl, rfl⟩)
                  go_roundw
                  case rel => exact ⟨k + 1, x, M, by omega, by go_num, rfl, rfl, hB2.out, trivial⟩
                  case measure => simp [intOf]; omega
              · rw [if_neg hm] at hB2
                by_cases hM : M < x
                · rw [if_pos hM] at hB2
                  replace hB2 := Lib.hid hB2
                  go_wp2_with (go_at_call 33; go_must (refine hat.mono ?_); rintro e w5 ⟨rfl, rfl⟩)
                  go_roundw
                  case rel => exact ⟨k + 1, m, x, by omega, by go_num, rfl, rfl, hB2.out, trivial⟩
                  case measure => simp [intOf]; omega
                · rw [if_neg hM] at hB2
                  replace hB2 := Lib.hid hB2
                  go_wp2_with (go_at_call 33; go_must (refine hat.mono ?_); rintro e w5 ⟨rfl, rfl⟩)
                  go_roundw
                  case rel => exact ⟨k + 1, m, M, by omega, by go_num, rfl, rfl, hB2.out, trivial⟩
                  case measure => simp [intOf]; omega
        · obtain rfl : k = n := by omega
          obtain ⟨f1, f2⟩ := hfin.out m M hB
          replace f1 := Lib.hid f1
          replace f2 := Lib.hid f2
          clear hB
          go_wp2_with fail
          go_ret2
          exact ⟨m, M, rfl, f1.out, f2.out, hb2⟩

theorem PBounds_any (a b : Int) (h : QW B w q F now E ver) (hE : ∀ s ∈ E, SpOk s) (hl : E.length ≤ 60) (hF : 0 ≤ F ∧ F ≤ 64) (hn : now < 1152921504606846976) :
    Calls Try.prog 36 #[.pointer (some ⟨q, 0, none⟩), .int .i64 a, .int .i64 b] w fun e w' => ∃ m M : Int, e = .returned (.tuple #[.int .i64 m, .int .i64 M]) ∧ BL (raw F E) (max a now) b m ∧ BM (raw F E) (max a now) b M ∧ Below w.heap.size w w' := by
  by_cases hab : b ≤ max a now
  · refine (PBounds_none a b h hab).mono ?_
    rintro e w' ⟨rfl, rfl⟩
    exact ⟨64, 0, rfl, ⟨Int.le_refl _, fun t h1 h2 => by omega, .inl rfl⟩, ⟨Int.le_refl _, fun t h1 h2 => by omega, .inl rfl⟩, Below.refl _ _⟩
  · exact PBounds_some a b (max a now) (by omega) (by omega) h hE hl hF hn
end

end Go.Proofs.Ytbnpeicmbbgboaa
