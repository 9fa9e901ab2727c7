/-
  Own walks: the document's Earliest.
-/
import Derived.Test.YtbnpeicmbbgboaaPlE
namespace Go.Proofs.Ytbnpeicmbbgboaa
set_option maxRecDepth 8000
open Go.RowKit Go.Sort Go.Lib

/-- None of the first k times that may be is one from which on there is room. -/
def ESo (f : Int → Int) (lo long width : Int) (cs : List Int) (k : Nat) : Prop := ∀ r, r < k → lo ≤ cs.getD r 0 → cs.getD r 0 ≤ 1099511627776 → ¬ Good f long width (cs.getD r 0)
theorem ESo.skip {f : Int → Int} {lo long width : Int} {cs : List Int} {k : Nat} (h : ESo f lo long width cs k) (hn : lo ≤ cs.getD k 0 → cs.getD k 0 ≤ 1099511627776 → ¬ Good f long width (cs.getD k 0)) : ESo f lo long width cs (k + 1) := by
  intro r hr h1 h2
  rcases Nat.lt_or_ge r k with h3 | h3
  · exact h r h3 h1 h2
  · have : r = k := by omega
    subst this; exact hn h1 h2
theorem ESo.ahead {E : List Sp} {now F lo long width : Int} {es : List Int} {k : Nat} (hE : EdgesOf E now es) (hok : ∀ s ∈ E, SpOk s) (hn : now ≤ lo) (h : ESo (raw F E) lo long width (lo :: es) k) (hk : k ≤ es.length + 1) {u : Int} (hu : lo ≤ u) (hu2 : u ≤ 1099511627776) (hlt : k < es.length + 1 → u < (lo :: es).getD k 0) : ¬ Good (raw F E) long width u := by
  intro hg
  obtain ⟨r, hr, h1, h2, h3⟩ := hE.cand hok F hn hu
  have hrk : r < k := by
    rcases Nat.lt_or_ge r k with h4 | h4
    · exact h4
    · rcases Nat.lt_or_ge k (es.length + 1) with h5 | h5
      · have h6 := hlt h5
        rcases Nat.eq_zero_or_pos k with h7 | h7
        · subst h7; simp at h6; omega
        · obtain ⟨k', rfl⟩ : ∃ k', k = k' + 1 := ⟨k - 1, by omega⟩
          obtain ⟨r', rfl⟩ : ∃ r', r = r' + 1 := ⟨r - 1, by omega⟩
          rw [List.getD_cons_succ] at h6 h2
          have := hE.le (i := k') (j := r') (by omega) (by omega)
          omega
      · omega
  refine h r hrk h1 (by omega) fun x h4 h5 => ?_
  rcases Int.lt_or_le u x with h6 | h6
  · exact hg x (by omega) (by omega)
  · rw [h3 x h4 h6]; exact hg u (Int.le_refl _) (by omega)

/-- There is a least. -/
theorem BL_ex (f : Int → Int) (lo hi : Int) : ∃ m, BL f lo hi m := by
  obtain ⟨n, hn⟩ : ∃ n : Nat, hi - lo ≤ n := ⟨(hi - lo).toNat, by omega⟩
  induction n generalizing lo with
  | zero => exact ⟨64, Int.le_refl _, fun t h1 h2 => by omega, .inl rfl⟩
  | succ n ih =>
    by_cases hlt : lo < hi
    · obtain ⟨m, hm⟩ := ih (lo + 1) (by omega)
      by_cases hx : f lo < m
      · refine ⟨f lo, by have := hm.le; omega, fun t h1 h2 => ?_, .inr ⟨lo, Int.le_refl _, hlt, rfl⟩⟩
        by_cases e : t = lo
        · subst e; exact Int.le_refl _
        · have := hm.all t (by omega) h2; omega
      · refine ⟨m, hm.le, fun t h1 h2 => ?_, ?_⟩
        · by_cases e : t = lo
          · subst e; omega
          · exact hm.all t (by omega) h2
        · rcases hm.one with h3 | ⟨t, h3, h4, h5⟩
          · exact .inl h3
          · exact .inr ⟨t, by omega, h4, h5⟩
    · exact ⟨64, Int.le_refl _, fun t h1 h2 => by omega, .inl rfl⟩

section
variable {B : Nat} {w : World} {q : Nat} {F now : Int} {E : List Sp} {ver : Int}

set_option maxHeartbeats 1000000 in
theorem PEarliest_arg (a long width : Int) (w : World) (hbad : long < 1 ∨ 1048576 < long ∨ width < 1 ∨ 64 < width) :
    Calls Try.prog 24 #[.pointer (some ⟨q, 0, none⟩), .int .i64 a, .int .i64 long, .int .i64 width] w fun e w' => e = .returned (.tuple #[.int .i64 0, .int .i64 1]) ∧ w = w' := by
  by_cases h1 : long < 1
  · go_enter Try.func24, Try.ntmps24
    go_wp2_with fail
    go_ret2
    exact ⟨rfl, rfl⟩
  · by_cases h2 : 1048576 < long
    · go_enter Try.func24, Try.ntmps24
      go_wp2_with fail
      go_ret2
      exact ⟨rfl, rfl⟩
    · by_cases h3 : width < 1
      · go_enter Try.func24, Try.ntmps24
        go_wp2_with fail
        go_ret2
        exact ⟨rfl, rfl⟩
      · have h4 : 64 < width := by omega
        go_enter Try.func24, Try.ntmps24
        go_wp2_with fail
        go_ret2
        exact ⟨rfl, rfl⟩

set_option maxRecDepth 100000 in
set_option maxHeartbeats 4000000 in
theorem PEarliest_some (a long width m0 : Int) (hm0 : (m0 = a ∧ now ≤ a) ∨ (m0 = now ∧ a < now)) (h : QW B w q F now E ver) (hE : ∀ s ∈ E, SpOk s) (hl : E.length ≤ 60) (hF : 0 ≤ F ∧ F ≤ 64) (hn : 0 ≤ now ∧ now < 1152921504606846976) (hok : ¬ (long < 1 ∨ 1048576 < long ∨ width < 1 ∨ 64 < width)) :
    Calls Try.prog 24 #[.pointer (some ⟨q, 0, none⟩), .int .i64 a, .int .i64 long, .int .i64 width] w fun e w' => ∃ t e' : Int, e = .returned (.tuple #[.int .i64 t, .int .i64 e']) ∧ EarlP (raw F E) m0 long width t e' ∧ Below w.heap.size w w' := by
  have hmix := pf_mixed
  obtain ⟨i0, hi0, hz0, hz1, hz2⟩ := info_parts infoI64
  obtain ⟨ao, cap, Q⟩ := h.facts
  have c1 := Q.c1
  clear Q
  have hnm : now ≤ m0 := by omega
  have k1 : ¬ (long < 1) := by omega
  have k2 : ¬ (1048576 < long) := by omega
  have k3 : ¬ (width < 1) := by omega
  have k4 : ¬ (64 < width) := by omega
  clear hok
  have hb0 : Below w.heap.size w (w.alloc (.cells #[.int .i64 m0] 2)) := (Below.refl _ _).alloc (Nat.le_refl _) _
  have hed := Edges_any (h.kept hb0) hl hn.2
  have hown0 : (w.alloc (.cells #[.int .i64 m0] 2)).ownsRow w.heap.size 2 1 (.slice (some ⟨w.heap.size, 0, none⟩) 1 1) 1 (inV [m0]) := own_new (n := 1) (vs := [.int .i64 m0]) rfl (Nat.le_refl _) rfl (by decide)
  rcases hm0 with ⟨rfl, h1⟩ | ⟨rfl, h1⟩
  · have h2 : ¬ (m0 < now) := by omega
    go_enter Try.func24, Try.ntmps24
    go_wp2_with fail
    go_at_call 32
    refine hed.mono ?_
    clear hed
    rintro e w1 ⟨g, cp, es, rfl, ho1, hes, hln, hb1⟩
    have hown1 := pf_own_kept hown0 hb1
    have hb01 : Below w.heap.size w w1 := hb0.trans (hb1.mono hb0.size)
    have hpos := hes.pos
    have hsz1 := hb01.size
    go_wp2_with (at_builtin; go_must (refine wpList_append_own _ rfl (.tmp 39) (.tmp 41) 74 rfl w.heap.size 2 i0 (.int .i64 0) 1 8 Try.underlying74 hi0 hz0 hz1 hz2 rfl (by decide) (.slice (some ⟨w.heap.size, 0, none⟩) 1 1) 1 (inV [m0]) rfl hown1 ⟨g, 0, none⟩ es.length cp (inV es) rfl (inV_length es) ?c0 (inV_one es) ?c2 ?c3 ?c4 ?c5))
    case c0 => exact fun j u hj => ho1.cells (g := g) rfl j u hj
    case c2 => unfold maxLen; omega
    case c3 => omega
    case c4 => exact hsz1
    case c5 =>
      intro v' w2 hown3 hgrow _
      have hb2 : Below w.heap.size w w2 := hb01.grown hgrow hsz1 (fun z hz => by cases hz; exact Nat.le_refl _)
      obtain ⟨g2, cp2, rfl, _⟩ := own_block hown3 (by omega)
      have hown4 : w2.ownsRow w.heap.size 2 1 (.slice (some ⟨g2, 0, none⟩) (1 + es.length) cp2) (1 + es.length) (inV (m0 :: es)) := hown3
      obtain ⟨n, hnn⟩ : ∃ n, n = 1 + es.length := ⟨_, rfl⟩
      rw [← hnn] at hown4 ⊢
      obtain ⟨cs, hcs⟩ : ∃ cs, cs = m0 :: es := ⟨_, rfl⟩
      have hcl : cs.length = n := by rw [hcs, List.length_cons]; omega
      have hnl : n ≤ 122 := by omega
      rw [← hcs] at hown4
      have hcge : ∀ k, k < n → now ≤ cs.getD k 0 := fun k hk => by
        rw [hcs]
        rcases k with _ | k
        · simpa using hnm
        · rw [List.getD_cons_succ]; exact hes.ge_now (by omega)
      have hfin : Hid (∀ k, k ≤ n → ESo (raw F E) m0 long width cs k → ∀ u, m0 ≤ u → u ≤ 1099511627776 → (k < n → u < cs.getD k 0) → ¬ Good (raw F E) long width u) := fun k hk hB u hu hu2 hlt => by
        rw [hcs] at hB hlt
        exact ESo.ahead hes hE hnm hB (by omega) hu hu2 (fun hx => hlt (by omega))
      clear hown3 hgrow hown1 hown0 hb01 hb1 hb0 ho1 hes hln hsz1 c1
      replace hnn := Lib.hid hnn
      replace hcs := Lib.hid hcs
      replace hcge := Lib.hid hcge
      replace hcl := Lib.hid hcl
      replace hpos := Lib.hid hpos
      replace hE := Lib.hid hE
      go_wp2_with fail
      go_loopw [11] (fun kk wr => ∃ (k : Nat), k ≤ n ∧ kk = .int .i64 k ∧ ESo (raw F E) m0 long width cs k ∧ Below w2.heap.size w2 wr) (fun kk _ => n - (intOf kk).toNat)
      case atStart => exact ⟨0, Nat.zero_le _, rfl, fun r hr => by omega, Below.refl _ _⟩
      case round =>
        obtain ⟨k, hk, rfl, hB, hbr⟩ := hrel
        have hbw : Below w.heap.size w wr := hb2.trans (hbr.mono hb2.size)
        by_cases hkn : k < n
        · have hownr := pf_own_kept hown4 hbr
          have hck := int_cell hownr (i := k) (x := cs.getD k 0) (by rw [List.getD_eq_getElem?_getD, List.getElem?_eq_getElem (by rw [hcl.out]; exact hkn)]; rfl)
          have gl := (hownr.lt g2 rfl).2
          have hge := hcge.out k hkn
          have hsk := fun hh => hB.skip hh
          have hfk := hfin.out k hk hB
          obtain ⟨c, hc⟩ : ∃ c, c = cs.getD k 0 := ⟨_, rfl⟩
          rw [← hc] at hck hge hsk hfk
          have hw2 : IntKind.i64.wrap ((k : Int) + 1) = (k : Int) + 1 := IntWalk.i64_in _ (by omega)
          have b1 : (0 : Int) ≤ k := by omega
          have b2 : (k : Int) < (n : Int) := by omega
          replace hc := Lib.hid hc
          clear hownr
          by_cases hA : c < m0
          · have dA : decide (c < m0) = true := decide_eq_true hA
            have hB2 := hsk (fun h7 _ => by omega)
            replace hB2 := Lib.hid hB2
            clear hB hsk hfk
            go_wp2_with fail
            go_roundw
            case rel => exact ⟨k + 1, by omega, by go_num, hB2.out, hbr⟩
            case measure => simp [intOf]; omega
          · have dA : decide (c < m0) = false := decide_eq_false hA
            by_cases hC : 1099511627776 < c
            · have dC : decide (1099511627776 < c) = true := decide_eq_true hC
              have hB2 := hsk (fun _ h7 => by omega)
              replace hB2 := Lib.hid hB2
              clear hB hsk hfk
              go_wp2_with fail
              go_roundw
              case rel => exact ⟨k + 1, by omega, by go_num, hB2.out, hbr⟩
              case measure => simp [intOf]; omega
            · have dC : decide (1099511627776 < c) = false := decide_eq_false hC
              have hw3 : IntKind.i64.wrap (c + long) = c + long := IntWalk.i64_in _ (by omega)
              have hbd := fun (W : World) (hW : Below wr.heap.size wr W) => PBounds_any c (c + long) (h.kept (hbw.trans (hW.mono hbw.size))) hE.out hl hF hn.2
              rw [show max c now = c by omega] at hbd
              obtain ⟨x0, hx0⟩ : ∃ x : Int × Int, BL (raw F E) c (c + long) x.1 := by
                obtain ⟨x, hx⟩ := BL_ex (raw F E) c (c + long)
                exact ⟨(x, 0), hx⟩
              clear hB
              go_wp2_with fail
              refine Reg.region_mk 16 84 [[], [false], [false, false], [false, true, true], [false, true, true, true], [false, false, false, false, false], [false, false, false, false, false, false], [false, false, false, false, false, true, true], [false, false, false, false, false, true, true, true], [false, false, false, false, false, false, false, false, false], [false, false, false, false, false, true, true, true, true, true], [true, true, true, true, true, true, true, true, true, true, true], [true, true, true, true, true, true, true, true, true, true, true, true], [true, true, true, true, true, true, true, true, true, true, true, true, true], [true, true, true, true, true, true, true, true, true, true, true, true, true, false], [true, true, true, true, true, true, true, true, true, true, true, true, true, true, false]] [0, 0, 0, 0, 1, 0, 0, 0, 1, 0, 0, 1, 0, 0, 0, 0]
                [.pure, .pure, .pure, .pure, .minor Unit () (fun _ => .int .i64 c) (fun _ _ => True), .pure, .pure, .pure, .minor Unit () (fun _ => .int .i64 c) (fun _ _ => True), .pure, .pure, .minor {x : Int × Int // BL (raw F E) c (c + long) x.1} ⟨_, hx0⟩ (fun x => .tuple #[.int .i64 x.1.1, .int .i64 x.1.2]) (fun _ _ => True), .pure, .pure, .pure, .pure]
                (fun W => Below wr.heap.size wr W) (fun _ _ => True) (fun _ _ => False) (by kernel_rfl) (by kernel_rfl) rfl rfl (fun _ _ _ _ h => h) ?_ ?_ ?_ ?_ ?_ ?_
              · intro w1 w2 he hb; exact hb.trans (he.mono hb.size)
              · intro _ _ h; exact h.elim
              · refine ⟨trivial, trivial, trivial, trivial, ⟨?_, ?_⟩, trivial, trivial, trivial, ⟨?_, ?_⟩, trivial, trivial, ⟨?_, ?_⟩, trivial, trivial, trivial, trivial, trivial⟩
                all_goals (first | exact fun _ _ _ _ h => h | exact fun _ _ _ h => h.elim)
              · exact (Below.refl _ _).drew
              · exact trivial
              dsimp only [Reg.mk, List.zip, List.zipWith, List.take]
              repeat (refine' Reg.pass_is _ (by rfl) (fun wz => ?_) ?_; rotate_left; (go_simp; first | rfl | rw [if_neg (by omega)]); simp only [Act.put, List.setIfInBounds_toArray, List.set_cons_zero, List.set_cons_succ]; (try simp only [List.nil_append]); (try simp only [List.cons_append]))
              refine Reg.pass_minor (by rfl) (fun wz hI hF => ?_) (fun x4 => ?_)
              · unfold Reg.One
                have d0 := (hI.cell (p := ⟨g2, k, none⟩) gl).trans hck
                go_wp2_with fail
                exact ⟨_, rfl, ⟨(), rfl, trivial⟩, Reg.Ext.refl _⟩
              simp only [Act.put, List.setIfInBounds_toArray, List.set_cons_zero, List.set_cons_succ]; (try simp only [List.nil_append]); (try simp only [List.cons_append]); (try simp only [id])
              repeat (refine' Reg.pass_is _ (by rfl) (fun wz => ?_) ?_; rotate_left; (go_simp; first | rfl | rw [if_neg (by omega)]); simp only [Act.put, List.setIfInBounds_toArray, List.set_cons_zero, List.set_cons_succ]; (try simp only [List.nil_append]); (try simp only [List.cons_append]))
              refine Reg.pass_minor (by rfl) (fun wz hI hF => ?_) (fun x8 => ?_)
              · unfold Reg.One
                have d0 := (hI.cell (p := ⟨g2, k, none⟩) gl).trans hck
                go_wp2_with fail
                exact ⟨_, rfl, ⟨(), rfl, trivial⟩, Reg.Ext.refl _⟩
              simp only [Act.put, List.setIfInBounds_toArray, List.set_cons_zero, List.set_cons_succ]; (try simp only [List.nil_append]); (try simp only [List.cons_append]); (try simp only [id])
              repeat (refine' Reg.pass_is _ (by rfl) (fun wz => ?_) ?_; rotate_left; (go_simp; first | rfl | rw [if_neg (by omega)]); simp only [Act.put, List.setIfInBounds_toArray, List.set_cons_zero, List.set_cons_succ]; (try simp only [List.nil_append]); (try simp only [List.cons_append]))
              refine Reg.pass_minor (by rfl) (fun wz hI hF => ?_) (fun x11 => ?_)
              · unfold Reg.One
                go_wp2_with (go_at_call 36; go_must (refine (hbd wz hI).mono ?_); rintro e w9 ⟨lm, lM, rfl, hx1, hx2, hbl9⟩)
                exact ⟨_, rfl, ⟨⟨(lm, lM), hx1⟩, rfl, trivial⟩, hbl9⟩
              simp only [Act.put, List.setIfInBounds_toArray, List.set_cons_zero, List.set_cons_succ]; (try simp only [List.nil_append]); (try simp only [List.cons_append]); (try simp only [id])
              repeat (refine' Reg.pass_is _ (by rfl) (fun wz => ?_) ?_; rotate_left; (go_simp; first | rfl | rw [if_neg (by omega)]); simp only [Act.put, List.setIfInBounds_toArray, List.set_cons_zero, List.set_cons_succ]; (try simp only [List.nil_append]); (try simp only [List.cons_append]))
              refine Reg.pass_end ?_
              intro w3 HI3 _ HF3
              clear HF3
              obtain ⟨⟨m, M⟩, hBL⟩ := x11
              have hBL : BL (raw F E) c (c + long) m := hBL
              have hb3 : Below w2.heap.size w2 w3 := hbr.trans (HI3.mono hbr.size)
              have hck3 := (HI3.cell (p := ⟨g2, k, none⟩) gl).trans hck
              dsimp only [List.drop]
              by_cases hmw : width ≤ m
              · have hP : Hid (EarlP (raw F E) m0 long width c 0) := .inl ⟨rfl, by omega, by omega, fun x hx1 hx2 => by have := hBL.all x hx1 hx2; omega, fun u hu1 hu2 => hfk u hu1 (by omega) (fun _ => hu2)⟩
                have hb4 : Below w.heap.size w w3 := hb2.trans (hb3.mono hb2.size)
                clear hsk hfk hBL hck hbd
                go_wp2_with fail
                go_ret2
                exact ⟨c, 0, rfl, hP.out, hb4⟩
              · have hB2 := hsk (fun _ _ hg => by
                  rcases hBL.one with h7 | ⟨t, ht1, ht2, h7⟩
                  · omega
                  · have := hg t ht1 ht2; omega)
                replace hB2 := Lib.hid hB2
                clear hsk hfk hBL hck hbd
                go_wp2_with fail
                go_roundw
                case rel => exact ⟨k + 1, by omega, by go_num, hB2.out, hb3⟩
                case measure => simp [intOf]; omega
        · obtain rfl : k = n := by omega
          have hP : Hid (EarlP (raw F E) m0 long width 0 16) := .inr ⟨rfl, rfl, fun u hu1 hu2 => hfin.out k hk hB u hu1 hu2 (fun hx => by omega)⟩
          clear hB
          go_wp2_with fail
          go_ret2
          exact ⟨0, 16, rfl, hP.out, hbw⟩
  · have h2 := h1
    go_enter Try.func24, Try.ntmps24
    go_wp2_with fail
    go_at_call 32
    refine hed.mono ?_
    clear hed
    rintro e w1 ⟨g, cp, es, rfl, ho1, hes, hln, hb1⟩
    have hown1 := pf_own_kept hown0 hb1
    have hb01 : Below w.heap.size w w1 := hb0.trans (hb1.mono hb0.size)
    have hpos := hes.pos
    have hsz1 := hb01.size
    go_wp2_with (at_builtin; go_must (refine wpList_append_own _ rfl (.tmp 39) (.tmp 41) 74 rfl w.heap.size 2 i0 (.int .i64 0) 1 8 Try.underlying74 hi0 hz0 hz1 hz2 rfl (by decide) (.slice (some ⟨w.heap.size, 0, none⟩) 1 1) 1 (inV [m0]) rfl hown1 ⟨g, 0, none⟩ es.length cp (inV es) rfl (inV_length es) ?c0 (inV_one es) ?c2 ?c3 ?c4 ?c5))
    case c0 => exact fun j u hj => ho1.cells (g := g) rfl j u hj
    case c2 => unfold maxLen; omega
    case c3 => omega
    case c4 => exact hsz1
    case c5 =>
      intro v' w2 hown3 hgrow _
      have hb2 : Below w.heap.size w w2 := hb01.grown hgrow hsz1 (fun z hz => by cases hz; exact Nat.le_refl _)
      obtain ⟨g2, cp2, rfl, _⟩ := own_block hown3 (by omega)
      have hown4 : w2.ownsRow w.heap.size 2 1 (.slice (some ⟨g2, 0, none⟩) (1 + es.length) cp2) (1 + es.length) (inV (m0 :: es)) := hown3
      obtain ⟨n, hnn⟩ : ∃ n, n = 1 + es.length := ⟨_, rfl⟩
      rw [← hnn] at hown4 ⊢
      obtain ⟨cs, hcs⟩ : ∃ cs, cs = m0 :: es := ⟨_, rfl⟩
      have hcl : cs.length = n := by rw [hcs, List.length_cons]; omega
      have hnl : n ≤ 122 := by omega
      rw [← hcs] at hown4
      have hcge : ∀ k, k < n → m0 ≤ cs.getD k 0 := fun k hk => by
        rw [hcs]
        rcases k with _ | k
        · simp
        · rw [List.getD_cons_succ]; exact hes.ge_now (by omega)
      have hfin : Hid (∀ k, k ≤ n → ESo (raw F E) m0 long width cs k → ∀ u, m0 ≤ u → u ≤ 1099511627776 → (k < n → u < cs.getD k 0) → ¬ Good (raw F E) long width u) := fun k hk hB u hu hu2 hlt => by
        rw [hcs] at hB hlt
        exact ESo.ahead hes hE hnm hB (by omega) hu hu2 (fun hx => hlt (by omega))
      clear hown3 hgrow hown1 hown0 hb01 hb1 hb0 ho1 hes hln hsz1 c1
      replace hnn := Lib.hid hnn
      replace hcs := Lib.hid hcs
      replace hcge := Lib.hid hcge
      replace hcl := Lib.hid hcl
      replace hpos := Lib.hid hpos
      replace hE := Lib.hid hE
      go_wp2_with fail
      go_loopw [11] (fun kk wr => ∃ (k : Nat), k ≤ n ∧ kk = .int .i64 k ∧ ESo (raw F E) m0 long width cs k ∧ Below w2.heap.size w2 wr) (fun kk _ => n - (intOf kk).toNat)
      case atStart => exact ⟨0, Nat.zero_le _, rfl, fun r hr => by omega, Below.refl _ _⟩
      case round =>
        obtain ⟨k, hk, rfl, hB, hbr⟩ := hrel
        have hbw : Below w.heap.size w wr := hb2.trans (hbr.mono hb2.size)
        by_cases hkn : k < n
        · have hownr := pf_own_kept hown4 hbr
          have hck := int_cell hownr (i := k) (x := cs.getD k 0) (by rw [List.getD_eq_getElem?_getD, List.getElem?_eq_getElem (by rw [hcl.out]; exact hkn)]; rfl)
          have gl := (hownr.lt g2 rfl).2
          have hge := hcge.out k hkn
          have hsk := fun hh => hB.skip hh
          have hfk := hfin.out k hk hB
          obtain ⟨c, hc⟩ : ∃ c, c = cs.getD k 0 := ⟨_, rfl⟩
          rw [← hc] at hck hge hsk hfk
          have hw2 : IntKind.i64.wrap ((k : Int) + 1) = (k : Int) + 1 := IntWalk.i64_in _ (by omega)
          have b1 : (0 : Int) ≤ k := by omega
          have b2 : (k : Int) < (n : Int) := by omega
          replace hc := Lib.hid hc
          clear hownr
          by_cases hA : c < m0
          · have dA : decide (c < m0) = true := decide_eq_true hA
            have hB2 := hsk (fun h7 _ => by omega)
            replace hB2 := Lib.hid hB2
            clear hB hsk hfk
            go_wp2_with fail
            go_roundw
            case rel => exact ⟨k + 1, by omega, by go_num, hB2.out, hbr⟩
            case measure => simp [intOf]; omega
          · have dA : decide (c < m0) = false := decide_eq_false hA
            by_cases hC : 1099511627776 < c
            · have dC : decide (1099511627776 < c) = true := decide_eq_true hC
              have hB2 := hsk (fun _ h7 => by omega)
              replace hB2 := Lib.hid hB2
              clear hB hsk hfk
              go_wp2_with fail
              go_roundw
              case rel => exact ⟨k + 1, by omega, by go_num, hB2.out, hbr⟩
              case measure => simp [intOf]; omega
            · have dC : decide (1099511627776 < c) = false := decide_eq_false hC
              have hw3 : IntKind.i64.wrap (c + long) = c + long := IntWalk.i64_in _ (by omega)
              have hbd := fun (W : World) (hW : Below wr.heap.size wr W) => PBounds_any c (c + long) (h.kept (hbw.trans (hW.mono hbw.size))) hE.out hl hF hn.2
              rw [show max c m0 = c by omega] at hbd
              obtain ⟨x0, hx0⟩ : ∃ x : Int × Int, BL (raw F E) c (c + long) x.1 := by
                obtain ⟨x, hx⟩ := BL_ex (raw F E) c (c + long)
                exact ⟨(x, 0), hx⟩
              clear hB
              go_wp2_with fail
              refine Reg.region_mk 16 84 [[], [false], [false, false], [false, true, true], [false, true, true, true], [false, false, false, false, false], [false, false, false, false, false, false], [false, false, false, false, false, true, true], [false, false, false, false, false, true, true, true], [false, false, false, false, false, false, false, false, false], [false, false, false, false, false, true, true, true, true, true], [true, true, true, true, true, true, true, true, true, true, true], [true, true, true, true, true, true, true, true, true, true, true, true], [true, true, true, true, true, true, true, true, true, true, true, true, true], [true, true, true, true, true, true, true, true, true, true, true, true, true, false], [true, true, true, true, true, true, true, true, true, true, true, true, true, true, false]] [0, 0, 0, 0, 1, 0, 0, 0, 1, 0, 0, 1, 0, 0, 0, 0]
                [.pure, .pure, .pure, .pure, .minor Unit () (fun _ => .int .i64 c) (fun _ _ => True), .pure, .pure, .pure, .minor Unit () (fun _ => .int .i64 c) (fun _ _ => True), .pure, .pure, .minor {x : Int × Int // BL (raw F E) c (c + long) x.1} ⟨_, hx0⟩ (fun x => .tuple #[.int .i64 x.1.1, .int .i64 x.1.2]) (fun _ _ => True), .pure, .pure, .pure, .pure]
                (fun W => Below wr.heap.size wr W) (fun _ _ => True) (fun _ _ => False) (by kernel_rfl) (by kernel_rfl) rfl rfl (fun _ _ _ _ h => h) ?_ ?_ ?_ ?_ ?_ ?_
              · intro w1 w2 he hb; exact hb.trans (he.mono hb.size)
              · intro _ _ h; exact h.elim
              · refine ⟨trivial, trivial, trivial, trivial, ⟨?_, ?_⟩, trivial, trivial, trivial, ⟨?_, ?_⟩, trivial, trivial, ⟨?_, ?_⟩, trivial, trivial, trivial, trivial, trivial⟩
                all_goals (first | exact fun _ _ _ _ h => h | exact fun _ _ _ h => h.elim)
              · exact (Below.refl _ _).drew
              · exact trivial
              dsimp only [Reg.mk, List.zip, List.zipWith, List.take]
              repeat (refine' Reg.pass_is _ (by rfl) (fun wz => ?_) ?_; rotate_left; (go_simp; first | rfl | rw [if_neg (by omega)]); simp only [Act.put, List.setIfInBounds_toArray, List.set_cons_zero, List.set_cons_succ]; (try simp only [List.nil_append]); (try simp only [List.cons_append]))
              refine Reg.pass_minor (by rfl) (fun wz hI hF => ?_) (fun x4 => ?_)
              · unfold Reg.One
                have d0 := (hI.cell (p := ⟨g2, k, none⟩) gl).trans hck
                go_wp2_with fail
                exact ⟨_, rfl, ⟨(), rfl, trivial⟩, Reg.Ext.refl _⟩
              simp only [Act.put, List.setIfInBounds_toArray, List.set_cons_zero, List.set_cons_succ]; (try simp only [List.nil_append]); (try simp only [List.cons_append]); (try simp only [id])
              repeat (refine' Reg.pass_is _ (by rfl) (fun wz => ?_) ?_; rotate_left; (go_simp; first | rfl | rw [if_neg (by omega)]); simp only [Act.put, List.setIfInBounds_toArray, List.set_cons_zero, List.set_cons_succ]; (try simp only [List.nil_append]); (try simp only [List.cons_append]))
              refine Reg.pass_minor (by rfl) (fun wz hI hF => ?_) (fun x8 => ?_)
              · unfold Reg.One
                have d0 := (hI.cell (p := ⟨g2, k, none⟩) gl).trans hck
                go_wp2_with fail
                exact ⟨_, rfl, ⟨(), rfl, trivial⟩, Reg.Ext.refl _⟩
              simp only [Act.put, List.setIfInBounds_toArray, List.set_cons_zero, List.set_cons_succ]; (try simp only [List.nil_append]); (try simp only [List.cons_append]); (try simp only [id])
              repeat (refine' Reg.pass_is _ (by rfl) (fun wz => ?_) ?_; rotate_left; (go_simp; first | rfl | rw [if_neg (by omega)]); simp only [Act.put, List.setIfInBounds_toArray, List.set_cons_zero, List.set_cons_succ]; (try simp only [List.nil_append]); (try simp only [List.cons_append]))
              refine Reg.pass_minor (by rfl) (fun wz hI hF => ?_) (fun x11 => ?_)
              · unfold Reg.One
                go_wp2_with (go_at_call 36; go_must (refine (hbd wz hI).mono ?_); rintro e w9 ⟨lm, lM, rfl, hx1, hx2, hbl9⟩)
                exact ⟨_, rfl, ⟨⟨(lm, lM), hx1⟩, rfl, trivial⟩, hbl9⟩
              simp only [Act.put, List.setIfInBounds_toArray, List.set_cons_zero, List.set_cons_succ]; (try simp only [List.nil_append]); (try simp only [List.cons_append]); (try simp only [id])
              repeat (refine' Reg.pass_is _ (by rfl) (fun wz => ?_) ?_; rotate_left; (go_simp; first | rfl | rw [if_neg (by omega)]); simp only [Act.put, List.setIfInBounds_toArray, List.set_cons_zero, List.set_cons_succ]; (try simp only [List.nil_append]); (try simp only [List.cons_append]))
              refine Reg.pass_end ?_
              intro w3 HI3 _ HF3
              clear HF3
              obtain ⟨⟨m, M⟩, hBL⟩ := x11
              have hBL : BL (raw F E) c (c + long) m := hBL
              have hb3 : Below w2.heap.size w2 w3 := hbr.trans (HI3.mono hbr.size)
              have hck3 := (HI3.cell (p := ⟨g2, k, none⟩) gl).trans hck
              dsimp only [List.drop]
              by_cases hmw : width ≤ m
              · have hP : Hid (EarlP (raw F E) m0 long width c 0) := .inl ⟨rfl, by omega, by omega, fun x hx1 hx2 => by have := hBL.all x hx1 hx2; omega, fun u hu1 hu2 => hfk u hu1 (by omega) (fun _ => hu2)⟩
                have hb4 : Below w.heap.size w w3 := hb2.trans (hb3.mono hb2.size)
                clear hsk hfk hBL hck hbd
                go_wp2_with fail
                go_ret2
                exact ⟨c, 0, rfl, hP.out, hb4⟩
              · have hB2 := hsk (fun _ _ hg => by
                  rcases hBL.one with h7 | ⟨t, ht1, ht2, h7⟩
                  · omega
                  · have := hg t ht1 ht2; omega)
                replace hB2 := Lib.hid hB2
                clear hsk hfk hBL hck hbd
                go_wp2_with fail
                go_roundw
                case rel => exact ⟨k + 1, by omega, by go_num, hB2.out, hb3⟩
                case measure => simp [intOf]; omega
        · obtain rfl : k = n := by omega
          have hP : Hid (EarlP (raw F E) m0 long width 0 16) := .inr ⟨rfl, rfl, fun u hu1 hu2 => hfin.out k hk hB u hu1 hu2 (fun hx => by omega)⟩
          clear hB
          go_wp2_with fail
          go_ret2
          exact ⟨0, 16, rfl, hP.out, hbw⟩

theorem PEarliest_any (a long width : Int) (h : QW B w q F now E ver) (hE : ∀ s ∈ E, SpOk s) (hl : E.length ≤ 60) (hF : 0 ≤ F ∧ F ≤ 64) (hn : 0 ≤ now ∧ now < 1152921504606846976) (hok : ¬ (long < 1 ∨ 1048576 < long ∨ width < 1 ∨ 64 < width)) :
    Calls Try.prog 24 #[.pointer (some ⟨q, 0, none⟩), .int .i64 a, .int .i64 long, .int .i64 width] w fun e w' => ∃ t e' : Int, e = .returned (.tuple #[.int .i64 t, .int .i64 e']) ∧ EarlP (raw F E) (max a now) long width t e' ∧ Below w.heap.size w w' :=
  PEarliest_some a long width (max a now) (by omega) h hE hl hF hn hok
end

end Go.Proofs.Ytbnpeicmbbgboaa
