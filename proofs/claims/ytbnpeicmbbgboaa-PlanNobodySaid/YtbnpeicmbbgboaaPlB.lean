/-
  Own walks: the times at which the document's profile may change.
-/
import Derived.Test.YtbnpeicmbbgboaaPlA
namespace Go.Proofs.Ytbnpeicmbbgboaa
set_option maxRecDepth 8000
open Go.RowKit Go.Sort Go.Lib

def bst (last b e : Int) : Int := if last < e ∧ e < b then e else b
def bestS (last b : Int) (s : Sp) : Int := bst last (bst last b s.a) s.b
def best (last : Int) (E : List Sp) : Int := E.foldl (bestS last) 1152921504606846976
theorem best_snoc (last : Int) (E : List Sp) (s : Sp) : best last (E ++ [s]) = bestS last (best last E) s := by unfold best; rw [List.foldl_append]; rfl

structure BestP (last : Int) (E : List Sp) (b : Int) : Prop where
  le : b ≤ 1152921504606846976
  gt : last < b ∨ b = 1152921504606846976
  one : b = 1152921504606846976 ∨ ∃ s ∈ E, (b = s.a ∨ b = s.b)
  all : ∀ s ∈ E, ∀ x, x = s.a ∨ x = s.b → last < x → b ≤ x
theorem best_p (last : Int) (E : List Sp) : BestP last E (best last E) := by
  have key : ∀ (l : List Sp) (pre : List Sp) (b : Int), BestP last pre b → BestP last (pre ++ l) (l.foldl (bestS last) b) := by
    intro l
    induction l with
    | nil => intro pre b h; rw [List.append_nil]; exact h
    | cons s l ih =>
      intro pre b h
      have e : pre ++ s :: l = (pre ++ [s]) ++ l := by simp
      rw [e, List.foldl_cons]
      refine ih _ _ ?_
      have h1 : bestS last b s ≤ b ∧ (bestS last b s = b ∨ (last < bestS last b s ∧ (bestS last b s = s.a ∨ bestS last b s = s.b))) ∧ (last < s.a → bestS last b s ≤ s.a) ∧ (last < s.b → bestS last b s ≤ s.b) := by
        unfold bestS bst
        split <;> split <;> omega
      obtain ⟨h2, h3, h4, h5⟩ := h1
      refine ⟨by have := h.le; omega, ?_, ?_, ?_⟩
      · have := h.gt
        have := h.le
        omega
      · rcases h3 with h6 | ⟨_, h6⟩
        · rw [h6]
          rcases h.one with h7 | ⟨x, hx, h7⟩
          · exact .inl h7
          · exact .inr ⟨x, List.mem_append_left _ hx, h7⟩
        · exact .inr ⟨s, by simp, h6⟩
      · intro x hx y hy hl
        rcases List.mem_append.1 hx with h6 | h6
        · have := h.all x h6 y hy hl; omega
        · have : x = s := by simpa using h6
          subst this
          rcases hy with rfl | rfl
          · exact h4 hl
          · exact h5 hl
  have := key E [] 1152921504606846976 ⟨by omega, .inr rfl, .inl rfl, fun s hs => by cases hs⟩
  simpa [best] using this

/-- How many ends still lie ahead. -/
def eps (E : List Sp) : List Int := E.flatMap fun s => [s.a, s.b]
def rem (E : List Sp) (l : Int) : Nat := (eps E).countP fun e => decide (l < e ∧ e < 1152921504606846976)
theorem eps_length (E : List Sp) : (eps E).length = 2 * E.length := by
  induction E with
  | nil => rfl
  | cons s E ih => show ([s.a, s.b] ++ eps E).length = _; rw [List.length_append, ih, List.length_cons]; simp; omega
theorem mem_eps {E : List Sp} {s : Sp} (hs : s ∈ E) {x : Int} (hx : x = s.a ∨ x = s.b) : x ∈ eps E := List.mem_flatMap.2 ⟨s, hs, by simpa using hx⟩
theorem rem_le (E : List Sp) (l : Int) : rem E l ≤ 2 * E.length := by rw [← eps_length]; exact List.countP_le_length
theorem countP_lt {p q : Int → Bool} : ∀ (l : List Int), (∀ x, p x = true → q x = true) → ∀ {y : Int}, y ∈ l → q y = true → p y = false → l.countP p < l.countP q
  | [], _, y, hy, _, _ => by cases hy
  | a :: l, h, y, hy, hq, hp => by
    have hmono : l.countP p ≤ l.countP q := List.countP_mono_left fun x _ hx => h x hx
    rw [List.countP_cons, List.countP_cons]
    rcases List.mem_cons.1 hy with rfl | hy
    · rw [hq, hp]; simp; omega
    · have := countP_lt l h hy hq hp
      by_cases ha : p a = true
      · rw [ha, h a ha]; simp; omega
      · have ha' : p a = false := by simpa using ha
        rw [ha']
        by_cases hb : q a = true
        · rw [hb]; simp; omega
        · have hb' : q a = false := by simpa using hb
          rw [hb']; simp; omega
theorem rem_lt {E : List Sp} {l b : Int} (hlt : l < b) (hb : b < 1152921504606846976) (hm : b ∈ eps E) : rem E b < rem E l :=
  countP_lt (eps E) (fun x hx => by simp at hx ⊢; omega) hm (by simp; omega) (by simp)
theorem rem_zero {E : List Sp} {l : Int} (h : rem E l = 0) {s : Sp} (hs : s ∈ E) {x : Int} (hx : x = s.a ∨ x = s.b) (hf : x < 1152921504606846976) : x ≤ l := by
  rcases Int.lt_or_le l x with h1 | h1
  · have := List.countP_eq_zero.1 h x (mem_eps hs hx)
    simp at this
    omega
  · exact h1

/-- The times found so far. -/
structure EdgesTo (E : List Sp) (now : Int) (es : List Int) (last : Int) : Prop where
  pos : 0 < es.length
  la : es[es.length - 1]? = some last
  hd : es.getD 0 0 = now
  inc : ∀ i, i + 1 < es.length → es.getD i 0 < es.getD (i + 1) 0
  top : ∀ i, i < es.length → es.getD i 0 < 1152921504606846976
  ge : now ≤ last
  all : ∀ s ∈ E, ∀ x, x = s.a ∨ x = s.b → now < x → x ≤ last → ∃ i, i < es.length ∧ es.getD i 0 = x
theorem EdgesTo.start (E : List Sp) (now : Int) (h : now < 1152921504606846976) : EdgesTo E now [now] now :=
  ⟨by simp, rfl, rfl, fun i hi => by simp at hi, fun i hi => by simp at hi; subst hi; simpa using h, Int.le_refl _, fun s _ x _ h1 h2 => by omega⟩
theorem getD_snoc (es : List Int) (b : Int) (i : Nat) : (es ++ [b]).getD i 0 = if i < es.length then es.getD i 0 else if i = es.length then b else 0 := by
  simp only [List.getD_eq_getElem?_getD]
  by_cases h1 : i < es.length
  · rw [if_pos h1, List.getElem?_append_left h1]
  · rw [if_neg h1, List.getElem?_append_right (by omega)]
    by_cases h2 : i = es.length
    · subst h2; simp
    · rw [if_neg h2, List.getElem?_eq_none (by simp; omega)]; rfl
theorem EdgesTo.next {E : List Sp} {now : Int} {es : List Int} {last b : Int} (h : EdgesTo E now es last) (hb : BestP last E b) (hf : b < 1152921504606846976) : EdgesTo E now (es ++ [b]) b := by
  have hlb : last < b := by have := hb.gt; omega
  have hpos := h.pos
  have hlast : es.getD (es.length - 1) 0 = last := by rw [List.getD_eq_getElem?_getD, h.la]; rfl
  refine ⟨by simp, by simp, by rw [getD_snoc, if_pos hpos]; exact h.hd, fun i hi => ?_, fun i hi => ?_, by have := h.ge; omega, fun s hs x hx h1 h2 => ?_⟩
  · rw [List.length_append, List.length_singleton] at hi
    rw [getD_snoc, getD_snoc, if_pos (by omega)]
    by_cases h1 : i + 1 < es.length
    · rw [if_pos h1]; exact h.inc i h1
    · rw [if_neg h1, if_pos (by omega), show i = es.length - 1 by omega, hlast]; exact hlb
  · rw [List.length_append, List.length_singleton] at hi
    rw [getD_snoc]
    split
    · rename_i h1; exact h.top i h1
    · rw [if_pos (by omega)]; exact hf
  · rcases Int.lt_or_le last x with h3 | h3
    · have h4 := hb.all s hs x hx h3
      exact ⟨es.length, by simp, by rw [getD_snoc, if_neg (by omega), if_pos rfl]; omega⟩
    · obtain ⟨i, hi, e⟩ := h.all s hs x hx h1 h3
      exact ⟨i, by simp; omega, by rw [getD_snoc, if_pos hi]; exact e⟩
theorem EdgesTo.done {E : List Sp} {now : Int} {es : List Int} {last : Int} (h : EdgesTo E now es last) (hd : ∀ s ∈ E, ∀ x, x = s.a ∨ x = s.b → x < 1152921504606846976 → x ≤ last) : EdgesOf E now es :=
  ⟨h.pos, h.hd, h.inc, h.top, fun s hs x hx h1 h2 => h.all s hs x hx h1 (hd s hs x hx h2)⟩

def inV (l : List Int) : List Value := l.map (Value.int .i64)
theorem inV_length (l : List Int) : (inV l).length = l.length * 1 := by simp [inV]
theorem infoI64 : (Try.prog.info? 2).map (fun i => (i.zero, i.size, i.bytes)) = some (some (.int .i64 0), 1, 8) := by kernel_rfl
theorem int_cell {w : World} {base g n cap : Nat} {e : TypeId} {l : List Int} (ho : w.ownsRow base e 1 (.slice (some ⟨g, 0, none⟩) n cap) n (inV l)) {i : Nat} {x : Int} (hx : l[i]? = some x) : w.cell? ⟨g, i, none⟩ = some (.int .i64 x) := by
  have c0 := ho.cells (g := g) rfl i (.int .i64 x) (by simp [inV, hx])
  rw [Go.WideShapes.add_plain] at c0
  simpa using c0
theorem inV_one (l : List Int) : ∀ u ∈ inV l, u.oneCell' = true := by
  intro u hu
  obtain ⟨x, _, rfl⟩ := List.mem_map.1 hu
  rfl

section
variable {B : Nat} {w : World} {q : Nat} {F now : Int} {E : List Sp} {ver : Int}

set_option maxRecDepth 100000 in
set_option maxHeartbeats 4000000 in
theorem Edges_any (h : QW B w q F now E ver) (hl : E.length ≤ 60) (hn : now < 1152921504606846976) :
    Calls Try.prog 32 #[.pointer (some ⟨q, 0, none⟩)] w fun e w' => ∃ (g cap : Nat) (es : List Int), e = .returned (.slice (some ⟨g, 0, none⟩) es.length cap) ∧ w'.ownsRow w.heap.size 2 1 (.slice (some ⟨g, 0, none⟩) es.length cap) es.length (inV es) ∧ EdgesOf E now es ∧ es.length ≤ 2 * E.length + 1 ∧ Below w.heap.size w w' := by
  obtain ⟨i0, hi0, hz0, hz1, hz2⟩ := info_parts infoI64
  obtain ⟨ao, cap, Q⟩ := h.facts
  have c1 := Q.c1
  have c2 := Q.c2
  have ql := Q.ql
  have qown := Q.own
  have qad := Q.ad
  clear Q h
  go_enter Try.func32, Try.ntmps32
  go_wp2_with fail
  go_loopw [3, 4] (fun o kk wr => ∃ (k g cp : Nat) (es : List Int) (last : Int), kk = .int .i64 k ∧ o = .slice (some ⟨g, 0, none⟩) es.length cp ∧ wr.ownsRow w.heap.size 2 1 (.slice (some ⟨g, 0, none⟩) es.length cp) es.length (inV es) ∧ EdgesTo E now es last ∧ es.length = k + 1 ∧ rem E last + k ≤ 2 * E.length ∧ Below w.heap.size w wr) (fun _ kk _ => 2 * E.length - (intOf kk).toNat)
  case atStart =>
    exact ⟨0, w.heap.size, 1, [now], now, rfl, rfl, own_new (n := 1) (vs := [.int .i64 now]) rfl (Nat.le_refl _) rfl (by decide), EdgesTo.start E now hn, rfl, by have := rem_le E now; omega, (Below.refl _ _).alloc (Nat.le_refl _) _⟩
  case round =>
    obtain ⟨k, g, cp, es, last, rfl, rfl, hown, hT, hlen, hrem, hb⟩ := hrel
    have d2 := (hb.cell (p := ⟨q, 2, none⟩) ql).trans c2
    have hkl : k ≤ 2 * E.length := by omega
    by_cases hk : k < 2 * E.length
    · have hk' : (k : Int) < 2 * (E.length : Int) := by omega
      obtain ⟨hb0, rfl⟩ := qad (by omega)
      have hlc := int_cell hown hT.la
      have hw0 : IntKind.i64.wrap (2 * (E.length : Int)) = 2 * (E.length : Int) := IntWalk.i64_in _ (by omega)
      have hw1 : IntKind.i64.wrap ((es.length : Int) - 1) = (k : Int) := by rw [IntWalk.i64_in _ (by omega)]; omega
      have hw2 : IntKind.i64.wrap ((k : Int) + 1) = (k : Int) + 1 := IntWalk.i64_in _ (by omega)
      rw [show es.length - 1 = k by omega] at hlc
      have bk0 : (0 : Int) ≤ k := by omega
      have bk1 : (k : Int) < (es.length : Int) := by omega
      replace hlen := Lib.hid hlen
      obtain ⟨wo, hwo⟩ : ∃ wo : World, wo = wr := ⟨_, rfl⟩
      subst hwo
      have hownK := pf_own_kept qown hb
      go_wp2_with fail
      go_loopw [6, 7] (fun b ii wr => ∃ (i : Nat), i ≤ E.length ∧ ii = .int .i64 i ∧ b = .int .i64 (best last (E.take i)) ∧ wr = wo) (fun _ ii _ => E.length - (intOf ii).toNat)
      case atStart => exact ⟨0, Nat.zero_le _, rfl, rfl, rfl⟩
      case round =>
        obtain ⟨i, hi, rfl, rfl, rfl⟩ := hrel
        by_cases hlt : i < E.length
        · obtain ⟨s, hs⟩ : ∃ s, E[i]? = some s := ⟨_, List.getElem?_eq_getElem hlt⟩
          obtain ⟨s0, s1, s2⟩ := span_cells hownK hs
          have hstep : best last (E.take (i + 1)) = bestS last (best last (E.take i)) s := by rw [take_snoc hs, best_snoc]
          obtain ⟨x, hx⟩ : ∃ x, x = best last (E.take i) := ⟨_, rfl⟩
          rw [← hx] at hstep ⊢
          obtain ⟨sa, sb, sn⟩ := s
          dsimp only at s0 s1 s2
          have hw3 : IntKind.i64.wrap ((i : Int) + 1) = (i : Int) + 1 := IntWalk.i64_in _ (by omega)
          have b1 : (0 : Int) ≤ i := by omega
          have b2 : (i : Int) < (E.length : Int) := by omega
          have hstep : best last (E.take (i + 1)) = bst last (bst last x sa) sb := hstep
          clear hs
          replace hx := Lib.hid hx
          by_cases hPA : last < sa
          · have dPA : decide (last < sa) = true := decide_eq_true hPA
            by_cases hPB : sa < x
            · have dPB : decide (sa < x) = true := decide_eq_true hPB
              have eP : bst last x sa = sa := if_pos ⟨hPA, hPB⟩
              rw [eP] at hstep
              clear eP
              by_cases hRA : last < sb
              · have dRA : decide (last < sb) = true := decide_eq_true hRA
                by_cases hRB : sb < sa
                · have dRB : decide (sb < sa) = true := decide_eq_true hRB
                  have eR : bst last sa sb = sb := if_pos ⟨hRA, hRB⟩
                  rw [eR] at hstep
                  clear eR
                  replace hstep := Lib.hid hstep
                  go_wp2_with fail
                  go_roundw
                  case rel => exact ⟨i + 1, by omega, by go_num, by rw [hstep.out], trivial⟩
                  case measure => simp [intOf]; omega
                · have dRB : decide (sb < sa) = false := decide_eq_false hRB
                  have eR : bst last sa sb = sa := if_neg fun hh => hRB hh.2
                  rw [eR] at hstep
                  clear eR
                  replace hstep := Lib.hid hstep
                  go_wp2_with fail
                  go_roundw
                  case rel => exact ⟨i + 1, by omega, by go_num, by rw [hstep.out], trivial⟩
                  case measure => simp [intOf]; omega
              · have dRA : decide (last < sb) = false := decide_eq_false hRA
                have eR : bst last sa sb = sa := if_neg fun hh => hRA hh.1
                rw [eR] at hstep
                clear eR
                replace hstep := Lib.hid hstep
                go_wp2_with fail
                go_roundw
                case rel => exact ⟨i + 1, by omega, by go_num, by rw [hstep.out], trivial⟩
                case measure => simp [intOf]; omega
            · have dPB : decide (sa < x) = false := decide_eq_false hPB
              have eP : bst last x sa = x := if_neg fun hh => hPB hh.2
              rw [eP] at hstep
              clear eP
              by_cases hRA : last < sb
              · have dRA : decide (last < sb) = true := decide_eq_true hRA
                by_cases hRB : sb < x
                · have dRB : decide (sb < x) = true := decide_eq_true hRB
                  have eR : bst last x sb = sb := if_pos ⟨hRA, hRB⟩
                  rw [eR] at hstep
                  clear eR
                  replace hstep := Lib.hid hstep
                  go_wp2_with fail
                  go_roundw
                  case rel => exact ⟨i + 1, by omega, by go_num, by rw [hstep.out], trivial⟩
                  case measure => simp [intOf]; omega
                · have dRB : decide (sb < x) = false := decide_eq_false hRB
                  have eR : bst last x sb = x := if_neg fun hh => hRB hh.2
                  rw [eR] at hstep
                  clear eR
                  replace hstep := Lib.hid hstep
                  go_wp2_with fail
                  go_roundw
                  case rel => exact ⟨i + 1, by omega, by go_num, by rw [hstep.out], trivial⟩
                  case measure => simp [intOf]; omega
              · have dRA : decide (last < sb) = false := decide_eq_false hRA
                have eR : bst last x sb = x := if_neg fun hh => hRA hh.1
                rw [eR] at hstep
                clear eR
                replace hstep := Lib.hid hstep
                go_wp2_with fail
                go_roundw
                case rel => exact ⟨i + 1, by omega, by go_num, by rw [hstep.out], trivial⟩
                case measure => simp [intOf]; omega
          · have dPA : decide (last < sa) = false := decide_eq_false hPA
            have eP : bst last x sa = x := if_neg fun hh => hPA hh.1
            rw [eP] at hstep
            clear eP
            by_cases hRA : last < sb
            · have dRA : decide (last < sb) = true := decide_eq_true hRA
              by_cases hRB : sb < x
              · have dRB : decide (sb < x) = true := decide_eq_true hRB
                have eR : bst last x sb = sb := if_pos ⟨hRA, hRB⟩
                rw [eR] at hstep
                clear eR
                replace hstep := Lib.hid hstep
                go_wp2_with fail
                go_roundw
                case rel => exact ⟨i + 1, by omega, by go_num, by rw [hstep.out], trivial⟩
                case measure => simp [intOf]; omega
              · have dRB : decide (sb < x) = false := decide_eq_false hRB
                have eR : bst last x sb = x := if_neg fun hh => hRB hh.2
                rw [eR] at hstep
                clear eR
                replace hstep := Lib.hid hstep
                go_wp2_with fail
                go_roundw
                case rel => exact ⟨i + 1, by omega, by go_num, by rw [hstep.out], trivial⟩
                case measure => simp [intOf]; omega
            · have dRA : decide (last < sb) = false := decide_eq_false hRA
              have eR : bst last x sb = x := if_neg fun hh => hRA hh.1
              rw [eR] at hstep
              clear eR
              replace hstep := Lib.hid hstep
              go_wp2_with fail
              go_roundw
              case rel => exact ⟨i + 1, by omega, by go_num, by rw [hstep.out], trivial⟩
              case measure => simp [intOf]; omega
        · obtain rfl : i = E.length := by omega
          rw [List.take_of_length_le (Nat.le_refl _)]
          have hB := best_p last E
          obtain ⟨b, hbb⟩ : ∃ b, b = best last E := ⟨_, rfl⟩
          rw [← hbb] at hB ⊢
          replace hbb := Lib.hid hbb
          by_cases hF : b = 1152921504606846976
          · have hfin : Hid (EdgesOf E now es) := hT.done fun s hs x hx hf => by
              rcases Int.lt_or_le last x with h1 | h1
              · have := hB.all s hs x hx h1; omega
              · exact h1
            have hln : Hid (es.length ≤ 2 * E.length + 1) := by show _ ≤ _; have := hlen.out; omega
            subst hF
            clear hT hrem hB
            go_wp2_with fail
            go_ret
            exact ⟨g, cp, es, by go_num, hown, hfin.out, hln.out, hb⟩
          · have hF' : (b == 1152921504606846976) = false := beq_eq_false_iff_ne.2 hF
            have hbl : b < 1152921504606846976 := by have := hB.le; omega
            have hlb : last < b := by have := hB.gt; omega
            have hT2 : Hid (EdgesTo E now (es ++ [b]) b) := hT.next hB hbl
            have hrem2 : Hid (rem E b + (k + 1) ≤ 2 * E.length) := by
              show _ ≤ _
              have hm : b ∈ eps E := by
                rcases hB.one with h1 | ⟨s, hs, h1⟩
                · exact absurd h1 hF
                · exact mem_eps hs h1
              have := rem_lt hlb hbl hm
              omega
            have hsz := hb.size
            have hln2 : es.length ≤ 121 := by have := hlen.out; omega
            replace hF := Lib.hid hF
            clear hT hrem hB
            go_wp2_with (at_builtin; go_must (refine wpList_append_own _ rfl (.tmp 101) (.tmp 103) 74 rfl w.heap.size 2 i0 (.int .i64 0) 1 8 Try.underlying74 hi0 hz0 hz1 hz2 rfl (by decide) (.slice (some ⟨g, 0, none⟩) es.length cp) es.length (inV es) rfl (hown.alloc _) ⟨wr.heap.size, 0, none⟩ 1 1 [.int .i64 b] rfl rfl ?c0 ?c1 ?c2 ?c3 ?c4 ?c5))
            case c0 => exact cells_new rfl
            case c1 => simp [Value.oneCell']
            case c2 => unfold maxLen; omega
            case c3 => omega
            case c4 => first | omega | (simp; omega)
            case c5 =>
              intro v' w2 hown3 hgrow _
              have hb2 : Below w.heap.size w w2 := (hb.alloc hsz _).grown hgrow (by simp; omega) (fun z hz => by cases hz; exact (hown.lt g rfl).1)
              obtain ⟨g2, cp2, rfl, _⟩ := own_block hown3 (by omega)
              have hown4 : w2.ownsRow w.heap.size 2 1 (.slice (some ⟨g2, 0, none⟩) (es ++ [b]).length cp2) (es ++ [b]).length (inV (es ++ [b])) := by
                have e1 : inV (es ++ [b]) = inV es ++ [.int .i64 b] := by simp [inV]
                rw [e1, List.length_append, List.length_singleton]
                exact hown3
              have hl3 : Hid ((es ++ [b]).length = k + 1 + 1) := by show _ = _; rw [List.length_append, List.length_singleton, hlen.out]
              obtain ⟨es2, he2⟩ : ∃ es2, es2 = es ++ [b] := ⟨_, rfl⟩
              have hln3 : Hid (es.length + 1 = es2.length) := by show _ = _; rw [he2, List.length_append, List.length_singleton]
              rw [← he2] at hown4 hl3 hT2
              rw [hln3.out]
              replace he2 := Lib.hid he2
              clear hown3 hgrow hown hb
              go_wp2_with fail
              go_roundw
              case rel => exact ⟨k + 1, g2, cp2, es2, b, by go_num, by go_num, hown4, hT2.out, hl3.out, hrem2.out, hb2⟩
              case measure => simp [intOf]; omega
    · obtain rfl : k = 2 * E.length := by omega
      have hfin : Hid (EdgesOf E now es) := hT.done fun s hs x hx hf => rem_zero (by omega) hs hx hf
      have hw0 : IntKind.i64.wrap (2 * (E.length : Int)) = 2 * (E.length : Int) := IntWalk.i64_in _ (by omega)
      have hk2 : (((2 * E.length : Nat)) : Int) = 2 * (E.length : Int) := by omega
      have hln : Hid (es.length ≤ 2 * E.length + 1) := by show _ ≤ _; omega
      rw [hk2]
      have hk3 : ¬ (2 * (E.length : Int) < 2 * (E.length : Int)) := by omega
      replace hlen := Lib.hid hlen
      replace hk2 := Lib.hid hk2
      clear hT hrem hk
      go_wp2_with fail
      go_ret
      exact ⟨g, cp, es, by go_num, hown, hfin.out, hln.out, hb⟩
end

end Go.Proofs.Ytbnpeicmbbgboaa
