/-
  Own walks: the first item that may not be planned; a copy of a list of items, and of choices.
-/
import Derived.Test.YtbnpeicmbbgboaaPgA
import Derived.Test.YtbnpeicmbbgboaaLwA
namespace Go.Proofs.Ytbnpeicmbbgboaa
set_option maxRecDepth 8000
open Go.RowKit Go.Sort Go.Lib

theorem item_at {w : World} {l : List It} {b off k : Nat} {s : It} (hc : ∀ i s j u, l[i]? = some s → (encI s)[j]? = some u → w.cell? ⟨b, off + (i * 4 + j), none⟩ = some u) (hs : l[k]? = some s) :
    w.cell? ⟨b, off + k * 4, none⟩ = some (.int .i64 s.id) ∧ w.cell? ⟨b, off + k * 4 + 1, none⟩ = some (.int .i64 s.wd) ∧ w.cell? ⟨b, off + k * 4 + 2, none⟩ = some (.int .i64 s.lim) ∧ w.cell? ⟨b, off + k * 4 + 3, none⟩ = some (.int .i64 s.pl) :=
  ⟨hc k s 0 _ hs rfl, hc k s 1 _ hs rfl, hc k s 2 _ hs rfl, hc k s 3 _ hs rfl⟩

/-- What is told of items of which one may not be planned. -/
def BadR (l : List It) (r : Int) : Prop := ((∀ x ∈ l, x.ok) ∧ r = -1) ∨ ((∃ x ∈ l, ¬ x.ok) ∧ 0 ≤ r)

set_option maxRecDepth 100000 in
set_option maxHeartbeats 1000000 in
theorem Index_fn {w : World} {v : Value} {l : List It} (h : RowAt encI 4 w v l) (hl : l.length ≤ 1000) :
    Calls Try.prog 37 #[v, .func (.func 27) #[] #[]] w fun e w' => ∃ r, e = .returned (.int .i64 r) ∧ BadR l r ∧ Below w.heap.size w w' := by
  obtain ⟨ao, cap, rfl, hlc, hcm, hcells⟩ := h
  clear hcm
  go_enter Try.func37, Try.ntmps37
  go_wp2_with fail
  go_loopw [5, 8] (fun _ ii wr => ∃ (k : Nat), k ≤ l.length ∧ ii = .int .i64 k ∧ (∀ x ∈ l.take k, x.ok) ∧ Below w.heap.size w wr) (fun _ ii _ => l.length - (intOf ii).toNat)
  case atStart => exact ⟨0, Nat.zero_le _, rfl, fun x hx => by simp at hx, Below.refl _ _⟩
  case round =>
    obtain ⟨k, hk, rfl, hok, hb⟩ := hrel
    by_cases hlt : k < l.length
    · obtain ⟨b, off, rfl, hbw, hcell⟩ := hcells (by omega)
      obtain ⟨s, hs⟩ : ∃ s, l[k]? = some s := ⟨_, List.getElem?_eq_getElem hlt⟩
      obtain ⟨c0, c1, c2, c3⟩ := item_at hcell hs
      rw [← hb.cell (p := ⟨b, _, none⟩) hbw] at c0 c1 c2 c3
      have hsz := hb.size
      have hR := fun W => notRight_fn s W
      rw [show (encI s).toArray = #[.int .i64 s.id, .int .i64 s.wd, .int .i64 s.lim, .int .i64 s.pl] from rfl] at hR
      have hmem := List.mem_of_getElem? hs
      have htk := take_snoc hs
      have b1 : (0 : Int) ≤ k := by omega
      have b2 : (k : Int) < (l.length : Int) := by omega
      clear hcell hcells
      by_cases hg : s.ok
      · rw [(okI_iff s).2 hg] at hR
        have hok' : Hid (∀ x ∈ l.take (k + 1), x.ok) := by
          rw [htk]
          intro x hx
          rcases List.mem_append.1 hx with h1 | h1
          · exact hok x h1
          · have : x = s := by simpa using h1
            rw [this]; exact hg
        clear hok hg htk
        go_wp2_with (go_at_call 27; go_must (refine (hR _).mono ?_); rintro e w2 ⟨rfl, hb2⟩)
        go_roundw
        case rel => exact ⟨k + 1, by omega, by go_num, hok'.out, hb.trans (hb2.mono hsz)⟩
        case measure => simp [intOf]; omega
      · rw [okI_no hg] at hR
        have hfin : Hid (BadR l k) := .inr ⟨⟨s, hmem, hg⟩, by omega⟩
        clear hok hg htk
        go_wp2_with (go_at_call 27; go_must (refine (hR _).mono ?_); rintro e w2 ⟨rfl, hb2⟩)
        go_ret
        exact ⟨_, rfl, hfin.out, hb.trans (hb2.mono hsz)⟩
    · obtain rfl : k = l.length := by omega
      have hfin : Hid (BadR l (-1)) := .inl ⟨by rw [List.take_length] at hok; exact hok, rfl⟩
      clear hok hcells
      go_wp2_with fail
      go_ret
      exact ⟨_, rfl, hfin.out, hb⟩

theorem Contains_fn {w : World} {v : Value} {l : List It} (h : RowAt encI 4 w v l) (hl : l.length ≤ 1000) :
    Calls Try.prog 26 #[v, .func (.func 27) #[] #[]] w fun e w' => ∃ b, e = .returned (.bool b) ∧ (b = false → ∀ x ∈ l, x.ok) ∧ (b = true → ∃ x ∈ l, ¬ x.ok) ∧ Below w.heap.size w w' := by
  have hi := Index_fn h hl
  go_enter Try.func26, Try.ntmps26
  go_wp2_with fail
  go_at_call 37
  refine hi.mono ?_
  clear hi
  rintro e w1 ⟨r, rfl, hr, hb⟩
  rcases hr with ⟨h1, rfl⟩ | ⟨h1, h2⟩
  · replace h1 := Lib.hid h1
    go_wp2_with fail
    go_ret
    exact ⟨_, rfl, fun _ => h1.out, fun h => by simp at h, hb⟩
  · replace h1 := Lib.hid h1
    go_wp2_with fail
    go_ret
    exact ⟨_, rfl, fun h => by simp at h <;> omega, fun _ => h1.out, hb⟩

section
variable {α : Type} {enc : α → List Value} {sz : Nat}
theorem flat_cellsK {w : World} {b off : Nat} (hsz : ∀ x, (enc x).length = sz) {l : List α} (h : ∀ i s j u, l[i]? = some s → (enc s)[j]? = some u → w.cell? ⟨b, off + (i * sz + j), none⟩ = some u) : ∀ j u, (l.flatMap enc)[j]? = some u → w.cell? ((⟨b, off, none⟩ : Addr).add j) = some u := by
  intro j u hj
  rw [Go.WideShapes.add_plain]
  have key : ∀ (l : List α) (j : Nat), (l.flatMap enc)[j]? = some u → ∃ i s q, l[i]? = some s ∧ (enc s)[q]? = some u ∧ j = i * sz + q := by
    intro l
    induction l with
    | nil => intro j hj; simp at hj
    | cons a l ih =>
      intro j hj
      rw [List.flatMap_cons] at hj
      by_cases hlt : j < sz
      · rw [List.getElem?_append_left (by rw [hsz]; exact hlt)] at hj
        exact ⟨0, a, j, rfl, hj, by omega⟩
      · rw [List.getElem?_append_right (by rw [hsz]; omega), hsz] at hj
        obtain ⟨i, s, q, h1, h2, h3⟩ := ih _ hj
        exact ⟨i + 1, s, q, h1, h2, by rw [Nat.add_mul]; omega⟩
  obtain ⟨i, s, q, h1, h2, rfl⟩ := key l j hj
  exact h i s q u h1 h2
theorem flat_lenK (hsz : ∀ x, (enc x).length = sz) (l : List α) : (l.flatMap enc).length = l.length * sz := by
  induction l with
  | nil => simp
  | cons a l ih => rw [List.flatMap_cons, List.length_append, ih, hsz, List.length_cons, Nat.add_mul]; omega
/-- What may be appended of a list of structs. -/
theorem src_ofK {P : Program} {w : World} {v : Value} {t e : TypeId} {l : List α} (hu : P.underlying t = some (.slice e)) (hsz : ∀ x, (enc x).length = sz) (h1 : ∀ u ∈ l.flatMap enc, u.oneCell' = true) (hr : RowAt enc sz w v l) : Src P sz t v l.length (l.flatMap enc) w := by
  obtain ⟨ao, cap, rfl, q1, q2, q3⟩ := hr
  by_cases h0 : l.length = 0
  · have : l = [] := List.eq_nil_of_length_eq_zero h0
    subst this
    rcases ao with _ | a
    · exact Src.ofNil w hu cap
    · exact Src.ofSlice w hu a 0 cap [] (by simp) (fun j u hj => by simp at hj) (fun u hu => by simp at hu)
  · obtain ⟨b, off, rfl, hlt, hc⟩ := q3 (by omega)
    exact Src.ofSlice w hu ⟨b, off, none⟩ l.length cap _ (flat_lenK hsz l) (flat_cellsK hsz hc) h1
end
theorem encI_one (l : List It) : ∀ u ∈ l.flatMap encI, u.oneCell' = true := by
  intro u hu
  obtain ⟨x, _, hx⟩ := List.mem_flatMap.1 hu
  simp only [encI, List.mem_cons, List.not_mem_nil, or_false] at hx
  rcases hx with rfl | rfl | rfl | rfl <;> rfl

/-- What a copy is: a row of its own. -/
def ClonePI (w : World) (l : List It) (e : Ending) (w' : World) : Prop :=
  ∃ v', e = .returned v' ∧ w'.ownsRow w.heap.size 36 4 v' l.length (l.flatMap encI) ∧ Below w.heap.size w w'

set_option maxRecDepth 100000 in
set_option maxHeartbeats 1000000 in
theorem CloneI_fn {w : World} {v : Value} {l : List It} (hr : RowAt encI 4 w v l) (hl : l.length ≤ 1000) : Calls Try.prog 28 #[v] w (ClonePI w l) := by
  obtain ⟨i0, hi0, hz0, hz1, hz2⟩ := info_parts infoItem
  have hr1 := hr.below ((Below.refl w.heap.size w).alloc (Nat.le_refl _) (.cells #[] 36))
  have hown : (w.alloc (.cells #[] 36)).ownsRow w.heap.size 36 4 (.slice (some ⟨w.heap.size, 0, none⟩) 0 0) 0 [] := own_new (vs := []) rfl (Nat.le_refl _) rfl (Nat.zero_le _)
  have hsrc := Lib.hid (src_ofK (enc := encI) (sz := 4) (t := 23) (P := Try.prog) Try.underlying23 (fun _ => rfl) (encI_one l) hr1)
  obtain ⟨ao, cap, rfl, q1, q2, q3⟩ := hr
  rcases ao with _ | a
  · have hz : l = [] := by
      rcases Nat.eq_zero_or_pos l.length with h | h
      · exact List.eq_nil_of_length_eq_zero h
      · obtain ⟨b, off, e, _⟩ := q3 h; cases e
    subst hz
    have hnil : ∀ w : World, (binOp .eql 23 (.slice none 0 cap) (.slice none 0 0)).run Try.prog w = .ok (.bool true) w := fun w => Lib.run_eql_slice_nil w _ _ _ _ _ _ _ Try.underlying23
    have hfin : Hid (ClonePI w [] (.returned (.slice none 0 0)) w) := ⟨_, rfl, World.ownsRow_nil w w.heap.size 36 4, Below.refl _ _⟩
    clear hown hsrc q3 hr1
    simp only [List.length_nil] at *
    go_enter Try.func28, Try.ntmps28
    go_wp2_with fail
    go_ret
    exact hfin.out
  · have hnil : ∀ w : World, (binOp .eql 23 (.slice (some a) l.length cap) (.slice none 0 0)).run Try.prog w = .ok (.bool false) w := fun w => Lib.run_eql_slice_nil w _ _ _ _ _ _ _ Try.underlying23
    obtain ⟨n, hn⟩ : ∃ n, l.length = n := ⟨_, rfl⟩
    rw [hn] at hnil hsrc hl ⊢
    clear q1 q2 q3 hr1
    replace hn := Lib.hid hn
    go_enter Try.func28, Try.ntmps28
    go_wp2_with (at_builtin; go_must (refine wpList_append_src _ rfl (.tmp 5) (.tmp 6) 23 23 rfl w.heap.size 36 i0 (.agg #[.int .i64 0, .int .i64 0, .int .i64 0, .int .i64 0]) 4 32 Try.underlying23 hi0 hz0 hz1 hz2 rfl (.slice (some ⟨w.heap.size, 0, none⟩) 0 0) 0 [] rfl hown (.slice (some a) n cap) n (l.flatMap encI) rfl hsrc.out ?c2 ?c3 ?c4 ?c5))
    case c2 => unfold maxLen; omega
    case c3 => omega
    case c4 => simp
    case c5 =>
      intro v' w2 hown3 hgrow
      have hfin : Hid (ClonePI w l (.returned v') w2) := ⟨_, rfl, by rw [hn.out]; exact hown3, ((Below.refl _ w).alloc (Nat.le_refl _) _).grown hgrow (by simp) (fun q hq => by cases hq; exact Nat.le_refl _)⟩
      clear hown hgrow hown3 hsrc
      go_wp2_with fail
      go_ret
      exact hfin.out

/-- What a copy is: a row of its own. -/
def ClonePC (w : World) (l : List (Int × Int)) (e : Ending) (w' : World) : Prop :=
  ∃ v', e = .returned v' ∧ w'.ownsRow w.heap.size 53 2 v' l.length (l.flatMap enc2) ∧ Below w.heap.size w w'

set_option maxRecDepth 100000 in
set_option maxHeartbeats 1000000 in
theorem CloneC_fn {w : World} {v : Value} {l : List (Int × Int)} (hr : RowAt enc2 2 w v l) (hl : l.length ≤ 1000) : Calls Try.prog 34 #[v] w (ClonePC w l) := by
  obtain ⟨i0, hi0, hz0, hz1, hz2⟩ := info_parts infoChoice
  have hr1 := hr.below ((Below.refl w.heap.size w).alloc (Nat.le_refl _) (.cells #[] 53))
  have hown : (w.alloc (.cells #[] 53)).ownsRow w.heap.size 53 2 (.slice (some ⟨w.heap.size, 0, none⟩) 0 0) 0 [] := own_new (vs := []) rfl (Nat.le_refl _) rfl (Nat.zero_le _)
  have hsrc := Lib.hid (src_ofK (enc := enc2) (sz := 2) (t := 30) (P := Try.prog) Try.underlying30 (fun _ => rfl) (prV_one l) hr1)
  obtain ⟨ao, cap, rfl, q1, q2, q3⟩ := hr
  rcases ao with _ | a
  · have hz : l = [] := by
      rcases Nat.eq_zero_or_pos l.length with h | h
      · exact List.eq_nil_of_length_eq_zero h
      · obtain ⟨b, off, e, _⟩ := q3 h; cases e
    subst hz
    have hnil : ∀ w : World, (binOp .eql 30 (.slice none 0 cap) (.slice none 0 0)).run Try.prog w = .ok (.bool true) w := fun w => Lib.run_eql_slice_nil w _ _ _ _ _ _ _ Try.underlying30
    have hfin : Hid (ClonePC w [] (.returned (.slice none 0 0)) w) := ⟨_, rfl, World.ownsRow_nil w w.heap.size 53 2, Below.refl _ _⟩
    clear hown hsrc q3 hr1
    simp only [List.length_nil] at *
    go_enter Try.func34, Try.ntmps34
    go_wp2_with fail
    go_ret
    exact hfin.out
  · have hnil : ∀ w : World, (binOp .eql 30 (.slice (some a) l.length cap) (.slice none 0 0)).run Try.prog w = .ok (.bool false) w := fun w => Lib.run_eql_slice_nil w _ _ _ _ _ _ _ Try.underlying30
    obtain ⟨n, hn⟩ : ∃ n, l.length = n := ⟨_, rfl⟩
    rw [hn] at hnil hsrc hl ⊢
    clear q1 q2 q3 hr1
    replace hn := Lib.hid hn
    go_enter Try.func34, Try.ntmps34
    go_wp2_with (at_builtin; go_must (refine wpList_append_src _ rfl (.tmp 5) (.tmp 6) 30 30 rfl w.heap.size 53 i0 (.agg #[.int .i64 0, .int .i64 0]) 2 16 Try.underlying30 hi0 hz0 hz1 hz2 rfl (.slice (some ⟨w.heap.size, 0, none⟩) 0 0) 0 [] rfl hown (.slice (some a) n cap) n (l.flatMap enc2) rfl hsrc.out ?c2 ?c3 ?c4 ?c5))
    case c2 => unfold maxLen; omega
    case c3 => omega
    case c4 => simp
    case c5 =>
      intro v' w2 hown3 hgrow
      have hfin : Hid (ClonePC w l (.returned v') w2) := ⟨_, rfl, by rw [hn.out]; exact hown3, ((Below.refl _ w).alloc (Nat.le_refl _) _).grown hgrow (by simp) (fun q hq => by cases hq; exact Nat.le_refl _)⟩
      clear hown hgrow hown3 hsrc
      go_wp2_with fail
      go_ret
      exact hfin.out

end Go.Proofs.Ytbnpeicmbbgboaa
