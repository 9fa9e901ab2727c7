/-
  Contracts of the program's Sort: Clone of a list of jobs, the stable sort of it, whatever list it is.
-/
import Derived.Test.YtmlmehpcfgchgaaOrI
import Derived.Test.YtmlmehpcfgchgaaOrD
import Derived.Test.YtmlmehpcfgchgaaOrF
import Derived.Test.YtmlmehpcfgchgaaSbD
namespace Go.Proofs.Ytmlmehpcfgchgaa
open Go.RowKit Go.Lib Go.Sort Go.Shelf

theorem jb_one (l : List Jb) : ∀ u ∈ l.flatMap encJ, u.oneCell' = true := by
  intro u hu
  obtain ⟨x, _, hx⟩ := List.mem_flatMap.1 hu
  exact encJ_one x u hx
/-- What is read of a list of jobs, cell by cell. -/
theorem flat_cells {w : World} {b off : Nat} {l : List Jb} (h : ∀ i s j u, l[i]? = some s → (encJ s)[j]? = some u → w.cell? ⟨b, off + (i * 10 + j), none⟩ = some u) : ∀ j u, (l.flatMap encJ)[j]? = some u → w.cell? ((⟨b, off, none⟩ : Addr).add j) = some u := by
  intro j u hj
  rw [Go.WideShapes.add_plain]
  have key : ∀ (l : List Jb) (j : Nat), (l.flatMap encJ)[j]? = some u → ∃ i s q, l[i]? = some s ∧ (encJ s)[q]? = some u ∧ j = i * 10 + q := by
    intro l
    induction l with
    | nil => intro j hj; simp at hj
    | cons a l ih =>
      intro j hj
      rw [List.flatMap_cons] at hj
      by_cases hlt : j < 10
      · rw [List.getElem?_append_left (by rw [encJ_len]; exact hlt)] at hj
        exact ⟨0, a, j, rfl, hj, by omega⟩
      · rw [List.getElem?_append_right (by rw [encJ_len]; omega), encJ_len] at hj
        obtain ⟨i, s, q, h1, h2, h3⟩ := ih _ hj
        exact ⟨i + 1, s, q, h1, h2, by omega⟩
  obtain ⟨i, s, q, h1, h2, rfl⟩ := key l j hj
  exact h i s q u h1 h2

section
variable {w : World} {v : Value} {l : List Jb}

/-- What may be appended of a list of jobs. -/
theorem src_of (hr : RowAt encJ 10 w v l) : Src Try.prog 10 33 v l.length (l.flatMap encJ) w := by
  obtain ⟨ao, cap, rfl, q1, q2, q3⟩ := hr
  by_cases h0 : l.length = 0
  · have : l = [] := List.eq_nil_of_length_eq_zero h0
    subst this
    rcases ao with _ | a
    · exact Src.ofNil w Try.underlying33 cap
    · exact Src.ofSlice w Try.underlying33 a 0 cap [] rfl (fun j u hj => by simp at hj) (fun u hu => by simp at hu)
  · obtain ⟨b, off, rfl, hlt, hc⟩ := q3 (by omega)
    exact Src.ofSlice w Try.underlying33 ⟨b, off, none⟩ l.length cap _ (flat_len l) (flat_cells hc) (jb_one l)

def ClonePost (w : World) (l : List Jb) (e : Ending) (w' : World) : Prop :=
  ∃ v', e = .returned v' ∧ w'.ownsRow w.heap.size 52 10 v' l.length (l.flatMap encJ) ∧ Below w.heap.size w w'

set_option maxRecDepth 100000 in
set_option maxHeartbeats 1000000 in
theorem Clone_fn (hr : RowAt encJ 10 w v l) (hl : l.length ≤ 1000) : Calls Try.prog 34 #[v] w (ClonePost w l) := by
  obtain ⟨i0, hi0, hz0, hz1, hz2⟩ := info_parts infoJob
  have hr1 := hr.below ((Below.refl w.heap.size w).alloc (Nat.le_refl _) (.cells #[] 52))
  have hown : (w.alloc (.cells #[] 52)).ownsRow w.heap.size 52 10 (.slice (some ⟨w.heap.size, 0, none⟩) 0 0) 0 [] := own_new (vs := []) rfl (Nat.le_refl _) rfl (Nat.zero_le _)
  have hsrc := Lib.hid (src_of hr1)
  obtain ⟨ao, cap, rfl, q1, q2, q3⟩ := hr
  rcases ao with _ | a
  · have hz : l = [] := by
      rcases Nat.eq_zero_or_pos l.length with h | h
      · exact List.eq_nil_of_length_eq_zero h
      · obtain ⟨b, off, e, _⟩ := q3 h; cases e
    subst hz
    have hnil : ∀ w : World, (binOp .eql 33 (.slice none 0 cap) (.slice none 0 0)).run Try.prog w = .ok (.bool true) w := fun w => Lib.run_eql_slice_nil w _ _ _ _ _ _ _ Try.underlying33
    have hfin : Hid (ClonePost w [] (.returned (.slice none 0 0)) w) := ⟨_, rfl, World.ownsRow_nil w w.heap.size 52 10, Below.refl _ _⟩
    clear hown hsrc q3 hr1
    simp only [List.length_nil] at *
    go_enter Try.func34, Try.ntmps34
    go_wp2_with fail
    go_ret
    exact hfin.out
  · have hnil : ∀ w : World, (binOp .eql 33 (.slice (some a) l.length cap) (.slice none 0 0)).run Try.prog w = .ok (.bool false) w := fun w => Lib.run_eql_slice_nil w _ _ _ _ _ _ _ Try.underlying33
    obtain ⟨n, hn⟩ : ∃ n, l.length = n := ⟨_, rfl⟩
    rw [hn] at hnil hsrc hl ⊢
    clear q1 q2 q3 hr1
    replace hn := Lib.hid hn
    go_enter Try.func34, Try.ntmps34
    go_wp2_with (at_builtin; go_must (refine wpList_append_src _ rfl (.tmp 5) (.tmp 6) 33 33 rfl w.heap.size 52 i0 (.agg (encJ default).toArray) 10 80 Try.underlying33 hi0 hz0 hz1 hz2 rfl (.slice (some ⟨w.heap.size, 0, none⟩) 0 0) 0 [] rfl hown (.slice (some a) n cap) n (l.flatMap encJ) rfl hsrc.out ?c2 ?c3 ?c4 ?c5))
    case c2 => unfold maxLen; omega
    case c3 => omega
    case c4 => simp
    case c5 =>
      intro v' w2 hown3 hgrow
      have hfin : Hid (ClonePost w l (.returned v') w2) := ⟨_, rfl, by rw [hn.out]; exact hown3, ((Below.refl _ w).alloc (Nat.le_refl _) _).grown hgrow (by simp) (fun q hq => by cases hq; exact Nat.le_refl _)⟩
      clear hown hgrow hown3 hsrc
      go_wp2_with fail
      go_ret
      exact hfin.out

end

/-! ### The stable sort -/

/-- Jobs with their places, as they lie. -/
def encT (x : Jb × Nat) : List Value := encJ x.1
theorem encT_ok : EncOk encT 10 := ⟨fun x => encJ_len x.1, fun x v hv => encJ_one x.1 v hv⟩
theorem ltT : ltOf (fun x y : Jb × Nat => cmpJ x.1 y.1) = fun x y => aheadJ x.1 y.1 := by
  funext x y
  exact cmpJ_lt x.1 y.1
theorem aheadJ_iff (a b : Jb) : aheadJ a b = true ↔ (b.prio < a.prio ∨ a.prio = b.prio ∧ a.id < b.id) := by
  unfold aheadJ; simp
theorem aheadJ_nif (a b : Jb) : aheadJ a b = false ↔ ¬ (b.prio < a.prio ∨ a.prio = b.prio ∧ a.id < b.id) := by
  rw [← aheadJ_iff]; simp
theorem swoJ : SWO aheadJ where
  irrefl x := by rw [aheadJ_nif]; omega
  trans x y z h1 h2 := by rw [aheadJ_iff] at *; omega
  ntrans x y z h1 h2 := by rw [aheadJ_nif] at *; omega

theorem cmpOk_any (blk off size : Nat) (w : World) : CmpOk Try.prog 42 encT 10 (fun x y => cmpJ x.1 y.1) blk off size w :=
  ⟨enters_of Try.func42 (by kernel_rfl) rfl, fun _ _ _ _ x y => Compare_fn x.1 y.1 _⟩

theorem flatT (d : Array (Jb × Nat)) : flatK encT 10 d = ((d.toList.map (·.1)).flatMap encJ).toArray := by
  rw [flatK_list encT 10 (fun x => encJ_len x.1), List.flatMap_map]
  rfl

section
set_option maxHeartbeats 1000000
theorem ins_none (f : Value) (w : World) : Calls Try.prog 46 #[.slice none 0 0, .int .i64 0, .int .i64 0, f] w fun e w' => e = .returned (.tuple #[]) ∧ w = w' := by
  go_enter Try.func46, Try.ntmps46
  go_wp2_with fail
  go_loopw [8] (fun ii wr => ii = .int .i64 1 ∧ w = wr) (fun _ _ => 0)
  case atStart => exact ⟨rfl, rfl⟩
  case round =>
    obtain ⟨rfl, rfl⟩ := hrel
    go_wp2_with fail
    go_end0
    exact ⟨rfl, rfl⟩
theorem stable_none (f : Value) (w : World) : Calls Try.prog 43 #[.slice none 0 0, .int .i64 0, f] w fun e w' => e = .returned (.tuple #[]) ∧ w = w' := by
  have hi := ins_none f w
  go_enter Try.func43, Try.ntmps43
  go_wp2_with fail
  go_loopw [7, 8] (fun aa bb wr => aa = .int .i64 0 ∧ bb = .int .i64 20 ∧ w = wr) (fun _ _ _ => 0)
  case atStart => exact ⟨rfl, rfl, rfl⟩
  case round =>
    obtain ⟨rfl, rfl, rfl⟩ := hrel
    go_wp2_with (go_at_call 46; go_must (refine hi.mono ?_); rintro e9 w9 ⟨rfl, rfl⟩)
    go_loopw [6] (fun ss wr => ss = .int .i64 20 ∧ w = wr) (fun _ _ => 0)
    case atStart => exact ⟨rfl, rfl⟩
    case round =>
      obtain ⟨rfl, rfl⟩ := hrel
      go_wp2_with fail
      go_end0
      exact ⟨rfl, rfl⟩
theorem SortStable_none (f : Value) (w : World) : Calls Try.prog 41 #[.slice none 0 0, f] w fun e w' => e = .returned (.tuple #[]) ∧ w = w' := by
  have hc := stable_none f w
  go_enter Try.func41, Try.ntmps41
  go_wp2_with (go_at_call 43; go_must (refine hc.mono ?_); rintro e9 w9 ⟨rfl, rfl⟩)
  go_end0
  exact ⟨rfl, rfl⟩

end

def SortedBy (l r : List Jb) : Prop := r.length = l.length ∧ (∀ i, i < l.length → Sb.posK aheadJ l i l.length < l.length ∧ r[Sb.posK aheadJ l i l.length]! = l[i]!) ∧ r.Perm l ∧ r.Pairwise fun x y => aheadJ y x = false

/-- The stable sort of whatever row is owned. -/
theorem sort_own {base : Nat} (v : Value) (l : List Jb) (w : World) (h : w.ownsRow base 52 10 v l.length (l.flatMap encJ)) (hlen : l.length ≤ 1000) (hbase : base ≤ w.heap.size) :
    Calls Try.prog 41 #[v, .func (.func 42) #[] #[]] w fun e w' => e = .returned (.tuple #[]) ∧ ∃ r, SortedBy l r ∧ w'.ownsRow base 52 10 v r.length (r.flatMap encJ) ∧ Below base w w' := by
  by_cases hv : v = .slice none 0 0
  · have hz : l.length = 0 := by
      rcases h.2 with ⟨_, h0⟩ | ⟨g, cap, cur, e0, _⟩
      · exact h0
      · rw [hv] at e0; cases e0
    have hz : l = [] := List.eq_nil_of_length_eq_zero hz
    subst hz
    subst hv
    refine (SortStable_none _ w).mono ?_
    rintro e w' ⟨rfl, rfl⟩
    exact ⟨rfl, [], ⟨rfl, fun i hi => by simp at hi, List.Perm.refl _, List.Pairwise.nil⟩, h, Below.refl _ _⟩
  · obtain ⟨g, cap, rfl, hb, hlt, _, _, hH⟩ := own_holds h hv
    obtain ⟨r, hr, hrs, hpos, hper, hpwz⟩ := Sb.stab_pos (lt := aheadJ) swoJ l
    have hts : (Sb.tagged l).toArray.size = l.length := by simp [Sb.tagged_length]
    have hHK : HoldsK encT 10 w g 0 (Sb.tagged l).toArray := by
      unfold HoldsK
      rw [flatT]
      rw [show (Sb.tagged l).toArray.toList = Sb.tagged l from rfl, Sb.tagged_fst]
      exact hH
    have hc := SortStable_fn (cap := cap) (d := (Sb.tagged l).toArray) 10 Try.isAgg52 Try.sizeOf52 encT_ok (cmpOk_any g 0 _ w) hHK hlt (by omega)
    rw [hts] at hc
    rw [ltT, ← hr] at hc
    refine hc.mono ?_
    rintro e w' ⟨rfl, q, os, rfl⟩
    have hrl : (r.toList.map (·.1)).length = l.length := by simp [hrs]
    refine ⟨rfl, r.toList.map (·.1), ⟨hrl, fun i hi => ?_, hper, hpwz⟩, ?_, ?_⟩
    · obtain ⟨h1, h2⟩ := hpos i hi
      refine ⟨h1, ?_⟩
      rw [← h2]
      have h3 : Sb.posK aheadJ l i l.length < r.size := by omega
      rw [getElem!_pos r _ h3, getElem!_pos _ _ (by simpa using h3)]
      simp
    · unfold sortWorldK putRowK
      rw [flatT, hrl]
      exact own_grow (own_putRow (q := q) h (by rw [flat_len, flat_len, hrl])) os
    · unfold sortWorldK putRowK
      exact below_grow (below_putRow (Below.refl _ _) hb) (by simpa [putRow, mapBlock, Sort.ahead] using hbase) os

set_option maxHeartbeats 1000000 in
theorem Sort_fn (v : Value) (l : List Jb) (w : World) (hr : RowAt encJ 10 w v l) (hl : l.length ≤ 60) : Calls Try.prog 36 #[v] w fun e w' => ∃ (v' : Value) (r : List Jb), e = .returned v' ∧ RowAt encJ 10 w' v' r ∧ r.length = l.length ∧ (∀ i, i < l.length → Sb.posK aheadJ l i l.length < l.length ∧ r[Sb.posK aheadJ l i l.length]! = l[i]!) ∧ Below w.heap.size w w' := by
  have hc := Clone_fn hr (by omega)
  have hso := fun (v : Value) (w1 : World) (h : w1.ownsRow w.heap.size 52 10 v l.length (l.flatMap encJ)) (hb : w.heap.size ≤ w1.heap.size) => sort_own v l w1 h (by omega) hb
  clear hr
  replace hso := Lib.hid hso
  go_enter Try.func36, Try.ntmps36
  go_wp2_with fail
  go_at_call 34
  refine hc.mono ?_
  clear hc
  rintro e w1 ⟨v1, rfl, ho, hb⟩
  have hs := hso.out v1 w1 ho hb.size
  clear hso ho
  go_wp2_with fail
  go_at_call 41
  refine hs.mono ?_
  clear hs
  rintro e w2 ⟨rfl, r, ⟨h1, h2, _⟩, h3, h4⟩
  have hfin : Hid (∃ (v' : Value) (r : List Jb), Ending.returned v1 = .returned v' ∧ RowAt encJ 10 w2 v' r ∧ r.length = l.length ∧ (∀ i, i < l.length → Sb.posK aheadJ l i l.length < l.length ∧ r[Sb.posK aheadJ l i l.length]! = l[i]!) ∧ Below w.heap.size w w2) :=
    ⟨v1, r, rfl, RowAt.of_own h3 encJ_len rfl rfl, h1, h2, hb.trans h4⟩
  clear h1 h2 h3 h4 hb
  go_wp2_with fail
  go_ret
  exact hfin.out

set_option maxHeartbeats 1000000 in
theorem Sort_big (v : Value) (l : List Jb) (w : World) (hr : RowAt encJ 10 w v l) (hl : l.length ≤ 1000) : Calls Try.prog 36 #[v] w fun e w' => ∃ (v' : Value) (r : List Jb), e = .returned v' ∧ RowAt encJ 10 w' v' r ∧ r.length = l.length ∧ r.Perm l ∧ r.Pairwise (fun x y => aheadJ y x = false) ∧ Below w.heap.size w w' := by
  have hc := Clone_fn hr (by omega)
  have hso := fun (v : Value) (w1 : World) (h : w1.ownsRow w.heap.size 52 10 v l.length (l.flatMap encJ)) (hb : w.heap.size ≤ w1.heap.size) => sort_own v l w1 h (by omega) hb
  clear hr
  replace hso := Lib.hid hso
  go_enter Try.func36, Try.ntmps36
  go_wp2_with fail
  go_at_call 34
  refine hc.mono ?_
  clear hc
  rintro e w1 ⟨v1, rfl, ho, hb⟩
  have hs := hso.out v1 w1 ho hb.size
  clear hso ho
  go_wp2_with fail
  go_at_call 41
  refine hs.mono ?_
  clear hs
  rintro e w2 ⟨rfl, r, ⟨h1, _, h2, h5⟩, h3, h4⟩
  have hfin : Hid (∃ (v' : Value) (r : List Jb), Ending.returned v1 = .returned v' ∧ RowAt encJ 10 w2 v' r ∧ r.length = l.length ∧ r.Perm l ∧ r.Pairwise (fun x y => aheadJ y x = false) ∧ Below w.heap.size w w2) :=
    ⟨v1, r, rfl, RowAt.of_own h3 encJ_len rfl rfl, h1, h2, h5, hb.trans h4⟩
  clear h1 h2 h3 h4 h5 hb
  go_wp2_with fail
  go_ret
  exact hfin.out

end Go.Proofs.Ytmlmehpcfgchgaa
