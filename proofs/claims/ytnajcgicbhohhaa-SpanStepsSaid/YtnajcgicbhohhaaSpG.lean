/-
  Own walks: package span's changes, in the order of their times.
-/
import Derived.Test.YtnajcgicbhohhaaSpF
namespace Go.Proofs.Ytnajcgicbhohhaa
open Go.RowKit Go.Sort Go.Lib Go.Shelf

/-- A change as it lies: from when, by how many. (A step lies so too: from when, how many are free.) -/
def enc2 (x : Int × Int) : List Value := [.int .i64 x.1, .int .i64 x.2]
def prV (l : List (Int × Int)) : List Value := l.flatMap enc2
theorem prV_length (l : List (Int × Int)) : (prV l).length = l.length * 2 := by
  induction l with
  | nil => rfl
  | cons a l ih => show (enc2 a ++ prV l).length = _; rw [List.length_append, ih, List.length_cons]; simp [enc2]; omega

/-- The changes at the beginnings and the ends of spans. -/
def chF (l : List Sp) : List (Int × Int) := l.flatMap fun s => if rightB s then [(s.a, s.n), (s.b, -s.n)] else []
theorem chF_snoc_yes {l : List Sp} {s : Sp} (h : rightB s = true) : chF (l ++ [s]) = chF l ++ [(s.a, s.n), (s.b, -s.n)] := by simp [chF, h]
theorem chF_snoc_no {l : List Sp} {s : Sp} (h : rightB s = false) : chF (l ++ [s]) = chF l := by simp [chF, h]
theorem chF_length (l : List Sp) : (chF l).length ≤ 2 * l.length := by
  induction l with
  | nil => simp [chF]
  | cons s l ih =>
    have e : chF (s :: l) = (if rightB s then [(s.a, s.n), (s.b, -s.n)] else []) ++ chF l := by simp [chF]
    rw [e, List.length_append, List.length_cons]
    split <;> simp <;> omega
theorem chF_take_le (l : List Sp) (k : Nat) (h : l.length ≤ 30) : (chF (l.take k)).length ≤ 60 := by
  have := chF_length (l.take k)
  have h2 : (l.take k).length ≤ 30 := by rw [List.length_take]; omega
  omega

theorem infoChange : (Try.prog.info? 53).map (fun i => (i.zero, i.size, i.bytes)) = some (some (.agg #[.int .i64 0, .int .i64 0]), 2, 16) := by kernel_rfl

set_option maxHeartbeats 1000000 in
theorem closure_any (x y : Int × Int) (W : World) : Calls Try.prog 34 #[.agg #[.int .i64 x.1, .int .i64 x.2], .agg #[.int .i64 y.1, .int .i64 y.2]] W fun e w' => e = .returned (.int .i64 (Lib.compareInt x.1 y.1)) ∧ ∃ q os', w' = grow (W.drewN q) os' := by
  have hcon := fun W' => AnyG.cmp_Compare_int Try.cmpI x.1 y.1 W'
  change ∀ W', Calls Try.prog 35 _ _ _ at hcon
  generalize Lib.compareInt x.1 y.1 = r at hcon ⊢
  go_enter Try.func34, Try.ntmps34
  go_wp2_with (go_at_call 35; refine (hcon _).mono ?_; rintro e w' ⟨rfl, rfl⟩)
  go_ret
  exact ⟨rfl, 0, _, by rw [alloc_eq_grow, alloc_eq_grow, grow_grow]; rfl⟩

theorem cmpLays_any (blk off size : Nat) (w : World) : CmpLays Try.prog 34 #[] enc2 2 (fun x y => Lib.compareInt x.1 y.1) blk off size w :=
  fun _ _ _ _ x y => closure_any x y _

theorem ltC (x y : Int × Int) : ltOf (fun x y : Int × Int => Lib.compareInt x.1 y.1) x y = decide (x.1 < y.1) := by
  unfold ltOf Lib.compareInt
  by_cases h1 : x.1 < y.1
  · simp [h1]
  · by_cases h2 : y.1 < x.1 <;> simp [h1, h2]
theorem swoC : SWO (ltOf fun x y : Int × Int => Lib.compareInt x.1 y.1) where
  irrefl x := by rw [ltC]; simp
  trans x y z h1 h2 := by rw [ltC] at *; simp at *; omega
  ntrans x y z h1 h2 := by rw [ltC] at *; simp at *; omega

theorem sortFn_own {base : Nat} (v : Value) (cs : List (Int × Int)) (w : World) (h : w.ownsRow base 53 2 v cs.length (prV cs)) (hlen : cs.length ≤ 60) (hbase : base ≤ w.heap.size) :
    Calls Try.prog 33 #[v, .func (.func 34) #[] #[]] w fun e w' => e = .returned (.tuple #[]) ∧ ∃ cs', cs'.Perm cs ∧ cs'.Pairwise (fun x y => x.1 ≤ y.1) ∧ w'.ownsRow base 53 2 v cs'.length (prV cs') ∧ Below base w w' := by
  by_cases hv : v = .slice none 0 0
  · have hz : cs.length = 0 := by
      rcases h.2 with ⟨_, h0⟩ | ⟨g, cap, cur, e0, _⟩
      · exact h0
      · rw [hv] at e0; cases e0
    have hz : cs = [] := List.eq_nil_of_length_eq_zero hz
    subst hz
    subst hv
    refine (AnyF.slices_SortFunc_none Try.sortFn none 0 _ w).mono ?_
    rintro e w' ⟨rfl, rfl⟩
    exact ⟨rfl, [], List.Perm.refl _, List.Pairwise.nil, h, Below.refl _ _⟩
  · have hl : (prV cs).length = cs.length * 2 := h.1
    obtain ⟨g, cap, rfl, hb, hlt, _, _, hH⟩ := own_holds h hv
    have hHK : HoldsK enc2 2 w g 0 cs.toArray := by
      unfold HoldsK
      rw [flatK_list enc2 2 (fun _ => rfl)]
      exact hH
    have eg : ∀ args w, (callFunc 34 args).run Try.prog w = .ok (.enter 34 args) w := enters_of Try.func34 (by kernel_rfl) rfl
    have hsz : cs.toArray.size = cs.length := by simp
    refine (AnyQ.slices_SortFunc Try.sortFn 2 Try.isAgg53 Try.sizeOf53 enc2 (fun _ => rfl) (fun x v hv => by simp [enc2] at hv; rcases hv with rfl | rfl <;> rfl) (fun x y => Lib.compareInt x.1 y.1) swoC 34 #[] g 0 cap cs.toArray w eg (cmpLays_any g 0 _ w) hHK hlt (by omega)).mono ?_
    rintro e w' ⟨rfl, d', n, os, ⟨hs1, _, hs2⟩, hs3, rfl⟩
    have hp : d'.toList.Perm cs := by
      have e1 : d'.extract 0 cs.toArray.size = d' := by rw [← hs1]; simp
      have e2 : cs.toArray.extract 0 cs.toArray.size = cs.toArray := by simp
      rw [e1, e2] at hs2
      simpa using hs2
    refine ⟨rfl, d'.toList, hp, ?_, ?_, ?_⟩
    · rw [List.pairwise_iff_getElem]
      intro i j hi hj hij
      have hi' : i < d'.size := by simpa using hi
      have hj' : j < d'.size := by simpa using hj
      have := hs3 i j (Nat.zero_le _) hij (by omega)
      rw [ltC] at this
      simp [getElem!_pos, hi', hj'] at this
      simpa using this
    · unfold sortWorldK putRowK
      rw [flatK_list enc2 2 (fun _ => rfl)]
      have hy : (prV d'.toList).length = (prV cs).length := by rw [prV_length, prV_length]; have := hp.length_eq; omega
      have h2 := own_putRow (q := n) h hy
      have hl2 : d'.toList.length = cs.length := hp.length_eq
      rw [hl2]
      exact own_grow h2 os
    · unfold sortWorldK putRowK
      exact below_grow (below_putRow (Below.refl _ _) hb) (by simpa [putRow, mapBlock, Sort.ahead] using hbase) os

end Go.Proofs.Ytnajcgicbhohhaa
