/-
  Own walks: package span's Steps.
-/
import Derived.Test.YtnajcgicbhohhaaSpI
namespace Go.Proofs.Ytnajcgicbhohhaa
open Go.RowKit Go.Sort Go.Lib

/-- One change more. -/
def stepC (st : List (Int × Int) × (Int × Int)) (c : Int × Int) : List (Int × Int) × (Int × Int) :=
  if st.2.1 < c.1 then (st.1 ++ [st.2], (c.1, st.2.2 - c.2)) else (st.1, (st.2.1, st.2.2 - c.2))
def foldC (all f : Int) (cs : List (Int × Int)) : List (Int × Int) × (Int × Int) := cs.foldl stepC ([], (f, all))
/-- The steps ahead of compacting. -/
def rawF (all f : Int) (cs : List (Int × Int)) : List (Int × Int) := (foldC all f cs).1 ++ [(foldC all f cs).2]
theorem foldC_snoc (all f : Int) (cs : List (Int × Int)) (c : Int × Int) : foldC all f (cs ++ [c]) = stepC (foldC all f cs) c := by unfold foldC; rw [List.foldl_append]; rfl
theorem foldC_bounds (all f : Int) (cs : List (Int × Int)) (hall : -1048576 ≤ all ∧ all ≤ 1048576) (hc : ∀ c ∈ cs, -64 ≤ c.2 ∧ c.2 ≤ 64) :
    (foldC all f cs).1.length ≤ cs.length ∧ -1048576 - 64 * cs.length ≤ (foldC all f cs).2.2 ∧ (foldC all f cs).2.2 ≤ 1048576 + 64 * cs.length := by
  have key : ∀ n, n ≤ cs.length → (foldC all f (cs.take n)).1.length ≤ n ∧ -1048576 - 64 * (n : Int) ≤ (foldC all f (cs.take n)).2.2 ∧ (foldC all f (cs.take n)).2.2 ≤ 1048576 + 64 * (n : Int) := by
    intro n
    induction n with
    | zero => intro _; simp [foldC]; omega
    | succ n ih =>
      intro hn
      obtain ⟨h1, h2, h3⟩ := ih (by omega)
      have hcn := hc (cs[n]) (List.getElem_mem _)
      rw [take_snoc (List.getElem?_eq_getElem (show n < cs.length by omega)), foldC_snoc]
      unfold stepC
      split
      · simp only [List.length_append, List.length_cons, List.length_nil]
        omega
      · dsimp only
        omega
  have := key cs.length (Nat.le_refl _)
  rwa [List.take_of_length_le (Nat.le_refl _)] at this

theorem infoStep : (Try.prog.info? 41).map (fun i => (i.zero, i.size, i.bytes)) = some (some (.agg #[.int .i64 0, .int .i64 0]), 2, 16) := by kernel_rfl
theorem chF_small {l : List Sp} {c : Int × Int} (h : c ∈ chF l) : -64 ≤ c.2 ∧ c.2 ≤ 64 := by
  unfold chF at h
  rw [List.mem_flatMap] at h
  obtain ⟨s, _, hc⟩ := h
  by_cases hr : rightB s = true
  · rw [if_pos hr] at hc
    have := rightB_yes hr
    simp at hc
    rcases hc with rfl | rfl <;> dsimp only <;> omega
  · rw [if_neg hr] at hc; cases hc
theorem own_slice {w : World} {base : Nat} {e : TypeId} {sz n : Nat} {v : Value} {xs : List Value} (h : w.ownsRow base e sz v n xs) (hn : 0 < n) : ∃ g cap, v = .slice (some ⟨g, 0, none⟩) n cap ∧ n ≤ cap ∧ base ≤ g ∧ g < w.heap.size := by
  have hv : v ≠ .slice none 0 0 := by
    rintro rfl
    rcases h.2 with ⟨_, h0⟩ | ⟨g, cap, cur, e0, _⟩
    · omega
    · cases e0
  obtain ⟨g, cap, e, hb, hg, hc, _, _⟩ := own_holds h hv
  exact ⟨g, cap, e, hc, hb, hg⟩

theorem prV_last (pre : List (Int × Int)) (last : Int × Int) (x : Int) : (prV (pre ++ [last])).set (pre.length * 2 + 1) (.int .i64 x) = prV (pre ++ [(last.1, x)]) := by
  induction pre with
  | nil => simp [prV, enc2]
  | cons a pre ih =>
    have e : (a :: pre).length * 2 + 1 = pre.length * 2 + 1 + 1 + 1 := by simp; omega
    rw [e]
    simp only [prV, enc2, List.cons_append, List.flatMap_cons, List.nil_append, List.set_cons_succ] at ih ⊢
    rw [ih]
/-- The last step's number has been lowered. -/
theorem last_stored {w wz : World} {B base g n cap : Nat} {e e' : TypeId} {pre : List (Int × Int)} {last : Int × Int} {sz n' : Nat} {v' : Value} {xs' : List Value} (h : w.ownsRow base e 2 (.slice (some ⟨g, 0, none⟩) n cap) n (prV (pre ++ [last]))) (h' : w.ownsRow base e' sz v' n' xs') (hne : ∀ k, v'.ownBlock = some k → k ≠ g)
    (hb : Below B wz w) (hg : B ≤ g) (x : Int) :
    (w.setCell ⟨g, pre.length * 2 + 1, none⟩ (.int .i64 x)).drew.ownsRow base e 2 (.slice (some ⟨g, 0, none⟩) n cap) n (prV (pre ++ [(last.1, x)])) ∧ (w.setCell ⟨g, pre.length * 2 + 1, none⟩ (.int .i64 x)).drew.ownsRow base e' sz v' n' xs' ∧ Below B wz (w.setCell ⟨g, pre.length * 2 + 1, none⟩ (.int .i64 x)).drew := by
  rw [← prV_last]
  exact ⟨(h.stored _ _).1, own_far h' hne _ _, (hb.setCell (by exact hg) _).drew⟩

set_option maxRecDepth 100000 in
set_option maxHeartbeats 2000000 in
theorem Steps_any (all f : Int) (v : Value) (l : List Sp) (w : World) (h : RowAt enc3 3 w v l) (hlen : l.length ≤ 30) (hall : -1048576 ≤ all ∧ all ≤ 1048576) :
    Calls Try.prog 18 #[.int .i64 all, .int .i64 f, v] w fun e w' => ∃ v' cs, e = .returned v' ∧ cs.Perm (chF l) ∧ cs.Pairwise (fun x y => x.1 ≤ y.1) ∧ w'.ownsRow w.heap.size 41 2 v' (compF (rawF all f cs)).length (prV (compF (rawF all f cs))) ∧ Below w.heap.size w w' := by
  obtain ⟨i0, hi0, hz0, hz1, hz2⟩ := info_parts infoStep
  have hsmall := fun c (hc : c ∈ chF l) => chF_small hc
  have hcl : (chF l).length ≤ 60 := by have := chF_length l; omega
  have hch := fun W (hW : RowAt enc3 3 W v l) => changes_any v l W hW hlen
  go_enter Try.func18, Try.ntmps18
  have h1 : RowAt enc3 3 (w.alloc (.cells #[.int .i64 f, .int .i64 all] 41)) v l := h.below ((Below.refl _ _).alloc (Nat.le_refl _) _)
  have hown1 : (w.alloc (.cells #[.int .i64 f, .int .i64 all] 41)).ownsRow w.heap.size 41 2 (.slice (some ⟨w.heap.size, 0, none⟩) 1 1) 1 (prV [(f, all)]) := own_new (vs := [.int .i64 f, .int .i64 all]) rfl (Nat.le_refl _) rfl (by decide)
  have hb1 : Below w.heap.size w (w.alloc (.cells #[.int .i64 f, .int .i64 all] 41)) := (Below.refl _ _).alloc (Nat.le_refl _) _
  clear h
  go_wp2_with (go_at_call 25; go_must (refine (hch _ h1).mono ?_); rintro e w2 ⟨vc, cs, rfl, hp, hs, hcs, hb2⟩; obtain ⟨ao, capc, rfl, hao⟩ := own_shape hcs)
  have hown2 := own_kept hown1 hb2
  have hcs2 := ownsRow_mono hcs (Nat.le_of_lt (show w.heap.size < _ by simp))
  have hbw2 : Below w.heap.size w w2 := hb1.trans (hb2.mono hb1.size)
  have hcl2 : cs.length ≤ 60 := by have := hp.length_eq; omega
  have hsm2 : ∀ c ∈ cs, -64 ≤ c.2 ∧ c.2 ≤ 64 := fun c hc => hsmall c (hp.mem_iff.1 hc)
  clear hown1 hcs hb2 hb1 h1 hch hsmall hcl
  go_loopw [7, 18] (fun o i wr => ∃ (k g cap : Nat), k ≤ cs.length ∧ i = .int .i64 k ∧ o = .slice (some ⟨g, 0, none⟩) ((foldC all f (cs.take k)).1.length + 1) cap ∧ wr.ownsRow w.heap.size 41 2 (.slice (some ⟨g, 0, none⟩) ((foldC all f (cs.take k)).1.length + 1) cap) ((foldC all f (cs.take k)).1.length + 1) (prV (rawF all f (cs.take k))) ∧ wr.ownsRow w.heap.size 53 2 (.slice ao cs.length capc) cs.length (prV cs) ∧ Below w.heap.size w wr) (fun _ i _ => cs.length - (intOf i).toNat)
  case atStart => exact ⟨0, w.heap.size, 1, Nat.zero_le _, rfl, rfl, hown2, hcs2, hbw2⟩
  case round =>
    obtain ⟨k, g, cap, hk, rfl, rfl, hown, hcs, hb⟩ := hrel
    by_cases hlt : k < cs.length
    · obtain ⟨gc, rfl⟩ := hao (by omega)
      obtain ⟨c, hc⟩ : ∃ c, cs[k]? = some c := ⟨_, List.getElem?_eq_getElem hlt⟩
      have hcm := hsm2 c (List.mem_of_getElem? hc)
      obtain ⟨hf1, hf2, hf3⟩ := foldC_bounds all f (cs.take k) hall (fun c hc => hsm2 c (List.mem_of_mem_take hc))
      have hkl : (cs.take k).length ≤ 60 := by rw [List.length_take]; omega
      have hnx : Hid (foldC all f (cs.take (k + 1)) = stepC (foldC all f (cs.take k)) c) := by show _ = _; rw [take_snoc hc, foldC_snoc]
      have hraw : rawF all f (cs.take k) = (foldC all f (cs.take k)).1 ++ [(foldC all f (cs.take k)).2] := rfl
      rw [hraw] at hown
      clear hraw
      obtain ⟨st, hst⟩ : ∃ st, st = foldC all f (cs.take k) := ⟨_, rfl⟩
      rw [← hst] at hown hf1 hf2 hf3 hnx ⊢
      clear hst
      obtain ⟨pre, last⟩ := st
      dsimp only at hown hf1 hf2 hf3 hnx ⊢
      obtain ⟨a0, a1⟩ := pair_of hcs hc
      have hlast : (pre ++ [last])[pre.length]? = some last := by simp
      obtain ⟨b0, b1⟩ := pair_of hown hlast
      have hgw := (hown.lt g rfl).2
      have hgcw := (hcs.lt gc rfl).2
      have hsz := hb.size
      have hne := own_apart hcs hown (by decide)
      replace hlast := Lib.hid hlast
      replace hc := Lib.hid hc
      have hx1 : (k : Int) < (cs.length : Int) := by omega
      clear hsm2 hp hs
      by_cases hA : last.1 < c.1
      · have hN2 : Hid (stepC (pre, last) c = (pre ++ [last], (c.1, last.2 - c.2))) := if_pos hA
        go_wp2_with (at_builtin; go_must (refine wpList_append_own _ rfl (.tmp 33) (.tmp 39) 38 rfl w.heap.size 41 i0 (.agg #[.int .i64 0, .int .i64 0]) 2 16 Try.underlying38 hi0 hz0 hz1 hz2 rfl (by decide) (.slice (some ⟨g, 0, none⟩) (pre.length + 1) cap) (pre.length + 1) (prV (pre ++ [last])) rfl (((hown.alloc _).alloc _).alloc _) ⟨wr.heap.size + 1 + 1, 0, none⟩ 1 1 [.int .i64 c.1, .int .i64 last.2] rfl rfl ?c0 ?c1 ?c2 ?c3 ?c4 ?c5))
        case c0 => exact cells_new (by simp)
        case c1 => simp [Value.oneCell']
        case c2 => unfold maxLen; omega
        case c3 => omega
        case c4 => first | omega | (simp; omega)
        case c5 =>
          intro v4 wz hown3 hgrow _
          have hbz2 : Below w.heap.size w wz := (((hb.alloc hsz _).alloc (by simp; omega) _).alloc (by simp; omega) _).grown hgrow (by simp; omega) (fun q hq => (hown.lt q hq).1)
          have hownz : wz.ownsRow w.heap.size 41 2 v4 (pre.length + 1 + 1) (prV ((pre ++ [last]) ++ [(c.1, last.2)])) := by simpa [prV, enc2] using hown3
          have hcsz : wz.ownsRow w.heap.size 53 2 (.slice (some ⟨gc, 0, none⟩) cs.length capc) cs.length (prV cs) := own_grown (((hcs.alloc _).alloc _).alloc _) hne (by simpa [Value.ownBlock] using hgrow)
          have cc : wz.cell? ⟨wr.heap.size, 1, none⟩ = some (.int .i64 c.2) := by
            rw [World.cell?_of_block (a := ⟨wr.heap.size, 1, none⟩) (hgrow.block wr.heap.size (by simp; omega) (by simp [Value.ownBlock]; omega))]
            go_simp
          obtain ⟨g4, cap4, rfl, hc4, hbg, hgz⟩ := own_slice hownz (by omega)
          have hne4 := own_apart hcsz hownz (by decide)
          have hpl : (pre ++ [last]).length = pre.length + 1 := by simp
          have hlast4 : ((pre ++ [last]) ++ [(c.1, last.2)])[pre.length + 1]? = some (c.1, last.2) := by simp
          obtain ⟨-, d1⟩ := pair_of hownz hlast4
          have fz := hownz.frozenAt ((pre.length + 1) * 2 + 1)
          have hfin := last_stored hownz hcsz hne4 hbz2 hbg (last.2 - c.2)
          rw [hpl] at hfin
          have hN3 : Hid ((pre ++ [last]).length = pre.length + 1) := hpl
          have hp1 : ((pre.length + 1 : Nat) : Int) < ((pre.length + 1 + 1 : Nat) : Int) := by omega
          clear hown3 hgrow hown hcs hb a0 a1 b0 b1 hownz hcsz hbz2 hpl hlast4
          go_wp2_with fail
          go_region
          go_wp2_with fail
          go_roundw
          case rel => exact ⟨k + 1, g4, cap4, by omega, by go_num, by rw [hnx.out, hN2.out, hN3.out], by rw [rawF, hnx.out, hN2.out, hN3.out]; exact hfin.1, hfin.2.1, hfin.2.2⟩
          case measure => simp [intOf]; omega
      · have hA' : c.1 ≤ last.1 := by omega
        go_wp2_with fail
        obtain ⟨wz, hwz⟩ : ∃ wz, wz = (wr.alloc (.cells #[.int .i64 c.1, .int .i64 c.2] 53)).alloc (.cells #[.int .i64 last.1, .int .i64 last.2] 41) := ⟨_, rfl⟩
        have hbz : Below wr.heap.size wr wz := by rw [hwz]; exact ((Below.refl _ _).alloc (Nat.le_refl _) _).alloc (by simp) _
        have hownz := own_kept hown hbz
        have hcsz := own_kept hcs hbz
        have hbz2 : Below w.heap.size w wz := hb.trans (hbz.mono hsz)
        have cc : wz.cell? ⟨wr.heap.size, 1, none⟩ = some (.int .i64 c.2) := by rw [hwz]; go_simp
        have fz := hownz.frozenAt (pre.length * 2 + 1)
        obtain ⟨-, d1⟩ := pair_of hownz hlast.out
        rw [← hwz]
        clear hwz hbz hown hcs hb a0 a1 b0 b1
        have hp1 : (pre.length : Int) < ((pre.length + 1 : Nat) : Int) := by omega
        have hbg := (hownz.lt g rfl).1
        have hfin := last_stored hownz hcsz hne hbz2 hbg (last.2 - c.2)
        have hN2 : Hid (stepC (pre, last) c = (pre, (last.1, last.2 - c.2))) := if_neg (Int.not_lt.2 (by assumption))
        clear hownz hcsz hbz2
        go_region
        go_wp2_with fail
        go_roundw
        case rel => exact ⟨k + 1, g, cap, by omega, by go_num, by rw [hnx.out, hN2.out], by rw [rawF, hnx.out, hN2.out]; exact hfin.1, hfin.2.1, hfin.2.2⟩
        case measure => simp [intOf]; omega
    · obtain rfl : k = cs.length := by omega
      rw [List.take_of_length_le (Nat.le_refl _)] at hown ⊢
      have hL : (foldC all f cs).1.length + 1 = (rawF all f cs).length := by simp [rawF]
      obtain ⟨hf1, _, _⟩ := foldC_bounds all f cs hall hsm2
      have hL61 : (rawF all f cs).length ≤ 61 := by omega
      rw [hL] at hown ⊢
      clear hf1 hL hsm2 hcl2 hcs hcs2 hown2 hbw2
      have hge : (cs.length : Int) ≤ cs.length := Int.le_refl _
      have hfin := compactFn_own (rawF all f cs) wr hown hL61
      go_wp2_with (go_at_call 26; go_must (refine hfin.mono ?_); rintro e w3 ⟨v3, rfl, h3, hb3⟩)
      go_ret
      exact ⟨_, cs, rfl, hp, hs, h3, hb.trans hb3⟩

end Go.Proofs.Ytnajcgicbhohhaa
