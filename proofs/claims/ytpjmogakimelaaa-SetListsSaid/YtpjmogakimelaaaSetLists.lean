/-
  The statement on sets of lists of nodes, and their nodes: its walk.
-/
import Derived.Test.YtpjmogakimelaaaSetR
import Derived.Test.YtpjmogakimelaaaInts
namespace Go.Proofs.Ytpjmogakimelaaa
open Go.RowKit

def memF (zs : List Int) : Nat → Bool := fun i => decide ((i : Int) ∈ zs)
def inK (zs : List Int) (k : Nat) : Nat → Bool := fun i => decide ((i : Int) ∈ zs.take k)
theorem inK_succ {zs : List Int} {k : Nat} (h : k < zs.length) : ∀ i, inK zs (k + 1) i = (inK zs k i || decide ((i : Int) = zs.getD k 0)) := by
  intro i
  unfold inK
  rw [take_more h, Bool.eq_iff_iff]
  simp

/-- The nodes of a set, rising. -/
def nodesF (f : Nat → Bool) : List Nat := (List.range 64).filter f
def intsV (l : List Nat) : List Value := l.map fun (i : Nat) => Value.int .i64 (i : Int)

theorem filter_len (f : Nat → Bool) (k : Nat) : ((List.range k).filter f).length = cntK f k := by
  induction k with
  | zero => rfl
  | succ k ih =>
    rw [List.range_succ, List.filter_append, List.length_append, ih]
    simp only [cntK]
    cases h : f k <;> simp [h]
theorem filter_get {f : Nat → Bool} {j : Nat} (hf : f j = true) (k : Nat) (hj : j < k) : ((List.range k).filter f)[cntK f j]? = some j := by
  induction k with
  | zero => omega
  | succ k ih =>
    rw [List.range_succ, List.filter_append]
    by_cases h : j < k
    · rw [List.getElem?_append_left]
      · exact ih h
      · have := ih h
        exact (List.getElem?_eq_some_iff.1 this).1
    · obtain rfl : j = k := by omega
      rw [List.getElem?_append_right (by rw [filter_len]; exact Nat.le_refl _), filter_len]
      simp [hf]
theorem nodes_len (f : Nat → Bool) : (nodesF f).length = cntK f 64 := filter_len f 64
theorem nodes_ofN (f : Nat → Bool) : nodesF (ofN f).testBit = nodesF f := by
  unfold nodesF
  apply List.filter_congr
  intro i hi
  rw [ofN_testBit]
  simp [List.mem_range.1 hi]
theorem row_shape {w : World} {base : Nat} {e : TypeId} {v : Value} {n : Nat} {xs : List Value} (h : w.ownsRow base e 1 v n xs) : ∃ ao cap, v = .slice ao n cap ∧ cap ≤ maxLen := by
  rcases h.2 with ⟨rfl, rfl⟩ | ⟨g, cap, cur, rfl, _, _, _, hm, _⟩
  · exact ⟨_, _, rfl, by decide⟩
  · exact ⟨_, _, rfl, hm⟩
theorem nodes_cell {w : World} {base : Nat} {e : TypeId} {ax : Option Addr} {cap j : Nat} {f : Nat → Bool} (h : w.ownsRow base e 1 (.slice ax (cntK f 64) cap) (cntK f 64) (intsV (nodesF f))) (hj : j < 64) (hf : f j = true) :
    ∃ g, ax = some ⟨g, 0, none⟩ ∧ w.cell? ⟨g, cntK f j, none⟩ = some (.int .i64 (j : Int)) ∧ cntK f j < cntK f 64 := by
  have hget := filter_get hf 64 hj
  have hlt : cntK f j < cntK f 64 := by rw [← filter_len f 64]; exact (List.getElem?_eq_some_iff.1 hget).1
  rcases h.2 with ⟨_, h0⟩ | ⟨g, cap', cur, hv, _⟩
  · omega
  · injection hv with h1 h2 h3
    subst h1
    refine ⟨g, rfl, ?_, hlt⟩
    rw [World.ownsRow.cellAt h _ (by omega)]
    show (List.map _ _)[_]? = _
    rw [List.getElem?_map]
    show Option.map _ (((List.range 64).filter f)[cntK f j]?) = _
    rw [hget]
    rfl
theorem IntsAt.below {w w' : World} {v : Value} {zs : List Int} (h : IntsAt w v zs) (hb : Below w.heap.size w w') : IntsAt w' v zs := by
  obtain ⟨⟨ao, cap, e, h1, h2, h3⟩, h4⟩ := h
  refine ⟨⟨ao, cap, e, h1, h2, fun hne => ?_⟩, h4⟩
  obtain ⟨b, off, e2, hbw, hc⟩ := h3 hne
  exact ⟨b, off, e2, by have := hb.size; omega, fun i hi => by rw [Below.cell hb hbw]; exact hc i hi⟩

structure ListsSpec : Prop where
  of_ : ∀ (v : Value) (zs : List Int) (w : World), IntsAt w v zs → Calls Try.prog 6 #[v] w fun e w' => e = .returned (.int .u64 (ofN (memF zs))) ∧ Below w.heap.size w w'
  all_ : ∀ (n : Int) (w : World), -9223372036854775808 ≤ n ∧ n ≤ 9223372036854775807 → Calls Try.prog 9 #[.int .i64 n] w fun e w' => e = .returned (.int .u64 (ofN fun i => decide ((i : Int) < n))) ∧ w = w'
  list_ : ∀ (u : Nat), u < 18446744073709551616 → ∀ (w : World), Calls Try.prog 7 #[.int .u64 u] w fun e w' => ∃ v, e = .returned v ∧ w'.ownsRow w.heap.size 3 1 v (nodesF u.testBit).length (intsV (nodesF u.testBit)) ∧ Below w.heap.size w w'
  awake_ : ∀ (w : World), Calls Try.prog 10 #[] w fun e w' => e = .returned (.bool true) ∧ Below w.heap.size w w'

set_option maxHeartbeats 4000000 in
set_option maxRecDepth 100000 in
theorem lists_mid (S : ListsSpec) (v : Value) (zs : List Int) (n : Int) (hn : -9223372036854775808 ≤ n ∧ n ≤ 9223372036854775807) (w : World) (h : IntsAt w v zs) (h100 : zs.length ≤ 100) :
    Calls Try.prog 3 #[v, .int .i64 n] w fun e w' => e = .returned (.bool true) ∧ Below w.heap.size w w' := by
  have hat := h
  obtain ⟨⟨ao, cap, rfl, hlc, hcm, hcells⟩, hfit⟩ := h
  have hcM : cap ≤ 9223372036854775807 := by unfold maxLen at hcm; omega
  clear hfit hcm
  go_enter Try.func3, Try.ntmps3
  go_wp2_with (at_make; refine wpList_make64 _ rfl _ _ rfl rfl rfl w.heap.size (Nat.le_refl _) ?_)
  intro w1 ho1 hs1 hb1
  go_wp2_with (at_make; refine wpList_make64 _ rfl _ _ rfl rfl rfl w1.heap.size (Nat.le_refl _) ?_)
  intro w2 ho2 hs2 hb2
  have ho1 := ho1.below hb2 (fun g hg => by cases hg; exact hs1)
  have hbl := hb1.trans (hb2.mono hb1.size)
  obtain ⟨g1, hg1⟩ : ∃ g1, g1 = w.heap.size := ⟨_, rfl⟩
  obtain ⟨g2, hg2⟩ : ∃ g2, g2 = w1.heap.size := ⟨_, rfl⟩
  have hne : g1 ≠ g2 := by omega
  have hB1 : w.heap.size ≤ g1 := by omega
  have hB2 : w.heap.size ≤ g2 := by omega
  have hg1s : g1 < w2.heap.size := by omega
  have hg2s : g2 < w2.heap.size := by omega
  rw [← hg1] at ho1
  rw [← hg2] at ho2
  simp only [← hg1, ← hg2]
  have ho1 : Own64 w2 0 (.slice (some ⟨g1, 0, none⟩) 64 64) (inK zs 0) := (Own64.mono ho1 (Nat.zero_le _)).congr fun i _ => by simp [inK]
  have ho2 := Own64.mono ho2 (Nat.zero_le _)
  clear hb1 hb2 hs1 hs2
  go_wp2_with fail
  go_loopw [7] (fun i wr => ∃ (k : Nat), k ≤ zs.length ∧ i = .int .i64 k ∧ Own64 wr 0 (.slice (some ⟨g1, 0, none⟩) 64 64) (inK zs k) ∧ Own64 wr 0 (.slice (some ⟨g2, 0, none⟩) 64 64) (fun _ => false) ∧ Below w.heap.size w wr ∧ w2.heap.size ≤ wr.heap.size) (fun i _ => zs.length - (intOf i).toNat)
  case atStart => exact ⟨0, Nat.zero_le _, rfl, ho1, ho2, hbl, Nat.le_refl _⟩
  case round =>
    obtain ⟨k, hk, rfl, ho1, ho2, hbl, hsz⟩ := hrel
    clear hg1 hg2
    by_cases hlt : k < zs.length
    · obtain ⟨b, off, rfl, hbw, hcell⟩ := hcells (by rintro rfl; simp at hlt)
      obtain ⟨z, hz⟩ : ∃ z, z = zs.getD k 0 := ⟨_, rfl⟩
      have hcw : wr.cell? ⟨b, off + k, none⟩ = some (.int .i64 z) := by rw [Below.cell hbl hbw, hz]; exact hcell k (by omega)
      have hin := inK_succ (zs := zs) (k := k) (by omega)
      rw [← hz] at hin
      clear hz hcell hcells
      by_cases hz0 : z < 0
      · have ho1 := ho1.congr (h := inK zs (k + 1)) fun i _ => by rw [hin i]; simp; omega
        clear hin
        go_wp2_with fail
        go_roundw
        case rel => exact ⟨k + 1, by omega, by go_num, ho1, ho2, hbl, hsz⟩
        case measure => simp [intOf]; omega
      · by_cases hz1 : 63 < z
        · have ho1 := ho1.congr (h := inK zs (k + 1)) fun i hi => by rw [hin i]; simp; omega
          clear hin
          go_wp2_with fail
          go_roundw
          case rel => exact ⟨k + 1, by omega, by go_num, ho1, ho2, hbl, hsz⟩
          case measure => simp [intOf]; omega
        · obtain ⟨m, rfl⟩ := Int.eq_ofNat_of_zero_le (show 0 ≤ z by omega)
          have hm : m < 64 := by omega
          have hc1 := ho1.cell hm
          have hf1 := World.ownsRow.frozenAt ho1 m
          have ho1' := Own64.put (k := m) (h := inK zs (k + 1)) ho1 true (by rw [hin m]; simp) (fun i hi => by
            by_cases e : i = m
            · rw [if_pos e, e]
            · have e2 : ¬ ((i : Int) = (m : Int)) := by omega
              rw [if_neg e, hin i]; simp [e2])
          have ho2' := Own64.other (x := .bool true) (b := g1) (k := m) ho2 (fun e => hne e.symm)
          have hbl' := hbl.setCell (p := ⟨g1, m, none⟩) hB1 (.bool true)
          have hsz' : w2.heap.size ≤ (wr.setCell ⟨g1, m, none⟩ (.bool true)).heap.size := by simp [World.setCell]; exact hsz
          clear hin ho1 ho2 hbl
          go_wp2_with fail
          go_roundw
          case rel => exact ⟨k + 1, by omega, by go_num, ho1', ho2', hbl', hsz'⟩
          case measure => simp [intOf]; omega
    · obtain rfl : k = zs.length := by omega
      have htk : ∀ i, inK zs zs.length i = memF zs i := fun i => by unfold inK memF; rw [List.take_of_length_le (by omega)]
      have ho1 := ho1.congr (h := memF zs) fun i _ => htk i
      clear htk
      have ho2 : Own64 wr 0 (.slice (some ⟨g2, 0, none⟩) 64 64) (fun i => decide (i < 0)) := ho2.congr fun i _ => by simp
      have hsz0 := hsz
      go_wp2_with fail
      go_loopw [8] (fun i wr => ∃ (k : Nat), k ≤ 64 ∧ ((k : Int) ≤ n ∨ k = 0) ∧ i = .int .i64 k ∧ Own64 wr 0 (.slice (some ⟨g1, 0, none⟩) 64 64) (memF zs) ∧ Own64 wr 0 (.slice (some ⟨g2, 0, none⟩) 64 64) (fun i => decide (i < k)) ∧ Below w.heap.size w wr ∧ w2.heap.size ≤ wr.heap.size) (fun i _ => 64 - (intOf i).toNat)
      case atStart => exact ⟨0, by omega, Or.inr rfl, rfl, ho1, ho2, hbl, hsz⟩
      case round =>
        clear hsz ho1 ho2 hbl
        obtain ⟨k, hk, hkn, rfl, ho1, ho2, hbl, hsz⟩ := hrel
        by_cases hlt : k < 64 ∧ (k : Int) < n
        · obtain ⟨hlt, hltn⟩ := hlt
          have hc2 := ho2.cell hlt
          have hf2 := World.ownsRow.frozenAt ho2 k
          have ho2' := Own64.put (k := k) (h := fun i => decide (i < k + 1)) ho2 true (by simp) (fun i hi => by by_cases e : i = k <;> simp [e]; omega)
          have ho1' := Own64.other (x := .bool true) (b := g2) (k := k) ho1 hne
          have hbl' := hbl.setCell (p := ⟨g2, k, none⟩) hB2 (.bool true)
          have hsz' : w2.heap.size ≤ (wr.setCell ⟨g2, k, none⟩ (.bool true)).heap.size := by simp [World.setCell]; exact hsz
          clear ho1 ho2 hbl hkn
          go_wp2_with fail
          go_roundw
          case rel => exact ⟨k + 1, by omega, Or.inl (by omega), by go_num, ho1', ho2', hbl', hsz'⟩
          case measure => simp [intOf]; omega
        · have ho2 := ho2.congr (h := fun i => decide ((i : Int) < n)) fun i hi => by rw [Bool.eq_iff_iff]; simp; omega
          have hatw := hat.below hbl
          have hg1w : g1 < wr.heap.size := by omega
          have hg2w : g2 < wr.heap.size := by omega
          by_cases h64 : k < 64
          · have hkn2 : n ≤ (k : Int) := by omega
            go_wp2_with (first | (go_at_call 6; go_must (refine (S.of_ _ zs _ hatw).mono ?_); rintro e w3 ⟨rfl, hb3⟩) | (go_at_call 7; go_must (refine (S.list_ _ (ofN_lt _) _).mono ?_); rintro e w4 ⟨v, rfl, hownL, hb4⟩))
            rw [nodes_ofN] at hownL
            have hlen := nodes_len (memF zs)
            have hs3 := hb3.size
            have hs4 := hb4.size
            have ho1 := (ho1.below hb3 (fun g hg => by cases hg; exact hg1w)).below hb4 (fun g hg => by cases hg; exact Nat.lt_of_lt_of_le hg1w hs3)
            have ho2 := (ho2.below hb3 (fun g hg => by cases hg; exact hg2w)).below hb4 (fun g hg => by cases hg; exact Nat.lt_of_lt_of_le hg2w hs3)
            have hblz : Below w.heap.size w w4 := (hbl.trans (hb3.mono hbl.size)).trans (hb4.mono (by have := hbl.size; omega))
            have hb0 := hbl.size
            rw [hlen] at hownL
            obtain ⟨ax, capx, rfl, hcx⟩ := row_shape hownL
            have hcX : capx ≤ 9223372036854775807 := by unfold maxLen at hcx; omega
            clear hb3 hb4 hbl hatw hlen hat hkn
            have hcnt := cntK_le (memF zs) 64
            go_loopw [11, 12] (fun c i wr => ∃ (j : Nat), j ≤ 64 ∧ i = .int .i64 j ∧ c = .int .i64 (cntK (memF zs) j) ∧ w4 = wr) (fun _ i _ => 64 - (intOf i).toNat)
            case atStart => exact ⟨0, by omega, rfl, rfl, rfl⟩
            case round =>
              obtain ⟨j, hj, rfl, rfl, rfl⟩ := hrel
              have hcj := cntK_le (memF zs) j
              by_cases hltj : j < 64
              · have hcf := ho1.cell hltj
                cases hf : memF zs j with
                | true =>
                  obtain ⟨gx, rfl, hcell, hjl⟩ := nodes_cell hownL hltj hf
                  have hn : Hid (cntK (memF zs) (j + 1) = cntK (memF zs) j + 1) := by show _ = _; simp only [cntK]; rw [hf]; rfl
                  rw [hf] at hcf
                  generalize cntK (memF zs) j = c at hcj hcell hjl hn ⊢
                  generalize cntK (memF zs) 64 = c64 at hjl hcnt ⊢
                  clear hf hownL ho1 ho2
                  go_wp2_with fail
                  go_roundw
                  case rel => exact ⟨j + 1, by omega, by go_num, by rw [hn.out]; go_num, trivial⟩
                  case measure => simp [intOf]; omega
                | false =>
                  have hn : Hid (cntK (memF zs) (j + 1) = cntK (memF zs) j) := by show _ = _; simp only [cntK]; rw [hf]; rfl
                  rw [hf] at hcf
                  generalize cntK (memF zs) j = c at hcj hn ⊢
                  generalize cntK (memF zs) 64 = c64 at hcnt ⊢
                  clear hf hownL ho1 ho2
                  go_wp2_with fail
                  go_roundw
                  case rel => exact ⟨j + 1, by omega, by go_num, by rw [hn.out], trivial⟩
                  case measure => simp [intOf]; omega
              · obtain rfl : j = 64 := by omega
                have hof1 := of_any g1 0 64 _ _ ho1.cells
                have hof2 := of_any g2 0 64 _ _ ho2.cells
                have hall := fun w => S.all_ n w hn
                generalize cntK (memF zs) 64 = c64 at hcnt hcj ⊢
                generalize ofN (memF zs) = x1 at hof1 ⊢
                generalize (ofN fun i => decide ((i : Int) < n)) = x2 at hof2 hall
                clear ho1 ho2 hownL
                go_wp2_with (first | (go_at_call 8; refine hof1.mono ?_; clear hof1; rintro e w' ⟨rfl, rfl⟩) | (go_at_call 8; refine hof2.mono ?_; clear hof2; rintro e w' ⟨rfl, rfl⟩) | (go_at_call 9; go_must (refine (hall _).mono ?_); rintro e w' ⟨rfl, rfl⟩) | (go_at_call 10; go_must (refine (S.awake_ _).mono ?_); rintro e w5 ⟨rfl, hb5⟩))
                go_ret
                exact ⟨rfl, hblz.trans (hb5.mono hblz.size)⟩
          · go_wp2_with (first | (go_at_call 6; go_must (refine (S.of_ _ zs _ hatw).mono ?_); rintro e w3 ⟨rfl, hb3⟩) | (go_at_call 7; go_must (refine (S.list_ _ (ofN_lt _) _).mono ?_); rintro e w4 ⟨v, rfl, hownL, hb4⟩))
            rw [nodes_ofN] at hownL
            have hlen := nodes_len (memF zs)
            have hs3 := hb3.size
            have hs4 := hb4.size
            have ho1 := (ho1.below hb3 (fun g hg => by cases hg; exact hg1w)).below hb4 (fun g hg => by cases hg; exact Nat.lt_of_lt_of_le hg1w hs3)
            have ho2 := (ho2.below hb3 (fun g hg => by cases hg; exact hg2w)).below hb4 (fun g hg => by cases hg; exact Nat.lt_of_lt_of_le hg2w hs3)
            have hblz : Below w.heap.size w w4 := (hbl.trans (hb3.mono hbl.size)).trans (hb4.mono (by have := hbl.size; omega))
            have hb0 := hbl.size
            rw [hlen] at hownL
            obtain ⟨ax, capx, rfl, hcx⟩ := row_shape hownL
            have hcX : capx ≤ 9223372036854775807 := by unfold maxLen at hcx; omega
            clear hb3 hb4 hbl hatw hlen hat hkn
            have hcnt := cntK_le (memF zs) 64
            go_loopw [11, 12] (fun c i wr => ∃ (j : Nat), j ≤ 64 ∧ i = .int .i64 j ∧ c = .int .i64 (cntK (memF zs) j) ∧ w4 = wr) (fun _ i _ => 64 - (intOf i).toNat)
            case atStart => exact ⟨0, by omega, rfl, rfl, rfl⟩
            case round =>
              obtain ⟨j, hj, rfl, rfl, rfl⟩ := hrel
              have hcj := cntK_le (memF zs) j
              by_cases hltj : j < 64
              · have hcf := ho1.cell hltj
                cases hf : memF zs j with
                | true =>
                  obtain ⟨gx, rfl, hcell, hjl⟩ := nodes_cell hownL hltj hf
                  have hn : Hid (cntK (memF zs) (j + 1) = cntK (memF zs) j + 1) := by show _ = _; simp only [cntK]; rw [hf]; rfl
                  rw [hf] at hcf
                  generalize cntK (memF zs) j = c at hcj hcell hjl hn ⊢
                  generalize cntK (memF zs) 64 = c64 at hjl hcnt ⊢
                  clear hf hownL ho1 ho2
                  go_wp2_with fail
                  go_roundw
                  case rel => exact ⟨j + 1, by omega, by go_num, by rw [hn.out]; go_num, trivial⟩
                  case measure => simp [intOf]; omega
                | false =>
                  have hn : Hid (cntK (memF zs) (j + 1) = cntK (memF zs) j) := by show _ = _; simp only [cntK]; rw [hf]; rfl
                  rw [hf] at hcf
                  generalize cntK (memF zs) j = c at hcj hn ⊢
                  generalize cntK (memF zs) 64 = c64 at hcnt ⊢
                  clear hf hownL ho1 ho2
                  go_wp2_with fail
                  go_roundw
                  case rel => exact ⟨j + 1, by omega, by go_num, by rw [hn.out], trivial⟩
                  case measure => simp [intOf]; omega
              · obtain rfl : j = 64 := by omega
                have hof1 := of_any g1 0 64 _ _ ho1.cells
                have hof2 := of_any g2 0 64 _ _ ho2.cells
                have hall := fun w => S.all_ n w hn
                generalize cntK (memF zs) 64 = c64 at hcnt hcj ⊢
                generalize ofN (memF zs) = x1 at hof1 ⊢
                generalize (ofN fun i => decide ((i : Int) < n)) = x2 at hof2 hall
                clear ho1 ho2 hownL
                go_wp2_with (first | (go_at_call 8; refine hof1.mono ?_; clear hof1; rintro e w' ⟨rfl, rfl⟩) | (go_at_call 8; refine hof2.mono ?_; clear hof2; rintro e w' ⟨rfl, rfl⟩) | (go_at_call 9; go_must (refine (hall _).mono ?_); rintro e w' ⟨rfl, rfl⟩) | (go_at_call 10; go_must (refine (S.awake_ _).mono ?_); rintro e w5 ⟨rfl, hb5⟩))
                go_ret
                exact ⟨rfl, hblz.trans (hb5.mono hblz.size)⟩

set_option maxHeartbeats 4000000 in
set_option maxRecDepth 100000 in
theorem lists_big (S : ListsSpec) (v : Value) (zs : List Int) (n : Int) (hn : -9223372036854775808 ≤ n ∧ n ≤ 9223372036854775807) (w : World) (h : IntsAt w v zs) (h100 : 100 < zs.length) :
    Calls Try.prog 3 #[v, .int .i64 n] w fun e w' => e = .returned (.bool true) ∧ Below w.heap.size w w' := by
  obtain ⟨⟨ao, cap, rfl, hlc, hcm, hcells⟩, hfit⟩ := id h
  have hcM : cap ≤ 9223372036854775807 := by unfold maxLen at hcm; omega
  clear hfit hcm
  obtain ⟨b, off, rfl, hbw, _⟩ := hcells (by rintro rfl; simp at h100)
  have hat := h.cut (n := 100) (by omega)
  obtain ⟨ys, hys⟩ : ∃ ys, ys = zs.take 100 := ⟨_, rfl⟩
  have hl : ys.length = 100 := by rw [hys, List.length_take]; omega
  rw [← hys] at hat
  have hcell0 : ∀ i, i < ys.length → w.cell? ⟨b, off + i, none⟩ = some (.int .i64 (ys.getD i 0)) := by
    obtain ⟨⟨_, _, e, _, _, hcs⟩, _⟩ := hat
    injection e with e1 _ _
    obtain ⟨_, _, e2, _, hc⟩ := hcs (by rintro rfl; simp at hl)
    rw [← e1] at e2
    injection e2 with e2
    injection e2 with e3 e4 _
    subst e3 e4
    exact hc
  have h100' : decide ((100 : Int) < (zs.length : Int)) = true := by simp; omega
  clear hys hcells h
  go_enter Try.func3, Try.ntmps3
  go_wp2_with (at_make; refine wpList_make64 _ rfl _ _ rfl rfl rfl w.heap.size (Nat.le_refl _) ?_)
  intro w1 ho1 hs1 hb1
  go_wp2_with (at_make; refine wpList_make64 _ rfl _ _ rfl rfl rfl w1.heap.size (Nat.le_refl _) ?_)
  intro w2 ho2 hs2 hb2
  have ho1 := ho1.below hb2 (fun g hg => by cases hg; exact hs1)
  have hbl := hb1.trans (hb2.mono hb1.size)
  obtain ⟨g1, hg1⟩ : ∃ g1, g1 = w.heap.size := ⟨_, rfl⟩
  obtain ⟨g2, hg2⟩ : ∃ g2, g2 = w1.heap.size := ⟨_, rfl⟩
  have hne : g1 ≠ g2 := by omega
  have hB1 : w.heap.size ≤ g1 := by omega
  have hB2 : w.heap.size ≤ g2 := by omega
  have hg1s : g1 < w2.heap.size := by omega
  have hg2s : g2 < w2.heap.size := by omega
  rw [← hg1] at ho1
  rw [← hg2] at ho2
  simp only [← hg1, ← hg2]
  have ho1 : Own64 w2 0 (.slice (some ⟨g1, 0, none⟩) 64 64) (inK ys 0) := (Own64.mono ho1 (Nat.zero_le _)).congr fun i _ => by simp [inK]
  have ho2 := Own64.mono ho2 (Nat.zero_le _)
  clear hb1 hb2 hs1 hs2
  go_wp2_with fail
  go_loopw [7] (fun i wr => ∃ (k : Nat), k ≤ 100 ∧ i = .int .i64 k ∧ Own64 wr 0 (.slice (some ⟨g1, 0, none⟩) 64 64) (inK ys k) ∧ Own64 wr 0 (.slice (some ⟨g2, 0, none⟩) 64 64) (fun _ => false) ∧ Below w.heap.size w wr ∧ w2.heap.size ≤ wr.heap.size) (fun i _ => 100 - (intOf i).toNat)
  case atStart => exact ⟨0, Nat.zero_le _, rfl, ho1, ho2, hbl, Nat.le_refl _⟩
  case round =>
    obtain ⟨k, hk, rfl, ho1, ho2, hbl, hsz⟩ := hrel
    clear hg1 hg2
    by_cases hlt : k < 100
    · have hcell := hcell0
      obtain ⟨z, hz⟩ : ∃ z, z = ys.getD k 0 := ⟨_, rfl⟩
      have hcw : wr.cell? ⟨b, off + k, none⟩ = some (.int .i64 z) := by rw [Below.cell hbl hbw, hz]; exact hcell k (by omega)
      have hin := inK_succ (zs := ys) (k := k) (by omega)
      rw [← hz] at hin
      clear hz hcell hcell0
      by_cases hz0 : z < 0
      · have ho1 := ho1.congr (h := inK ys (k + 1)) fun i _ => by rw [hin i]; simp; omega
        clear hin
        go_wp2_with fail
        go_roundw
        case rel => exact ⟨k + 1, by omega, by go_num, ho1, ho2, hbl, hsz⟩
        case measure => simp [intOf]; omega
      · by_cases hz1 : 63 < z
        · have ho1 := ho1.congr (h := inK ys (k + 1)) fun i hi => by rw [hin i]; simp; omega
          clear hin
          go_wp2_with fail
          go_roundw
          case rel => exact ⟨k + 1, by omega, by go_num, ho1, ho2, hbl, hsz⟩
          case measure => simp [intOf]; omega
        · obtain ⟨m, rfl⟩ := Int.eq_ofNat_of_zero_le (show 0 ≤ z by omega)
          have hm : m < 64 := by omega
          have hc1 := ho1.cell hm
          have hf1 := World.ownsRow.frozenAt ho1 m
          have ho1' := Own64.put (k := m) (h := inK ys (k + 1)) ho1 true (by rw [hin m]; simp) (fun i hi => by
            by_cases e : i = m
            · rw [if_pos e, e]
            · have e2 : ¬ ((i : Int) = (m : Int)) := by omega
              rw [if_neg e, hin i]; simp [e2])
          have ho2' := Own64.other (x := .bool true) (b := g1) (k := m) ho2 (fun e => hne e.symm)
          have hbl' := hbl.setCell (p := ⟨g1, m, none⟩) hB1 (.bool true)
          have hsz' : w2.heap.size ≤ (wr.setCell ⟨g1, m, none⟩ (.bool true)).heap.size := by simp [World.setCell]; exact hsz
          clear hin ho1 ho2 hbl
          go_wp2_with fail
          go_roundw
          case rel => exact ⟨k + 1, by omega, by go_num, ho1', ho2', hbl', hsz'⟩
          case measure => simp [intOf]; omega
    · obtain rfl : k = 100 := by omega
      have e100 : ((100 : Nat) : Int) = 100 := rfl
      rw [e100]
      have htk : ∀ i, inK ys 100 i = memF ys i := fun i => by unfold inK memF; rw [List.take_of_length_le (by omega)]
      have ho1 := ho1.congr (h := memF ys) fun i _ => htk i
      clear htk
      have ho2 : Own64 wr 0 (.slice (some ⟨g2, 0, none⟩) 64 64) (fun i => decide (i < 0)) := ho2.congr fun i _ => by simp
      have hsz0 := hsz
      go_wp2_with fail
      go_loopw [8] (fun i wr => ∃ (k : Nat), k ≤ 64 ∧ ((k : Int) ≤ n ∨ k = 0) ∧ i = .int .i64 k ∧ Own64 wr 0 (.slice (some ⟨g1, 0, none⟩) 64 64) (memF ys) ∧ Own64 wr 0 (.slice (some ⟨g2, 0, none⟩) 64 64) (fun i => decide (i < k)) ∧ Below w.heap.size w wr ∧ w2.heap.size ≤ wr.heap.size) (fun i _ => 64 - (intOf i).toNat)
      case atStart => exact ⟨0, by omega, Or.inr rfl, rfl, ho1, ho2, hbl, hsz⟩
      case round =>
        clear hsz ho1 ho2 hbl
        obtain ⟨k, hk, hkn, rfl, ho1, ho2, hbl, hsz⟩ := hrel
        by_cases hlt : k < 64 ∧ (k : Int) < n
        · obtain ⟨hlt, hltn⟩ := hlt
          have hc2 := ho2.cell hlt
          have hf2 := World.ownsRow.frozenAt ho2 k
          have ho2' := Own64.put (k := k) (h := fun i => decide (i < k + 1)) ho2 true (by simp) (fun i hi => by by_cases e : i = k <;> simp [e]; omega)
          have ho1' := Own64.other (x := .bool true) (b := g2) (k := k) ho1 hne
          have hbl' := hbl.setCell (p := ⟨g2, k, none⟩) hB2 (.bool true)
          have hsz' : w2.heap.size ≤ (wr.setCell ⟨g2, k, none⟩ (.bool true)).heap.size := by simp [World.setCell]; exact hsz
          clear ho1 ho2 hbl hkn
          go_wp2_with fail
          go_roundw
          case rel => exact ⟨k + 1, by omega, Or.inl (by omega), by go_num, ho1', ho2', hbl', hsz'⟩
          case measure => simp [intOf]; omega
        · have ho2 := ho2.congr (h := fun i => decide ((i : Int) < n)) fun i hi => by rw [Bool.eq_iff_iff]; simp; omega
          have hatw := hat.below hbl
          have hg1w : g1 < wr.heap.size := by omega
          have hg2w : g2 < wr.heap.size := by omega
          by_cases h64 : k < 64
          · have hkn2 : n ≤ (k : Int) := by omega
            go_wp2_with (first | (go_at_call 6; go_must (refine (S.of_ _ ys _ hatw).mono ?_); rintro e w3 ⟨rfl, hb3⟩) | (go_at_call 7; go_must (refine (S.list_ _ (ofN_lt _) _).mono ?_); rintro e w4 ⟨v, rfl, hownL, hb4⟩))
            rw [nodes_ofN] at hownL
            have hlen := nodes_len (memF ys)
            have hs3 := hb3.size
            have hs4 := hb4.size
            have ho1 := (ho1.below hb3 (fun g hg => by cases hg; exact hg1w)).below hb4 (fun g hg => by cases hg; exact Nat.lt_of_lt_of_le hg1w hs3)
            have ho2 := (ho2.below hb3 (fun g hg => by cases hg; exact hg2w)).below hb4 (fun g hg => by cases hg; exact Nat.lt_of_lt_of_le hg2w hs3)
            have hblz : Below w.heap.size w w4 := (hbl.trans (hb3.mono hbl.size)).trans (hb4.mono (by have := hbl.size; omega))
            have hb0 := hbl.size
            rw [hlen] at hownL
            obtain ⟨ax, capx, rfl, hcx⟩ := row_shape hownL
            have hcX : capx ≤ 9223372036854775807 := by unfold maxLen at hcx; omega
            clear hb3 hb4 hbl hatw hlen hat hkn
            have hcnt := cntK_le (memF ys) 64
            go_loopw [11, 12] (fun c i wr => ∃ (j : Nat), j ≤ 64 ∧ i = .int .i64 j ∧ c = .int .i64 (cntK (memF ys) j) ∧ w4 = wr) (fun _ i _ => 64 - (intOf i).toNat)
            case atStart => exact ⟨0, by omega, rfl, rfl, rfl⟩
            case round =>
              obtain ⟨j, hj, rfl, rfl, rfl⟩ := hrel
              have hcj := cntK_le (memF ys) j
              by_cases hltj : j < 64
              · have hcf := ho1.cell hltj
                cases hf : memF ys j with
                | true =>
                  obtain ⟨gx, rfl, hcell, hjl⟩ := nodes_cell hownL hltj hf
                  have hn : Hid (cntK (memF ys) (j + 1) = cntK (memF ys) j + 1) := by show _ = _; simp only [cntK]; rw [hf]; rfl
                  rw [hf] at hcf
                  generalize cntK (memF ys) j = c at hcj hcell hjl hn ⊢
                  generalize cntK (memF ys) 64 = c64 at hjl hcnt ⊢
                  clear hf hownL ho1 ho2
                  go_wp2_with fail
                  go_roundw
                  case rel => exact ⟨j + 1, by omega, by go_num, by rw [hn.out]; go_num, trivial⟩
                  case measure => simp [intOf]; omega
                | false =>
                  have hn : Hid (cntK (memF ys) (j + 1) = cntK (memF ys) j) := by show _ = _; simp only [cntK]; rw [hf]; rfl
                  rw [hf] at hcf
                  generalize cntK (memF ys) j = c at hcj hn ⊢
                  generalize cntK (memF ys) 64 = c64 at hcnt ⊢
                  clear hf hownL ho1 ho2
                  go_wp2_with fail
                  go_roundw
                  case rel => exact ⟨j + 1, by omega, by go_num, by rw [hn.out], trivial⟩
                  case measure => simp [intOf]; omega
              · obtain rfl : j = 64 := by omega
                have hof1 := of_any g1 0 64 _ _ ho1.cells
                have hof2 := of_any g2 0 64 _ _ ho2.cells
                have hall := fun w => S.all_ n w hn
                generalize cntK (memF ys) 64 = c64 at hcnt hcj ⊢
                generalize ofN (memF ys) = x1 at hof1 ⊢
                generalize (ofN fun i => decide ((i : Int) < n)) = x2 at hof2 hall
                clear ho1 ho2 hownL
                go_wp2_with (first | (go_at_call 8; refine hof1.mono ?_; clear hof1; rintro e w' ⟨rfl, rfl⟩) | (go_at_call 8; refine hof2.mono ?_; clear hof2; rintro e w' ⟨rfl, rfl⟩) | (go_at_call 9; go_must (refine (hall _).mono ?_); rintro e w' ⟨rfl, rfl⟩) | (go_at_call 10; go_must (refine (S.awake_ _).mono ?_); rintro e w5 ⟨rfl, hb5⟩))
                go_ret
                exact ⟨rfl, hblz.trans (hb5.mono hblz.size)⟩
          · go_wp2_with (first | (go_at_call 6; go_must (refine (S.of_ _ ys _ hatw).mono ?_); rintro e w3 ⟨rfl, hb3⟩) | (go_at_call 7; go_must (refine (S.list_ _ (ofN_lt _) _).mono ?_); rintro e w4 ⟨v, rfl, hownL, hb4⟩))
            rw [nodes_ofN] at hownL
            have hlen := nodes_len (memF ys)
            have hs3 := hb3.size
            have hs4 := hb4.size
            have ho1 := (ho1.below hb3 (fun g hg => by cases hg; exact hg1w)).below hb4 (fun g hg => by cases hg; exact Nat.lt_of_lt_of_le hg1w hs3)
            have ho2 := (ho2.below hb3 (fun g hg => by cases hg; exact hg2w)).below hb4 (fun g hg => by cases hg; exact Nat.lt_of_lt_of_le hg2w hs3)
            have hblz : Below w.heap.size w w4 := (hbl.trans (hb3.mono hbl.size)).trans (hb4.mono (by have := hbl.size; omega))
            have hb0 := hbl.size
            rw [hlen] at hownL
            obtain ⟨ax, capx, rfl, hcx⟩ := row_shape hownL
            have hcX : capx ≤ 9223372036854775807 := by unfold maxLen at hcx; omega
            clear hb3 hb4 hbl hatw hlen hat hkn
            have hcnt := cntK_le (memF ys) 64
            go_loopw [11, 12] (fun c i wr => ∃ (j : Nat), j ≤ 64 ∧ i = .int .i64 j ∧ c = .int .i64 (cntK (memF ys) j) ∧ w4 = wr) (fun _ i _ => 64 - (intOf i).toNat)
            case atStart => exact ⟨0, by omega, rfl, rfl, rfl⟩
            case round =>
              obtain ⟨j, hj, rfl, rfl, rfl⟩ := hrel
              have hcj := cntK_le (memF ys) j
              by_cases hltj : j < 64
              · have hcf := ho1.cell hltj
                cases hf : memF ys j with
                | true =>
                  obtain ⟨gx, rfl, hcell, hjl⟩ := nodes_cell hownL hltj hf
                  have hn : Hid (cntK (memF ys) (j + 1) = cntK (memF ys) j + 1) := by show _ = _; simp only [cntK]; rw [hf]; rfl
                  rw [hf] at hcf
                  generalize cntK (memF ys) j = c at hcj hcell hjl hn ⊢
                  generalize cntK (memF ys) 64 = c64 at hjl hcnt ⊢
                  clear hf hownL ho1 ho2
                  go_wp2_with fail
                  go_roundw
                  case rel => exact ⟨j + 1, by omega, by go_num, by rw [hn.out]; go_num, trivial⟩
                  case measure => simp [intOf]; omega
                | false =>
                  have hn : Hid (cntK (memF ys) (j + 1) = cntK (memF ys) j) := by show _ = _; simp only [cntK]; rw [hf]; rfl
                  rw [hf] at hcf
                  generalize cntK (memF ys) j = c at hcj hn ⊢
                  generalize cntK (memF ys) 64 = c64 at hcnt ⊢
                  clear hf hownL ho1 ho2
                  go_wp2_with fail
                  go_roundw
                  case rel => exact ⟨j + 1, by omega, by go_num, by rw [hn.out], trivial⟩
                  case measure => simp [intOf]; omega
              · obtain rfl : j = 64 := by omega
                have hof1 := of_any g1 0 64 _ _ ho1.cells
                have hof2 := of_any g2 0 64 _ _ ho2.cells
                have hall := fun w => S.all_ n w hn
                generalize cntK (memF ys) 64 = c64 at hcnt hcj ⊢
                generalize ofN (memF ys) = x1 at hof1 ⊢
                generalize (ofN fun i => decide ((i : Int) < n)) = x2 at hof2 hall
                clear ho1 ho2 hownL
                go_wp2_with (first | (go_at_call 8; refine hof1.mono ?_; clear hof1; rintro e w' ⟨rfl, rfl⟩) | (go_at_call 8; refine hof2.mono ?_; clear hof2; rintro e w' ⟨rfl, rfl⟩) | (go_at_call 9; go_must (refine (hall _).mono ?_); rintro e w' ⟨rfl, rfl⟩) | (go_at_call 10; go_must (refine (S.awake_ _).mono ?_); rintro e w5 ⟨rfl, hb5⟩))
                go_ret
                exact ⟨rfl, hblz.trans (hb5.mono hblz.size)⟩

theorem lists_walk (S : ListsSpec) (zs : List Int) (v : Value) (n : Int) (hn : -9223372036854775808 ≤ n ∧ n ≤ 9223372036854775807) (w : World) (h : IntsAt w v zs) :
    Calls Try.prog 3 #[v, .int .i64 n] w fun e w' => e = .returned (.bool true) ∧ Below w.heap.size w w' := by
  by_cases h100 : zs.length ≤ 100
  · exact lists_mid S v zs n hn w h h100
  · exact lists_big S v zs n hn w h (by omega)

end Go.Proofs.Ytpjmogakimelaaa
