/-
  The statement on sets with no node in common: its walk.
-/
import Derived.Test.YtpjmogakimelaaaSetH
import Derived.Test.YtpjmogakimelaaaNats
namespace Go.Proofs.Ytpjmogakimelaaa
open Go.RowKit

/-- Of the first n nodes none is in both. -/
def disjN (a b : Nat) : Nat → Bool
  | 0 => true
  | n + 1 => disjN a b n && !(a.testBit n && b.testBit n)
/-- The set at i has no node in common with any of the first k. -/
def midA (z : Nat → Nat) (i : Nat) : Nat → Bool
  | 0 => true
  | k + 1 => midA z i k && disjN (z i) (z k) 64
/-- Nor has any of the first i with one before it. -/
def outA (z : Nat → Nat) : Nat → Bool
  | 0 => true
  | i + 1 => outA z i && midA z i i
def setV (l : List Nat) : List Value := l.map fun (z : Nat) => Value.int .u64 (z : Int)
theorem setV_append (l m : List Nat) : setV (l ++ m) = setV l ++ setV m := by simp [setV]

structure ApartSpec : Prop where
  apart_ : ∀ (v : Value) (zs : List Nat) (w : World), NatsAt w v zs → Calls Try.prog 14 #[v] w fun e w' => e = .returned (.bool (outA (fun i => zs.getD i 0) zs.length)) ∧ Below w.heap.size w w'
  awake_ : ∀ (w : World), Calls Try.prog 10 #[] w fun e w' => e = .returned (.bool true) ∧ Below w.heap.size w w'

theorem infoS : (Try.prog.info? 25).map (fun i => (i.zero, i.size, i.bytes)) = some (some (.int .u64 0), 1, 8) := by kernel_rfl
theorem info_of' {o : Option TypeInfo} {z : Value} {n m : Nat} (h : o.map (fun i => (i.zero, i.size, i.bytes)) = some (some z, n, m)) : ∃ i, o = some i ∧ i.zero = some z ∧ i.size = n ∧ i.bytes = m := by
  cases o with
  | none => cases h
  | some i => simp at h; exact ⟨i, rfl, h.1, h.2.1, h.2.2⟩

set_option maxHeartbeats 4000000 in
set_option maxRecDepth 100000 in
theorem apart_mid (S : ApartSpec) (v : Value) (zs : List Nat) (w : World) (h : NatsAt w v zs) (h20 : zs.length ≤ 20) :
    Calls Try.prog 5 #[v] w fun e w' => e = .returned (.bool true) ∧ Below w.heap.size w w' := by
  obtain ⟨i0, hi0, hz0, hz1, hz2⟩ := info_of' infoS
  have hget := h.get
  obtain ⟨⟨ao, cap, rfl, hlc, hcm, hcells⟩, hfit⟩ := h
  have hcM : cap ≤ 9223372036854775807 := by unfold maxLen at hcm; omega
  clear hcm
  obtain ⟨Z, hZ⟩ : ∃ Z : Nat → Nat, Z = fun j => zs.getD j 0 := ⟨_, rfl⟩
  replace hZ := Lib.hid hZ
  go_enter Try.func5, Try.ntmps5
  go_wp2_with fail
  go_loopw [3, 4, 5] (fun x ap i wr => ∃ (i' : Nat), i' ≤ zs.length ∧ i = .int .i64 i' ∧ ap = .bool (outA Z i') ∧ wr.ownsRow w.heap.size 25 1 x i' (setV (zs.take i')) ∧ Below w.heap.size w wr) (fun _ _ i _ => zs.length - (intOf i).toNat)
  case atStart => exact ⟨0, Nat.zero_le _, rfl, rfl, World.ownsRow_nil _ _ _ _, Below.refl _ _⟩
  case round =>
    obtain ⟨i, hi, rfl, rfl, hown, hbl⟩ := hrel
    by_cases hlt : i < zs.length
    · obtain ⟨b, off, rfl, hbw, hcell⟩ := hcells (by rintro rfl; simp at hlt)
      have hcw : ∀ j, j < zs.length → wr.cell? ⟨b, off + j, none⟩ = some (.int .u64 (Z j : Nat)) := fun j hj => by rw [Below.cell hbl hbw, hZ.out]; exact hcell j (by omega)
      have hZr : ∀ j, Z j < 18446744073709551616 := fun j => by rw [hZ.out]; exact hget j
      obtain ⟨a, hzi⟩ : ∃ a, a = Z i := ⟨_, rfl⟩
      have ha : Hid (a < 18446744073709551616) := by show _; rw [hzi]; exact hZr i
      have hca : wr.cell? ⟨b, off + i, none⟩ = some (.int .u64 (a : Nat)) := by rw [hzi]; exact hcw i hlt
      replace hzi := Lib.hid hzi
      have htk : Hid (setV (zs.take i) ++ [.int .u64 (a : Nat)] = setV (zs.take (i + 1))) := by show _ = _; rw [take_more' (by omega), setV_append, hzi.out, hZ.out]; rfl
      have hsz := hbl.size
      replace hZr := Lib.hid hZr
      replace hcw := Lib.hid hcw
      clear hcell hcells
      go_wp2_with (at_builtin; go_must (refine wpList_append_own _ rfl (.tmp 19) (.tmp 24) 36 rfl w.heap.size 25 i0 (.int .u64 0) 1 8 Try.underlying36 hi0 hz0 hz1 hz2 rfl (by decide) u3 i (setV (zs.take i)) rfl (hown.alloc _) ⟨wr.heap.size, 0, none⟩ 1 1 [.int .u64 (a : Nat)] rfl rfl ?c0 ?c1 ?c2 ?c3 ?c4 ?c5))
      case c0 => exact cell_one_new _ _ _
      case c1 => simp [Value.oneCell']
      case c2 => unfold maxLen; omega
      case c3 => omega
      case c4 => simp; omega
      case c5 =>
        intro v' w1 hown1 hg1 _
        rw [htk.out] at hown1
        have hb1 : Below w.heap.size wr w1 := (((Below.refl _ _).alloc hsz _)).grown hg1 (by simp; omega) fun k hk => (hown.lt k hk).1
        have hs1 := hb1.size
        have hbl1 := hbl.trans hb1
        have hcw1 : Hid (∀ j, j < zs.length → w1.cell? ⟨b, off + j, none⟩ = some (.int .u64 (Z j : Nat))) := fun j hj => by rw [Below.cell hb1 hbw]; exact hcw.out j hj
        have hca1 : w1.cell? ⟨b, off + i, none⟩ = some (.int .u64 (a : Nat)) := by rw [hzi.out]; exact hcw1.out i hlt
        replace hown1 := Lib.hid hown1
        clear hg1 hown hcw hca hb1 hbl
        obtain ⟨P0, hP0⟩ : ∃ P0, P0 = outA Z i := ⟨_, rfl⟩
        rw [← hP0]
        replace hP0 := Lib.hid hP0
        have hst : (P0 && midA Z i 0) = P0 := by simp [midA]
        go_wp2_with fail
        go_loopw [4, 6] (fun ap k wq => ∃ (k' : Nat), k' ≤ i ∧ k = .int .i64 k' ∧ ap = .bool (P0 && midA Z i k') ∧ w1 = wq) (fun _ k _ => i - (intOf k).toNat)
        case atStart => exact ⟨0, Nat.zero_le _, rfl, by rw [hst], rfl⟩
        case round =>
          obtain ⟨k, hk, rfl, rfl, rfl⟩ := hrel
          clear hst
          by_cases hltk : k < i
          · obtain ⟨b2, hzk⟩ : ∃ b2, b2 = Z k := ⟨_, rfl⟩
            have hb2 : Hid (b2 < 18446744073709551616) := by show _; rw [hzk]; exact hZr.out k
            have hcb : w1.cell? ⟨b, off + k, none⟩ = some (.int .u64 (b2 : Nat)) := by rw [hzk]; exact hcw1.out k (by omega)
            replace hzk := Lib.hid hzk
            obtain ⟨P, hP⟩ : ∃ P, P = (P0 && midA Z i k) := ⟨_, rfl⟩
            rw [← hP]
            replace hP := Lib.hid hP
            have hst : (P && disjN a b2 0) = P := by simp [disjN]
            go_wp2_with fail
            go_loopw [4, 7] (fun ap n wq => ∃ (n' : Nat), n' ≤ 64 ∧ n = .int .i64 n' ∧ ap = .bool (P && disjN a b2 n') ∧ w1 = wq) (fun _ n _ => 64 - (intOf n).toNat)
            case atStart => exact ⟨0, Nat.zero_le _, rfl, by rw [hst], rfl⟩
            case round =>
              obtain ⟨n, hn, rfl, rfl, rfl⟩ := hrel
              clear hst
              by_cases hltn : n < 64
              · have hfa := hasF_nat (u := a) hltn
                have hfb := hasF_nat (u := b2) hltn
                have hA := has_any a ha.out (n : Int) w1 (by omega)
                have hB := has_any b2 hb2.out (n : Int) w1 (by omega)
                have hdn : Hid (disjN a b2 (n + 1) = (disjN a b2 n && !(a.testBit n && b2.testBit n))) := rfl
                generalize a.testBit n = ta at hfa hdn
                generalize b2.testBit n = tb at hfb hdn
                cases hap : (P && disjN a b2 n) with
                | true =>
                  have hpn : Hid ((P && disjN a b2 (n + 1)) = !(ta && tb)) := by show _ = _; rw [hdn.out, ← Bool.and_assoc, hap]; rfl
                  clear hap
                  cases ta with
                  | true =>
                    go_wp2_with (first | (go_at_call 13; refine hA.mono ?_; clear hA; rintro e w' ⟨rfl, rfl⟩; rw [hfa]) | (go_at_call 13; refine hB.mono ?_; clear hB; rintro e w' ⟨rfl, rfl⟩; rw [hfb]))
                    go_roundw
                    case rel => exact ⟨n + 1, by omega, by go_num, by rw [hpn.out]; rfl, trivial⟩
                    case measure => simp [intOf]; omega
                  | false =>
                    go_wp2_with (first | (go_at_call 13; refine hA.mono ?_; clear hA; rintro e w' ⟨rfl, rfl⟩; rw [hfa]) | (go_at_call 13; refine hB.mono ?_; clear hB; rintro e w' ⟨rfl, rfl⟩; rw [hfb]))
                    go_roundw
                    case rel => exact ⟨n + 1, by omega, by go_num, by rw [hpn.out]; rfl, trivial⟩
                    case measure => simp [intOf]; omega
                | false =>
                  have hpn : Hid ((P && disjN a b2 (n + 1)) = false) := by show _ = _; rw [hdn.out, ← Bool.and_assoc, hap]; rfl
                  clear hap
                  go_wp2_with fail
                  go_roundw
                  case rel => exact ⟨n + 1, by omega, by go_num, by rw [hpn.out], trivial⟩
                  case measure => simp [intOf]; omega
              · obtain rfl : n = 64 := by omega
                have hQ : Hid ((P && disjN a b2 64) = (P0 && midA Z i (k + 1))) := by show _ = _; simp only [midA]; rw [← hzi.out, ← hzk.out, hP.out, Bool.and_assoc]
                generalize (P && disjN a b2 64) = Q at hQ ⊢
                go_wp2_with fail
                go_roundw
                case rel => exact ⟨k + 1, by omega, by go_num, by rw [hQ.out], trivial⟩
                case measure => simp [intOf]; omega
          · obtain rfl : k = i := by omega
            have hQ : Hid ((P0 && midA Z k k) = outA Z (k + 1)) := by show _ = _; simp only [outA]; rw [hP0.out]
            generalize (P0 && midA Z k k) = Q at hQ ⊢
            go_wp2_with fail
            go_roundw
            case rel => exact ⟨k + 1, by omega, by go_num, by rw [hQ.out], hown1.out, hbl1⟩
            case measure => simp [intOf]; omega
    · obtain rfl : i = zs.length := by omega
      have htk : zs.take zs.length = zs := List.take_of_length_le (by omega)
      rw [htk] at hown
      have hsp := S.apart_ _ zs _ (nats_row (by first | exact hown | (rw [hl]; exact hown)) hfit)
      rw [← hZ.out] at hsp
      generalize outA Z zs.length = Q at hsp ⊢
      have hbz := hbl.size
      clear hown
      go_wp2_with (first | (go_at_call 14; go_must (refine hsp.mono ?_); rintro e w3 ⟨rfl, hb3⟩) | (go_at_call 10; go_must (refine (S.awake_ _).mono ?_); rintro e w5 ⟨rfl, hb5⟩))
      go_ret
      exact ⟨rfl, (hbl.trans (hb3.mono hbz)).trans (hb5.mono (Nat.le_trans hbz hb3.size))⟩

set_option maxHeartbeats 4000000 in
set_option maxRecDepth 100000 in
theorem apart_big (S : ApartSpec) (v : Value) (zs : List Nat) (w : World) (h : NatsAt w v zs) (h20 : 20 < zs.length) :
    Calls Try.prog 5 #[v] w fun e w' => e = .returned (.bool true) ∧ Below w.heap.size w w' := by
  obtain ⟨i0, hi0, hz0, hz1, hz2⟩ := info_of' infoS
  obtain ⟨⟨ao, cap, rfl, hlc, hcm, hcells⟩, _⟩ := id h
  have hcM : cap ≤ 9223372036854775807 := by unfold maxLen at hcm; omega
  obtain ⟨b, off, rfl, hbw, _⟩ := hcells (by rintro rfl; simp at h20)
  have hat := h.cut (n := 20) (by omega)
  obtain ⟨ys, hys⟩ : ∃ ys, ys = zs.take 20 := ⟨_, rfl⟩
  have hl : ys.length = 20 := by rw [hys, List.length_take]; omega
  rw [← hys] at hat
  have hget := hat.get
  have hfit := hat.fits
  have hcell0 : ∀ i, i < ys.length → w.cell? ⟨b, off + i, none⟩ = some (.int .u64 (ys.getD i 0 : Nat)) := by
    obtain ⟨⟨_, _, e, _, _, hcs⟩, _⟩ := hat
    injection e with e1 _ _
    obtain ⟨_, _, e2, _, hc⟩ := hcs (by rintro rfl; simp at hl)
    rw [← e1] at e2
    injection e2 with e2
    injection e2 with e3 e4 _
    subst e3 e4
    exact hc
  have h20' : decide ((20 : Int) < (zs.length : Int)) = true := by simp; omega
  clear hys hcells h hcm hat
  obtain ⟨Z, hZ⟩ : ∃ Z : Nat → Nat, Z = fun j => ys.getD j 0 := ⟨_, rfl⟩
  replace hZ := Lib.hid hZ
  go_enter Try.func5, Try.ntmps5
  go_wp2_with fail
  go_loopw [3, 4, 5] (fun x ap i wr => ∃ (i' : Nat), i' ≤ 20 ∧ i = .int .i64 i' ∧ ap = .bool (outA Z i') ∧ wr.ownsRow w.heap.size 25 1 x i' (setV (ys.take i')) ∧ Below w.heap.size w wr) (fun _ _ i _ => 20 - (intOf i).toNat)
  case atStart => exact ⟨0, Nat.zero_le _, rfl, rfl, World.ownsRow_nil _ _ _ _, Below.refl _ _⟩
  case round =>
    obtain ⟨i, hi, rfl, rfl, hown, hbl⟩ := hrel
    by_cases hlt : i < 20
    · have hcell := hcell0
      have hcw : ∀ j, j < 20 → wr.cell? ⟨b, off + j, none⟩ = some (.int .u64 (Z j : Nat)) := fun j hj => by rw [Below.cell hbl hbw, hZ.out]; exact hcell j (by omega)
      have hZr : ∀ j, Z j < 18446744073709551616 := fun j => by rw [hZ.out]; exact hget j
      obtain ⟨a, hzi⟩ : ∃ a, a = Z i := ⟨_, rfl⟩
      have ha : Hid (a < 18446744073709551616) := by show _; rw [hzi]; exact hZr i
      have hca : wr.cell? ⟨b, off + i, none⟩ = some (.int .u64 (a : Nat)) := by rw [hzi]; exact hcw i hlt
      replace hzi := Lib.hid hzi
      have htk : Hid (setV (ys.take i) ++ [.int .u64 (a : Nat)] = setV (ys.take (i + 1))) := by show _ = _; rw [take_more' (by omega), setV_append, hzi.out, hZ.out]; rfl
      have hsz := hbl.size
      replace hZr := Lib.hid hZr
      replace hcw := Lib.hid hcw
      clear hcell hcell0
      go_wp2_with (at_builtin; go_must (refine wpList_append_own _ rfl (.tmp 19) (.tmp 24) 36 rfl w.heap.size 25 i0 (.int .u64 0) 1 8 Try.underlying36 hi0 hz0 hz1 hz2 rfl (by decide) u3 i (setV (ys.take i)) rfl (hown.alloc _) ⟨wr.heap.size, 0, none⟩ 1 1 [.int .u64 (a : Nat)] rfl rfl ?c0 ?c1 ?c2 ?c3 ?c4 ?c5))
      case c0 => exact cell_one_new _ _ _
      case c1 => simp [Value.oneCell']
      case c2 => unfold maxLen; omega
      case c3 => omega
      case c4 => simp; omega
      case c5 =>
        intro v' w1 hown1 hg1 _
        rw [htk.out] at hown1
        have hb1 : Below w.heap.size wr w1 := (((Below.refl _ _).alloc hsz _)).grown hg1 (by simp; omega) fun k hk => (hown.lt k hk).1
        have hs1 := hb1.size
        have hbl1 := hbl.trans hb1
        have hcw1 : Hid (∀ j, j < 20 → w1.cell? ⟨b, off + j, none⟩ = some (.int .u64 (Z j : Nat))) := fun j hj => by rw [Below.cell hb1 hbw]; exact hcw.out j hj
        have hca1 : w1.cell? ⟨b, off + i, none⟩ = some (.int .u64 (a : Nat)) := by rw [hzi.out]; exact hcw1.out i hlt
        replace hown1 := Lib.hid hown1
        clear hg1 hown hcw hca hb1 hbl
        obtain ⟨P0, hP0⟩ : ∃ P0, P0 = outA Z i := ⟨_, rfl⟩
        rw [← hP0]
        replace hP0 := Lib.hid hP0
        have hst : (P0 && midA Z i 0) = P0 := by simp [midA]
        go_wp2_with fail
        go_loopw [4, 6] (fun ap k wq => ∃ (k' : Nat), k' ≤ i ∧ k = .int .i64 k' ∧ ap = .bool (P0 && midA Z i k') ∧ w1 = wq) (fun _ k _ => i - (intOf k).toNat)
        case atStart => exact ⟨0, Nat.zero_le _, rfl, by rw [hst], rfl⟩
        case round =>
          obtain ⟨k, hk, rfl, rfl, rfl⟩ := hrel
          clear hst
          by_cases hltk : k < i
          · obtain ⟨b2, hzk⟩ : ∃ b2, b2 = Z k := ⟨_, rfl⟩
            have hb2 : Hid (b2 < 18446744073709551616) := by show _; rw [hzk]; exact hZr.out k
            have hcb : w1.cell? ⟨b, off + k, none⟩ = some (.int .u64 (b2 : Nat)) := by rw [hzk]; exact hcw1.out k (by omega)
            replace hzk := Lib.hid hzk
            obtain ⟨P, hP⟩ : ∃ P, P = (P0 && midA Z i k) := ⟨_, rfl⟩
            rw [← hP]
            replace hP := Lib.hid hP
            have hst : (P && disjN a b2 0) = P := by simp [disjN]
            go_wp2_with fail
            go_loopw [4, 7] (fun ap n wq => ∃ (n' : Nat), n' ≤ 64 ∧ n = .int .i64 n' ∧ ap = .bool (P && disjN a b2 n') ∧ w1 = wq) (fun _ n _ => 64 - (intOf n).toNat)
            case atStart => exact ⟨0, Nat.zero_le _, rfl, by rw [hst], rfl⟩
            case round =>
              obtain ⟨n, hn, rfl, rfl, rfl⟩ := hrel
              clear hst
              by_cases hltn : n < 64
              · have hfa := hasF_nat (u := a) hltn
                have hfb := hasF_nat (u := b2) hltn
                have hA := has_any a ha.out (n : Int) w1 (by omega)
                have hB := has_any b2 hb2.out (n : Int) w1 (by omega)
                have hdn : Hid (disjN a b2 (n + 1) = (disjN a b2 n && !(a.testBit n && b2.testBit n))) := rfl
                generalize a.testBit n = ta at hfa hdn
                generalize b2.testBit n = tb at hfb hdn
                cases hap : (P && disjN a b2 n) with
                | true =>
                  have hpn : Hid ((P && disjN a b2 (n + 1)) = !(ta && tb)) := by show _ = _; rw [hdn.out, ← Bool.and_assoc, hap]; rfl
                  clear hap
                  cases ta with
                  | true =>
                    go_wp2_with (first | (go_at_call 13; refine hA.mono ?_; clear hA; rintro e w' ⟨rfl, rfl⟩; rw [hfa]) | (go_at_call 13; refine hB.mono ?_; clear hB; rintro e w' ⟨rfl, rfl⟩; rw [hfb]))
                    go_roundw
                    case rel => exact ⟨n + 1, by omega, by go_num, by rw [hpn.out]; rfl, trivial⟩
                    case measure => simp [intOf]; omega
                  | false =>
                    go_wp2_with (first | (go_at_call 13; refine hA.mono ?_; clear hA; rintro e w' ⟨rfl, rfl⟩; rw [hfa]) | (go_at_call 13; refine hB.mono ?_; clear hB; rintro e w' ⟨rfl, rfl⟩; rw [hfb]))
                    go_roundw
                    case rel => exact ⟨n + 1, by omega, by go_num, by rw [hpn.out]; rfl, trivial⟩
                    case measure => simp [intOf]; omega
                | false =>
                  have hpn : Hid ((P && disjN a b2 (n + 1)) = false) := by show _ = _; rw [hdn.out, ← Bool.and_assoc, hap]; rfl
                  clear hap
                  go_wp2_with fail
                  go_roundw
                  case rel => exact ⟨n + 1, by omega, by go_num, by rw [hpn.out], trivial⟩
                  case measure => simp [intOf]; omega
              · obtain rfl : n = 64 := by omega
                have hQ : Hid ((P && disjN a b2 64) = (P0 && midA Z i (k + 1))) := by show _ = _; simp only [midA]; rw [← hzi.out, ← hzk.out, hP.out, Bool.and_assoc]
                generalize (P && disjN a b2 64) = Q at hQ ⊢
                go_wp2_with fail
                go_roundw
                case rel => exact ⟨k + 1, by omega, by go_num, by rw [hQ.out], trivial⟩
                case measure => simp [intOf]; omega
          · obtain rfl : k = i := by omega
            have hQ : Hid ((P0 && midA Z k k) = outA Z (k + 1)) := by show _ = _; simp only [outA]; rw [hP0.out]
            generalize (P0 && midA Z k k) = Q at hQ ⊢
            go_wp2_with fail
            go_roundw
            case rel => exact ⟨k + 1, by omega, by go_num, by rw [hQ.out], hown1.out, hbl1⟩
            case measure => simp [intOf]; omega
    · obtain rfl : i = 20 := by omega
      have e20 : ((20 : Nat) : Int) = 20 := rfl
      rw [e20]
      have htk : ys.take 20 = ys := List.take_of_length_le (by omega)
      rw [htk] at hown
      have hsp := S.apart_ _ ys _ (nats_row (by first | exact hown | (rw [hl]; exact hown)) hfit)
      rw [← hZ.out, hl] at hsp
      generalize outA Z 20 = Q at hsp ⊢
      have hbz := hbl.size
      clear hown
      go_wp2_with (first | (go_at_call 14; go_must (refine hsp.mono ?_); rintro e w3 ⟨rfl, hb3⟩) | (go_at_call 10; go_must (refine (S.awake_ _).mono ?_); rintro e w5 ⟨rfl, hb5⟩))
      go_ret
      exact ⟨rfl, (hbl.trans (hb3.mono hbz)).trans (hb5.mono (Nat.le_trans hbz hb3.size))⟩

theorem apart_walk (S : ApartSpec) (zs : List Nat) (v : Value) (w : World) (h : NatsAt w v zs) :
    Calls Try.prog 5 #[v] w fun e w' => e = .returned (.bool true) ∧ Below w.heap.size w w' := by
  by_cases h20 : zs.length ≤ 20
  · exact apart_mid S v zs w h h20
  · exact apart_big S v zs w h (by omega)

end Go.Proofs.Ytpjmogakimelaaa
