/-
  Contracts of package slices' stable sort at jobs: swapRangeCmpFunc, rotateCmpFunc.
-/
import Derived.Test.YtmlmehpcfgchgaaSbO
import Derived.Test.YtmlmehpcfgchgaaChecked
import Derived.WalkKit
import Derived.WalkSpells
import Derived.WalkLawsBesides
import Derived.Lib.Hide
import Derived.Deep.DeepMust
import Derived.BigRegion
import Derived.Shelf.SlSortCmp.InsertionK
namespace Go.Proofs.Ytmlmehpcfgchgaa
open Go.RowKit Go.Sort Go.Lib Go.Shelf

/-- What a row's elements are. -/
structure EncOk {α : Type} (enc : α → List Value) (k : Nat) : Prop where
  len : ∀ x, (enc x).length = k
  one : ∀ x, ∀ v ∈ enc x, v.oneCell' = true

section
variable {α : Type} [Inhabited α] {enc : α → List Value} {w : World} {blk off cap : Nat} {d d0 : Array α}

/-- What a world of the sort's is read as. -/
theorem load_row {W : World} {k : Nat} (h : HoldsK enc k W blk off d) (hE : EncOk enc k) {i : Nat} (hi : i < d.size) :
    Sem.run Try.prog (loadCellsFrom ⟨blk, off + i * k, none⟩ 0 k #[]) W = .ok (enc d[i]!).toArray W :=
  run_loadCellsFrom_list Try.prog _ _ _ k (hE.len _) (HoldsK.cells h hE.len hi)
theorem bnd_row {k n x : Nat} (hx : x < n) : x * k + k ≤ n * k := by
  have := Nat.mul_le_mul_right k (show x + 1 ≤ n from hx)
  rwa [Nat.add_mul, Nat.one_mul] at this
theorem stores_row {W : World} {k : Nat} (h : HoldsK enc k W blk off d) (hE : EncOk enc k) {i j : Nat} (hi : i < d.size) (hj : j < d.size) (x y : α) :
    Sem.run Try.prog (storeCells ⟨blk, off + i * k, none⟩ (enc x) 0) W = .ok () (W.setCells blk (off + i * k) (enc x)) ∧
    Sem.run Try.prog (storeCells ⟨blk, off + j * k, none⟩ (enc y) 0) (W.setCells blk (off + i * k) (enc x)) = .ok () ((W.setCells blk (off + i * k) (enc x)).setCells blk (off + j * k) (enc y)) :=
  ⟨stores_of_holds Try.prog h (i * k) _ (by rw [hE.len, size_flatK]; exact bnd_row hi) (hE.one _),
   stores_of_holds Try.prog (holds_setCells_c h (i * k) _ (by rw [hE.len, size_flatK]; exact bnd_row hi)) (j * k) _ (by rw [hE.len, size_setMany, size_flatK]; exact bnd_row hj) (hE.one _)⟩

set_option maxHeartbeats 4000000 in
set_option maxRecDepth 1000000 in
theorem swapRange_fn (k : Nat) (zE : ∀ w, Sem.run Try.prog (Go.sizeOf 52) w = .ok k w) (g : Value) (a b n m : Nat) (os : Array Obj) (hE : EncOk enc k) (hH : HoldsK enc k w blk off d0) (hs : d.size = d0.size) (hblk : blk < w.heap.size) (hab : a + n ≤ b) (hb : b + n ≤ d.size) (hsz : d.size < 4611686018427387904) :
    Calls Try.prog 50 #[.slice (some ⟨blk, off, none⟩) d.size cap, .int .i64 a, .int .i64 b, .int .i64 n, g] (sortWorldK enc k w blk off m d os) fun e w' =>
      e = .returned (.tuple #[]) ∧ ∃ m', w' = sortWorldK enc k w blk off m' (Sb.swR a b n 0 d) os := by
  replace hs := Lib.hid hs
  go_enter Try.func50, Try.ntmps50
  go_wp2_with fail
  go_loopw [10] (fun ii wr => ∃ (i mi : Nat) (di : Array α), ii = .int .i64 i ∧ i ≤ n ∧ di.size = d.size ∧ wr = sortWorldK enc k w blk off mi di os ∧ Hid (Sb.swR a b n i di = Sb.swR a b n 0 d)) (fun ii _ => n - (intOf ii).toNat)
  case atStart => exact ⟨0, m, d, rfl, Nat.zero_le _, rfl, rfl, rfl⟩
  case round =>
    obtain ⟨i, mi, di, rfl, hin, hsi, rfl, HI⟩ := hrel
    by_cases hlt : i < n
    · have b2 : (i : Int) < (n : Int) := by omega
      have hW := holdsK_sortWorldK_c enc k w blk off d0 di mi os hH hblk (by rw [hsi]; exact hs.out)
      have hnx : Hid (∀ (_ : Unit), (((sortWorldK enc k w blk off mi di os).drew.setCells blk (off + (a + i) * k) (enc di[b + i]!)).setCells blk (off + (b + i) * k) (enc di[a + i]!)) = sortWorldK enc k w blk off (mi + 1) (swp di (a + i) (b + i)) os) := fun _ => sortWorldK_swp_c enc k w blk off hE.len mi di os hblk (a + i) (b + i) (by omega) (by omega)
      have la := fun (W : World) (hW : HoldsK enc k W blk off di) => load_row hW hE (i := a + i) (by omega)
      have lb := fun (W : World) (hW : HoldsK enc k W blk off di) => load_row hW hE (i := b + i) (by omega)
      have st := fun (W : World) (hW : HoldsK enc k W blk off di) => stores_row hW hE (i := a + i) (j := b + i) (by omega) (by omega) di[b + i]! di[a + i]!
      have hsd : (swp di (a + i) (b + i)).size = d.size := by rw [swp_size]; exact hsi
      have hgo := Sb.swR_go (a := a) (b := b) (d := di) hlt
      generalize hwq : sortWorldK enc k w blk off mi di os = wq at hW hnx ⊢
      have la1 := la wq.drew hW
      have lb1 := lb wq.drew hW
      obtain ⟨s1, s2⟩ := st wq.drew hW
      obtain ⟨cA, hcA⟩ : ∃ c, c = enc di[a + i]! := ⟨_, rfl⟩
      obtain ⟨cB, hcB⟩ : ∃ c, c = enc di[b + i]! := ⟨_, rfl⟩
      rw [← hcA] at la1 s2 hnx
      rw [← hcB] at lb1 s1 s2 hnx
      have lA : cA.length = k := by rw [hcA]; exact hE.len _
      have lB : cB.length = k := by rw [hcB]; exact hE.len _
      replace hcA := Lib.hid hcA
      replace hcB := Lib.hid hcB
      clear la lb st hwq hW
      have wa : IntKind.i64.wrap ((a : Int) + (i : Int)) = (a : Int) + (i : Int) := by rw [IntKind.wrap_i64]; omega
      have wb : IntKind.i64.wrap ((b : Int) + (i : Int)) = (b : Int) + (i : Int) := by rw [IntKind.wrap_i64]; omega
      have ja : (a : Int) + (i : Int) < (d.size : Int) := by omega
      have jb : (b : Int) + (i : Int) < (d.size : Int) := by omega
      have ka : (0 : Int) ≤ (a : Int) + (i : Int) := by omega
      have kb : (0 : Int) ≤ (b : Int) + (i : Int) := by omega
      have ea : ((a : Int) + (i : Int)).toNat = a + i := by omega
      have eb : ((b : Int) + (i : Int)).toNat = b + i := by omega
      go_wp2_with fail
      go_region
      rw [hnx.out ()]
      go_wp2_with fail
      go_roundw
      case rel => exact ⟨i + 1, mi + 1, swp di (a + i) (b + i), by go_num, by omega, hsd, rfl, by show _ = _; rw [← HI.out, hgo]⟩
      case measure => simp [intOf]; omega
    · have b2 : ¬ (i : Int) < (n : Int) := by omega
      go_wp2_with fail
      go_end0
      exact ⟨rfl, mi, by rw [← HI.out, Sb.swR_stop hlt]⟩

set_option maxHeartbeats 4000000 in
set_option maxRecDepth 1000000 in
theorem rotate_fn (k : Nat) (zE : ∀ w, Sem.run Try.prog (Go.sizeOf 52) w = .ok k w) (g : Value) (a m b q : Nat) (os : Array Obj) (hE : EncOk enc k) (hH : HoldsK enc k w blk off d0) (hs : d.size = d0.size) (hblk : blk < w.heap.size) (ham : a < m) (hmb : m < b) (hb : b ≤ d.size) (hsz : d.size < 4611686018427387904) :
    Calls Try.prog 49 #[.slice (some ⟨blk, off, none⟩) d.size cap, .int .i64 a, .int .i64 m, .int .i64 b, g] (sortWorldK enc k w blk off q d os) fun e w' =>
      e = .returned (.tuple #[]) ∧ ∃ q', w' = sortWorldK enc k w blk off q' (Sb.rot m (m - a) (b - m) d) os := by
  have hsw := fun (a b n q : Nat) (di : Array α) (h1 : a + n ≤ b) (h2 : b + n ≤ d.size) (h3 : di.size = d.size) => swapRange_fn (cap := cap) (d := di) k zE g a b n q os hE hH (by rw [h3]; exact hs) hblk h1 (by rw [h3]; exact h2) (by rw [h3]; exact hsz)
  have HS : Hid _ := hsw
  clear hsw hH
  replace hs := Lib.hid hs
  have wa : IntKind.i64.wrap ((m : Int) - (a : Int)) = ((m - a : Nat) : Int) := by rw [IntKind.wrap_i64]; omega
  have wb : IntKind.i64.wrap ((b : Int) - (m : Int)) = ((b - m : Nat) : Int) := by rw [IntKind.wrap_i64]; omega
  obtain ⟨ia, hia⟩ : ∃ x, x = m - a := ⟨_, rfl⟩
  obtain ⟨jb, hjb⟩ : ∃ x, x = b - m := ⟨_, rfl⟩
  rw [← hia] at wa
  rw [← hjb] at wb
  rw [← hia, ← hjb]
  have i0 : 0 < ia := by omega
  have j0 : 0 < jb := by omega
  have im : ia ≤ m := by omega
  have jm : m + jb ≤ d.size := by omega
  clear hia hjb ham hmb hb
  go_enter Try.func49, Try.ntmps49
  go_wp2_with fail
  go_loopw [10, 11] (fun ii jj wr => ∃ (i j qi : Nat) (di : Array α), ii = .int .i64 i ∧ jj = .int .i64 j ∧ 0 < i ∧ 0 < j ∧ i ≤ ia ∧ j ≤ jb ∧ di.size = d.size ∧ wr = sortWorldK enc k w blk off qi di os ∧ Hid (Sb.rot m i j di = Sb.rot m ia jb d)) (fun ii jj _ => (intOf ii).toNat + (intOf jj).toNat)
  case atStart => exact ⟨ia, jb, q, d, rfl, rfl, i0, j0, Nat.le_refl _, Nat.le_refl _, rfl, rfl, rfl⟩
  case round =>
    obtain ⟨i, j, qi, di, rfl, rfl, hi0, hj0, hia2, hjb2, hsi, rfl, HI⟩ := hrel
    have w1 : IntKind.i64.wrap ((m : Int) - (i : Int)) = ((m - i : Nat) : Int) := by rw [IntKind.wrap_i64]; omega
    by_cases hij : i = j
    · subst hij
      have hc := HS.out (m - i) m i qi di (by omega) (by omega) hsi
      rw [hsi] at hc
      rw [Sb.rot_eq] at HI
      have n1 : ((i : Int) != (i : Int)) = false := by simp
      generalize sortWorldK enc k w blk off qi di os = wq at hc ⊢
      go_wp2_with (go_at_call 50; go_must (refine hc.mono ?_); rintro e w5 ⟨rfl, q5, rfl⟩)
      go_end0
      exact ⟨rfl, q5, by rw [HI.out]⟩
    · have n1 : ((i : Int) != (j : Int)) = true := by simp; omega
      by_cases hgt : j < i
      · have hc := HS.out (m - i) m j qi di (by omega) (by omega) hsi
        rw [hsi] at hc
        rw [Sb.rot_gt hgt hj0] at HI
        have hsz2 := (Sb.swR_spec (m - i) m j j 0 di rfl (Nat.zero_le _) (by omega) (by omega)).1
        have b2 : (j : Int) < (i : Int) := by omega
        have w2 : IntKind.i64.wrap ((i : Int) - (j : Int)) = ((i - j : Nat) : Int) := by rw [IntKind.wrap_i64]; omega
        generalize sortWorldK enc k w blk off qi di os = wq at hc ⊢
        go_wp2_with (go_at_call 50; go_must (refine hc.mono ?_); rintro e w5 ⟨rfl, q5, rfl⟩)
        go_roundw
        case rel => exact ⟨i - j, j, q5, Sb.swR (m - i) m j 0 di, by go_num, rfl, by omega, hj0, by omega, hjb2, by rw [hsz2, hsi], rfl, HI⟩
        case measure => simp [intOf]; omega
      · have hc := HS.out (m - i) (m + j - i) i qi di (by omega) (by omega) hsi
        rw [hsi] at hc
        rw [Sb.rot_lt (by omega) hi0] at HI
        have hsz2 := (Sb.swR_spec (m - i) (m + j - i) i i 0 di rfl (Nat.zero_le _) (by omega) (by omega)).1
        obtain ⟨x, hx⟩ : ∃ x, x = m + j - i := ⟨_, rfl⟩
        rw [← hx] at hc HI hsz2
        have b2 : ¬ (j : Int) < (i : Int) := by omega
        have w2 : IntKind.i64.wrap ((j : Int) - (i : Int)) = ((j - i : Nat) : Int) := by rw [IntKind.wrap_i64]; omega
        have w3 : IntKind.i64.wrap ((m : Int) + (j : Int)) = (m : Int) + (j : Int) := by rw [IntKind.wrap_i64]; omega
        have w4 : IntKind.i64.wrap ((m : Int) + (j : Int) - (i : Int)) = (x : Int) := by rw [IntKind.wrap_i64]; omega
        replace hx := Lib.hid hx
        generalize sortWorldK enc k w blk off qi di os = wq at hc ⊢
        go_wp2_with (go_at_call 50; go_must (refine hc.mono ?_); rintro e w5 ⟨rfl, q5, rfl⟩)
        go_roundw
        case rel => exact ⟨i, j - i, q5, Sb.swR (m - i) x i 0 di, rfl, by go_num, hi0, by omega, hia2, by omega, by rw [hsz2, hsi], rfl, HI⟩
        case measure => simp [intOf]; omega
end

end Go.Proofs.Ytmlmehpcfgchgaa
