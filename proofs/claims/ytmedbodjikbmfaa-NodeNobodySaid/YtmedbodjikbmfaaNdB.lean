/-
  Own walks: the document's table of nodes: claim, give, drain and resume.
-/
import Derived.Test.YtmedbodjikbmfaaNdA
namespace Go.Proofs.Ytmedbodjikbmfaa
open Go.RowKit Go.Lib

/-- The first k of a list are changed. -/
def mapTo (f : Nat → Int → Int) (k : Nat) (l : List Int) : List Int := l.mapIdx fun i x => if i < k then f i x else x
theorem mapTo_length (f : Nat → Int → Int) (k : Nat) (l : List Int) : (mapTo f k l).length = l.length := by simp [mapTo]
theorem mapTo_zero (f : Nat → Int → Int) (l : List Int) : mapTo f 0 l = l := by
  refine List.ext_getElem (by simp [mapTo]) fun i h1 h2 => ?_
  simp [mapTo]
theorem mapTo_all (f : Nat → Int → Int) (l : List Int) : mapTo f l.length l = l.mapIdx f := by
  refine List.ext_getElem (by simp [mapTo]) fun i h1 h2 => ?_
  have : i < l.length := by simpa using h2
  simp [mapTo, this]
theorem mapTo_getD (f : Nat → Int → Int) (k : Nat) (l : List Int) : (mapTo f k l).getD k 0 = l.getD k 0 := by
  simp only [List.getD_eq_getElem?_getD, mapTo, List.getElem?_mapIdx]
  cases l[k]? <;> simp
theorem mapTo_next (f : Nat → Int → Int) {k : Nat} {l : List Int} (h : k < l.length) : mapTo f (k + 1) l = (mapTo f k l).set k (f k (l.getD k 0)) := by
  refine List.ext_getElem (by simp [mapTo]) fun i h1 h2 => ?_
  have hi : i < l.length := by simpa [mapTo] using h1
  simp only [mapTo, List.getElem_mapIdx, List.getElem_set]
  by_cases e : k = i
  · subst e; simp [h]
  · rw [if_neg e]
    by_cases h3 : i < k
    · rw [if_pos (by omega), if_pos h3]
    · rw [if_neg (by omega), if_neg h3]
theorem mapTo_same (f : Nat → Int → Int) {k : Nat} {l : List Int} (h : k < l.length) (hf : f k (l.getD k 0) = l.getD k 0) : mapTo f (k + 1) l = mapTo f k l := by
  rw [mapTo_next f h, hf]
  refine List.ext_getElem (by simp) fun i h1 h2 => ?_
  rw [List.getElem_set]
  by_cases e : k = i
  · subst e; simp [mapTo, h]
  · rw [if_neg e]

def claimF (u : Nat) (i : Nat) (x : Int) : Int := if u.testBit i then 2 else x
def giveF (u : Nat) (i : Nat) (x : Int) : Int := if u.testBit i then (if x = 2 then 1 else 4) else x
/-- How many of a set are used, of the first k. -/
def backN (l : List Int) (u : Nat) (k : Nat) : Nat := (List.range k).countP fun i => u.testBit i && decide (l.getD i 0 = 2)
theorem backN_succ (l : List Int) (u k : Nat) : backN l u (k + 1) = backN l u k + if (u.testBit k && decide (l.getD k 0 = 2)) = true then 1 else 0 := by
  unfold backN
  rw [List.range_succ, List.countP_append, List.countP_cons, List.countP_nil]
  simp
theorem backN_le (l : List Int) (u k : Nat) : backN l u k ≤ k := by
  have : backN l u k ≤ (List.range k).length := List.countP_le_length
  simpa using this

section
variable {w w' : World} {q h : Nat} {l : List Int}

/-- What Claim tells, and leaves. -/
structure ClaimR (l : List Int) (u : Nat) (e : Int) (l' : List Int) : Prop where
  none : u = 0 → e = 1 ∧ l' = l
  bad : u ≠ 0 → ¬ InP l u 1 1 64 → e = 11 ∧ l' = l
  good : u ≠ 0 → InP l u 1 1 64 → e = 0 ∧ l' = l.mapIdx (claimF u)

def ClaimPost (l : List Int) (u : Nat) (q h : Nat) (w : World) (e : Ending) (w' : World) : Prop := OffB h w w' ∧ ∃ (x : Int) (l' : List Int), e = .returned (.int .i64 x) ∧ ClaimR l u x l' ∧ NW w' q h l'

set_option maxRecDepth 100000 in
set_option maxHeartbeats 2000000 in
theorem claim_any (u : Nat) (hu : u < 18446744073709551616) (hw : NW w q h l) (hl : l.length ≤ 64) :
    Calls Try.prog 25 #[.pointer (some ⟨q, 0, none⟩), .int .u64 u] w (ClaimPost l u q h w) := by
  have hin := in_any u hu 1 1 hw hl
  by_cases h0 : u = 0
  · have hg : Hid (ClaimPost l u q h w (.returned (.int .i64 1)) w) := ⟨OffB.refl h w, 1, l, rfl, ⟨fun _ => ⟨rfl, rfl⟩, fun hx => absurd h0 hx, fun hx => absurd h0 hx⟩, hw⟩
    subst h0
    clear hin hw
    go_enter Try.func25, Try.ntmps25
    go_wp2_with fail
    go_ret
    exact hg.out
  · have d0 : ((u : Int) == 0) = false := by simp; omega
    by_cases hP : InP l u 1 1 64
    · have hin' : Calls Try.prog 35 #[.pointer (some ⟨q, 0, none⟩), .int .u64 u, .int .i64 1, .int .i64 1] w fun e w' => w = w' ∧ e = .returned (.bool true) :=
        hin.mono fun e w' hp => ⟨hp.1, by rcases hp.2 with h3 | h3; exact h3.2; exact absurd hP h3.1⟩
      have hg : Hid (∀ wr, OffB h w wr → NW wr q h (mapTo (claimF u) l.length l) → ClaimPost l u q h w (.returned (.int .i64 0)) wr) := fun wr ho hn => by
        rw [mapTo_all] at hn
        exact ⟨ho, 0, _, rfl, ⟨fun hx => absurd hx h0, fun _ hx => absurd hP hx, fun _ _ => ⟨rfl, rfl⟩⟩, hn⟩
      clear hin hP
      replace h0 := Lib.hid h0
      go_enter Try.func25, Try.ntmps25
      go_wp2_with (go_at_call 35; go_must (refine hin'.mono ?_); rintro e w5 ⟨rfl, rfl⟩)
      go_loopw [5] (fun ii wr => ∃ (i : Nat), i ≤ l.length ∧ ii = .int .i64 i ∧ OffB h w wr ∧ NW wr q h (mapTo (claimF u) i l)) (fun ii _ => 64 - (intOf ii).toNat)
      case atStart => exact ⟨0, Nat.zero_le _, rfl, OffB.refl h w, by rw [mapTo_zero]; exact hw⟩
      case round =>
        obtain ⟨i, hi, rfl, ho, hn⟩ := hrel
        have hlen := mapTo_length (claimF u) i l
        have hn0 := hn
        obtain ⟨cap, F⟩ := hn.facts
        have c0 := F.c0
        rw [hlen] at c0
        by_cases hlt : i < l.length
        · have hh := hasL_any u hu i wr (by omega)
          rw [hasF_nat (by omega)] at hh
          have hw2 : IntKind.i64.wrap ((i : Int) + 1) = (i : Int) + 1 := IntWalk.i64_in _ (by omega)
          have b1 : (0 : Int) ≤ i := by omega
          have b2 : (i : Int) < (l.length : Int) := by omega
          by_cases ht : u.testBit i = true
          · rw [ht] at hh
            have cc := F.cell (i := i) (by rw [hlen]; exact hlt)
            have fz := F.own.frozenAt i
            obtain ⟨x, hx⟩ : ∃ x, x = (mapTo (claimF u) i l).getD i 0 := ⟨_, rfl⟩
            rw [← hx] at cc
            have hgo : Hid (OffB h w (wr.setCell ⟨h, i, none⟩ (.int .i64 2)) ∧ NW (wr.setCell ⟨h, i, none⟩ (.int .i64 2)) q h (mapTo (claimF u) (i + 1) l)) := by
              refine ⟨ho.setCell, ?_⟩
              have := NW_set i 2 hn0
              rw [mapTo_next _ hlt]
              have e2 : claimF u i (l.getD i 0) = 2 := by unfold claimF; rw [if_pos ht]
              rw [e2]
              exact this
            replace hx := Lib.hid hx
            replace ho := Lib.hid ho
            clear F hn hn0 hw hin' hg
            go_wp2_with (go_at_call 36; go_must (refine hh.mono ?_); rintro e w5 ⟨rfl, rfl⟩)
            go_roundw
            case rel => exact ⟨i + 1, by omega, by go_num, hgo.out.1, hgo.out.2⟩
            case measure => simp [intOf]; omega
          · have ht' : u.testBit i = false := by simpa using ht
            rw [ht'] at hh
            have hgo : Hid (OffB h w wr ∧ NW wr q h (mapTo (claimF u) (i + 1) l)) := by
              refine ⟨ho, ?_⟩
              rw [mapTo_same _ hlt (by unfold claimF; rw [if_neg ht])]
              exact hn0
            replace ho := Lib.hid ho
            clear F hn hn0 hw hin' hg
            go_wp2_with (go_at_call 36; go_must (refine hh.mono ?_); rintro e w5 ⟨rfl, rfl⟩)
            go_roundw
            case rel => exact ⟨i + 1, by omega, by go_num, hgo.out.1, hgo.out.2⟩
            case measure => simp [intOf]; omega
        · obtain rfl : i = l.length := by omega
          have hg' := Lib.hid (hg.out wr ho hn0)
          clear F hn hn0 hw hin' hg ho
          go_wp2_with fail
          go_ret
          exact hg'.out
    · have hin' : Calls Try.prog 35 #[.pointer (some ⟨q, 0, none⟩), .int .u64 u, .int .i64 1, .int .i64 1] w fun e w' => w = w' ∧ e = .returned (.bool false) :=
        hin.mono fun e w' hp => ⟨hp.1, by rcases hp.2 with h3 | h3; exact absurd h3.1 hP; exact h3.2⟩
      have hg : Hid (ClaimPost l u q h w (.returned (.int .i64 11)) w) := ⟨OffB.refl h w, 11, l, rfl, ⟨fun hx => absurd hx h0, fun _ _ => ⟨rfl, rfl⟩, fun _ hx => absurd hx hP⟩, hw⟩
      clear hin hP hw
      replace h0 := Lib.hid h0
      go_enter Try.func25, Try.ntmps25
      go_wp2_with (go_at_call 35; go_must (refine hin'.mono ?_); rintro e w5 ⟨rfl, rfl⟩)
      go_ret
      exact hg.out

/-- What Drain and Resume tell, and leave. -/
def turnX (x : Int) : Int := if x = 1 then 4 else if x = 2 then 3 else if x = 3 then 2 else 1
structure TurnR (l : List Int) (n : Int) (d : Bool) (e : Int) (l' : List Int) : Prop where
  out : (n < 0 ∨ (l.length : Int) ≤ n) → e = 11 ∧ l' = l
  bad : 0 ≤ n → n < l.length → d ≠ decide (l.getD n.toNat 0 < 3) → e = 8 ∧ l' = l
  good : 0 ≤ n → n < l.length → d = decide (l.getD n.toNat 0 < 3) → e = 0 ∧ l' = l.set n.toNat (turnX (l.getD n.toNat 0))
def TurnPost (l : List Int) (n : Int) (d : Bool) (q h : Nat) (w : World) (e : Ending) (w' : World) : Prop := OffB h w w' ∧ ∃ (x : Int) (l' : List Int), e = .returned (.int .i64 x) ∧ TurnR l n d x l' ∧ NW w' q h l'

set_option maxRecDepth 100000 in
set_option maxHeartbeats 2000000 in
theorem turn_any (n : Int) (d : Bool) (hn : -9223372036854775808 ≤ n ∧ n ≤ 9223372036854775807) (hw : NW w q h l) :
    Calls Try.prog 27 #[.pointer (some ⟨q, 0, none⟩), .int .i64 n, .bool d] w (TurnPost l n d q h w) := by
  obtain ⟨cap, F⟩ := hw.facts
  have c0 := F.c0
  by_cases h1 : n < 0
  · have hg : Hid (TurnPost l n d q h w (.returned (.int .i64 11)) w) := ⟨OffB.refl h w, 11, l, rfl, ⟨fun _ => ⟨rfl, rfl⟩, fun hx => absurd h1 (by omega), fun hx => absurd h1 (by omega)⟩, hw⟩
    clear F hw
    go_enter Try.func27, Try.ntmps27
    go_wp2_with fail
    go_ret
    exact hg.out
  · by_cases h2 : (l.length : Int) ≤ n
    · have hg : Hid (TurnPost l n d q h w (.returned (.int .i64 11)) w) := ⟨OffB.refl h w, 11, l, rfl, ⟨fun _ => ⟨rfl, rfl⟩, fun _ hx => absurd h2 (by omega), fun _ hx => absurd h2 (by omega)⟩, hw⟩
      clear F hw
      go_enter Try.func27, Try.ntmps27
      go_wp2_with fail
      go_ret
      exact hg.out
    · obtain ⟨i, rfl⟩ : ∃ i : Nat, n = i := ⟨n.toNat, by omega⟩
      have hi : i < l.length := by omega
      have cc := F.cell hi
      have fz := F.own.frozenAt i
      obtain ⟨x, hx⟩ : ∃ x, x = l.getD i 0 := ⟨_, rfl⟩
      rw [← hx] at cc
      by_cases h3 : d = decide (x < 3)
      · have hg : Hid (∀ y, y = turnX x → TurnPost l i d q h w (.returned (.int .i64 0)) (w.setCell ⟨h, i, none⟩ (.int .i64 y))) := fun y hy => by
          refine ⟨(OffB.refl h w).setCell, 0, l.set i y, rfl, ⟨fun hx' => by omega, fun _ _ hx' => absurd h3 (by rw [hx]; simpa using hx'), fun _ _ _ => ⟨rfl, ?_⟩⟩, NW_set i y hw⟩
          rw [hy, hx]; simp
        replace hx := Lib.hid hx
        clear F hw
        have n0 : (!d == decide (x < 3)) = false := by rw [h3]; simp
        replace h3 := Lib.hid h3
        by_cases e1 : x = 1
        · have hg' := Lib.hid (hg.out 4 (by subst e1; rfl))
          subst e1
          obtain rfl : d = true := by rw [h3.out]; rfl
          clear h3 n0
          clear hg
          go_enter Try.func27, Try.ntmps27
          go_wp2_with fail
          go_ret
          exact hg'.out
        · by_cases e2 : x = 2
          · have hg' := Lib.hid (hg.out 3 (by subst e2; rfl))
            subst e2
            obtain rfl : d = true := by rw [h3.out]; rfl
            clear h3 n0
            clear hg
            go_enter Try.func27, Try.ntmps27
            go_wp2_with fail
            go_ret
            exact hg'.out
          · by_cases e3 : x = 3
            · have hg' := Lib.hid (hg.out 2 (by subst e3; rfl))
              subst e3
              obtain rfl : d = false := by rw [h3.out]; rfl
              clear h3 n0
              clear hg
              go_enter Try.func27, Try.ntmps27
              go_wp2_with fail
              go_ret
              exact hg'.out
            · have hg' := Lib.hid (hg.out 1 (by unfold turnX; rw [if_neg e1, if_neg e2, if_neg e3]))
              have n1 : (x == 1) = false := by simpa using e1
              have n2 : (x == 2) = false := by simpa using e2
              have n3 : (x == 3) = false := by simpa using e3
              replace e1 := Lib.hid e1
              replace e2 := Lib.hid e2
              replace e3 := Lib.hid e3
              clear hg
              go_enter Try.func27, Try.ntmps27
              go_wp2_with fail
              go_ret
              exact hg'.out
      · have hg : Hid (TurnPost l i d q h w (.returned (.int .i64 8)) w) := ⟨OffB.refl h w, 8, l, rfl, ⟨fun hx' => by omega, fun _ _ _ => ⟨rfl, rfl⟩, fun _ _ hx' => absurd hx' (by rw [hx] at h3; simpa using h3)⟩, hw⟩
        have n1 : (!d == decide (x < 3)) = true := by simp [h3]
        replace hx := Lib.hid hx
        clear F hw
        replace h3 := Lib.hid h3
        go_enter Try.func27, Try.ntmps27
        go_wp2_with fail
        go_ret
        exact hg.out
end

end Go.Proofs.Ytmedbodjikbmfaa
