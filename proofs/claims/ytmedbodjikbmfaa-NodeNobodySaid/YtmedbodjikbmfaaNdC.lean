/-
  Own walks: the document's table of nodes: give.
-/
import Derived.Test.YtmedbodjikbmfaaNdB
namespace Go.Proofs.Ytmedbodjikbmfaa
open Go.RowKit Go.Lib

section
variable {w w' : World} {q h : Nat} {l : List Int}

/-- What Give tells, and leaves. -/
structure GiveR (l : List Int) (u : Nat) (n e : Int) (l' : List Int) : Prop where
  bad : ¬ InP l u 2 3 64 → n = 0 ∧ e = 11 ∧ l' = l
  good : InP l u 2 3 64 → n = backN l u l.length ∧ e = 0 ∧ l' = l.mapIdx (giveF u)

def GivePost (l : List Int) (u : Nat) (q h : Nat) (w : World) (e : Ending) (w' : World) : Prop := OffB h w w' ∧ ∃ (n x : Int) (l' : List Int), e = .returned (.tuple #[.int .i64 n, .int .i64 x]) ∧ GiveR l u n x l' ∧ NW w' q h l'

set_option maxRecDepth 100000 in
set_option maxHeartbeats 2000000 in
theorem give_any (u : Nat) (hu : u < 18446744073709551616) (hw : NW w q h l) (hl : l.length ≤ 64) :
    Calls Try.prog 26 #[.pointer (some ⟨q, 0, none⟩), .int .u64 u] w (GivePost l u q h w) := by
  have hin := in_any u hu 2 3 hw hl
  by_cases hP : InP l u 2 3 64
  · have hin' : Calls Try.prog 35 #[.pointer (some ⟨q, 0, none⟩), .int .u64 u, .int .i64 2, .int .i64 3] w fun e w' => w = w' ∧ e = .returned (.bool true) :=
      hin.mono fun e w' hp => ⟨hp.1, by rcases hp.2 with h3 | h3; exact h3.2; exact absurd hP h3.1⟩
    have hg : Hid (∀ wr, OffB h w wr → NW wr q h (mapTo (giveF u) l.length l) → GivePost l u q h w (.returned (.tuple #[.int .i64 (backN l u l.length), .int .i64 0])) wr) := fun wr ho hn => by
      rw [mapTo_all] at hn
      exact ⟨ho, _, 0, _, rfl, ⟨fun hx => absurd hP hx, fun _ => ⟨rfl, rfl, rfl⟩⟩, hn⟩
    clear hin hP
    go_enter Try.func26, Try.ntmps26
    go_wp2_with (go_at_call 35; go_must (refine hin'.mono ?_); rintro e w5 ⟨rfl, rfl⟩)
    go_loopw [6, 7] (fun bb ii wr => ∃ (i : Nat), i ≤ l.length ∧ bb = .int .i64 (backN l u i) ∧ ii = .int .i64 i ∧ OffB h w wr ∧ NW wr q h (mapTo (giveF u) i l)) (fun _ ii _ => 64 - (intOf ii).toNat)
    case atStart => exact ⟨0, Nat.zero_le _, rfl, rfl, OffB.refl h w, by rw [mapTo_zero]; exact hw⟩
    case round =>
      obtain ⟨i, hi, rfl, rfl, ho, hn⟩ := hrel
      have hlen := mapTo_length (giveF u) i l
      have hn0 := hn
      obtain ⟨cap, F⟩ := hn.facts
      have c0 := F.c0
      rw [hlen] at c0
      have hbl := backN_le l u i
      have hbs := backN_succ l u i
      obtain ⟨b, hb⟩ : ∃ b, b = backN l u i := ⟨_, rfl⟩
      rw [← hb] at hbl hbs
      by_cases hlt : i < l.length
      · rw [← hb]
        have hh := hasL_any u hu i wr (by omega)
        rw [hasF_nat (by omega)] at hh
        have hw2 : IntKind.i64.wrap ((i : Int) + 1) = (i : Int) + 1 := IntWalk.i64_in _ (by omega)
        have hw3 : IntKind.i64.wrap ((b : Int) + 1) = (b : Int) + 1 := IntWalk.i64_in _ (by omega)
        have b1 : (0 : Int) ≤ i := by omega
        have b2 : (i : Int) < (l.length : Int) := by omega
        replace hb := Lib.hid hb
        by_cases ht : u.testBit i = true
        · rw [ht] at hh hbs
          have cc := F.cell (i := i) (by rw [hlen]; exact hlt)
          have fz := F.own.frozenAt i
          have hx0 : (mapTo (giveF u) i l).getD i 0 = l.getD i 0 := mapTo_getD _ _ _
          rw [hx0] at cc
          have hgo : ∀ v, giveF u i (l.getD i 0) = v → Hid (OffB h w (wr.setCell ⟨h, i, none⟩ (.int .i64 v)) ∧ NW (wr.setCell ⟨h, i, none⟩ (.int .i64 v)) q h (mapTo (giveF u) (i + 1) l)) := fun v hv => by
            refine ⟨ho.setCell, ?_⟩
            have := NW_set i v hn0
            rw [mapTo_next _ hlt, hv]
            exact this
          have hgf : giveF u i (l.getD i 0) = if l.getD i 0 = 2 then 1 else 4 := by unfold giveF; rw [if_pos ht]
          by_cases e2 : l.getD i 0 = 2
          · have hgo' := hgo 1 (by rw [hgf, if_pos e2])
            have hb3 : Hid (backN l u (i + 1) = b + 1) := by rw [hbs, if_pos (by simpa using e2)]; rfl
            rw [e2] at cc
            replace e2 := Lib.hid e2
            replace ho := Lib.hid ho
            clear F hn hn0 hw hin' hg hgo hgf hx0 hbs
            go_wp2_with (go_at_call 36; go_must (refine hh.mono ?_); rintro e w5 ⟨rfl, rfl⟩)
            go_roundw
            case rel => exact ⟨i + 1, by omega, by rw [hb3.out]; go_num, by go_num, hgo'.out.1, hgo'.out.2⟩
            case measure => simp [intOf]; omega
          · have hgo' := hgo 4 (by rw [hgf, if_neg e2])
            have hb3 : Hid (backN l u (i + 1) = b) := by rw [hbs, if_neg (by simpa using e2)]; rfl
            obtain ⟨x, hx⟩ : ∃ x, x = l.getD i 0 := ⟨_, rfl⟩
            rw [← hx] at cc e2
            have n2 : (x == 2) = false := by simpa using e2
            replace e2 := Lib.hid e2
            replace hx := Lib.hid hx
            replace ho := Lib.hid ho
            clear F hn hn0 hw hin' hg hgo hgf hx0 hbs
            go_wp2_with (go_at_call 36; go_must (refine hh.mono ?_); rintro e w5 ⟨rfl, rfl⟩)
            go_roundw
            case rel => exact ⟨i + 1, by omega, by rw [hb3.out], by go_num, hgo'.out.1, hgo'.out.2⟩
            case measure => simp [intOf]; omega
        · have ht' : u.testBit i = false := by simpa using ht
          rw [ht'] at hh hbs
          have hb3 : Hid (backN l u (i + 1) = b) := by rw [hbs, if_neg (by simp)]; rfl
          have hgo : Hid (OffB h w wr ∧ NW wr q h (mapTo (giveF u) (i + 1) l)) := by
            refine ⟨ho, ?_⟩
            rw [mapTo_same _ hlt (by unfold giveF; rw [if_neg ht])]
            exact hn0
          replace ho := Lib.hid ho
          clear F hn hn0 hw hin' hg hbs
          go_wp2_with (go_at_call 36; go_must (refine hh.mono ?_); rintro e w5 ⟨rfl, rfl⟩)
          go_roundw
          case rel => exact ⟨i + 1, by omega, by rw [hb3.out], by go_num, hgo.out.1, hgo.out.2⟩
          case measure => simp [intOf]; omega
      · obtain rfl : i = l.length := by omega
        have hg' := Lib.hid (hg.out wr ho hn0)
        clear F hn hn0 hw hin' hg ho hbs
        go_wp2_with fail
        go_ret2
        exact hg'.out
  · have hin' : Calls Try.prog 35 #[.pointer (some ⟨q, 0, none⟩), .int .u64 u, .int .i64 2, .int .i64 3] w fun e w' => w = w' ∧ e = .returned (.bool false) :=
      hin.mono fun e w' hp => ⟨hp.1, by rcases hp.2 with h3 | h3; exact absurd h3.1 hP; exact h3.2⟩
    have hg : Hid (GivePost l u q h w (.returned (.tuple #[.int .i64 0, .int .i64 11])) w) := ⟨OffB.refl h w, 0, 11, l, rfl, ⟨fun _ => ⟨rfl, rfl, rfl⟩, fun hx => absurd hx hP⟩, hw⟩
    clear hin hP hw
    go_enter Try.func26, Try.ntmps26
    go_wp2_with (go_at_call 35; go_must (refine hin'.mono ?_); rintro e w5 ⟨rfl, rfl⟩)
    go_ret2
    exact hg.out
end

end Go.Proofs.Ytmedbodjikbmfaa
