/-
  Own walks: a table of nodes: Take, Claim, Give.
-/
import Derived.Test.YtmedbodjikbmfaaNtA
import Derived.Test.YtmedbodjikbmfaaNdD
namespace Go.Proofs.Ytmedbodjikbmfaa
open Go.RowKit Go.Lib Go.Sort

section
variable {w w' : World} {p : Nat} {l : List Int}

/-- The nodes that are used have changed. -/
theorem TW_use {l' : List Int} (h : TW w p l) (hl : l'.length = l.length) (hb : ofN (barB l') = ofN (barB l)) : TW (w.setCell ⟨p, 1, none⟩ (.int .u64 (ofN (useB l')))) p l' := by
  unfold TW
  rw [hb, all_length hl]
  exact T3.used _ h
theorem TW_bar {l' : List Int} (h : TW w p l) (hl : l'.length = l.length) (hb : ofN (useB l') = ofN (useB l)) : TW (w.setCell ⟨p, 2, none⟩ (.int .u64 (ofN (barB l')))) p l' := by
  unfold TW
  rw [hb, all_length hl]
  exact T3.barred _ h

def TakeT (l : List Int) (n : Int) (p : Nat) (w : World) (e : Ending) (w' : World) : Prop := OffB p w w' ∧ ∃ (s : Nat) (x : Int) (l' : List Int), e = .returned (.tuple #[.int .u64 s, .int .i64 x]) ∧ TakeR l n s x l' ∧ TW w' p l' ∧ Lok l' ∧ l'.length = l.length

set_option maxRecDepth 100000 in
set_option maxHeartbeats 1000000 in
theorem Take_any (n : Int) (hn : -9223372036854775808 ≤ n ∧ n ≤ 9223372036854775807) (h : TW w p l) (hl : Lok l) :
    Calls Try.prog 13 #[.pointer (some ⟨p, 0, none⟩), .int .i64 n] w (TakeT l n p w) := by
  have hno := none_any h (all_pos hl)
  have hid := Idle_any h hl
  have hc := cnt_idle hl
  by_cases h1 : n < 1
  · have hg : Hid (TakeT l n p w (.returned (.tuple #[.int .u64 0, .int .i64 1])) w) := ⟨OffB.refl _ _, 0, 1, l, rfl, ⟨fun _ => ⟨rfl, rfl, rfl⟩, fun hx => by omega, fun hx => by omega⟩, h, hl, rfl⟩
    clear h hid hc
    go_enter Try.func13, Try.ntmps13
    go_wp2_with (go_at_call 23; go_must (refine hno.mono ?_); rintro e w' ⟨rfl, rfl⟩)
    go_ret2
    exact hg.out
  · by_cases h2 : (cntK (isI l) l.length : Int) < n
    · have hg : Hid (TakeT l n p w (.returned (.tuple #[.int .u64 0, .int .i64 6])) w.drew) := ⟨(OffB.refl _ _).drew, 0, 6, l, rfl, ⟨fun hx => by omega, fun _ _ => ⟨rfl, rfl, rfl⟩, fun _ hx => by omega⟩, h.drew, hl, rfl⟩
      have hf := first_no_fn (ofN (isI l)) (ofN_lt _) n w.drew hn (.inr (by rw [hc]; exact h2))
      clear h hc h2
      generalize ofN (isI l) = I at *
      go_enter Try.func13, Try.ntmps13
      go_wp2_with (first | (go_at_call 23; go_must (refine hno.mono ?_); rintro e w' ⟨rfl, rfl⟩) | (go_at_call 14; go_must (refine hid.mono ?_); rintro e w' ⟨rfl, rfl⟩) | (go_at_call 32; go_must (refine hf.mono ?_); rintro e w' ⟨rfl, rfl⟩))
      go_ret2
      exact hg.out
    · have hf := first_yes_fn (ofN (isI l)) (ofN_lt _) n w.drew (by omega) (by rw [hc]; omega)
      rw [take_low] at hf
      have hu := take_use (l := l) n
      have hg : Hid (TakeT l n p w (.returned (.tuple #[.int .u64 (ofN (takeF l n)), .int .i64 0])) (w.drew.setCell ⟨p, 1, none⟩ (.int .u64 (ofN (useB (takenL l n)))))) :=
        ⟨((OffB.refl _ _).drew).setCell, _, 0, takenL l n, rfl, ⟨fun hx => by omega, fun _ hx => by omega, fun _ _ => ⟨rfl, rfl, rfl⟩⟩, TW_use h.drew (taken_length n) (take_bar n), take_ok n hl, taken_length n⟩
      have c1 : w.drew.cell? ⟨p, 1, none⟩ = _ := h.drew.facts.c1
      have fz : w.drew.frozen? ⟨p, 1, none⟩ = false := h.drew.facts.fz 1
      clear h hc h2
      generalize ofN (isI l) = I at *
      generalize ofN (useB l) = U at *
      generalize ofN (takeF l n) = S at *
      generalize ofN (useB (takenL l n)) = V at *
      generalize w.drew = wd at *
      go_enter Try.func13, Try.ntmps13
      go_wp2_with (first | (go_at_call 23; go_must (refine hno.mono ?_); rintro e w' ⟨rfl, rfl⟩) | (go_at_call 14; go_must (refine hid.mono ?_); rintro e w' ⟨rfl, rfl⟩) | (go_at_call 32; go_must (refine hf.mono ?_); rintro e w' ⟨rfl, rfl⟩))
      go_ret2
      exact hg.out

def ClaimT (l : List Int) (u : Nat) (p : Nat) (w : World) (e : Ending) (w' : World) : Prop := OffB p w w' ∧ ∃ (x : Int) (l' : List Int), e = .returned (.int .i64 x) ∧ ClaimR l u x l' ∧ TW w' p l' ∧ Lok l' ∧ l'.length = l.length

set_option maxRecDepth 100000 in
set_option maxHeartbeats 1000000 in
theorem Claim_any (u : Nat) (hu : u < 18446744073709551616) (h : TW w p l) (hl : Lok l) :
    Calls Try.prog 20 #[.pointer (some ⟨p, 0, none⟩), .int .u64 u] w (ClaimT l u p w) := by
  have hno := none_any h (all_pos hl)
  have hid := Idle_any h hl
  by_cases h0 : u = 0
  · have hg : Hid (ClaimT l u p w (.returned (.int .i64 1)) w) := ⟨OffB.refl _ _, 1, l, rfl, ⟨fun _ => ⟨rfl, rfl⟩, fun hx => absurd h0 hx, fun hx => absurd h0 hx⟩, h, hl, rfl⟩
    subst h0
    clear h hid
    go_enter Try.func20, Try.ntmps20
    go_wp2_with (go_at_call 23; go_must (refine hno.mono ?_); rintro e w' ⟨rfl, rfl⟩)
    go_ret
    exact hg.out
  · have d0 : ((u : Int) == 0) = false := by simp; omega
    have hb := claim_bad (l := l) hu
    by_cases hP : InP l u 1 1 64
    · have z : bits .andNot .u64 (u : Int) (ofN (isI l) : Nat) = 0 := hb.2 hP
      have hc := claim_use hu hP
      have hg : Hid (ClaimT l u p w (.returned (.int .i64 0)) (w.drew.setCell ⟨p, 1, none⟩ (.int .u64 (ofN (useB (l.mapIdx (claimF u))))))) :=
        ⟨((OffB.refl _ _).drew).setCell, 0, _, rfl, ⟨fun hx => absurd hx h0, fun _ hx => absurd hP hx, fun _ _ => ⟨rfl, rfl⟩⟩, TW_use h.drew (by simp) (claim_bar hP), claim_ok hl, by simp⟩
      have c1 : w.drew.cell? ⟨p, 1, none⟩ = _ := h.drew.facts.c1
      have fz : w.drew.frozen? ⟨p, 1, none⟩ = false := h.drew.facts.fz 1
      clear h hb hP
      replace h0 := Lib.hid h0
      generalize ofN (isI l) = I at *
      generalize ofN (useB l) = U at *
      generalize ofN (useB (l.mapIdx (claimF u))) = V at *
      generalize w.drew = wd at *
      go_enter Try.func20, Try.ntmps20
      go_wp2_with (first | (go_at_call 23; go_must (refine hno.mono ?_); rintro e w' ⟨rfl, rfl⟩) | (go_at_call 14; go_must (refine hid.mono ?_); rintro e w' ⟨rfl, rfl⟩))
      go_ret
      exact hg.out
    · obtain ⟨y, hy⟩ : ∃ y, bits .andNot .u64 (u : Int) (ofN (isI l) : Nat) = y := ⟨_, rfl⟩
      have hy0 : (y != 0) = true := by
        rw [hy] at hb
        simp
        exact fun hx => hP (hb.1 hx)
      have hg : Hid (ClaimT l u p w (.returned (.int .i64 11)) w.drew) := ⟨(OffB.refl _ _).drew, 11, l, rfl, ⟨fun hx => absurd hx h0, fun _ _ => ⟨rfl, rfl⟩, fun _ hx => absurd hx hP⟩, h.drew, hl, rfl⟩
      clear h hb hP
      replace h0 := Lib.hid h0
      generalize ofN (isI l) = I at *
      generalize w.drew = wd at *
      go_enter Try.func20, Try.ntmps20
      go_wp2_with (first | (go_at_call 23; go_must (refine hno.mono ?_); rintro e w' ⟨rfl, rfl⟩) | (go_at_call 14; go_must (refine hid.mono ?_); rintro e w' ⟨rfl, rfl⟩))
      go_ret
      exact hg.out

def GiveT (l : List Int) (u : Nat) (p : Nat) (w : World) (e : Ending) (w' : World) : Prop := OffB p w w' ∧ ∃ (n x : Int) (l' : List Int), e = .returned (.tuple #[.int .i64 n, .int .i64 x]) ∧ GiveR l u n x l' ∧ TW w' p l' ∧ Lok l' ∧ l'.length = l.length

set_option maxRecDepth 100000 in
set_option maxHeartbeats 1000000 in
theorem Give_any (u : Nat) (hu : u < 18446744073709551616) (h : TW w p l) (hl : Lok l) :
    Calls Try.prog 18 #[.pointer (some ⟨p, 0, none⟩), .int .u64 u] w (GiveT l u p w) := by
  have hno := none_any h (all_pos hl)
  have hb := give_bad (l := l) hu
  have c1 : w.cell? ⟨p, 1, none⟩ = _ := h.facts.c1
  have fz : w.frozen? ⟨p, 1, none⟩ = false := h.facts.fz 1
  by_cases hP : InP l u 2 3 64
  · have z : bits .andNot .u64 (u : Int) (ofN (useB l) : Nat) = 0 := hb.2 hP
    have hc := give_use (l := l) hu
    have hnw := give_new (l := l) hu
    have hcn := give_cnt hl hP
    have hlen := fun W => len_fn (ofN fun i => u.testBit i && !barB l i) (ofN_lt _) W
    rw [hcn] at hlen
    have hg : Hid (GiveT l u p w (.returned (.tuple #[.int .i64 (backN l u l.length), .int .i64 0])) (w.setCell ⟨p, 1, none⟩ (.int .u64 (ofN (useB (l.mapIdx (giveF u))))))) :=
      ⟨(OffB.refl _ _).setCell, _, 0, _, rfl, ⟨fun hx => absurd hP hx, fun _ => ⟨rfl, rfl, rfl⟩⟩, TW_use h (by simp) (give_bar hP), give_ok hl, by simp⟩
    have c2 : (w.setCell ⟨p, 1, none⟩ (.int .u64 (ofN (useB (l.mapIdx (giveF u)))))).cell? ⟨p, 2, none⟩ = _ := (T3.used _ h).facts.c2
    clear h hb hP hcn
    generalize backN l u l.length = k at *
    generalize (ofN fun i => u.testBit i && !barB l i) = D at *
    generalize ofN (barB l) = B at *
    generalize ofN (useB l) = U at *
    generalize ofN (useB (l.mapIdx (giveF u))) = V at *
    go_enter Try.func18, Try.ntmps18
    go_wp2_with (first | (go_at_call 23; go_must (refine hno.mono ?_); rintro e w' ⟨rfl, rfl⟩) | (go_at_call 17; go_must (refine (hlen _).mono ?_); rintro e w' ⟨rfl, rfl⟩))
    go_ret2
    exact hg.out
  · obtain ⟨y, hy⟩ : ∃ y, bits .andNot .u64 (u : Int) (ofN (useB l) : Nat) = y := ⟨_, rfl⟩
    have hy0 : (y != 0) = true := by
      rw [hy] at hb
      simp
      exact fun hx => hP (hb.1 hx)
    have hg : Hid (GiveT l u p w (.returned (.tuple #[.int .i64 0, .int .i64 11])) w) := ⟨OffB.refl _ _, 0, 11, l, rfl, ⟨fun _ => ⟨rfl, rfl, rfl⟩, fun hx => absurd hx hP⟩, h, hl, rfl⟩
    clear h hb hP
    generalize ofN (useB l) = U at *
    go_enter Try.func18, Try.ntmps18
    go_wp2_with (go_at_call 23; go_must (refine hno.mono ?_); rintro e w' ⟨rfl, rfl⟩)
    go_ret2
    exact hg.out
end

end Go.Proofs.Ytmedbodjikbmfaa
