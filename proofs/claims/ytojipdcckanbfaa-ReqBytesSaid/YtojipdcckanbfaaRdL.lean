/-
  Own walks: a boolean, whatever bytes there are.
-/
import Derived.Test.YtojipdcckanbfaaRdC
namespace Go.Proofs.Ytojipdcckanbfaa
open Go.RowKit

section
variable {w : World} {b : Nat} {l : List UInt8} {o : Option (List UInt8)}

/-- A boolean that begins the bytes, or none. -/
def ReadsBool (l : List UInt8) (w' : World) (b : Nat) (e : Ending) : Prop :=
  (∃ (x : Bool) (rest : List UInt8), l = (if x then 1 else 0) :: rest ∧ e = .returned (.bool x) ∧ RS w' b rest 0) ∨
  ((∀ (x : Bool) (rest : List UInt8), l ≠ (if x then 1 else 0) :: rest) ∧ e = .returned (.bool false) ∧ ∃ q, Wrong q ∧ RS w' b [] q)

set_option maxHeartbeats 1000000 in
theorem Bool_rs (hl : l.length ≤ 10000) (h : RS w b l 0) : Calls Try.prog 26 #[.pointer (some ⟨b, 0, none⟩)] w fun e w' => ReadsBool l w' b e ∧ Only b w w' := by
  match l, hl, h with
  | [], _, h =>
    go_enter Try.func26, Try.ntmps26
    go_wp2_with (go_at_call 24; go_must (refine (Byte_end h).mono ?_); rintro e w1 ⟨rfl, h2, o2⟩)
    go_ret
    exact ⟨.inr ⟨fun x rest => by simp, rfl, 2, wrong2, h2⟩, o2⟩
  | c :: l, hl, h =>
    have hl3 : l.length ≤ 100000 := by simp at hl; omega
    clear hl
    obtain ⟨n, hn⟩ : ∃ n, n = c.toNat := ⟨_, rfl⟩
    have hnn : Hid ((c.toNat : Int) = (n : Int)) := by show _ = _; rw [hn]
    by_cases h0 : n = 0
    · have hc : c = 0 := UInt8.toNat_inj.1 (by rw [← hn, h0]; rfl)
      subst hc
      clear hn hnn h0
      go_enter Try.func26, Try.ntmps26
      go_wp2_with (go_at_call 24; go_must (refine (Byte_rs 0 h hl3).mono ?_); rintro e w1 ⟨rfl, h2, o2⟩)
      go_ret
      exact ⟨.inl ⟨false, l, rfl, rfl, h2⟩, o2⟩
    by_cases h1 : n = 1
    · have hc : c = 1 := UInt8.toNat_inj.1 (by rw [← hn, h1]; rfl)
      subst hc
      clear hn hnn h0 h1
      go_enter Try.func26, Try.ntmps26
      go_wp2_with (go_at_call 24; go_must (refine (Byte_rs 1 h hl3).mono ?_); rintro e w1 ⟨rfl, h2, o2⟩)
      go_ret
      exact ⟨.inl ⟨true, l, rfl, rfl, h2⟩, o2⟩
    have hno : Hid (∀ (x : Bool) (rest : List UInt8), c :: l ≠ (if x then 1 else 0) :: rest) := by
      show ∀ (x : Bool) (rest : List UInt8), c :: l ≠ (if x then 1 else 0) :: rest
      intro x rest he
      rw [List.cons.injEq] at he
      have := he.1
      subst this
      cases x
      · exact h0 hn
      · exact h1 hn
    have t1 : (1 : Int) < (n : Int) := by omega
    have t2 : ((n : Int) == 1) = false := beq_eq_false_iff_ne.2 (by omega)
    clear hn h0 h1
    go_enter Try.func26, Try.ntmps26
    go_wp2_with (first | (go_at_call 24; go_must (refine (Byte_rs c h hl3).mono ?_); rintro e w1 ⟨rfl, h2, o2⟩; rw [hnn.out]) | (go_at_call 30; go_must (refine (Fail_rs 4 (by decide) h2).mono ?_); rintro e w3 ⟨rfl, h3, o3⟩))
    go_ret
    exact ⟨.inr ⟨hno.out, rfl, 4, wrong4, h3⟩, o2.trans o3⟩

theorem Bool_bad {q : Int} (hq : q ≠ 0) (h : RS w b [] q) : Calls Try.prog 26 #[.pointer (some ⟨b, 0, none⟩)] w fun e w' => e = .returned (.bool false) ∧ w = w' := by
  have h0 := Byte_bad hq h
  clear hq
  go_enter Try.func26, Try.ntmps26
  go_wp2_with (go_at_call 24; go_must (refine h0.mono ?_); rintro e w1 ⟨rfl, rfl⟩)
  go_ret
  exact ⟨rfl, rfl⟩

theorem Bool_un (h : RU w b o) : Calls Try.prog 26 #[.pointer (some ⟨b, 0, none⟩)] w fun e w' => ∃ x o', e = .returned (.bool x) ∧ BR o x o' ∧ RU w' b o' ∧ Only b w w' := by
  cases o with
  | some l =>
    refine (Bool_rs h.2 h.1).mono ?_
    rintro e w' ⟨⟨x, rest, hl, rfl, hr⟩ | ⟨no, rfl, q, hq, hr⟩, ho⟩
    · refine ⟨x, some rest, rfl, .inl ⟨rest, hl, rfl⟩, ⟨hr, ?_⟩, ho⟩
      have := h.2
      rw [hl, List.length_cons] at this
      omega
    · exact ⟨false, none, rfl, .inr ⟨rfl, rfl, no⟩, ⟨q, hq, hr⟩, ho⟩
  | none =>
    obtain ⟨q, hq, h⟩ := h
    refine (Bool_bad hq.ne h).mono ?_
    rintro e w' ⟨rfl, rfl⟩
    exact ⟨false, none, rfl, ⟨rfl, rfl⟩, ⟨q, hq, h⟩, Only.refl _ _⟩

end

end Go.Proofs.Ytojipdcckanbfaa
