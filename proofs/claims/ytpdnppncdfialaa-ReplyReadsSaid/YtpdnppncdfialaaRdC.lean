/-
  Own walks: a reader's calls in one form each, whether an error was met or not.
-/
import Derived.Test.YtpdnppncdfialaaRdB
namespace Go.Proofs.Ytpdnppncdfialaa
open Go.RowKit

/-- A reader in block b: what is left, or that an error was met. -/
def RU (w : World) (b : Nat) : Option (List UInt8) → Prop
  | some l => RS w b l 0 ∧ l.length ≤ 10000
  | none => ∃ q, Wrong q ∧ RS w b [] q
theorem RU.lt {w : World} {b : Nat} {o : Option (List UInt8)} (h : RU w b o) : b < w.heap.size := by
  cases o with
  | some l => exact h.1.lt
  | none => obtain ⟨q, _, h⟩ := h; exact h.lt
theorem RU.below {w w' : World} {b B : Nat} {o : Option (List UInt8)} (h : RU w b o) (hb : Below B w w') (hB : b < B) : RU w' b o := by
  cases o with
  | some l => exact ⟨h.1.below hb hB, h.2⟩
  | none => obtain ⟨q, hq, h⟩ := h; exact ⟨q, hq, h.below hb hB⟩
theorem RU.ext {w w' : World} {b : Nat} {o : Option (List UInt8)} (h : RU w b o) (he : Reg.Ext w w') : RU w' b o := h.below he h.lt

def Fit (x : Int) : Prop := -9223372036854775808 ≤ x ∧ x ≤ 9223372036854775807
/-- What Sign reads. -/
def SR : Option (List UInt8) → Int → Option (List UInt8) → Prop
  | none, x, o' => x = 0 ∧ o' = none
  | some l, x, o' => (Fit x ∧ ∃ rest, l = enc (zg x) ++ rest ∧ o' = some rest) ∨ (x = 0 ∧ o' = none ∧ ∀ y rest, Fit y → l ≠ enc (zg y) ++ rest)
/-- What Bool reads. -/
def BR : Option (List UInt8) → Bool → Option (List UInt8) → Prop
  | none, x, o' => x = false ∧ o' = none
  | some l, x, o' => (∃ rest, l = (if x then 1 else 0) :: rest ∧ o' = some rest) ∨ (x = false ∧ o' = none ∧ ∀ (y : Bool) (rest : List UInt8), l ≠ (if y then 1 else 0) :: rest)
/-- What Byte reads. -/
def YR : Option (List UInt8) → UInt8 → Option (List UInt8) → Prop
  | none, c, o' => c = 0 ∧ o' = none
  | some [], c, o' => c = 0 ∧ o' = none
  | some (a :: l), c, o' => c = a ∧ o' = some l
/-- What Num reads. -/
def NR : Option (List UInt8) → Int → Option (List UInt8) → Prop
  | none, x, o' => x = 0 ∧ o' = none
  | some l, x, o' => (∃ n : Nat, x = n ∧ n < 2 ^ 63 ∧ ∃ rest, l = enc n ++ rest ∧ o' = some rest) ∨ (x = 0 ∧ o' = none ∧ NNone 63 l)
/-- What End tells. -/
def ER : Option (List UInt8) → Int → Prop
  | some [], p => p = 0
  | _, p => Wrong p
/-- What Err tells. -/
def FR : Option (List UInt8) → Int → Prop
  | some _, p => p = 0
  | none, p => Wrong p

section
variable {w : World} {b : Nat} {o : Option (List UInt8)}

theorem Sign_un (h : RU w b o) : Calls Try.prog 20 #[.pointer (some ⟨b, 0, none⟩)] w fun e w' => ∃ x o', e = .returned (.int .i64 x) ∧ SR o x o' ∧ RU w' b o' ∧ Only b w w' := by
  cases o with
  | some l =>
    refine (Sign_rs h.2 h.1).mono ?_
    rintro e w' ⟨⟨x, rest, hx, hl, rfl, hr⟩ | ⟨no, rfl, q, hq, hr⟩, ho⟩
    · refine ⟨x, some rest, rfl, .inl ⟨hx, rest, hl, rfl⟩, ⟨hr, ?_⟩, ho⟩
      have := h.2
      rw [hl, List.length_append] at this
      omega
    · exact ⟨0, none, rfl, .inr ⟨rfl, rfl, fun y rest hy => no y rest hy⟩, ⟨q, hq, hr⟩, ho⟩
  | none =>
    obtain ⟨q, hq, h⟩ := h
    refine (Sign_bad hq.ne h).mono ?_
    rintro e w' ⟨rfl, rfl⟩
    exact ⟨0, none, rfl, ⟨rfl, rfl⟩, ⟨q, hq, h⟩, Only.refl _ _⟩

theorem Byte_un (h : RU w b o) : Calls Try.prog 18 #[.pointer (some ⟨b, 0, none⟩)] w fun e w' => ∃ c o', e = .returned (.int .u8 (UInt8.toNat c)) ∧ YR o c o' ∧ RU w' b o' ∧ Only b w w' := by
  match o, h with
  | some (a :: l), h =>
    have hl : l.length ≤ 10000 := by have := h.2; rw [List.length_cons] at this; omega
    refine (Byte_rs a h.1 (by omega)).mono ?_
    rintro e w' ⟨rfl, hr, ho⟩
    exact ⟨a, some l, rfl, ⟨rfl, rfl⟩, ⟨hr, hl⟩, ho⟩
  | some [], h =>
    refine (Byte_end h.1).mono ?_
    rintro e w' ⟨rfl, hr, ho⟩
    exact ⟨0, none, rfl, ⟨rfl, rfl⟩, ⟨2, wrong2, hr⟩, ho⟩
  | none, h =>
    obtain ⟨q, hq, h⟩ := h
    refine (Byte_bad hq.ne h).mono ?_
    rintro e w' ⟨rfl, rfl⟩
    exact ⟨0, none, rfl, ⟨rfl, rfl⟩, ⟨q, hq, h⟩, Only.refl _ _⟩

theorem End_un (h : RU w b o) : Calls Try.prog 21 #[.pointer (some ⟨b, 0, none⟩)] w fun e w' => (∃ p, e = .returned (.int .i64 p) ∧ ER o p) ∧ Only b w w' := by
  match o, h with
  | some l, h =>
    refine (End_rs (q := 0) h.2 h.1 (fun hq => absurd rfl hq)).mono ?_
    rintro e w' ⟨⟨p, rfl, hp⟩, ho⟩
    refine ⟨⟨p, rfl, ?_⟩, ho⟩
    rcases hp with ⟨_, rfl, rfl⟩ | ⟨_, hl, rfl⟩ | ⟨hq, _⟩
    · rfl
    · match l, hl with
      | _ :: _, _ => exact wrong3
    · exact absurd rfl hq
  | none, h =>
    obtain ⟨q, hq, h⟩ := h
    refine (End_rs (l := []) (by simp) h (fun _ => rfl)).mono ?_
    rintro e w' ⟨⟨p, rfl, hp⟩, ho⟩
    refine ⟨⟨p, rfl, ?_⟩, ho⟩
    have := hq.ne
    rcases hp with ⟨h0, _⟩ | ⟨h0, _⟩ | ⟨_, rfl⟩
    · exact absurd h0 this
    · exact absurd h0 this
    · exact hq

theorem Err_un (h : RU w b o) : Calls Try.prog 31 #[.pointer (some ⟨b, 0, none⟩)] w fun e w' => (∃ p, e = .returned (.int .i64 p) ∧ FR o p) ∧ w = w' := by
  match o, h with
  | some l, h =>
    refine (Err_rs h.1).mono ?_
    rintro e w' ⟨rfl, rfl⟩
    exact ⟨⟨0, rfl, rfl⟩, rfl⟩
  | none, h =>
    obtain ⟨q, hq, h⟩ := h
    refine (Err_rs h).mono ?_
    rintro e w' ⟨rfl, rfl⟩
    exact ⟨⟨q, rfl, hq⟩, rfl⟩

theorem Read_un {l : List UInt8} (v : Value) (h : BRead w v l) (hl : l.length ≤ 10000) : Calls Try.prog 16 #[v] w fun e w' => e = .returned (.pointer (some ⟨w.heap.size, 0, none⟩)) ∧ RU w' w.heap.size (some l) ∧ Reg.Ext w w' := by
  refine (Read_rs v h).mono ?_
  rintro e w' ⟨rfl, h1, h2⟩
  exact ⟨rfl, ⟨h1, hl⟩, h2⟩

theorem Num_un (h : RU w b o) : Calls Try.prog 19 #[.pointer (some ⟨b, 0, none⟩)] w fun e w' => ∃ x o', e = .returned (.int .i64 x) ∧ NR o x o' ∧ RU w' b o' ∧ Only b w w' := by
  cases o with
  | some l =>
    have hn := number_rs 63 (.inl rfl) h.2 h.1
    have hl := Lib.hid h.2
    clear h
    go_enter Try.func19, Try.ntmps19
    go_wp2_with fail
    go_at_call 29
    refine hn.mono ?_
    clear hn
    rintro e w1 ⟨⟨x, rest, hx, hxe, rfl, hr⟩ | ⟨hno, rfl, q, hq, hr⟩, ho⟩
    · have hx63 : x ≤ 9223372036854775807 := by omega
      have HX := Lib.hid hx
      have HE := Lib.hid hxe
      clear hx hxe
      go_wp2_with fail
      go_ret
      refine ⟨x, some rest, rfl, .inl ⟨x, rfl, HX.out, rest, HE.out, rfl⟩, ⟨hr, ?_⟩, ho⟩
      have := hl.out
      rw [HE.out, List.length_append] at this
      omega
    · have HN := Lib.hid hno
      clear hno
      go_wp2_with fail
      go_ret
      exact ⟨0, none, rfl, .inr ⟨rfl, rfl, HN.out⟩, ⟨q, hq, hr⟩, ho⟩
  | none =>
    obtain ⟨q, hq, h⟩ := h
    have hn := number_bad 63 hq.ne h
    go_enter Try.func19, Try.ntmps19
    go_wp2_with (go_at_call 29; go_must (refine hn.mono ?_); rintro e w1 ⟨rfl, rfl⟩)
    go_ret
    exact ⟨0, none, rfl, ⟨rfl, rfl⟩, ⟨q, hq, h⟩, Only.refl _ _⟩
end

end Go.Proofs.Ytpdnppncdfialaa
