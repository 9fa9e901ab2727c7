/-
  Own arithmetic: what is read of a reply's bytes, number by number. Nothing of a program is said here.
-/
import Derived.Test.YtpdnppncdfialaaRyM
import Derived.Test.YtpdnppncdfialaaRdC
namespace Go.Proofs.Ytpdnppncdfialaa

/-- No reply has these bytes. -/
def NoY (l : List UInt8) : Prop := ∀ r, FitsY r → encYb r ≠ l
/-- What was read: a number whose bits tell what is not 0, and k numbers; or an error that no reply's bytes would make. -/
def RI (l : List UInt8) (m k : Nat) (Z : List Int) : Option (List UInt8) → Prop
  | some rest => m < 512 ∧ l = byt 184 :: (enc m ++ (restF Z ++ rest)) ∧ (∀ z ∈ Z, Fit z) ∧ m % 2 ^ k = maskF Z
  | none => NoY l

theorem maskF_take (L : List Int) (k : Nat) : maskF (L.take k) = maskF L % 2 ^ k := by
  induction L generalizing k with
  | nil => simp [maskF]
  | cons a L ih =>
    cases k with
    | zero => simp [maskF, Nat.mod_one]
    | succ k =>
      rw [List.take_succ_cons]
      unfold maskF
      rw [ih k, Nat.pow_succ]
      have h1 := Nat.mod_lt (maskF L) (show 0 < 2 ^ k from Nat.pow_pos (by decide))
      have h3 := Nat.div_add_mod (maskF L) (2 ^ k)
      generalize maskF L % 2 ^ k = r at *
      generalize maskF L / 2 ^ k = q at *
      rw [← h3]
      have e2 : ∀ c, c < 2 → (c + 2 * (2 ^ k * q + r)) % (2 ^ k * 2) = c + 2 * r := fun c hc => by
        have : c + 2 * (2 ^ k * q + r) = (c + 2 * r) + (2 ^ k * 2) * q := by rw [Nat.mul_add, Nat.mul_right_comm (2 ^ k) 2 q, Nat.mul_comm (2 ^ k * q) 2]; omega
        rw [this, Nat.add_mul_mod_self_left, Nat.mod_eq_of_lt (by omega)]
      split
      · rw [e2 0 (by decide)]
      · rw [e2 1 (by decide)]
theorem restF_append (a b : List Int) : restF (a ++ b) = restF a ++ restF b := by simp [restF]
theorem mod_more (m k : Nat) : m % 2 ^ (k + 1) = m % 2 ^ k + 2 ^ k * (m / 2 ^ k % 2) := by
  rw [Nat.pow_succ, Nat.mod_mul]

/-- A reply that begins so goes on with what was not read. -/
theorem ri_part {l rest : List UInt8} {m k : Nat} {Z : List Int} (h : RI l m k Z (some rest)) (hk : Z.length = k) (hk9 : k < 9) {r : Ry} (hf : FitsY r) (he : encYb r = l) :
    Fit ((numsY r).getD k 0) ∧ maskF (numsY r) = m ∧ ((numsY r).getD k 0 ≠ 0 ↔ m / 2 ^ k % 2 = 1) ∧ ∃ tl, rest = (if (numsY r).getD k 0 = 0 then [] else enc (zg ((numsY r).getD k 0))) ++ tl := by
  obtain ⟨h1, h2, h3, h4⟩ := h
  rw [h2] at he
  unfold encYb at he
  rw [List.cons.injEq] at he
  have m1 := mask9 r
  obtain ⟨e1, e2⟩ := enc_prefix (by omega) (by omega) he.2
  have hl9 : (numsY r).length = 9 := rfl
  have hsplit : numsY r = (numsY r).take k ++ (numsY r).getD k 0 :: (numsY r).drop (k + 1) := by
    have h0 : k < (numsY r).length := by omega
    have e9 : (numsY r).getD k 0 = (numsY r)[k]'h0 := by simp [List.getD, h0]
    rw [e9]
    exact ((List.take_append_drop k (numsY r)).symm.trans (by rw [List.drop_eq_getElem_cons h0]))
  have htl : ((numsY r).take k).length = k := by rw [List.length_take]; omega
  have hfz : ∀ z ∈ numsY r, Fit z := fun z hz => hf z hz
  have hzk : Fit ((numsY r).getD k 0) := hfz _ (by simp [List.getD, hl9, hk9])
  have e3 : restF ((numsY r).take k) ++ restF ((numsY r).getD k 0 :: (numsY r).drop (k + 1)) = restF Z ++ rest := by rw [← restF_append, ← hsplit]; exact e2
  have hm : maskF ((numsY r).take k) = maskF Z := by rw [maskF_take, e1]; exact h4
  obtain ⟨e4, e5⟩ := rest_inj ((numsY r).take k) Z _ _ (by omega) (fun z hz => hfz z (List.mem_of_mem_take hz)) h3 hm e3
  refine ⟨hzk, e1, ?_, restF ((numsY r).drop (k + 1)), by rw [← e5, restF_cons]⟩
  have e6 : maskF ((numsY r).take (k + 1)) = m % 2 ^ (k + 1) := by rw [maskF_take, e1]
  have e7 : (numsY r).take (k + 1) = (numsY r).take k ++ [(numsY r).getD k 0] := by
    rw [List.take_succ_eq_append_getElem (by omega)]
    simp [List.getD, hl9, hk9]
  rw [e7, maskF_snoc, htl, maskF_take, e1, mod_more] at e6
  have hp : 0 < 2 ^ k := Nat.pow_pos (by decide)
  have hb : m / 2 ^ k % 2 = 0 ∨ m / 2 ^ k % 2 = 1 := by omega
  generalize (numsY r).getD k 0 = z at *
  rcases hb with hb | hb
  · rw [hb] at e6 ⊢
    by_cases hz : z = 0
    · simp [hz]
    · rw [if_neg hz] at e6; omega
  · rw [hb] at e6 ⊢
    by_cases hz : z = 0
    · rw [if_pos hz] at e6; omega
    · simp [hz]

theorem ri_zero {l : List UInt8} {m k : Nat} {Z : List Int} {o : Option (List UInt8)} (h : RI l m k Z o) (hb : m / 2 ^ k % 2 = 0) : RI l m (k + 1) (Z ++ [0]) o := by
  cases o with
  | none => exact h
  | some rest =>
    obtain ⟨h1, h2, h3, h4⟩ := h
    refine ⟨h1, by rw [restF_snoc, if_pos rfl, List.append_nil]; exact h2, fun z hz => ?_, ?_⟩
    · rcases List.mem_append.1 hz with hz | hz
      · exact h3 z hz
      · simp only [List.mem_singleton] at hz
        subst hz
        exact ⟨by decide, by decide⟩
    · rw [mod_more, hb, maskF_snoc, if_pos rfl, h4, Nat.mul_zero]
theorem ri_one {l : List UInt8} {m k : Nat} {Z : List Int} {o o' : Option (List UInt8)} {y : Int} (h : RI l m k Z o) (hk : Z.length = k) (hk9 : k < 9) (hb : m / 2 ^ k % 2 = 1) (hs : SR o y o') : RI l m (k + 1) (Z ++ [y]) (bif (y != 0) then o' else none) := by
  cases o with
  | none =>
    obtain ⟨rfl, rfl⟩ := hs
    exact h
  | some rest =>
    have hno : (∀ z tl, Fit z → z ≠ 0 → rest ≠ enc (zg z) ++ tl) → NoY l := fun hq r hf he => by
      obtain ⟨p1, p2, p3, tl, p4⟩ := ri_part h hk hk9 hf he
      have hz := p3.2 hb
      rw [if_neg hz] at p4
      exact hq _ tl p1 hz p4
    rcases hs with ⟨hf, rest', hr, rfl⟩ | ⟨rfl, rfl, hn⟩
    · by_cases hy : y = 0
      · subst hy
        refine hno fun z tl hz hz0 he => hz0 ?_
        rw [hr] at he
        exact (zg_inj (enc_prefix (zg_lt hf) (zg_lt hz) he).1).symm
      · have : (y != 0) = true := by simp [hy]
        rw [this]
        obtain ⟨h1, h2, h3, h4⟩ := h
        refine ⟨h1, by rw [restF_snoc, if_neg hy, h2, hr, List.append_assoc], fun z hz => ?_, ?_⟩
        · rcases List.mem_append.1 hz with hz | hz
          · exact h3 z hz
          · simp only [List.mem_singleton] at hz
            subst hz
            exact hf
        · rw [mod_more, hb, maskF_snoc, if_neg hy, h4, hk, Nat.mul_one]
    · exact hno fun z tl hz _ he => hn z tl hz he
set_option maxRecDepth 100000 in
theorem ri_begin (n : Nat) (hn : n < 18446744073709551616) (rest : List UInt8) : RI (byt 184 :: (enc n ++ rest)) n 0 [] (bif decide ((n : Int) < 512) then some rest else none) := by
  rcases Nat.lt_or_ge n 512 with h5 | h5
  · have h6 : decide ((n : Int) < 512) = true := decide_eq_true (by omega)
    rw [h6]
    show n < 512 ∧ _ ∧ _ ∧ _
    refine ⟨h5, by simp [restF], fun z hz => absurd hz (by simp), ?_⟩
    rw [Nat.pow_zero, Nat.mod_one]
    rfl
  · have h6 : decide ((n : Int) < 512) = false := decide_eq_false (by omega)
    rw [h6]
    intro r hf he
    unfold encYb at he
    rw [List.cons.injEq] at he
    have m1 := mask9 r
    have := (enc_prefix (by omega) hn he.2).1
    omega
set_option maxRecDepth 100000 in
/-- How reading begins. -/
theorem ri_start {l : List UInt8} {c : UInt8} {o1 o3 : Option (List UInt8)} {x : Int} (h1 : YR (some l) c o1) (h2 : NR (bif ((c.toNat : Int) == 184) then o1 else none) x o3) :
    ∃ m : Nat, x = m ∧ m < 9223372036854775808 ∧ RI l m 0 [] (bif decide (x < 512) then o3 else none) := by
  have hno : (bif ((c.toNat : Int) == 184) then o1 else none) = none → NoY l → ∃ m : Nat, x = m ∧ m < 9223372036854775808 ∧ RI l m 0 [] (bif decide (x < 512) then o3 else none) := fun he hn => by
    rw [he] at h2
    obtain ⟨rfl, rfl⟩ := h2
    exact ⟨0, rfl, by decide, hn⟩
  match l, h1 with
  | [], h1 =>
    obtain ⟨rfl, rfl⟩ := h1
    exact hno (by decide) fun r _ he => by unfold encYb at he; cases he
  | a :: t, h1 =>
    obtain ⟨rfl, rfl⟩ := h1
    by_cases ha : (c.toNat : Int) = 184
    · have ta : ((c.toNat : Int) == 184) = true := beq_iff_eq.2 ha
      rw [ta] at h2
      have hc : c = byt 184 := by
        have : c.toNat = 184 := by omega
        apply UInt8.toNat_inj.1
        rw [byt_toNat (by decide), this]
      subst hc
      rcases h2 with ⟨n, rfl, hn, rest, rfl, rfl⟩ | ⟨rfl, rfl, hn⟩
      · have hn2 : n < 9223372036854775808 := hn
        clear hn
        refine ⟨n, rfl, hn2, ?_⟩
        exact ri_begin n (by omega) rest
      · refine ⟨0, rfl, by decide, ?_⟩
        intro r hf he
        unfold encYb at he
        rw [List.cons.injEq] at he
        have m1 := mask9 r
        exact hn _ _ (by omega) he.2.symm
    · have ta : ((c.toNat : Int) == 184) = false := beq_eq_false_iff_ne.2 ha
      refine hno (by rw [ta]; rfl) fun r _ he => ha ?_
      unfold encYb at he
      rw [List.cons.injEq] at he
      rw [← he.1, byt_toNat (by decide)]
      rfl
/-- How it ends. -/
theorem ri_end {l : List UInt8} {m : Nat} {Z : List Int} {o : Option (List UInt8)} {p : Int} (h : RI l m 9 Z o) (hk : Z.length = 9) (he : ER o p) :
    (p = 0 ∧ ∃ r, numsY r = Z ∧ FitsY r ∧ encYb r = l) ∨ (Wrong p ∧ NoY l) := by
  obtain ⟨z1, z2, z3, z4, z5, z6, z7, z8, z9, rfl⟩ : ∃ z1 z2 z3 z4 z5 z6 z7 z8 z9, Z = [z1, z2, z3, z4, z5, z6, z7, z8, z9] := by
    match Z, hk with
    | [z1, z2, z3, z4, z5, z6, z7, z8, z9], _ => exact ⟨z1, z2, z3, z4, z5, z6, z7, z8, z9, rfl⟩
  obtain ⟨q, hq⟩ : ∃ q : Ry, numsY q = [z1, z2, z3, z4, z5, z6, z7, z8, z9] := ⟨⟨z1, z2, z3, z4, z5, z6, z7, z8, z9⟩, rfl⟩
  rw [← hq] at h
  rw [← hq]
  match o, h, he with
  | none, h, he => exact .inr ⟨he, h⟩
  | some [], h, he =>
    obtain ⟨h1, h2, h3, h4⟩ := h
    have hm : m = maskF (numsY q) := by omega
    refine .inl ⟨he, q, rfl, h3, ?_⟩
    rw [h2, hm, List.append_nil]
    rfl
  | some (c :: t), h, he =>
    obtain ⟨h1, h2, h3, h4⟩ := h
    have hm : m = maskF (numsY q) := by omega
    refine .inr ⟨he, fun r hf hr => ?_⟩
    rw [h2] at hr
    unfold encYb at hr
    rw [List.cons.injEq] at hr
    have m1 := mask9 r
    obtain ⟨e1, e2⟩ := enc_prefix (by omega) (by omega) hr.2
    obtain ⟨e3, e4⟩ := rest_inj (numsY r) (numsY q) [] (c :: t) rfl hf h3 (by omega) (by simpa using e2)
    cases e4

end Go.Proofs.Ytpdnppncdfialaa
