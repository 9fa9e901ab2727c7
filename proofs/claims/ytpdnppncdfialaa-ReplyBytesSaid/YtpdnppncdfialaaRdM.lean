/-
  Own arithmetic: reading a number of groups of seven bits, whatever bytes there are. Nothing of a program is said here.
-/
import Derived.Test.YtpdnppncdfialaaWireC
namespace Go.Proofs.Ytpdnppncdfialaa

/-- The number that may begin the bytes l, once k groups are read (their sum acc), and l' is left. -/
def NInv (bits : Nat) (l : List UInt8) (k f acc : Nat) (l' : List UInt8) : Prop :=
  ∀ x rest, (x < 2 ^ bits ∧ l = enc x ++ rest) ↔ ∃ u, (k = 0 ∨ u ≠ 0) ∧ u < 128 ^ (f + 1) ∧ acc + u * 128 ^ k = x ∧ x < 2 ^ bits ∧ l' = encF f u ++ rest

/-- No number begins the bytes. -/
def NNone (bits : Nat) (l : List UInt8) : Prop := ∀ x rest, x < 2 ^ bits → l ≠ enc x ++ rest

theorem ninv_start {bits : Nat} (hb : bits ≤ 64) (l : List UInt8) : NInv bits l 0 9 0 l := by
  intro x rest
  constructor
  · rintro ⟨hx, rfl⟩
    have h2 : 2 ^ bits ≤ 2 ^ 64 := Nat.pow_le_pow_right (by decide) hb
    exact ⟨x, .inl rfl, by omega, by simp, hx, rfl⟩
  · rintro ⟨u, _, _, hs, hx, h⟩
    have : u = x := by simpa using hs
    subst this
    exact ⟨hx, h⟩
theorem encF_nil {f u : Nat} {l : List UInt8} : encF f u ++ l ≠ [] := by
  have := (encF_length f u).1
  intro h
  have := congrArg List.length h
  rw [List.length_append] at this
  simp only [List.length_nil] at this
  omega
theorem ninv_nil {bits k f acc : Nat} {l : List UInt8} (h : NInv bits l k f acc []) : NNone bits l := by
  intro x rest hx he
  obtain ⟨u, _, _, _, _, h2⟩ := (h x rest).1 ⟨hx, he⟩
  exact encF_nil h2.symm
/-- The first byte of a number's bytes. -/
theorem encF_head {f u : Nat} {c : UInt8} {l rest : List UInt8} (h : c :: l = encF f u ++ rest) (hf : u < 128 ^ (f + 1)) : (u < 128 ∧ c.toNat = u ∧ l = rest) ∨ (128 ≤ u ∧ c.toNat = u % 128 + 128 ∧ ∃ g, f = g + 1 ∧ l = encF g (u / 128) ++ rest) := by
  by_cases h1 : u < 128
  · rw [encF_last h1] at h
    simp only [List.cons_append, List.nil_append, List.cons.injEq] at h
    obtain ⟨rfl, rfl⟩ := h
    exact .inl ⟨h1, byt_toNat (by omega), rfl⟩
  · have hf1 := encF_stop hf (by omega)
    obtain ⟨g, rfl⟩ : ∃ g, f = g + 1 := ⟨f - 1, by omega⟩
    rw [encF_step (by omega)] at h
    simp only [List.cons_append, List.cons.injEq] at h
    obtain ⟨rfl, rfl⟩ := h
    exact .inr ⟨by omega, byt_toNat (by omega), g, rfl, rfl⟩
theorem ninv_big {bits k f acc : Nat} {l l' : List UInt8} {c : UInt8} (h : NInv bits l k f acc (c :: l')) (hc : 2 ^ (bits - 7 * k) ≤ c.toNat) : NNone bits l := by
  intro x rest hx he
  obtain ⟨u, h0, hu, hs, _, h2⟩ := (h x rest).1 ⟨hx, he⟩
  have hr : u ≠ 0 → u < 2 ^ (bits - 7 * k) ∧ 7 * k ≤ bits := fun h => room_of hx hs h
  have hc256 : c.toNat < 256 := c.toNat_lt
  have hp : 0 < 2 ^ (bits - 7 * k) := Nat.pow_pos (by decide)
  rcases encF_head h2 hu with ⟨h3, h4, _⟩ | ⟨h3, h4, _⟩
  · by_cases hz : u = 0
    · omega
    · have := (hr hz).1; omega
  · have h5 := (hr (by omega)).1
    have h6 : bits - 7 * k < 8 := by
      rcases Nat.lt_or_ge (bits - 7 * k) 8 with h | h
      · exact h
      · have : 2 ^ 8 ≤ 2 ^ (bits - 7 * k) := Nat.pow_le_pow_right (by decide) h
        omega
    have h7 : 2 ^ (bits - 7 * k) ≤ 2 ^ 7 := Nat.pow_le_pow_right (by decide) (by omega)
    omega
theorem ninv_zero {bits k f acc : Nat} {l l' : List UInt8} {c : UInt8} (h : NInv bits l k f acc (c :: l')) (hc : c.toNat = 0) (hk : 0 < k) : NNone bits l := by
  intro x rest hx he
  obtain ⟨u, h0, hu, hs, _, h2⟩ := (h x rest).1 ⟨hx, he⟩
  rcases encF_head h2 hu with ⟨h3, h4, _⟩ | ⟨h3, h4, _⟩ <;> omega
theorem ninv_done {bits k f acc : Nat} {l l' : List UInt8} {c : UInt8} (h : NInv bits l k f acc (c :: l')) (hacc : acc < 128 ^ k) (h7 : 7 * k ≤ bits) (hc : c.toNat < 128) (hr : c.toNat < 2 ^ (bits - 7 * k)) (h0 : c.toNat ≠ 0 ∨ k = 0) :
    acc + c.toNat * 128 ^ k < 2 ^ bits ∧ l = enc (acc + c.toNat * 128 ^ k) ++ l' := by
  have hx : acc + c.toNat * 128 ^ k < 2 ^ bits := by
    have h1 : 2 ^ bits = 2 ^ (bits - 7 * k) * 2 ^ (7 * k) := by rw [← Nat.pow_add]; congr 1; omega
    rw [h1, ← pow_128]
    have h2 : (c.toNat + 1) * 128 ^ k ≤ 2 ^ (bits - 7 * k) * 128 ^ k := Nat.mul_le_mul_right _ (by omega)
    rw [Nat.add_mul, Nat.one_mul] at h2
    omega
  refine (h _ _).2 ⟨c.toNat, by omega, ?_, rfl, hx, ?_⟩
  · have : 128 ^ 1 ≤ 128 ^ (f + 1) := Nat.pow_le_pow_right (by decide) (by omega)
    omega
  · rw [encF_last hc]
    have : byt c.toNat = c := by unfold byt; simp
    rw [this]; rfl
theorem ninv_step {bits k f acc : Nat} {l l' : List UInt8} {c : UInt8} (h : NInv bits l k (f + 1) acc (c :: l')) (hacc : acc < 128 ^ k) (hc : 128 ≤ c.toNat) :
    NInv bits l (k + 1) f (acc + (c.toNat - 128) * 128 ^ k) l' ∧ acc + (c.toNat - 128) * 128 ^ k < 128 ^ (k + 1) := by
  have hc256 : c.toNat < 256 := c.toNat_lt
  constructor
  · intro x rest
    rw [h x rest]
    constructor
    · rintro ⟨u, h0, hu, hs, hx, h2⟩
      rcases encF_head h2 hu with ⟨h3, h4, _⟩ | ⟨h3, h4, g, h5, h6⟩
      · omega
      · obtain rfl : g = f := by omega
        refine ⟨u / 128, .inr (by omega), ?_, ?_, hx, h6⟩
        · have hp : 128 ^ (g + 1 + 1) = 128 ^ (g + 1) * 128 := Nat.pow_succ ..
          omega
        · have hps := pow_split u k
          have : c.toNat - 128 = u % 128 := by omega
          rw [this]; omega
    · rintro ⟨v, h0, hv, hs, hx, h2⟩
      have hv0 : v ≠ 0 := by omega
      have hm : (v * 128 + (c.toNat - 128)) % 128 = c.toNat - 128 := by omega
      have hd : (v * 128 + (c.toNat - 128)) / 128 = v := by omega
      refine ⟨v * 128 + (c.toNat - 128), .inr (by omega), ?_, ?_, hx, ?_⟩
      · have hp : 128 ^ (f + 1 + 1) = 128 ^ (f + 1) * 128 := Nat.pow_succ ..
        omega
      · have hps := pow_split (v * 128 + (c.toNat - 128)) k
        rw [hm, hd] at hps
        omega
      · rw [encF_step (by omega), hm, hd, h2]
        have : byt (c.toNat - 128 + 128) = c := by unfold byt; rw [Nat.sub_add_cancel hc]; simp
        rw [this]; rfl
  · have hp : 128 ^ (k + 1) = 128 ^ k * 128 := Nat.pow_succ ..
    have h7 : (c.toNat - 128) * 128 ^ k ≤ 127 * 128 ^ k := Nat.mul_le_mul_right _ (by omega)
    omega
/-- Of a byte with more behind it there is room for more. -/
theorem ninv_more {bits k f : Nat} (hb : bits ≤ 64) (hk : k + f = 9) {c : Nat} (hc : 128 ≤ c) (hr : c < 2 ^ (bits - 7 * k)) : 1 ≤ f := by
  rcases Nat.lt_or_ge (bits - 7 * k) 8 with h | h
  · have : 2 ^ (bits - 7 * k) ≤ 2 ^ 7 := Nat.pow_le_pow_right (by decide) (by omega)
    omega
  · omega

/-- A shift that leaves something. -/
theorem shr8_some (c : Nat) (y : Int) (hy : 0 ≤ y) (hc : 2 ^ y.toNat ≤ c) (hc8 : c < 256) : ∃ d : Int, Op.shift .shr .u8 (c : Int) .i64 y = pure (.int .u8 d) ∧ (d == 0) = false := by
  unfold Op.shift
  rw [if_neg (by omega)]
  have h8 : y.toNat < 8 := by
    rcases Nat.lt_or_ge y.toNat 8 with h | h
    · exact h
    · have : 2 ^ 8 ≤ 2 ^ y.toNat := Nat.pow_le_pow_right (by decide) h
      omega
  have hm : min y.toNat IntKind.u8.bits = y.toNat := Nat.min_eq_left (by simp [IntKind.bits]; omega)
  refine ⟨(c : Int).fdiv (2 ^ (min y.toNat IntKind.u8.bits)), rfl, ?_⟩
  rw [hm]
  have e : ((2 : Int) ^ y.toNat) = ((2 ^ y.toNat : Nat) : Int) := by simp
  rw [e, Int.fdiv_eq_ediv_of_nonneg _ (Int.natCast_nonneg _)]
  have hd : 0 < c / 2 ^ y.toNat := Nat.div_pos hc (Nat.pow_pos (by decide))
  have : (c : Int) / ((2 ^ y.toNat : Nat) : Int) = ((c / 2 ^ y.toNat : Nat) : Int) := by simp
  rw [this]
  exact beq_eq_false_iff_ne.2 (by omega)

end Go.Proofs.Ytpdnppncdfialaa
