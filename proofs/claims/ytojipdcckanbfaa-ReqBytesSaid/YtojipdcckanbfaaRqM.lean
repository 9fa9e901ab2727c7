/-
  Own arithmetic: the bytes of a request, their sum; which requests may be put; that unlike ones have unlike bytes. Nothing of a program is said here.
-/
import Derived.Test.YtojipdcckanbfaaWireB
import Derived.Test.YtojipdcckanbfaaRuE
namespace Go.Proofs.Ytojipdcckanbfaa

/-- The sum of the first k bytes. -/
def ckStep (s i c : Nat) : Nat := ((31 * s + c) % 256) ^^^ (i % 256)
def ckK (l : List UInt8) : Nat → Nat
  | 0 => l.length % 256
  | k + 1 => ckStep (ckK l k) k (l.getD k 0).toNat
def ckF (l : List UInt8) : Nat := ckK l l.length
theorem ckStep_lt (s i c : Nat) : ckStep s i c < 256 := by
  unfold ckStep
  exact Nat.xor_lt_two_pow (n := 8) (by omega) (by omega)
theorem ckK_lt (l : List UInt8) (k : Nat) : ckK l k < 256 := by
  cases k with
  | zero => exact Nat.mod_lt _ (by decide)
  | succ k => exact ckStep_lt _ _ _

def fieldsQ (r : Rq) : List UInt8 :=
  if r.kind = 1 then encAll [r.user, r.width, r.limit, r.prio] ++ [if r.held then 1 else 0]
  else if r.kind = 2 ∨ r.kind = 3 ∨ r.kind = 4 ∨ r.kind = 5 ∨ r.kind = 6 then enc (zg r.id)
  else if r.kind = 7 ∨ r.kind = 8 then enc (zg r.node)
  else if r.kind = 9 then enc (zg r.till)
  else []
def bodyQ (r : Rq) : List UInt8 := byt 183 :: byt r.kind.toNat :: fieldsQ r
def encQ (r : Rq) : List UInt8 := bodyQ r ++ [byt (ckF (bodyQ r))]
def rightQ (r : Rq) : Bool := decide (1 ≤ r.kind) && decide (r.kind ≤ 13) && decide (cleanR r = r)

theorem fieldsQ_length (r : Rq) : (fieldsQ r).length ≤ 41 := by
  unfold fieldsQ
  split
  · have := encAll_length [r.user, r.width, r.limit, r.prio]
    simp only [List.length_append, List.length_cons, List.length_nil] at *
    omega
  split
  · have := (enc_length (zg r.id)).2; omega
  split
  · have := (enc_length (zg r.node)).2; omega
  split
  · have := (enc_length (zg r.till)).2; omega
  · simp
theorem encQ_length (r : Rq) : 3 ≤ (encQ r).length ∧ (encQ r).length ≤ 44 := by
  have := fieldsQ_length r
  unfold encQ bodyQ
  simp only [List.length_append, List.length_cons, List.length_nil]
  omega

theorem zg_prefix {x y : Int} {s t : List UInt8} (hx : -9223372036854775808 ≤ x ∧ x ≤ 9223372036854775807) (hy : -9223372036854775808 ≤ y ∧ y ≤ 9223372036854775807) (h : enc (zg x) ++ s = enc (zg y) ++ t) : x = y ∧ s = t := by
  obtain ⟨h1, h2⟩ := enc_prefix (zg_lt hx) (zg_lt hy) h
  exact ⟨zg_inj h1, h2⟩

theorem byt_inj {a b : Nat} (ha : a < 256) (hb : b < 256) (h : byt a = byt b) : a = b := by
  have := congrArg UInt8.toNat h
  rwa [byt_toNat ha, byt_toNat hb] at this

/-- Requests with the same kind and the same fields are the same. -/
theorem fieldsQ_inj {a b : Rq} (ha : FitsR a) (hb : FitsR b) (ka : cleanR a = a) (kb : cleanR b = b) (hk : a.kind = b.kind) (h : fieldsQ a = fieldsQ b) : a = b := by
  obtain ⟨a1, a2, a3, a4, a5, a6, a7, a8, a9⟩ := a
  obtain ⟨b1, b2, b3, b4, b5, b6, b7, b8, b9⟩ := b
  have hk : a1 = b1 := hk
  subst hk
  by_cases h1 : a1 = 1
  · subst h1
    simp [cleanR] at ka kb
    simp only [fieldsQ, if_true] at h
    simp only [encAll, List.flatMap_cons, List.flatMap_nil, List.append_nil, List.append_assoc] at h
    obtain ⟨e1, h⟩ := zg_prefix ha.user hb.user h
    obtain ⟨e2, h⟩ := zg_prefix ha.width hb.width h
    obtain ⟨e3, h⟩ := zg_prefix ha.limit hb.limit h
    obtain ⟨e4, h⟩ := zg_prefix ha.prio hb.prio h
    have e1 : a3 = b3 := e1
    have e2 : a4 = b4 := e2
    have e3 : a5 = b5 := e3
    have e4 : a6 = b6 := e4
    have e5 : a7 = b7 := by cases a7 <;> cases b7 <;> first | rfl | (simp at h)
    simp [← ka, ← kb, e1, e2, e3, e4, e5]
  by_cases h2 : a1 = 2 ∨ a1 = 3 ∨ a1 = 4 ∨ a1 = 5 ∨ a1 = 6
  · simp [cleanR, h1, h2] at ka kb
    simp only [fieldsQ, h1, h2, if_true, if_false] at h
    obtain ⟨e1, _⟩ := zg_prefix (s := []) (t := []) ha.id hb.id (by simpa using h)
    have e1 : a2 = b2 := e1
    simp [← ka, ← kb, e1]
    simp [ka, kb]
  by_cases h3 : a1 = 7 ∨ a1 = 8
  · simp [cleanR, h1, h2, h3] at ka kb
    simp only [fieldsQ, h1, h2, h3, if_true, if_false] at h
    obtain ⟨e1, _⟩ := zg_prefix (s := []) (t := []) ha.node hb.node (by simpa using h)
    have e1 : a8 = b8 := e1
    simp [← ka, ← kb, e1]
    simp [ka, kb]
  by_cases h4 : a1 = 9
  · subst h4
    simp [cleanR] at ka kb
    have h : enc (zg a9) = enc (zg b9) := h
    obtain ⟨e1, _⟩ := zg_prefix (s := []) (t := []) ha.till hb.till (by simpa using h)
    have e1 : a9 = b9 := e1
    simp [← ka, ← kb, e1]
    simp [ka, kb]
  · simp [cleanR, h1, h2, h3, h4] at ka kb
    simp [← ka, ← kb]
    simp [ka, kb]

/-- Unlike requests have unlike bytes. -/
theorem encQ_inj {a b : Rq} (ha : FitsR a) (hb : FitsR b) (ka : rightQ a = true) (kb : rightQ b = true) (h : encQ a = encQ b) : a = b := by
  unfold rightQ at ka kb
  simp only [Bool.and_eq_true, decide_eq_true_eq] at ka kb
  obtain ⟨⟨a1, a2⟩, a3⟩ := ka
  obtain ⟨⟨b1, b2⟩, b3⟩ := kb
  have hlen : (bodyQ a).length = (bodyQ b).length := by
    have := congrArg List.length h
    unfold encQ at this
    simpa using this
  have h' : bodyQ a ++ [byt (ckF (bodyQ a))] = bodyQ b ++ [byt (ckF (bodyQ b))] := h
  have hb' : bodyQ a = bodyQ b := (List.append_inj h' hlen).1
  unfold bodyQ at hb'
  rw [List.cons.injEq, List.cons.injEq] at hb'
  obtain ⟨_, hk, hf⟩ := hb'
  have hk := byt_inj (by omega) (by omega) hk
  exact fieldsQ_inj ha hb a3 b3 (by omega) hf
theorem right_clean (r : Rq) (h : 1 ≤ r.kind ∧ r.kind ≤ 13) : rightQ (cleanR r) = true := by
  have hk : (cleanR r).kind = r.kind := by unfold cleanR; split <;> (try rfl); split <;> (try rfl); split <;> (try rfl); split <;> rfl
  unfold rightQ
  rw [hk, clean_again, decide_eq_true h.1, decide_eq_true h.2]
  simp
theorem fits_clean {r : Rq} (h : FitsR r) : FitsR (cleanR r) := by
  have z : (-9223372036854775808 : Int) ≤ 0 ∧ (0 : Int) ≤ 9223372036854775807 := by omega
  unfold cleanR
  split
  · exact ⟨h.kind, z, h.user, h.width, h.limit, h.prio, z, z⟩
  split
  · exact ⟨h.kind, h.id, z, z, z, z, z, z⟩
  split
  · exact ⟨h.kind, z, z, z, z, z, h.node, z⟩
  split
  · exact ⟨h.kind, z, z, z, z, z, z, h.till⟩
  · exact ⟨h.kind, z, z, z, z, z, z, z⟩

end Go.Proofs.Ytojipdcckanbfaa
