/-
 Own words and walks, merged: part 8 of 9.
-/
import Derived.Deep.LoopGhost
import Derived.LaidEql
import Derived.Laws.StructEq
import Derived.Test.YtelnhablglomjaaGreatZa7
set_option maxRecDepth 1000000
set_option maxHeartbeats 8000000
set_option linter.all false
namespace Go.Proofs.YtelnhablglomjaaGreat
open Go.RowKit Go.Lib Go.Sort
def XV (w w' : World) : Prop := ∀ (k : Nat) (cs : Array Value) (T : TypeId) (fz : Nat × Nat), T ≠ 94 → (T ≠ 65 ∧ T ≠ 103 ∧ T ≠ 126 ∧ T ≠ 108 ∧ T ≠ 92 ∧ T ≠ 105) → w.heap[k]? = some (.cells cs T fz) → w'.heap[k]? = some (.cells cs T fz)
theorem SW.far {w w' : World} {b c t d p g a : Nat} {v v' : Value} {g' : Nat} {m : Int} {R : Wk} {P : Pg} (h : SW w b c t d p v g a m R P) (hs : WS w w' b c t d p v g v' g') : XV w w' := by
 intro k cs T fz h1 h2 hk
 refine (hs.heap (aD hk) ?_).trans hk
 rintro (rfl | hf)
 ·have e := h.wk
  unfold bI at e
  rw [hk] at e
  exact h1 (Obj.cells.inj (Option.some.inj e)).2.1
 ·exact h.cw.other hk h2 hf
def ed (k a : Nat) (m : Int) (R : Wk) (P : Pg) (L : Value) (a' : Nat) (m' : Int) (R' : Wk) (P' : Pg) : Prop :=
 ∀ (w : World) (b c t d p : Nat) (v : Value) (g : Nat), SW w b c t d p v g a m R P → Calls Tryz.prog k #[.pointer (some ⟨b, 0, none⟩), .pointer (some ⟨c, 0, none⟩)] w (az w b c t d p v g a' m' L R' P')
def One (dn : Bool) (a : Nat) (m : Int) (R : Wk) (P : Pg) (a' : Nat) (m' : Int) (R' : Wk) (P' : Pg) : Prop :=
 ∀ (w : World) (b c t d p : Nat) (v : Value) (g : Nat), SW w b c t d p v g a m R P → Calls Tryz.prog 12 #[.pointer (some ⟨b, 0, none⟩), .pointer (some ⟨c, 0, none⟩)] w fun e w' => e = .returned (.bool dn) ∧ ∃ v' g', SW w' b c t d p v' g' a' m' R' P' ∧ WS w w' b c t d p v g v' g'
def Run : Nat → Nat → Int → Wk → Pg → (Nat → Int → Wk → Pg → Prop) → Prop
 | 0, _, _, _, _, _ => False
 | N + 1, a, m, R, P, Q => (∃ k, R.left = fG k) ∧ ∃ a' m' R' P', (N = 0 ∧ One true a m R P a' m' R' P' ∧ Q a' m' R' P') ∨ (One false a m R P a' m' R' P' ∧ Run N a' m' R' P' Q)
def fA (N a : Nat) (m : Int) (R : Wk) (P : Pg) (Q : Nat → Int → Wk → Pg → Prop) : Prop := ∃ K, K ≤ N ∧ Run K a m R P Q
theorem fA.more {N N' a : Nat} {m : Int} {R : Wk} {P : Pg} {Q : Nat → Int → Wk → Pg → Prop} (h : fA N a m R P Q) (hN : N ≤ N') : fA N' a m R P Q := by
 obtain ⟨K, h1, h2⟩ := h
 exact ⟨K, Nat.le_trans h1 hN, h2⟩
theorem Run.pos {K a : Nat} {m : Int} {R : Wk} {P : Pg} {Q : Nat → Int → Wk → Pg → Prop} (h : Run K a m R P Q) : K ≠ 0 := fun e => by subst e; exact h
def Fin (mx : Int) (M : Md) (y : Ry) (ok : Bool) (a : Nat) (m : Int) (R : Wk) (P : Pg) : Prop := P = ah M ∧ a ≤ 800 ∧ m ≤ mx ∧ R.left = .nilFunc ∧ R.rep = y ∧ R.ok = ok
section
variable {a N : Nat} {m mx : Int} {P : Pg} {M M' : Md} {R : Wk} {Q : Nat → Int → Wk → Pg → Prop}
theorem wP {k k' a' : Nat} {m' : Int} {R' : Wk} {P' : Pg} (hl : R.left = fG k) (hl' : R'.left = fG k)
 (hk : ∀ args w, Sem.run Tryz.prog (callFunc k args) w = .ok (.enter k args) w)
 (hp : ed k a m R P (fG k') a' m' R' P')
 (hn : fA N a' m' { R' with left := fG k' } P' Q) : fA (N + 1) a m R P Q := by
 obtain ⟨K, h1, h2⟩ := hn
 refine ⟨K + 1, by omega, ⟨k, hl⟩, a', m', _, P', .inr ⟨fun w b c t d p v g h => ?_, h2⟩⟩
 refine (Ch h hl hl' (.inr ⟨⟨k', rfl⟩, rfl⟩) hk (hp w b c t d p v g h)).mono ?_
 rintro e w' ⟨rfl, v', g', h1, h2⟩
 exact ⟨rfl, v', g', h1, h2⟩
theorem wQ {k a' : Nat} {m' : Int} {R' : Wk} (hl : R.left = fG k) (hl' : R'.left = fG k)
 (hk : ∀ args w, Sem.run Tryz.prog (callFunc k args) w = .ok (.enter k args) w)
 (hp : ed k a m R P .nilFunc a' m' R' (ah M'))
 (ha : a' ≤ 800) (hm : m' ≤ mx) : fA (N + 1) a m R P (Fin mx M' R'.rep R'.ok) := by
 refine ⟨1, by omega, ⟨k, hl⟩, a', m', { R' with left := .nilFunc }, ah M', .inl ⟨rfl, fun w b c t d p v g h => ?_, rfl, ha, hm, rfl, rfl, rfl⟩⟩
 refine (Ch h hl hl' (.inl ⟨rfl, rfl⟩) hk (hp w b c t d p v g h)).mono ?_
 rintro e w' ⟨rfl, v', g', h1, h2⟩
 exact ⟨rfl, v', g', h1, h2⟩
theorem sK : ∀ args w, Sem.run Tryz.prog (callFunc 99 args) w = .ok (.enter 99 args) w := fun _ _ => rfl
theorem bz : ∀ args w, Sem.run Tryz.prog (callFunc 40 args) w = .ok (.enter 40 args) w := fun _ _ => rfl
theorem yX : ∀ args w, Sem.run Tryz.prog (callFunc 74 args) w = .ok (.enter 74 args) w := fun _ _ => rfl
theorem ED : ∀ args w, Sem.run Tryz.prog (callFunc 91 args) w = .ok (.enter 91 args) w := fun _ _ => rfl
theorem Pf : ∀ args w, Sem.run Tryz.prog (callFunc 115 args) w = .ok (.enter 115 args) w := fun _ _ => rfl
theorem Ct : ∀ args w, Sem.run Tryz.prog (callFunc 145 args) w = .ok (.enter 145 args) w := fun _ _ => rfl
theorem JB : ∀ args w, Sem.run Tryz.prog (callFunc 101 args) w = .ok (.enter 101 args) w := fun _ _ => rfl
theorem wR : ∀ args w, Sem.run Tryz.prog (callFunc 103 args) w = .ok (.enter 103 args) w := fun _ _ => rfl
theorem EE : ∀ args w, Sem.run Tryz.prog (callFunc 106 args) w = .ok (.enter 106 args) w := fun _ _ => rfl
theorem z8 : ∀ args w, Sem.run Tryz.prog (callFunc 110 args) w = .ok (.enter 110 args) w := fun _ _ => rfl
theorem uL (hl : R.left = fG 99) (hid : R.aC.id ≠ 0) (h1 : 1 ≤ M.dr.length) (hll : M.L.length ≤ 900) (hmx : mx ≤ 1000000) (q : Nat) :
 ∀ {L : List Jb} {a : Nat} {m : Int}, L.length = M.L.length → hits R.aC L ≤ q → aF { M with L := L } → fC { M with L := L } R.aC = M' → a + 2 * hits R.aC L ≤ 800 → m + hits R.aC L ≤ mx →
  fA (q + 1) a m R (ah { M with L := L }) (Fin mx M' R.rep R.ok) := by
 induction q with
 | zero =>
   intro L a m hL hq hI hM ha hm
   refine wQ (k := 99) (M' := M') (a' := a) (m' := m) hl hl sK (fun w b c t d p v g hS => (sG hS hI h1 (by show L.length ≤ 900; omega) (by omega) (by omega) hid).mono fun e w' hp => ?_) (by omega) (by omega)
   rcases hp with ⟨ho, hp⟩ | ⟨i, ho, _⟩
   ·have := rV (M := { M with L := L }) ho
    rw [this] at hM
    rw [← hM]; exact hp
   ·have := (jG (L := L) ho).2.2.2.2
    omega
 | succ q ih =>
   intro L a m hL hq hI hM ha hm
   cases ho : dU R.aC L with
   | none =>
     refine wQ (k := 99) (M' := M') (a' := a) (m' := m) hl hl sK (fun w b c t d p v g hS => (sG hS hI h1 (by show L.length ≤ 900; omega) (by omega) (by omega) hid).mono fun e w' hp => ?_) (by omega) (by omega)
     rcases hp with ⟨_, hp⟩ | ⟨i, h2, _⟩
     ·have := rV (M := { M with L := L }) ho
      rw [this] at hM
      rw [← hM]; exact hp
     ·have h3 : dU R.aC L = some i := h2
      rw [ho] at h3; cases h3
   | some i =>
     obtain ⟨hi, _, _, _, hh⟩ := jG ho
     refine wP (k := 99) (k' := 99) (a' := a + 2) (m' := m + 1) (R' := R) (P' := ah { M with L := L.set i ((L.getD i default).aG (-1)) }) hl hl sK (fun w b c t d p v g hS => (sG hS hI h1 (by show L.length ≤ 900; omega) (by omega) (by omega) hid).mono fun e w' hp => ?_) ?_
     ·rcases hp with ⟨h2, _⟩ | ⟨i2, h2, hp⟩
      ·have h3 : dU R.aC L = none := h2
       rw [ho] at h3; cases h3
      ·have h3 : dU R.aC L = some i2 := h2
       rw [ho] at h3
       obtain rfl := Option.some.inj h3
       exact hp
     ·rw [← hl]
      exact ih (L := L.set i ((L.getD i default).aG (-1))) (by rw [List.length_set]; exact hL) (by omega) (hI.xy hi) ((vY (M := { M with L := L }) ho).trans hM) (by omega) (by omega)
end
end Go.Proofs.YtelnhablglomjaaGreat

namespace Go.Proofs.YtelnhablglomjaaGreat
open Go.RowKit Go.Lib Go.Sort
def lN (x : Rl) : Ry := ⟨x.1, x.2.1, x.2.2.1, x.2.2.2.1, x.2.2.2.2.1, x.2.2.2.2.2.1, x.2.2.2.2.2.2.1, x.2.2.2.2.2.2.2.1, x.2.2.2.2.2.2.2.2⟩
section
variable {M : Md}
theorem uM (M : Md) : (lV M).length ≤ 1 + 2 * M.L.length := by
 have key : ∀ (ts : List Int) (acc : List (Int × Int)), (ts.foldl (stepOn M) acc).length ≤ acc.length + ts.length := by
  intro ts
  induction ts with
  | nil => intro acc; simp
  | cons t ts ih =>
    intro acc
    have h1 := ih (stepOn M acc t)
    have h2 : (stepOn M acc t).length ≤ acc.length + 1 := by
     unfold stepOn
     split
     ·split
      ·omega
      ·simp
     ·simp
    show (ts.foldl (stepOn M) (stepOn M acc t)).length ≤ acc.length + (ts.length + 1)
    omega
 have h3 : ∀ (n : Nat) (last : Int), (timesGo M.L n last).length ≤ n := by
  intro n
  induction n with
  | zero => intro last; simp [timesGo]
  | succ n ih =>
    intro last
    unfold timesGo
    split
    ·simp
    ·simp only [List.length_cons]; have := ih (kH M.L last); omega
 have h1 := key (nC M) []
 have h4 := h3 (2 * M.L.length) M.now
 unfold lV
 unfold nC at h1 ⊢
 simp only [List.length_cons, List.length_nil] at h1
 omega
theorem CW.Su {w : World} {c t d p g a : Nat} {v : Value} {m : Int} (h : CW w c t d p v g a m (ah M)) (hI : aF M) : CW w c t d p v g (1 + 2 * M.L.length) m (ah M) := by
 obtain ⟨S, aK, hp, hC, hl, h0⟩ := h.lL
 have e : S = lV M := hC.uniq (Bc hI) fun _ _ => rfl
 exact ⟨h.cell, h.eU, h.nodes, S, aK, hp, hC, by rw [e]; exact uM M, h0⟩
theorem LW (M : Md) (hn : M.dr.length ≤ 64) (r : Rq) (hk : r.kind = 1) : (nI M.dr.length r = 9 ∧ iF M (toW r) = 9) ∨ (nI M.dr.length r = 0 ∧ je M.L r = iF M (toW r)) := by
 have hlive : EU M = jM M.L := rfl
 have s1 : (r.user < 0 ∨ 255 < r.user ∨ r.prio < 0 ∨ 1000 < r.prio) → iF M (toW r) = 1 := fun h => if_pos h
 have s2 : ¬ (r.user < 0 ∨ 255 < r.user ∨ r.prio < 0 ∨ 1000 < r.prio) → (r.width < 1 ∨ (M.dr.length : Int) < r.width) → iF M (toW r) = 9 := fun h h' => (if_neg h).trans (if_pos h')
 have s3 : ¬ (r.user < 0 ∨ 255 < r.user ∨ r.prio < 0 ∨ 1000 < r.prio) → ¬ (r.width < 1 ∨ (M.dr.length : Int) < r.width) → (r.limit < 1 ∨ 1048576 < r.limit) → iF M (toW r) = 10 := fun h h' h2 => (if_neg h).trans ((if_neg h').trans (if_pos h2))
 have s4 : ¬ (r.user < 0 ∨ 255 < r.user ∨ r.prio < 0 ∨ 1000 < r.prio) → ¬ (r.width < 1 ∨ (M.dr.length : Int) < r.width) → ¬ (r.limit < 1 ∨ 1048576 < r.limit) → (63 < EU M ∨ 1023 < M.L.length) → iF M (toW r) = 6 := fun h h' h2 h3 => (if_neg h).trans ((if_neg h').trans ((if_neg h2).trans (if_pos h3)))
 have s5 : ¬ (r.user < 0 ∨ 255 < r.user ∨ r.prio < 0 ∨ 1000 < r.prio) → ¬ (r.width < 1 ∨ (M.dr.length : Int) < r.width) → ¬ (r.limit < 1 ∨ 1048576 < r.limit) → ¬ (63 < EU M ∨ 1023 < M.L.length) → iF M (toW r) = 0 := fun h h' h2 h3 => (if_neg h).trans ((if_neg h').trans ((if_neg h2).trans (if_neg h3)))
 have b1 : aQ r ≠ 0 → je M.L r = aQ r := fun h => if_pos h
 have b2 : aQ r = 0 → (64 ≤ jM M.L ∨ 1024 ≤ M.L.length) → je M.L r = 6 := fun h h' => (if_neg (by omega)).trans (if_pos h')
 have b3 : aQ r = 0 → ¬ (64 ≤ jM M.L ∨ 1024 ≤ M.L.length) → je M.L r = 0 := fun h h' => (if_neg (by omega)).trans (if_neg h')
 have x1 : (r.kind = 1 ∧ (M.dr.length : Int) < r.width ∧ r.width ≤ 64 ∧ aQ r ≠ 1) → nI M.dr.length r = 9 := fun h => if_pos h
 have x2 : ¬ (r.kind = 1 ∧ (M.dr.length : Int) < r.width ∧ r.width ≤ 64 ∧ aQ r ≠ 1) → nI M.dr.length r = 0 := fun h => if_neg h
 by_cases h1 : r.user < 0 ∨ 255 < r.user ∨ r.prio < 0 ∨ 1000 < r.prio
 ·have hR : aQ r = 1 := by unfold aQ; (repeat' split) <;> omega
  exact .inr ⟨x2 (by omega), by rw [s1 h1, b1 (by omega), hR]⟩
 ·by_cases h2 : r.width < 1
  ·have hR : aQ r = 9 := by unfold aQ; (repeat' split) <;> omega
   exact .inr ⟨x2 (by omega), by rw [s2 h1 (.inl h2), b1 (by omega), hR]⟩
  ·by_cases h3 : (M.dr.length : Int) < r.width
   ·by_cases h4 : r.width ≤ 64
    ·have hR : aQ r ≠ 1 := by unfold aQ; (repeat' split) <;> omega
     exact .inl ⟨x1 ⟨hk, h3, h4, hR⟩, s2 h1 (.inr h3)⟩
    ·have hR : aQ r = 9 := by unfold aQ; (repeat' split) <;> omega
     exact .inr ⟨x2 (by omega), by rw [s2 h1 (.inr h3), b1 (by omega), hR]⟩
   ·by_cases h5 : r.limit < 1 ∨ 1048576 < r.limit
    ·have hR : aQ r = 10 := by unfold aQ; (repeat' split) <;> omega
     exact .inr ⟨x2 (by omega), by rw [s3 h1 (by omega) h5, b1 (by omega), hR]⟩
    ·have hR : aQ r = 0 := by unfold aQ; (repeat' split) <;> omega
     refine .inr ⟨x2 (by omega), ?_⟩
     by_cases h6 : 63 < jM M.L ∨ 1023 < M.L.length
     ·rw [s4 h1 (by omega) h5 h6, b2 hR (by omega)]
     ·rw [s5 h1 (by omega) h5 h6, b3 hR (by omega)]
end
section
variable {a N : Nat} {m mx : Int} {P : Pg} {M M' : Md} {R : Wk} {Q : Nat → Int → Wk → Pg → Prop}
theorem Cu (j : Jb) (L : List Jb) : hits j L ≤ L.length := List.countP_le_length
theorem aX {k a' : Nat} {m' : Int} {R' : Wk} {M1 : Md} {y : Ry} {o : Bool} (hk : ∀ args w, Sem.run Tryz.prog (callFunc k args) w = .ok (.enter k args) w)
 (hp : ed k a m R P .nilFunc a' m' R' (ah M1))
 (hl : R.left = fG k) (hl' : R'.left = R.left) (ha : a' ≤ 800) (hm : m' ≤ mx) (hM : M1 = M') (hy : R'.rep = y) (ho : R'.ok = o) : fA (N + 1) a m R P (Fin mx M' y o) := by
 subst hM hy ho
 exact wQ hl (hl'.trans hl) hk hp ha hm
theorem fA.ok {y : Ry} {o o' : Bool} (h : fA N a m R P (Fin mx M' y o)) (e : o = o') : fA N a m R P (Fin mx M' y o') := e ▸ h
theorem Gx (hl : R.left = fG 40) (hI : aF M) (hcl : M.cl = false) (h1 : 1 ≤ M.dr.length) (hll : M.L.length ≤ 190) (ha : a ≤ 1 + 2 * M.L.length) (hm : m + 1000 ≤ mx) (hmx : mx ≤ 1000000)
 (hk : R.ag.kind = 1) (ho : R.ok = false) : fA 1000 a m R (ah M) (Fin mx (jS M (toW R.ag)).2 (lN (jS M (toW R.ag)).1) false) := by
 have sZ := fq hI h1 (by omega)
 have hrd : jN R.ag.kind = false := by rw [hk]; rfl
 have jC : ∀ {L : Value} {a' : Nat} {m' : Int} {R' : Wk} {P' : Pg}, ed 83 a m R (ah M) L a' m' R' P' → ed 40 a m R (ah M) L a' m' R' P' := fun hn w b c t d p v g hS => fU hS hcl (by rw [hk]; decide) hrd (O0 hS hk (hn w b c t d p v g hS))
 unfold jS
 rcases LW M hI.mb.nn R.ag hk with ⟨e1, e2⟩ | ⟨e1, e2⟩
 ·rw [if_pos (by rw [e2]; decide), e2]
  exact aX (N := 999) bz (jC (fun _ _ _ _ _ _ _ _ hS => Df hS sZ e1)) hl rfl (by omega) (by omega) rfl rfl rfl
 ·by_cases e3 : iF M (toW R.ag) = 0
  ·rw [if_neg (by omega)]
   rw [e3] at e2
   cases hh : R.ag.held with
   | true =>
     rw [if_pos (show (toW R.ag).held = true from hh)]
     exact aX (N := 999) bz (jC (fun _ _ _ _ _ _ _ _ hS => Ck hS sZ e1 e2 hh)) hl rfl (by omega) (by omega) rfl rfl ho
   | false =>
     rw [if_neg (show ¬ (toW R.ag).held = true by rw [show (toW R.ag).held = R.ag.held from rfl, hh]; decide)]
     have hc := e3
     unfold iF at hc
     have hst : (dB M (toW R.ag)).st = 1 := by show (if R.ag.held then (2 : Int) else 1) = 1; rw [hh]; rfl
     have hI1 : aF { M with L := M.L ++ [dB M (toW R.ag)] } := by
      split at hc
      ·omega
      split at hc
      ·omega
      split at hc
      ·omega
      split at hc
      ·omega
      rename_i h2 h3 h4 h5
      have hn := hI.mb.nn
      exact hI.app (dB M (toW R.ag)) (hI.mb.app _ (by omega) (by show 0 ≤ (toW R.ag).wid ∧ (toW R.ag).wid ≤ 64; omega) (by show 0 ≤ (toW R.ag).lim ∧ (toW R.ag).lim ≤ 1048576; omega) (by show (-1 : Int) ≤ -1 ∧ (-1 : Int) ≤ _; omega) (by show (-1 : Int) ≤ -1 ∧ (-1 : Int) ≤ _; omega) (by show (0 : Int) ≤ 0 ∧ (0 : Int) ≤ _; omega)) rfl ⟨show 1 ≤ (toW R.ag).wid by omega, show (toW R.ag).wid ≤ _ by omega, show 1 ≤ (toW R.ag).lim by omega, by omega, by omega⟩ rfl (by omega)
     refine (wP (N := 901) (k := 40) (k' := 99) (R' := { R with rep := jh (dB M (toW R.ag)), aC := dB M (toW R.ag) }) hl hl bz (jC (fun _ _ _ _ _ _ _ _ hS => Jf hS sZ e1 e2 hh)) ?_).more (show 902 ≤ 1000 by decide)
     have hL : (M.L ++ [dB M (toW R.ag)]).length = M.L.length + 1 := by simp
     have XW := Cu (dB M (toW R.ag)) (M.L ++ [dB M (toW R.ag)])
     have := uL (M := { M with L := M.L ++ [dB M (toW R.ag)] }) (M' := fC { M with L := M.L ++ [dB M (toW R.ag)] } (dB M (toW R.ag))) (R := { ({ R with rep := jh (dB M (toW R.ag)), aC := dB M (toW R.ag) } : Wk) with left := fG 99 }) (mx := mx) rfl (by show (M.L.length : Int) + 1 ≠ 0; omega) h1 (by show (M.L ++ [dB M (toW R.ag)]).length ≤ 900; omega) hmx 900 (L := M.L ++ [dB M (toW R.ag)]) rfl (by show hits (dB M (toW R.ag)) _ ≤ 900; omega) hI1 rfl (by show a + 2 * hits (dB M (toW R.ag)) _ ≤ 800; omega) (by show m + (hits (dB M (toW R.ag)) _ : Nat) ≤ mx; omega)
     exact this.ok ho
  ·rw [if_pos e3]
   exact aX (N := 999) bz (jC (fun _ _ _ _ _ _ _ _ hS => submit_bad hS sZ e1 (iF M (toW R.ag)) e3 e2)) hl rfl (by omega) (by omega) rfl rfl rfl
end
end Go.Proofs.YtelnhablglomjaaGreat

namespace Go.Proofs.YtelnhablglomjaaGreat
open Go.RowKit Go.Lib Go.Sort
structure Bg (a : Nat) (m mx : Int) (R : Wk) (M : Md) : Prop where
 left : R.left = fG 40
 inv : aF M
 calm : Calm M
 cl : M.cl = false
 one : 1 ≤ M.dr.length
 few : M.L.length ≤ 190
 ha : a ≤ 1 + 2 * M.L.length
 hm : m + 1000 ≤ mx
 hmx : mx ≤ 1000000
 ok : R.ok = false
section
variable {L : List Jb} {id : Int} {ok : Jb → Bool} {ch : Jb → Jb} {M : Md}
theorem xV (L : List Jb) (i : Nat) : L[i]! = L.getD i default := by rw [List.getElem!_eq_getElem?_getD, List.getD_eq_getElem?_getD]
theorem uN (h : ¬ (id < 1 ∨ (L.length : Int) < id)) : bO L id = L.getD (id - 1).toNat default := by
 unfold bO
 rw [if_neg (by omega), if_neg (by omega), xV]
theorem yY (h : id < 1 ∨ (L.length : Int) < id) : bN L 0 id ok = 7 := by
 unfold bN
 rw [if_neg (by decide)]
 split
 ·rfl
 ·rw [if_pos (by omega)]
theorem Cv (h : ¬ (id < 1 ∨ (L.length : Int) < id)) (ho : ok (L.getD (id - 1).toNat default) = false) : bN L 0 id ok = 8 := by
 unfold bN
 rw [if_neg (by decide), if_neg (by omega), if_neg (by omega), xV, ho]
 rfl
theorem vC (h : ¬ (id < 1 ∨ (L.length : Int) < id)) (ho : ok (L.getD (id - 1).toNat default) = true) : bN L 0 id ok = 0 := by
 unfold bN
 rw [if_neg (by decide), if_neg (by omega), if_neg (by omega), xV, ho]
 rfl
theorem p8 {e0 : Int} (h : bN L e0 id ok = 0) : cz L e0 id ok ch = L.set (id - 1).toNat (ch (L.getD (id - 1).toNat default)) := by
 unfold cz
 rw [if_pos h, xV]
theorem EF (h : id < 1 ∨ (M.L.length : Int) < id) : getM M id = (default, false) := if_pos h
theorem xW (h : ¬ (id < 1 ∨ (M.L.length : Int) < id)) : getM M id = (M.L.getD (id - 1).toNat default, true) := if_neg h
theorem yZ {x : Jb} (h : ¬ (id < 1 ∨ (L.length : Int) < id)) : bO (L.set (id - 1).toNat x) id = x := by
 rw [uN (by rw [List.length_set]; exact h), gz, if_pos ⟨rfl, by omega⟩]
theorem wS (r : Rw) (h : r.id < 1 ∨ (M.L.length : Int) < r.id) : fV M r = (fK 7, M) := by
 unfold fV
 rw [EF h]
 exact if_pos rfl
theorem Ph (r : Rw) (h : r.id < 1 ∨ (M.L.length : Int) < r.id) : mJ M r = (fK 7, M) := by
 unfold mJ
 rw [EF h]
 exact if_pos rfl
end
section
variable {a N : Nat} {m mx : Int} {P : Pg} {M M' : Md} {R : Wk} {Q : Nat → Int → Wk → Pg → Prop}
theorem LX (hl : R.left = fG 40) (hc : M.cl = true) (ha : a ≤ 800) (hm : m ≤ mx) :
 fA 1000 a m R (ah M) (Fin mx M (lN (fK 12)) false) :=
 aX (N := 999) bz (fun _ _ _ _ _ _ _ _ hS => Dl hS hc) hl rfl ha hm rfl rfl rfl
theorem LY (h : Bg a m mx R M) (hq : ¬ (1 ≤ R.ag.kind ∧ R.ag.kind ≤ 13)) :
 fA 1000 a m R (ah M) (Fin mx M (lN (fK 4)) false) :=
 aX (N := 999) bz (fun _ _ _ _ _ _ _ _ hS => Jz hS h.cl hq) h.left rfl (by have := h.ha; have := h.few; omega) (by have := h.hm; omega) rfl rfl rfl
theorem fQ {k k' a' : Nat} {m' : Int} {R' : Wk} {P' : Pg} (hk : ∀ args w, Sem.run Tryz.prog (callFunc k args) w = .ok (.enter k args) w)
 (hp : ed k a m R P (fG k') a' m' R' P')
 (hl : R.left = fG k) (hl' : R'.left = R.left)
 (hn : fA N a' m' { R' with left := fG k' } P' Q) : fA (N + 1) a m R P Q :=
 wP hl (hl'.trans hl) hk hp hn
theorem Dn (h : Bg a m mx R M) (hk : R.ag.kind = 4) :
 fA 1000 a m R (ah M) (Fin mx (fV M (toW R.ag)).2 (lN (fV M (toW R.ag)).1) false) := by
 have hll := h.few
 have ha := h.ha
 have hm := h.hm
 have hrd : jN R.ag.kind = false := by rw [hk]; rfl
 have jC : ∀ {L : Value} {a' : Nat} {m' : Int} {R' : Wk} {P' : Pg}, ed 86 a m R (ah M) L a' m' R' P' → ed 40 a m R (ah M) L a' m' R' P' := fun hn w b c t d p v g hS => fU hS h.cl (by rw [hk]; decide) hrd (O5 hS hk (hn w b c t d p v g hS))
 by_cases hid : R.ag.id < 1 ∨ (M.L.length : Int) < R.ag.id
 ·rw [wS (toW R.ag) hid]
  exact aX (N := 999) bz (jC (fun _ _ _ _ _ _ _ _ hS => xR hS 7 (by decide) (yY hid))) h.left rfl (by omega) (by omega) rfl rfl rfl
 ·have hi : (R.ag.id - 1).toNat < M.L.length := by omega
  have hmem := aY hi
  have eM := xW (M := M) hid
  by_cases hs : (M.L.getD (R.ag.id - 1).toNat default).st = 2
  ·have hE : bN M.L 0 R.ag.id (fun j : Jb => decide (j.state = 2)) = 0 := vC hid (decide_eq_true hs)
   have hr : ed 86 a m R (ah M) _ _ _ _ _ := fun _ _ _ _ _ _ _ _ hS => Jo hS hE
   have eL : cz (ah M).J 0 R.ag.id (fun j : Jb => decide (j.state = 2)) pJ = M.L.set (R.ag.id - 1).toNat ((M.L.getD (R.ag.id - 1).toNat default).setSt 1) := p8 hE
   rw [eL, yZ hid] at hr
   generalize hx : M.L.getD (R.ag.id - 1).toNat default = x at *
   have bo := h.inv.one _ hmem
   have bw := h.inv.mb.wid _ hmem
   have bl := h.inv.mb.lim _ hmem
   have bf := h.inv.mb.fin _ hmem
   have bn := h.inv.mb.bQ _ hmem
   have hp : x.aN = -1 := h.inv.rest _ hmem (by omega)
   have hpl : aj (x.setSt 1) = false := by unfold aj; simp [show (x.setSt 1).aN = -1 from hp]
   have hI1 : aF { M with L := M.L.set (R.ag.id - 1).toNat (x.setSt 1) } :=
    h.inv.set (i := (R.ag.id - 1).toNat) (y := x.setSt 1) (h.inv.mb.set _ _ bw bl (by show -1 ≤ x.aN ∧ x.aN ≤ _; omega) bf bn) (by rw [hx]; rfl) ⟨bo.1, bo.2.1, bo.2.2.1, (show (1 : Int) ≤ 1 by omega), (show (1 : Int) ≤ 6 by omega)⟩ (fun _ => hp) (fun e => absurd (show (1 : Int) = 3 from e) (by decide)) (.inl hp) (h.inv.l9.set hi fun n e => by unfold aH at e; simp [Jb.setSt, Jb.st] at e)
     fun t ht => nE h.inv hi (by rw [hx]; exact ⟨fun e => absurd (show (1 : Int) = 3 from e) (by decide), fun e => by omega⟩) (by rw [hx]; rfl) (by rw [hx]; rfl) hpl t ht
   have hP : ({ ah M with J := M.L.set (R.ag.id - 1).toNat (x.setSt 1) } : Pg) = ah { M with L := M.L.set (R.ag.id - 1).toNat (x.setSt 1) } := by
    have h3 : ((x.setSt 1).st = 3) ↔ ((M.L.getD (R.ag.id - 1).toNat default).st = 3) := by rw [hx]; exact ⟨fun e => absurd (show (1 : Int) = 3 from e) (by decide), fun e => by omega⟩
    have e1 : dh M = dh { M with L := M.L.set (R.ag.id - 1).toNat (x.setSt 1) } := by
     refine pW (by rw [bC, bC]) fun n hn => ?_
     rw [dm, dm, qd hi h3 (by rw [hx]; rfl)]
    have e2 : (fun t => ay M t 0) = fun t => ay { M with L := M.L.set (R.ag.id - 1).toNat (x.setSt 1) } t 0 := by
     funext t
     rw [rP hi h3 (by rw [hx]; rfl) (by rw [hx]; rfl), dP hpl, hx, dP (by unfold aj; simp [hp])]
     omega
    show Pg.mk _ _ (dh M) (fun t => ay M t 0) _ = _
    rw [e1, e2]
    rfl
   rw [hP] at hr
   have e : fV M (toW R.ag) = (nQ (x.setSt 1), fC { M with L := M.L.set (R.ag.id - 1).toNat (x.setSt 1) } (x.setSt 1)) := by
    have hj : fD (toW R.ag).kind x = x.setSt 1 := by unfold fD; rw [show (toW R.ag).kind = 4 from hk]; rfl
    unfold fV
    rw [show (toW R.ag).id = R.ag.id from rfl, eM]
    refine (if_neg (fun e => nomatch e)).trans ((if_neg ?_).trans ((if_pos hk).trans ?_))
    ·show ¬ ((R.ag.kind = 3 ∧ x.st ≠ 1) ∨ (R.ag.kind = 4 ∧ x.st ≠ 2))
     omega
    ·show (nQ (fD (toW R.ag).kind x), fC { M with L := M.L.set (R.ag.id - 1).toNat (fD (toW R.ag).kind x) } (fD (toW R.ag).kind x)) = _
     rw [hj]
   rw [e]
   refine (fQ (N := 901) (k := 40) (k' := 99) bz (jC hr) h.left rfl ?_).more (show 902 ≤ 1000 by decide)
   have hL : (M.L.set (R.ag.id - 1).toNat (x.setSt 1)).length = M.L.length := List.length_set
   have XW := Cu (x.setSt 1) (M.L.set (R.ag.id - 1).toNat (x.setSt 1))
   have hidx : x.id = (((R.ag.id - 1).toNat : Nat) : Int) + 1 := by rw [← hx]; exact h.inv.ids _ hi
   have := uL (M := { M with L := M.L.set (R.ag.id - 1).toNat (x.setSt 1) }) (M' := fC { M with L := M.L.set (R.ag.id - 1).toNat (x.setSt 1) } (x.setSt 1)) (R := { ({ R with aC := x.setSt 1, rep := jh (x.setSt 1) } : Wk) with left := fG 99 }) (mx := mx) rfl (by show x.id ≠ 0; omega) h.one (by show (M.L.set (R.ag.id - 1).toNat (x.setSt 1)).length ≤ 900; omega) h.hmx 900 (L := M.L.set (R.ag.id - 1).toNat (x.setSt 1)) rfl (by show hits (x.setSt 1) _ ≤ 900; omega) hI1 rfl (by show a + 2 * hits (x.setSt 1) _ ≤ 800; omega) (by show m + (hits (x.setSt 1) _ : Nat) ≤ mx; omega)
   exact this.ok h.ok
  ·have hE : bN M.L 0 R.ag.id (fun j : Jb => decide (j.state = 2)) = 8 := Cv hid (decide_eq_false hs)
   have e : fV M (toW R.ag) = (fK 8, M) := by
    unfold fV
    rw [show (toW R.ag).id = R.ag.id from rfl, eM]
    exact (if_neg (fun e => nomatch e)).trans (if_pos (.inr ⟨hk, hs⟩))
   rw [e]
   exact aX (N := 999) bz (jC (fun _ _ _ _ _ _ _ _ hS => xR hS 8 (by decide) hE)) h.left rfl (by omega) (by omega) rfl rfl rfl
end
end Go.Proofs.YtelnhablglomjaaGreat

namespace Go.Proofs.YtelnhablglomjaaGreat
open Go.RowKit Go.Lib Go.Sort
section
variable {a N : Nat} {m mx : Int} {P : Pg} {M M' : Md} {R : Wk} {Q : Nat → Int → Wk → Pg → Prop}
theorem EG {i : Nat} {y : Jb} (hi : i < M.L.length) (hs : (M.L.getD i default).st ≠ 3) (hy : y.st ≠ 3) (hy2 : y.bQ = (M.L.getD i default).bQ) (hy3 : y.fin = (M.L.getD i default).fin) (hyp : aj y = false)
 (hI : aF M) (hI1 : aF { M with L := M.L.set i y }) (h1 : 1 ≤ M.dr.length) (hll : M.L.length ≤ 900) (ha : a ≤ 700) (hm : m + 1 ≤ mx) (hmx : mx ≤ 1000000)
 (hl : R.left = fG 103) (hj : R.aC = M.L.getD i default) :
 fA (N + 1) a m R { ah M with J := M.L.set i y } (Fin mx { M with L := M.L.set i y } R.rep R.ok) := by
 have hmem := aY hi
 have bo := hI.one _ hmem
 have bw := hI.mb.wid _ hmem
 have bl := hI.mb.lim _ hmem
 have bp := hI.mb.aN _ hmem
 have hst : (y.st = 3) ↔ ((M.L.getD i default).st = 3) := ⟨fun e => absurd e hy, fun e => absurd e hs⟩
 have dM := fq hI h1 hll
 have mF := fq hI1 h1 (by rw [List.length_set]; exact hll)
 have sZ : PK { ah M with J := M.L.set i y } := ⟨dM.now, mF.few, mF.st, mF.lim, dM.rz, dM.f⟩
 have eT : dh M = dh { M with L := M.L.set i y } := by
  refine pW (by rw [bC, bC]) fun n hn => ?_
  rw [dm, dm, qd hi hst hy2]
 have ef : ∀ t, ay { M with L := M.L.set i y } t 0 = ay M t 0 + dO t 0 (M.L.getD i default) := fun t => by
  rw [rP hi hst hy2 hy3, dP hyp]
  omega
 have eP : ∀ F : Int → Int, F = (fun t => ay { M with L := M.L.set i y } t 0) → ({ ah M with J := M.L.set i y, f := F } : Pg) = ah { M with L := M.L.set i y } := fun F hF => by
  show Pg.mk _ _ (dh M) F _ = _
  rw [eT, hF]
  rfl
 cases hp : aj (M.L.getD i default) with
 | true =>
   have hv : ed 103 a m R { ah M with J := M.L.set i y } _ _ _ _ _ := fun _ _ _ _ _ _ _ _ hS => Gm hS sZ (by omega) (by omega) (by rw [hj]; exact hp) (by rw [hj]; exact bp.2) (by rw [hj]; exact bl) (by rw [hj]; exact bo.2.2.1) (by rw [hj]; exact bw) (fun t => ay { M with L := M.L.set i y } t 0) (fun t ht => by
    rw [hj]
    have hu := sF hI hi hp t
    rw [jd hi, dP (j := (M.L.getD i default).aG (-1)) (by unfold aj; simp [Jb.aG, Jb.aN])] at hu
    show ay { M with L := M.L.set i y } t 0 = ay M t 0 + had (max (M.L.getD i default).aN M.now) ((M.L.getD i default).aN + (M.L.getD i default).lim) (M.L.getD i default).wid t
    rw [ef]
    omega) (fun t ht => mF.f t ht)
   have e := eP (fun t => ay { M with L := M.L.set i y } t 0) rfl
   rw [e] at hv
   exact aX (a' := a + 2) (m' := m + 1) wR hv hl rfl (by omega) (by omega) rfl rfl rfl
 | false =>
   have hv : ed 103 a m R { ah M with J := M.L.set i y } _ _ _ _ _ := fun _ _ _ _ _ _ _ _ hS => Gn hS sZ (by omega) (by omega) (by rw [hj]; exact hp) (by rw [hj]; exact hs) (by rw [hj]; exact bp.2) (by rw [hj]; exact bl)
   have e : ({ ah M with J := M.L.set i y } : Pg) = ah { M with L := M.L.set i y } := eP _ (by
    funext t
    rw [ef, dP hp]
    show ay M t 0 = _
    omega)
   have hv2 : ed 103 a m R { ah M with J := M.L.set i y } .nilFunc a m R (ah { M with L := M.L.set i y }) := by rw [← e]; exact hv
   exact aX (a' := a) (m' := m) wR hv2 hl rfl (by omega) (by omega) rfl rfl rfl
theorem LZ (h : Bg a m mx R M) (hk : R.ag.kind = 3) :
 fA 1000 a m R (ah M) (Fin mx (fV M (toW R.ag)).2 (lN (fV M (toW R.ag)).1) false) := by
 have hll := h.few
 have ha := h.ha
 have hm := h.hm
 have hrd : jN R.ag.kind = false := by rw [hk]; rfl
 have jC : ∀ {L : Value} {a' : Nat} {m' : Int} {R' : Wk} {P' : Pg}, ed 85 a m R (ah M) L a' m' R' P' → ed 40 a m R (ah M) L a' m' R' P' := fun hn w b c t d p v g hS => fU hS h.cl (by rw [hk]; decide) hrd (O4 hS hk (hn w b c t d p v g hS))
 by_cases hid : R.ag.id < 1 ∨ (M.L.length : Int) < R.ag.id
 ·rw [wS (toW R.ag) hid]
  exact aX (N := 999) bz (jC (fun _ _ _ _ _ _ _ _ hS => Ew hS 7 (by decide) (yY hid))) h.left rfl (by omega) (by omega) rfl rfl rfl
 ·have hi : (R.ag.id - 1).toNat < M.L.length := by omega
  have eM := xW (M := M) hid
  by_cases hs : (M.L.getD (R.ag.id - 1).toNat default).st = 1
  ·have hE : bN M.L 0 R.ag.id (fun j : Jb => decide (j.state = 1)) = 0 := vC hid (decide_eq_true hs)
   have hr : ed 85 a m R (ah M) _ _ _ _ _ := fun _ _ _ _ _ _ _ _ hS => R5 hS hE
   have eL : cz (ah M).J 0 R.ag.id (fun j : Jb => decide (j.state = 1)) qA = M.L.set (R.ag.id - 1).toNat (((M.L.getD (R.ag.id - 1).toNat default).setSt 2).aG (-1)) := p8 hE
   rw [eL, yZ hid, show bO (ah M).J R.ag.id = M.L.getD (R.ag.id - 1).toNat default from uN hid] at hr
   have e : fV M (toW R.ag) = (nQ (((M.L.getD (R.ag.id - 1).toNat default).setSt 2).aG (-1)), { M with L := M.L.set (R.ag.id - 1).toNat (((M.L.getD (R.ag.id - 1).toNat default).setSt 2).aG (-1)) }) := by
    have hj : fD (toW R.ag).kind (M.L.getD (R.ag.id - 1).toNat default) = ((M.L.getD (R.ag.id - 1).toNat default).setSt 2).aG (-1) := by unfold fD; rw [show (toW R.ag).kind = 3 from hk]; rfl
    have hk4 : ¬ (toW R.ag).kind = 4 := by rw [show (toW R.ag).kind = 3 from hk]; decide
    unfold fV
    rw [show (toW R.ag).id = R.ag.id from rfl, eM]
    refine (if_neg (fun e => nomatch e)).trans ((if_neg ?_).trans ((if_neg hk4).trans ?_))
    ·show ¬ ((R.ag.kind = 3 ∧ (M.L.getD (R.ag.id - 1).toNat default).st ≠ 1) ∨ (R.ag.kind = 4 ∧ (M.L.getD (R.ag.id - 1).toNat default).st ≠ 2))
     omega
    ·show (nQ (fD (toW R.ag).kind (M.L.getD (R.ag.id - 1).toNat default)), { M with L := M.L.set (R.ag.id - 1).toNat (fD (toW R.ag).kind (M.L.getD (R.ag.id - 1).toNat default)) }) = _
     rw [hj]
   have hI1 := (h.inv.Fu h.calm (toW R.ag)).1
   rw [e] at hI1 ⊢
   refine (fQ (N := 1) (k := 40) (k' := 103) bz (jC hr) h.left rfl ?_).more (show 2 ≤ 1000 by decide)
   exact fA.ok (EG (N := 0) (mx := mx) (a := a) (m := m) (y := ((M.L.getD (R.ag.id - 1).toNat default).setSt 2).aG (-1)) hi (by rw [hs]; decide) (show (2 : Int) ≠ 3 by decide) rfl rfl (by unfold aj; rw [show (((M.L.getD (R.ag.id - 1).toNat default).setSt 2).aG (-1)).aN = -1 from rfl]; simp) h.inv hI1 h.one (by omega) (by omega) (by omega) h.hmx rfl rfl) h.ok
  ·have hE : bN M.L 0 R.ag.id (fun j : Jb => decide (j.state = 1)) = 8 := Cv hid (decide_eq_false hs)
   have e : fV M (toW R.ag) = (fK 8, M) := by
    unfold fV
    rw [show (toW R.ag).id = R.ag.id from rfl, eM]
    exact (if_neg (fun e => nomatch e)).trans (if_pos (.inl ⟨hk, hs⟩))
   rw [e]
   exact aX (N := 999) bz (jC (fun _ _ _ _ _ _ _ _ hS => Ew hS 8 (by decide) hE)) h.left rfl (by omega) (by omega) rfl rfl rfl
theorem xX (h : Bg a m mx R M) (s : Int) (hk : (R.ag.kind = 2 ∧ s = 5) ∨ (R.ag.kind = 5 ∧ s = 4)) :
 fA 1000 a m R (ah M) (Fin mx (mJ M (toW R.ag)).2 (lN (mJ M (toW R.ag)).1) false) := by
 have hll := h.few
 have ha := h.ha
 have hm := h.hm
 have kG := h.inv.mb.now
 have dM := fq h.inv h.one (by omega)
 have hrd : jN R.ag.kind = false := by rcases hk with ⟨hk, _⟩ | ⟨hk, _⟩ <;> (rw [hk]; rfl)
 have jC : ∀ {L : Value} {a' : Nat} {m' : Int} {R' : Wk} {P' : Pg}, (∀ (w : World) (b c t d p : Nat) (v : Value) (g : Nat), SW w b c t d p v g a m R (ah M) → Calls Tryz.prog 84 #[.pointer (some ⟨b, 0, none⟩), .pointer (some ⟨c, 0, none⟩), .int .i64 s] w (az w b c t d p v g a' m' L R' P')) → ed 40 a m R (ah M) L a' m' R' P' := fun hn w b c t d p v g hS => by
  rcases hk with ⟨hk, rfl⟩ | ⟨hk, rfl⟩
  ·exact fU hS h.cl (by rw [hk]; decide) hrd (O1 hS hk (hn w b c t d p v g hS))
  ·exact fU hS h.cl (by rw [hk]; decide) hrd (O3 hS hk (hn w b c t d p v g hS))
 have V7 : bB s M.now = 0 := by unfold bB; (repeat' split) <;> omega
 by_cases hid : R.ag.id < 1 ∨ (M.L.length : Int) < R.ag.id
 ·rw [Ph (toW R.ag) hid]
  exact aX (N := 999) bz (jC (fun _ _ _ _ _ _ _ _ hS => zQ hS dM s 7 (by decide) (by rw [show (ah M).now = M.now from rfl, V7]; exact yY hid))) h.left rfl (by omega) (by omega) rfl rfl rfl
 ·have hi : (R.ag.id - 1).toNat < M.L.length := by omega
  have hmem := aY hi
  have bo := h.inv.one _ hmem
  have eM := xW (M := M) hid
  by_cases hs : fe s (M.L.getD (R.ag.id - 1).toNat default) = true
  ·have hE : bN (ah M).J (bB s (ah M).now) R.ag.id (fe s) = 0 := by rw [show (ah M).now = M.now from rfl, V7]; exact vC hid hs
   have hr : ∀ (w : World) (b c t d p : Nat) (v : Value) (g : Nat), SW w b c t d p v g a m R (ah M) → Calls Tryz.prog 84 #[.pointer (some ⟨b, 0, none⟩), .pointer (some ⟨c, 0, none⟩), .int .i64 s] w (az w b c t d p v g _ _ _ _ _) := fun _ _ _ _ _ _ _ _ hS => Lr hS dM s hE
   obtain ⟨y, Pj⟩ : ∃ y, y = iQ M R.ag.kind (M.L.getD (R.ag.id - 1).toNat default) := ⟨_, rfl⟩
   have hyj : bR s M.now (M.L.getD (R.ag.id - 1).toNat default) = y := by
    rw [Pj]
    unfold iQ bR
    have es : (if R.ag.kind = 5 then (4 : Int) else 5) = s := by split <;> omega
    rw [es]
    by_cases e3 : (M.L.getD (R.ag.id - 1).toNat default).st = 3
    ·rw [if_pos e3, if_pos (show (M.L.getD (R.ag.id - 1).toNat default).2.2.2.2.2.1 = 3 from e3)]; rfl
    ·rw [if_neg e3, if_neg (show ¬ (M.L.getD (R.ag.id - 1).toNat default).2.2.2.2.2.1 = 3 from e3)]; rfl
   have eL : cz (ah M).J (bB s (ah M).now) R.ag.id (fe s) (bR s (ah M).now) = M.L.set (R.ag.id - 1).toNat y := (p8 hE).trans (by rw [← hyj]; rfl)
   rw [eL, yZ hid, show bO (ah M).J R.ag.id = M.L.getD (R.ag.id - 1).toNat default from uN hid] at hr
   have hok : ¬ (3 < (M.L.getD (R.ag.id - 1).toNat default).st ∨ (R.ag.kind = 5 ∧ (M.L.getD (R.ag.id - 1).toNat default).st ≠ 3)) := by
    unfold fe at hs
    rw [Bool.or_eq_true, Bool.and_eq_true, decide_eq_true_iff, decide_eq_true_iff, decide_eq_true_iff] at hs
    have : (M.L.getD (R.ag.id - 1).toNat default).state = (M.L.getD (R.ag.id - 1).toNat default).st := rfl
    omega
   have e : mJ M (toW R.ag) = (nQ y, { M with L := M.L.set (R.ag.id - 1).toNat y }) := by
    unfold mJ
    rw [show (toW R.ag).id = R.ag.id from rfl, eM]
    refine (if_neg (fun e => nomatch e)).trans ((if_neg hok).trans ?_)
    rw [Pj]
    rfl
   have hI1 := (h.inv.Mm h.calm (toW R.ag)).1
   rw [e] at hI1 ⊢
   have hy3 : y.st ≠ 3 := by
    rw [Pj]
    show (if R.ag.kind = 5 then (4 : Int) else 5) ≠ 3
    split <;> omega
   have hyp : aj y = false := by
    unfold aj
    rw [show y.aN = -1 by rw [Pj]; rfl]
    simp
   have V8 : y.bQ = (M.L.getD (R.ag.id - 1).toNat default).bQ := by rw [Pj]; unfold iQ; split <;> rfl
   refine (fQ (N := 2) (k := 40) (k' := 101) bz (jC hr) h.left rfl ?_).more (show 3 ≤ 1000 by decide)
   clear Pj hyj
   have mF := fq hI1 h.one (by rw [List.length_set]; omega)
   by_cases h3 : (M.L.getD (R.ag.id - 1).toNat default).st = 3
   ·have hrn := h.inv.runs _ hmem h3
    have Mo := h.inv.mb.bQ _ hmem
    have hfin := h.inv.mb.fin _ hmem
    have hlt := h.calm.runs _ hmem h3
    have hg := fun (w : World) (b c t d p : Nat) (v : Value) (g : Nat) (hS' : SW w b c t d p v g a m { ({ R with aC := M.L.getD (R.ag.id - 1).toNat default, rep := jh y } : Wk) with left := fG 101 } { ah M with J := M.L.set (R.ag.id - 1).toNat y }) => OA hS' ⟨dM.now, mF.few, mF.st, mF.lim, dM.rz, dM.f⟩ h3 Mo
    obtain ⟨n, hn⟩ : ∃ n : Int, n = ((List.range M.dr.length).countP (fun k => cZ (M.L.getD (R.ag.id - 1).toNat default).bQ.toNat k && !(M.dr.getD k false)) : Nat) := ⟨_, rfl⟩
    have hn2 : 0 ≤ n ∧ n ≤ 64 := by
     have h4 := List.countP_le_length (p := fun k => cZ (M.L.getD (R.ag.id - 1).toNat default).bQ.toNat k && !(M.dr.getD k false)) (l := List.range M.dr.length)
     rw [List.length_range] at h4
     have := h.inv.mb.nn
     omega
    refine fQ (N := 1) (k := 101) (k' := 103) (a' := a) (m' := m)
     (R' := { ({ ({ R with aC := M.L.getD (R.ag.id - 1).toNat default, rep := jh y } : Wk) with left := fG 101 } : Wk) with idle := n }) (P' := { ah M with J := M.L.set (R.ag.id - 1).toNat y, T := dh { M with L := M.L.set (R.ag.id - 1).toNat y } })
     JB (fun w b c t d p v g hS' => (hg w b c t d p v g hS').mono fun e w' hp => ?_) rfl rfl ?_
    ·obtain ⟨n', x', T', h5, h6⟩ := hp
     obtain ⟨h7, _, h8⟩ := En h.inv hi h3 hy3 h5
     rw [← hn] at h7
     subst h7 h8
     exact h6
    ·have hv : ed 103 a m { ({ ({ ({ R with aC := M.L.getD (R.ag.id - 1).toNat default, rep := jh y } : Wk) with left := fG 101 } : Wk) with idle := n } : Wk) with left := fG 103 } { ah M with J := M.L.set (R.ag.id - 1).toNat y, T := dh { M with L := M.L.set (R.ag.id - 1).toNat y } } _ _ _ _ _ := fun _ _ _ _ _ _ _ _ hS2 => Jh hS2 ⟨dM.now, mF.few, mF.st, mF.lim, mF.rz, dM.f⟩ (by omega) (by have := h.hmx; omega) h3 (h.inv.mb.aN _ hmem).2 (h.inv.mb.lim _ hmem) ⟨hlt, hfin.2⟩ (by show -64 ≤ n ∧ n ≤ 64; omega) (fun t => ay { M with L := M.L.set (R.ag.id - 1).toNat y } t 0) (fun t ht => by
      have hf := rR h.inv.l9 hi h3 hy3 hyp t 0
      show ay { M with L := M.L.set (R.ag.id - 1).toNat y } t 0 = ay M t 0 + had (max M.now M.now) (M.L.getD (R.ag.id - 1).toNat default).fin n t
      have ht' : M.now ≤ t := ht
      unfold had
      by_cases c1 : t < (M.L.getD (R.ag.id - 1).toNat default).fin
      ·rw [if_pos c1] at hf
       rw [if_pos ⟨by omega, .inl c1⟩, hf, hn]
      ·rw [if_neg c1] at hf
       rw [if_neg (by omega), hf]
       rfl) (fun t ht => mF.f t ht)
     exact aX (N := 0) wR hv rfl rfl (by omega) (by omega) rfl rfl h.ok
   ·refine fQ (N := 1) (k := 101) (k' := 103) JB (fun w b c t d p v g (hS' : SW w b c t d p v g a m { ({ R with aC := M.L.getD (R.ag.id - 1).toNat default, rep := jh y } : Wk) with left := fG 101 } { ah M with J := M.L.set (R.ag.id - 1).toNat y }) => RI hS' h3) rfl rfl ?_
    have YY : y.fin = (M.L.getD (R.ag.id - 1).toNat default).fin := by
     have : y = bR s M.now (M.L.getD (R.ag.id - 1).toNat default) := by
      have := congrArg (fun l : List Jb => l.getD (R.ag.id - 1).toNat default) eL
      rw [show cz (ah M).J (bB s (ah M).now) R.ag.id (fe s) (bR s (ah M).now) = M.L.set (R.ag.id - 1).toNat (bR s M.now (M.L.getD (R.ag.id - 1).toNat default)) from p8 hE] at this
      simp only [gz] at this
      rw [if_pos ⟨trivial, hi⟩, if_pos ⟨trivial, hi⟩] at this
      exact this.symm
     rw [this]
     show (if (M.L.getD (R.ag.id - 1).toNat default).2.2.2.2.2.1 = 3 then M.now else _) = _
     rw [if_neg (show ¬ (M.L.getD (R.ag.id - 1).toNat default).2.2.2.2.2.1 = 3 from h3)]
     rfl
    exact fA.ok (EG (N := 0) (mx := mx) (a := a) (m := m) (y := y) hi h3 hy3 V8 YY hyp h.inv hI1 h.one (by omega) (by omega) (by omega) h.hmx rfl rfl) h.ok
  ·rw [Bool.not_eq_true] at hs
   have hE : bN M.L (bB s M.now) R.ag.id (fe s) = 8 := by rw [V7]; exact Cv hid hs
   have hno : 3 < (M.L.getD (R.ag.id - 1).toNat default).st ∨ (R.ag.kind = 5 ∧ (M.L.getD (R.ag.id - 1).toNat default).st ≠ 3) := by
    unfold fe at hs
    rw [Bool.or_eq_false_iff, Bool.and_eq_false_iff, decide_eq_false_iff_not, decide_eq_false_iff_not, decide_eq_false_iff_not] at hs
    have : (M.L.getD (R.ag.id - 1).toNat default).state = (M.L.getD (R.ag.id - 1).toNat default).st := rfl
    omega
   have e : mJ M (toW R.ag) = (fK 8, M) := by
    unfold mJ
    rw [show (toW R.ag).id = R.ag.id from rfl, eM]
    exact (if_neg (fun e => nomatch e)).trans (if_pos hno)
   rw [e]
   exact aX (N := 999) bz (jC (fun _ _ _ _ _ _ _ _ hS => zQ hS dM s 8 (by decide) hE)) h.left rfl (by omega) (by omega) rfl rfl rfl
end
end Go.Proofs.YtelnhablglomjaaGreat

namespace Go.Proofs.YtelnhablglomjaaGreat
open Go.RowKit Go.Lib Go.Sort
section
variable {w : World} {b c t d p g a N : Nat} {v : Value} {m mx : Int} {P : Pg} {M M' : Md} {R : Wk} {Q : Nat → Int → Wk → Pg → Prop}
theorem Sv {k : Nat} (hk : k < 64) (L : List Jb) : (holderL L k < 0 ∧ kZ L k = iD) ∨ ∃ i : Nat, holderL L k = i ∧ i < L.length ∧ kZ L k = L.getD i default ∧ (L.getD i default).st = 3 := by
 have e : (fun j : Jb => decide (j.state ∈ [(3 : Int)]) && Ev (k : Int) j) = aH k := by
  funext j
  unfold aH Ev
  rw [oL hk, lD]
  have : (j.state ∈ [(3 : Int)]) ↔ (j.st = 3) := List.mem_singleton
  rw [decide_eq_decide.2 this]
 have e2 : kZ L (k : Int) = match L.findIdx? (aH k) with | some i => L.getD i default | none => iD := by
  unfold kZ
  rw [e]
  cases L.findIdx? (aH k) <;> rfl
 rcases fH L k with h | ⟨i, h, hi, h2⟩
 ·refine .inl ⟨h, ?_⟩
  rw [e2]
  unfold holderL at h
  cases hf : L.findIdx? (aH k) with
  | none => rfl
  | some i => rw [hf] at h; simp only at h; omega
 ·refine .inr ⟨i, h, hi, ?_, by unfold aH at h2; simp at h2; exact h2.1⟩
  rw [e2]
  unfold holderL at h
  cases hf : L.findIdx? (aH k) with
  | none => rw [hf] at h; simp only at h; omega
  | some q =>
    rw [hf] at h
    simp only at h
    have : q = i := by omega
    subst this
    rfl
theorem wT {k : Nat} {bb : Bool} (hk : k < M.dr.length) (hb : M.dr.getD k false = !bb) (hI : aF M) (hC : ∀ j ∈ M.L, j.st = 3 → M.now < j.fin) (h1 : 1 ≤ M.dr.length) (hll : M.L.length ≤ 900)
 (hI' : aF { M with dr := M.dr.set k bb }) (hn : R.ag.node = k) (ha : a ≤ 800) (hm : m ≤ 1000000) {by' : Int} (hby : by' = if bb then -1 else 1)
 (h : SW w b c t d p v g a m R { ah M with T := dh { M with dr := M.dr.set k bb } }) :
 Calls Tryz.prog 107 #[.pointer (some ⟨b, 0, none⟩), .pointer (some ⟨c, 0, none⟩), .int .i64 0, .int .i64 by'] w
  (az w b c t d p v g (a + 2) (m + 1) .nilFunc { R with rep := ⟨0, (k : Int), aR { M with dr := M.dr.set k bb } k, 0, 0, 0, 0, 0, 0⟩ } (ah { M with dr := M.dr.set k bb })) := by
 have hnn := hI.mb.nn
 have kG := hI.mb.now
 have dM := fq hI h1 hll
 have mF := fq hI' (by show 1 ≤ (M.dr.set k bb).length; rw [List.length_set]; exact h1) hll
 have hX : (max (ik (ah M) (k : Int)) M.now < 1152921504606846976) ∧ ∀ u, M.now ≤ u → ((decide (holderL M.L k < 0) || decide ((M.L.getD (holderL M.L k).toNat default).fin ≤ u)) = decide (max (ik (ah M) (k : Int)) M.now ≤ u)) := by
  rcases Sv (show k < 64 by omega) M.L with ⟨g1, g2⟩ | ⟨i, g1, hi, g2, g3⟩
  ·have e : ik (ah M) (k : Int) = M.now := by
    unfold ik
    rw [show (ah M).J = M.L from rfl, g2]
    rfl
   rw [e]
   refine ⟨by omega, fun u hu => ?_⟩
   rw [decide_eq_true g1, Bool.true_or]
   exact (decide_eq_true (by omega)).symm
  ·have hf := hC _ (aY hi) g3
   have hf2 := hI.mb.fin _ (aY hi)
   have e : ik (ah M) (k : Int) = max (M.L.getD i default).fin (M.now + 1) := by
    unfold ik
    rw [show (ah M).J = M.L from rfl, g2, if_pos g3]
    rfl
   rw [e, g1, Int.toNat_natCast]
   refine ⟨by omega, fun u hu => ?_⟩
   rw [decide_eq_false (show ¬ ((i : Int) < 0) by omega), Bool.false_or]
   exact decide_eq_decide.2 (by omega)
 have YZ : qE (dh { M with dr := M.dr.set k bb }) (k : Int) = aR { M with dr := M.dr.set k bb } k := by
  unfold qE
  rw [if_pos ⟨by omega, by rw [bC]; show (k : Int) < ((M.dr.set k bb).length : Nat); rw [List.length_set]; omega⟩, Int.toNat_natCast, dm]
 have hv := Ls (by' := by') h ⟨dM.now, dM.few, dM.st, dM.lim, mF.rz, dM.f⟩ ha hm hI.mb.bQ (by omega) (by rw [hby]; split <;> omega) (fun u => ay { M with dr := M.dr.set k bb } u 0) (fun u hu => by
  have hu' : M.now ≤ u := hu
  have hd := xq hk bb u 0
  have hx := hX.2 u hu'
  rw [hn]
  show ay { M with dr := M.dr.set k bb } u 0 = ay M u 0 + had (max (ik (ah M) (k : Int)) M.now) 1152921504606846976 by' u
  have hnf : bU M u k = (!(M.dr.getD k false) && decide (max (ik (ah M) (k : Int)) M.now ≤ u)) := by rw [← hx]; rfl
  have hh : had (max (ik (ah M) (k : Int)) M.now) 1152921504606846976 by' u = if max (ik (ah M) (k : Int)) M.now ≤ u then by' else 0 := by unfold had; simp
  rw [hd, hnf, hx, hb, hh, hby]
  by_cases c1 : max (ik (ah M) (k : Int)) M.now ≤ u
  ·rw [decide_eq_true c1, if_pos c1]
   cases bb <;> simp <;> omega
  ·rw [decide_eq_false c1, if_neg c1]
   cases bb <;> simp) (fun u hu => mF.f u hu) (by
  rw [hn]
  have : ik { ah M with T := dh { M with dr := M.dr.set k bb } } (k : Int) = ik (ah M) (k : Int) := rfl
  rw [this]
  omega)
 rw [hn, show ({ ah M with T := dh { M with dr := M.dr.set k bb } } : Pg).T = dh { M with dr := M.dr.set k bb } from rfl, YZ] at hv
 exact hv
theorem drain_eq {n : Nat} (h : dU lW M.L = none) : fJ M n true = { M with dr := M.dr.set n true } := by
 unfold fJ
 rw [if_pos rfl, rV h]
theorem wU {k : Nat} (hk : k < M.dr.length) {bb : Bool} (hb : M.dr.getD k false = !bb) : nk (dh M) (k : Int) bb 0 (dh { M with dr := M.dr.set k bb }) := by
 have hd : bb = decide ((dh M).getD (k : Int).toNat 0 < 3) := by
  rw [Int.toNat_natCast, dm, eZ hk, hb]
  cases bb <;> (by_cases h1 : 0 ≤ holderL M.L k <;> simp [h1])
 have hc : nk (dh M) (k : Int) bb 0 ((dh M).set (k : Int).toNat (kI ((dh M).getD (k : Int).toNat 0))) :=
  ⟨fun h => absurd h (by rw [bC]; omega), fun _ _ h => absurd hd h, fun _ _ _ => ⟨rfl, rfl⟩⟩
 have e := (IW hk hb hc).2
 rw [e] at hc
 exact hc
theorem Gy (h : Bg a m mx R M) (hk : R.ag.kind = 8) (hnd : -9223372036854775808 ≤ R.ag.node ∧ R.ag.node ≤ 9223372036854775807) :
 fA 1000 a m R (ah M) (Fin mx (iA M (toW R.ag)).2 (lN (iA M (toW R.ag)).1) false) := by
 have hll := h.few
 have ha := h.ha
 have hm := h.hm
 have hmx := h.hmx
 have dM := fq h.inv h.one (by omega)
 have hrd : jN R.ag.kind = false := by rw [hk]; rfl
 have jC : ∀ {L : Value} {a' : Nat} {m' : Int} {R' : Wk} {P' : Pg}, ed 88 a m R (ah M) L a' m' R' P' → ed 40 a m R (ah M) L a' m' R' P' := fun hn w b c t d p v g hS => fU hS h.cl (by rw [hk]; decide) hrd (O7 hS hk (hn w b c t d p v g hS))
 have hd7 : decide ((toW R.ag).kind = 7) = false := decide_eq_false (by rw [show (toW R.ag).kind = 8 from hk]; decide)
 by_cases ho : R.ag.node < 0 ∨ (M.dr.length : Int) ≤ R.ag.node
 ·have e : iA M (toW R.ag) = (fK 11, M) := if_pos ho
  have hT : nk (dh M) R.ag.node false 11 (dh M) := ⟨fun _ => ⟨rfl, rfl⟩, fun h1 h2 => by rw [bC] at h2; omega, fun h1 h2 => by rw [bC] at h2; omega⟩
  rw [e]
  refine aX (N := 999) (a' := a) (m' := m) (R' := { R with rep := kK 11, ok := false }) bz (jC (fun _ _ _ _ _ _ _ _ hS => resume_fn (P' := ah M) hS dM hnd hT fun W v1 g1 hW => ?_)) h.left rfl (by omega) (by omega) rfl rfl rfl
  exact Ex hW 11 1 (by decide)
 ·obtain ⟨k, hkk⟩ := Int.eq_ofNat_of_zero_le (show 0 ≤ R.ag.node by omega)
  have hk2 : k < M.dr.length := by omega
  cases hdr : M.dr.getD k false with
  | false =>
    have e : iA M (toW R.ag) = (fK 8, M) := by
     unfold iA
     refine (if_neg ho).trans (if_pos ?_)
     rw [hd7, show (toW R.ag).node = R.ag.node from rfl, hkk, Int.toNat_natCast, hdr]
    have hs : (dh M).getD R.ag.node.toNat 0 < 3 := by
     rw [hkk, Int.toNat_natCast, dm, eZ hk2, hdr]
     split <;> simp
    have hT : nk (dh M) R.ag.node false 8 (dh M) := ⟨fun h1 => by rw [bC] at h1; omega, fun _ _ _ => ⟨rfl, rfl⟩, fun _ _ h3 => by rw [decide_eq_true hs] at h3; cases h3⟩
    rw [e]
    refine aX (N := 999) (a' := a) (m' := m) (R' := { R with rep := kK 8, ok := false }) bz (jC (fun _ _ _ _ _ _ _ _ hS => resume_fn (P' := ah M) hS dM hnd hT fun W v1 g1 hW => ?_)) h.left rfl (by omega) (by omega) rfl rfl rfl
    exact Ex hW 8 1 (by decide)
  | true =>
    have e : iA M (toW R.ag) = ((0, (k : Int), aR { M with dr := M.dr.set k false } (k : Int), 0, 0, 0, 0, 0, 0), { M with dr := M.dr.set k false }) := by
     unfold iA
     refine (if_neg ho).trans ((if_neg ?_).trans ?_)
     ·rw [hd7, show (toW R.ag).node = R.ag.node from rfl, hkk, Int.toNat_natCast, hdr]
      exact fun e => nomatch e
     ·rw [hd7, show (toW R.ag).node = R.ag.node from rfl, hkk, Int.toNat_natCast]
      rfl
    have hI' := (h.inv.Kc h.calm (toW R.ag)).1
    rw [e] at hI' ⊢
    have hT := wU hk2 (bb := false) hdr
    rw [← hkk] at hT
    refine aX (N := 999) bz (jC (fun _ _ _ _ _ _ _ _ hS => resume_fn hS dM hnd hT fun W v1 g1 hW => wT (bb := false) (by' := 1) hk2 hdr h.inv h.calm.runs h.one (by omega) hI' hkk (by omega) (by omega) rfl hW)) h.left rfl (by omega) (by omega) rfl rfl h.ok
theorem JC {k : Nat} (hl : R.left = fG 106) (hkk : R.ag.node = k) (hk : k < M.dr.length) (hdr : M.dr.getD k false = false) (h1 : 1 ≤ M.dr.length) (hll : M.L.length ≤ 900) (hmx : mx ≤ 1000000) (hI' : aF (fJ M k true)) (q : Nat) :
 ∀ {L : List Jb} {a : Nat} {m : Int}, L.length = M.L.length → hits lW L ≤ q → aF { M with L := L } → (∀ j ∈ L, j.st = 3 → M.now < j.fin) → fC { M with L := L } lW = fC M lW → a + 2 * hits lW L + 2 ≤ 800 → m + hits lW L + 1 ≤ mx →
  fA (q + 1) a m R (ah { M with L := L }) (Fin mx (fJ M k true) ⟨0, (k : Int), aR (fJ M k true) k, 0, 0, 0, 0, 0, 0⟩ R.ok) := by
 have last : ∀ {L : List Jb} {a : Nat} {m : Int} (q : Nat), L.length = M.L.length → dU lW L = none → aF { M with L := L } → (∀ j ∈ L, j.st = 3 → M.now < j.fin) → fC { M with L := L } lW = fC M lW → a + 2 ≤ 800 → m + 1 ≤ mx →
  fA (q + 1) a m R (ah { M with L := L }) (Fin mx (fJ M k true) ⟨0, (k : Int), aR (fJ M k true) k, 0, 0, 0, 0, 0, 0⟩ R.ok) := by
  intro L a m q hL ho hI hC hM ha hm
  have eD : fJ M k true = { M with L := L, dr := M.dr.set k true } := by
   have h2 := rV (M := { M with L := L }) ho
   rw [h2] at hM
   unfold fJ
   rw [if_pos rfl, ← hM]
  rw [eD] at hI' ⊢
  have hT := wU (M := { M with L := L }) (k := k) hk (bb := true) hdr
  rw [← hkk] at hT
  refine aX (N := q) EE (fun _ _ _ _ _ _ _ _ hS => zU (M := { M with L := L }) hS (fq hI h1 (by show L.length ≤ 900; omega)) rfl hI h1 (by show L.length ≤ 900; omega) (by omega) (by omega) ho (by have := hI.mb.nn; have : M.dr.length ≤ 64 := this; omega) hT fun W v1 g1 hW => wT (M := { M with L := L }) (bb := true) (by' := -1) hk hdr hI hC h1 (by show L.length ≤ 900; omega) hI' hkk (by omega) (by omega) rfl hW) hl rfl (by omega) (by omega) rfl rfl rfl
 induction q with
 | zero =>
   intro L a m hL hq hI hC hM ha hm
   cases ho : dU lW L with
   | none => exact last 0 hL ho hI hC hM (by omega) (by omega)
   | some i =>
     have := (jG (L := L) ho).2.2.2.2
     omega
 | succ q ih =>
   intro L a m hL hq hI hC hM ha hm
   cases ho : dU lW L with
   | none => exact last (q + 1) hL ho hI hC hM (by omega) (by omega)
   | some i =>
     obtain ⟨hi, _, _, _, hh⟩ := jG ho
     refine fQ (k := 106) (k' := 106) EE (fun _ _ _ _ _ _ _ _ hS => zV (M := { M with L := L }) hS hI h1 (by show L.length ≤ 900; omega) (by omega) (by omega) ho) hl rfl ?_
     rw [← hl]
     refine ih (L := L.set i ((L.getD i default).aG (-1))) (by rw [List.length_set]; exact hL) (by omega) (hI.xy hi) (fun j hj => ?_) ((vY (M := { M with L := L }) ho).trans hM) (by omega) (by omega)
     rcases List.mem_or_eq_of_mem_set hj with h2 | rfl
     ·exact hC j h2
     ·exact fun hs => hC (L.getD i default) (aY hi) hs
theorem JD (h : Bg a m mx R M) (hk : R.ag.kind = 7) (hnd : -9223372036854775808 ≤ R.ag.node ∧ R.ag.node ≤ 9223372036854775807) :
 fA 1000 a m R (ah M) (Fin mx (iA M (toW R.ag)).2 (lN (iA M (toW R.ag)).1) false) := by
 have hll := h.few
 have ha := h.ha
 have hm := h.hm
 have hmx := h.hmx
 have dM := fq h.inv h.one (by omega)
 have hrd : jN R.ag.kind = false := by rw [hk]; rfl
 have jC : ∀ {L : Value} {a' : Nat} {m' : Int} {R' : Wk} {P' : Pg}, ed 87 a m R (ah M) L a' m' R' P' → ed 40 a m R (ah M) L a' m' R' P' := fun hn w b c t d p v g hS => fU hS h.cl (by rw [hk]; decide) hrd (O6 hS hk (hn w b c t d p v g hS))
 have hd7 : decide ((toW R.ag).kind = 7) = true := decide_eq_true hk
 by_cases ho : R.ag.node < 0 ∨ (M.dr.length : Int) ≤ R.ag.node
 ·have e : iA M (toW R.ag) = (fK 11, M) := if_pos ho
  rw [e]
  exact aX (N := 999) bz (jC (fun _ _ _ _ _ _ _ _ hS => EC hS dM hnd 11 (.inl ⟨by
   unfold qE
   rw [if_neg (by rw [show (ah M).T = dh M from rfl, bC]; omega)], rfl⟩))) h.left rfl (by omega) (by omega) rfl rfl rfl
 ·obtain ⟨k, hkk⟩ := Int.eq_ofNat_of_zero_le (show 0 ≤ R.ag.node by omega)
  have hk2 : k < M.dr.length := by omega
  have est : qE (ah M).T R.ag.node = aR M (k : Int) := by
   unfold qE
   rw [if_pos ⟨by omega, by rw [show (ah M).T = dh M from rfl, bC]; omega⟩, hkk, Int.toNat_natCast]
   exact dm k
  cases hdr : M.dr.getD k false with
  | true =>
    have e : iA M (toW R.ag) = (fK 8, M) := by
     unfold iA
     refine (if_neg ho).trans (if_pos ?_)
     rw [hd7, show (toW R.ag).node = R.ag.node from rfl, hkk, Int.toNat_natCast, hdr]
    rw [e]
    exact aX (N := 999) bz (jC (fun _ _ _ _ _ _ _ _ hS => EC hS dM hnd 8 (.inr ⟨by
     rw [est, eZ hk2, hdr]
     split <;> simp, rfl⟩))) h.left rfl (by omega) (by omega) rfl rfl rfl
  | false =>
    have e : iA M (toW R.ag) = ((0, (k : Int), aR (fJ M k true) (k : Int), 0, 0, 0, 0, 0, 0), fJ M k true) := by
     unfold iA
     refine (if_neg ho).trans ((if_neg ?_).trans ?_)
     ·rw [hd7, show (toW R.ag).node = R.ag.node from rfl, hkk, Int.toNat_natCast, hdr]
      exact fun e => nomatch e
     ·rw [hd7, show (toW R.ag).node = R.ag.node from rfl, hkk, Int.toNat_natCast]
    have hI' := (h.inv.Kc h.calm (toW R.ag)).1
    rw [e] at hI' ⊢
    have hst : qE (ah M).T R.ag.node = 1 ∨ qE (ah M).T R.ag.node = 2 := by
     rw [est, eZ hk2, hdr]
     split <;> simp
    have XW := Cu lW M.L
    cases hz : dU lW M.L with
    | none =>
      have eD := drain_eq (n := k) hz
      have hI2 : aF { M with dr := M.dr.set k true } := by rw [← eD]; exact hI'
      have hT := wU hk2 (bb := true) hdr
      rw [← hkk] at hT
      show fA 1000 a m R (ah M) (Fin mx (fJ M k true) ⟨0, (k : Int), aR (fJ M k true) k, 0, 0, 0, 0, 0, 0⟩ false)
      rw [eD]
      refine aX (N := 999) bz (jC (fun _ _ _ _ _ _ _ _ hS => EB hS dM hnd hst fun W hW => zU hW dM rfl h.inv h.one (by omega) (by omega) (by omega) hz hnd hT fun W2 v1 g1 hW2 => wT (bb := true) (by' := -1) hk2 hdr h.inv h.calm.runs h.one (by omega) hI2 hkk (by omega) (by omega) rfl hW2)) h.left rfl (by omega) (by omega) rfl rfl h.ok
    | some i =>
      obtain ⟨hi, _, _, _, hh⟩ := jG hz
      refine (fQ (N := 901) (k := 40) (k' := 106) bz (jC (fun _ _ _ _ _ _ _ _ hS => EB hS dM hnd hst fun W hW => zV hW h.inv h.one (by omega) (by omega) (by omega) hz)) h.left rfl ?_).more (show 902 ≤ 1000 by decide)
      refine fA.ok (JC (M := M) (R := { R with left := fG 106 }) (mx := mx) (k := k) rfl hkk hk2 hdr h.one (by omega) hmx hI' 900 (L := M.L.set i ((M.L.getD i default).aG (-1))) (by rw [List.length_set]) (by omega) (h.inv.xy hi) (fun j hj => by
       rcases List.mem_or_eq_of_mem_set hj with h2 | rfl
       ·exact h.calm.runs j h2
       ·exact fun hs => h.calm.runs (M.L.getD i default) (aY hi) hs) (vY hz) (by omega) (by omega)) h.ok
end
end Go.Proofs.YtelnhablglomjaaGreat

namespace Go.Proofs.YtelnhablglomjaaGreat
open Go.RowKit Go.Lib Go.Sort
section
variable {M : Md}
theorem Early.set (h : Early M) {i : Nat} {y : Jb} (hy : y.st ≤ 2 → y.fin = -1) : Early { M with L := M.L.set i y } := fun j hj => by
 rcases List.mem_or_eq_of_mem_set hj with h1 | rfl
 ·exact h j h1
 ·exact hy
theorem Early.map (h : Early M) {f : Jb → Jb} (hf : ∀ j : Jb, (j.st ≤ 2 → j.fin = -1) → ((f j).st ≤ 2 → (f j).fin = -1)) : Early { M with L := M.L.map f } := fun j hj => by
 obtain ⟨x, hx, rfl⟩ := List.mem_map.1 hj
 exact hf x (h x hx)
theorem Early.drop (h : Early M) (j : Jb) : Early (fC M j) := h.map fun x hx => by
 unfold gQ
 split
 ·exact hx
 ·exact hx
theorem Early.begin (h : Early M) (i : Nat) : Early (aW M i) := h.set fun hs => absurd hs (show ¬ (3 : Int) ≤ 2 by decide)
theorem Early.starts (n : Nat) (h : Early M) : Early (startGo n M) := by
 induction n generalizing M with
 | zero => exact h
 | succ n ih =>
   unfold startGo
   split
   ·exact ih (h.begin _)
   ·exact ih h
theorem Early.rU (h : Early M) : Early (dN M) := by
 refine Early.starts _ (h.map fun x hx => ?_)
 unfold aU
 split
 ·exact fun hs => absurd hs (show ¬ (6 : Int) ≤ 2 by decide)
 ·exact hx
theorem Early.dG (to : Int) (n : Nat) (h : Early M) : Early (dG to n M) := by
 induction n generalizing M with
 | zero => exact h
 | succ n ih =>
   unfold Proofs.YtelnhablglomjaaGreat.dG
   split
   ·exact h
   ·refine ih (Early.rU ?_)
    exact h
theorem Early.Hu (h : Early M) (r : Rw) : Early (fE M r).2 := by
 have same : Early { M with cl := true } := h
 unfold fE
 repeat' split
 all_goals first | exact h | exact same | skip
 ·unfold jS
  have ha : Early { M with L := M.L ++ [dB M r] } := fun j hj => by
   rcases List.mem_append.1 hj with h1 | h1
   ·exact h j h1
   ·rw [List.mem_singleton] at h1; subst h1; exact fun _ => rfl
  repeat' split
  ·exact h
  ·exact ha
  ·exact ha.drop _
 ·unfold mJ
  simp only
  repeat' split
  ·exact h
  ·exact h
  ·refine h.set fun hs => ?_
   have e : (iQ M r.kind (getM M r.id).1).st = if r.kind = 5 then 4 else 5 := rfl
   rw [e] at hs
   split at hs <;> omega
 ·unfold fV
  simp only
  have hx : ((getM M r.id).2 = false) ∨ (getM M r.id).1 ∈ M.L := by
   cases hg : (getM M r.id).2 with
   | false => exact .inl rfl
   | true => exact .inr (lC hg).1
  by_cases h1 : (getM M r.id).2 = false
  ·rw [if_pos h1]; exact h
  ·rw [if_neg h1]
   have hm := hx.resolve_left h1
   have hx1 := h _ hm
   split
   ·exact h
   ·rename_i h2
    have hy : (fD r.kind (getM M r.id).1).st ≤ 2 → (fD r.kind (getM M r.id).1).fin = -1 := by
     unfold fD
     split
     ·rename_i h3
      exact fun _ => hx1 (by by_cases e : (getM M r.id).1.st = 1 <;> omega)
     ·split
      ·rename_i h3
       exact fun _ => hx1 (by by_cases e : (getM M r.id).1.st = 2 <;> omega)
      ·exact hx1
    split
    ·exact (h.set hy).drop _
    ·exact h.set hy
 ·unfold iA
  repeat' split
  ·exact h
  ·exact h
  ·unfold fJ
   split
   ·exact h.drop lW
   ·exact h
 ·unfold mQ
  split
  ·exact h
  ·exact h.dG _ _
theorem Early.kP (h : Early M) (id t : Int) : Early (df M id t).2 := by
 unfold df
 split
 ·rename_i hf
  split
  ·exact h.begin _
  ·by_cases hi : (id - 1).toNat < M.L.length
   ·refine h.set fun hs => ?_
    exact h (M.L.getD (id - 1).toNat default) (aY hi) hs
   ·show Early { M with L := M.L.set (id - 1).toNat _ }
    rw [List.set_eq_of_length_le (by omega)]
    exact h
 ·exact h
theorem L6 (n : Nat) : Early (dK n) := fun _ hj => nomatch hj
theorem Pk (f : Nat → Bool) (n j : Nat) (h : ∀ k, n ≤ k → f k = false) : aO f (n + j) = aO f n := by
 induction j with
 | zero => rfl
 | succ j ih =>
   show aO f (n + j) + (if f (n + j) = true then 1 else 0) = _
   rw [h (n + j) (by omega), ih]
   simp
theorem uO (h : aF M) (f : Nat → Bool) (x y : Int) (hf : ∀ k, f k = (decide (aR M k = x) || decide (aR M k = y))) (hx : x ≠ 0) (hy : y ≠ 0) : ((aO f 64 : Nat) : Int) = lX M x y := by
 have hn := h.mb.nn
 have hc := Pk f M.dr.length (64 - M.dr.length) fun k hk => by
  rw [hf, iH (by omega), decide_eq_false (fun e => hx e.symm), decide_eq_false (fun e => hy e.symm)]
  rfl
 rw [show M.dr.length + (64 - M.dr.length) = 64 by omega] at hc
 rw [hc, sD]
 unfold lX
 rw [show f = fun k : Nat => decide (aR M k = x) || decide (aR M k = y) from funext hf]
end
section
variable {w : World} {b c t d p g a N : Nat} {v : Value} {m mx : Int} {P : Pg} {M M' : Md} {R : Wk} {Q : Nat → Int → Wk → Pg → Prop}
theorem L8 (h : Bg a m mx R M) (hk : R.ag.kind = 6 ∨ R.ag.kind = 10 ∨ R.ag.kind = 11 ∨ R.ag.kind = 12) :
 fA 1000 a m R (ah M) (Fin mx (fE M (toW R.ag)).2 (lN (fE M (toW R.ag)).1) false) := by
 have hll := h.few
 have ha := h.ha
 have hm := h.hm
 have hmx := h.hmx
 have hcl : ¬ M.cl = true := by rw [h.cl]; decide
 have dM := fq h.inv h.one (by omega)
 have hrd : jN R.ag.kind = true := by rcases hk with e | e | e | e <;> (rw [e]; rfl)
 have jC : ∀ {L : Value} {a' : Nat} {m' : Int} {R' : Wk} {P' : Pg}, ed 70 a m R (ah M) L a' m' R' P' → ed 40 a m R (ah M) L a' m' R' P' := fun hn w b c t d p v g hS => zX hS h.cl (by omega) hrd (hn w b c t d p v g hS)
 rcases hk with hk | hk | hk | hk
 ·by_cases hid : R.ag.id < 1 ∨ (M.L.length : Int) < R.ag.id
  ·have e : fE M (toW R.ag) = (fK 7, M) := by
    unfold fE
    rw [if_neg hcl, show (toW R.ag).kind = 6 from hk]
    exact wS (toW R.ag) hid
   have hg : gN M.L R.ag.id = 7 := by unfold gN; (repeat' split) <;> omega
   rw [e]
   exact aX (N := 999) bz (jC (fun _ _ _ _ _ _ _ _ hS => Ak hS hk 7 (by decide) hg)) h.left rfl (by omega) (by omega) rfl rfl rfl
  ·have hg : gN M.L R.ag.id = 0 := by unfold gN; (repeat' split) <;> omega
   have hi : (R.ag.id - 1).toNat < M.L.length := by omega
   have e : fE M (toW R.ag) = (nQ (M.L.getD (R.ag.id - 1).toNat default), M) := by
    unfold fE
    rw [if_neg hcl, show (toW R.ag).kind = 6 from hk]
    show fV M (toW R.ag) = _
    unfold fV
    rw [show (toW R.ag).id = R.ag.id from rfl, xW hid, show (toW R.ag).kind = 6 from hk]
    show (nQ (M.L.getD (R.ag.id - 1).toNat default), ({ M with L := M.L.set (R.ag.id - 1).toNat (M.L.getD (R.ag.id - 1).toNat default) } : Md)) = _
    have : M.L.set (R.ag.id - 1).toNat (M.L.getD (R.ag.id - 1).toNat default) = M.L := by
     simp only [List.getD, List.getElem?_eq_getElem hi, Option.getD_some, List.set_getElem_self]
    rw [this]
   have hr : ed 70 a m R (ah M) _ _ _ _ _ := fun _ _ _ _ _ _ _ _ hS => Cq hS hk hg
   rw [show bO (ah M).J R.ag.id = M.L.getD (R.ag.id - 1).toNat default from uN hid] at hr
   rw [e]
   exact aX (N := 999) bz (jC hr) h.left rfl (by omega) (by omega) rfl rfl h.ok
 ·have e : fE M (toW R.ag) = (((0, 0, 0, 0, 0, 0, (lX M 1 1 : Int), (lX M 2 3 : Int), (lX M 4 4 : Int)) : Rl), M) := by
   unfold fE
   rw [if_neg hcl, show (toW R.ag).kind = 10 from hk]
   rfl
  have hr : ed 70 a m R (ah M) _ _ _ _ _ := fun _ _ _ _ _ _ _ _ hS => LQ hS dM hk
  rw [show (ah M).T = dh M from rfl, uO h.inv (iq (dh M)) 1 1 (fun k => by rw [vk, Bool.or_self]) (by decide) (by decide),
   uO h.inv (bW (dh M)) 2 3 (fun k => by unfold bW; rw [dm]) (by decide) (by decide),
   uO h.inv (fun i => bX (dh M) i && !bW (dh M) i) 4 4 (fun k => by
    unfold bX bW
    rw [dm]
    generalize aR M k = s
    by_cases h2 : s = 2
    ·subst h2; rfl
    ·by_cases h3 : s = 3
     ·subst h3; rfl
     ·rw [decide_eq_false h2, decide_eq_false h3]; simp) (by decide) (by decide)] at hr
  rw [e]
  exact aX (N := 999) bz (jC hr) h.left rfl (by omega) (by omega) rfl rfl h.ok
 ·have e : fE M (toW R.ag) = (((0, 0, 0, 0, 0, 0, (oq M 1 : Int), (oq M 2 : Int), (oq M 3 : Int)) : Rl), M) := by
   unfold fE
   rw [if_neg hcl, show (toW R.ag).kind = 11 from hk]
   rfl
  rw [e]
  exact aX (N := 999) bz (jC (fun _ _ _ _ _ _ _ _ hS => LU hS dM hk)) h.left rfl (by omega) (by omega) rfl rfl h.ok
 ·have e : fE M (toW R.ag) = ((0, 0, 0, M.now, 0, 0, ay M M.now 0, 0, 0), M) := by
   unfold fE
   rw [if_neg hcl, show (toW R.ag).kind = 12 from hk]
   rfl
  rw [e]
  exact aX (N := 999) bz (jC (fun _ _ _ _ _ _ _ _ hS => zW hS (by omega) hk)) h.left rfl (by omega) (by omega) rfl rfl h.ok
theorem L9 (h : Bg a m mx R M) (hk : R.ag.kind = 13) (hrep : R.rep = oD) :
 fA 1000 a m R (ah M) (Fin mx { M with cl := true } (lN (fK 0)) false) := by
 have hll := h.few
 have ha := h.ha
 have hm := h.hm
 have hrd : jN R.ag.kind = false := by rw [hk]; rfl
 exact aX (N := 999) bz (fun _ _ _ _ _ _ _ _ hS => fU hS h.cl (by rw [hk]; decide) hrd (LV hS hk)) h.left rfl (by omega) (by omega) rfl hrep h.ok
theorem Dp (to : Int) (hto : to ≤ 1099511627776) (hl : R.left = fG 110) (tT : R.target = to) (hmx : mx ≤ 1000000) (n : Nat) :
 ∀ {M : Md} {a : Nat} {m : Int}, aF M → Calm M → Early M → 1 ≤ M.dr.length → M.L.length ≤ 900 → M.now ≤ to → mH M < n → a ≤ 800 → m + n ≤ mx →
  fA n a m R (ah M) (Fin mx { dG to n M with now := to } ⟨0, 0, 0, to, 0, 0, ay (dG to n M) to 0, 0, 0⟩ R.ok) := by
 induction n with
 | zero =>
   intro M a m hI hC hE h1 hll hnt hn
   have := (mW nR 2 M.L fun j _ => pz j).1
   unfold mH at hn
   omega
 | succ n ih =>
   intro M a m hI hC hE h1 hll hnt hn ha hm
   by_cases hx : aS M < 0 ∨ to < aS M
   ·have e : dG to (n + 1) M = M := if_pos hx
    rw [e]
    have hf : ed 110 a m R (ah M) _ _ _ _ _ := fun _ _ _ _ _ _ _ _ hS => vO hS hI hE h1 hll ha (by omega) (by rw [tT]; exact hx) (by rw [tT]; exact ⟨hnt, hto⟩)
    rw [tT] at hf
    exact aX (N := n) z8 hf hl rfl (by omega) (by omega) rfl rfl rfl
   ·have e : dG to (n + 1) M = dG to n (dN { M with now := aS M }) := if_neg hx
    rw [e]
    obtain ⟨a1, a2, a3⟩ := hI.step hC (by omega) (by omega)
    obtain ⟨b1, b2, b3, b4⟩ := a2.rU
    have hkp := oz a2.mb
    have hf : ed 110 a m R (ah M) _ _ _ _ _ := fun _ _ _ _ _ _ _ _ hS => zT hS hI hC hE h1 hll ha (by omega) (by rw [tT]; omega) (by rw [tT]; exact hto)
    refine fQ (k := 110) (k' := 110) z8 hf hl rfl ?_
    rw [← hl]
    refine ih b1 b2 (Early.rU hE) (by rw [hkp.2.2.2.1]; exact h1) (by rw [hkp.2.1]; exact hll) (by rw [hkp.2.2.1]; show aS M ≤ to; omega) ?_ ha (by omega)
    have := b4 a3
    have e2 : mH { M with now := aS M } = mH M := rfl
    omega
theorem Ma (h : Bg a m mx R M) (hE : Early M) (hk : R.ag.kind = 9) :
 fA 1000 a m R (ah M) (Fin mx (mQ M R.ag.till).2 (lN (mQ M R.ag.till).1) false) := by
 have hll := h.few
 have ha := h.ha
 have hm := h.hm
 have hmx := h.hmx
 have kG := h.inv.mb.now
 have dM := fq h.inv h.one (by omega)
 have hrd : jN R.ag.kind = false := by rw [hk]; rfl
 have jC : ∀ {L : Value} {a' : Nat} {m' : Int} {R' : Wk} {P' : Pg}, ed 89 a m R (ah M) L a' m' R' P' → ed 40 a m R (ah M) L a' m' R' P' := fun hn w b c t d p v g hS => fU hS h.cl (by rw [hk]; decide) hrd (O8 hS hk (hn w b c t d p v g hS))
 by_cases hlow : R.ag.till < 1
 ·have e : mQ M R.ag.till = (fK 10, M) := if_pos (.inl hlow)
  rw [e]
  exact aX (N := 999) bz (jC (fun _ _ _ _ _ _ _ _ hS => OZ hS dM hlow)) h.left rfl (by omega) (by omega) rfl rfl rfl
 ·by_cases hhi : 1099511627776 - M.now < R.ag.till
  ·have e : mQ M R.ag.till = (fK 10, M) := if_pos (.inr hhi)
   rw [e]
   exact aX (N := 999) bz (jC (fun _ _ _ _ _ _ _ _ hS => LP hS dM hlow hhi)) h.left rfl (by omega) (by omega) rfl rfl rfl
  ·have hev := (mW nR 2 M.L fun j _ => pz j).2
   have XX : mH M < (2 * M.L.length + 1 : Nat) := by unfold mH; omega
   have e : mQ M R.ag.till = ((0, 0, 0, M.now + R.ag.till, 0, 0, ay (qa M (M.now + R.ag.till)) (M.now + R.ag.till) 0, 0, 0), qa M (M.now + R.ag.till)) := if_neg (by omega)
   rw [e]
   obtain ⟨to, hto⟩ : ∃ to, to = M.now + R.ag.till := ⟨_, rfl⟩
   rw [← hto]
   unfold qa
   obtain ⟨n, hn⟩ : ∃ n, n = 2 * M.L.length := ⟨_, rfl⟩
   rw [← hn] at XX ⊢
   by_cases hx : aS M < 0 ∨ to < aS M
   ·have e : dG to (n + 1) M = M := if_pos hx
    rw [e]
    refine aX (N := 999) (a' := a) (m' := m + 1) (R' := { R with target := to, rep := ⟨0, 0, 0, to, 0, 0, ay M to 0, 0, 0⟩ }) bz (jC (fun _ _ _ _ _ _ _ _ hS => Jy (P' := ah { M with now := to }) hS dM hlow hhi fun W hW => ?_)) h.left rfl (by omega) (by omega) rfl rfl h.ok
    rw [show (ah M).now + R.ag.till = to from hto.symm] at hW
    exact vO hW h.inv hE h.one (by omega) (by omega) (by omega) hx ⟨by show M.now ≤ to; omega, by show to ≤ _; omega⟩
   ·have e : dG to (n + 1) M = dG to n (dN { M with now := aS M }) := if_neg hx
    rw [e]
    obtain ⟨a1, a2, a3⟩ := h.inv.step h.calm (by omega) (by omega)
    obtain ⟨b1, b2, b3, b4⟩ := a2.rU
    have hkp := oz a2.mb
    refine (fQ (N := n) (k := 40) (k' := 110) (a' := a) (m' := m + 1) (R' := { R with target := to }) (P' := ah (dN { M with now := aS M })) bz (jC (fun _ _ _ _ _ _ _ _ hS => Jy hS dM hlow hhi fun W hW => ?_)) h.left rfl ?_).more (show n + 1 ≤ 1000 by omega)
    ·rw [show (ah M).now + R.ag.till = to from hto.symm] at hW
     exact zT hW h.inv h.calm hE h.one (by omega) (by omega) (by omega) ⟨by omega, by show aS M ≤ to; omega⟩ (by show to ≤ _; omega)
    ·refine fA.ok (Dp (R := { ({ R with target := to } : Wk) with left := fG 110 }) (mx := mx) to (by omega) rfl rfl hmx n b1 b2 (Early.rU hE) (by rw [hkp.2.2.2.1]; exact h.one) (by rw [hkp.2.1]; show M.L.length ≤ 900; omega) (by rw [hkp.2.2.1]; show aS M ≤ to; omega) (by
      have := b4 a3
      have e2 : mH { M with now := aS M } = mH M := rfl
      omega) (by omega) (by omega)) h.ok
end
end Go.Proofs.YtelnhablglomjaaGreat

namespace Go.Proofs.YtelnhablglomjaaGreat
open Go.RowKit Go.Lib Go.Sort
section
variable {M : Md}
theorem JE (hI : aF M) {id t : Int} (hf : fO M id t = true) : ∃ i : Nat, id = (i : Int) + 1 ∧ i < M.L.length ∧ (M.L.getD i default).st = 1 ∧ M.now ≤ t ∧ t ≤ 1099511627776 ∧ M.cl = false ∧
 ∀ u, t ≤ u → u < t + (M.L.getD i default).lim → (M.L.getD i default).wid ≤ ay M u ((i : Int) + 1) := by
 have hn := hI.mb.now
 unfold fO at hf
 simp only at hf
 split at hf
 ·cases hf
 rename_i hq
 have hg : (getM M id).2 = true := by cases e : (getM M id).2 <;> simp_all
 obtain ⟨hm, hi, he, hid⟩ := lC hg
 rw [he] at hm hq hf
 have hs : (M.L.getD (id - 1).toNat default).st = 1 := by
  by_cases e : (M.L.getD (id - 1).toNat default).st = 1
  ·exact e
  ·exact absurd (.inr (.inr (.inl e))) hq
 have ht : M.now ≤ t ∧ t ≤ 1099511627776 := by omega
 have hcl : M.cl = false := by
  cases e : M.cl with
  | false => rfl
  | true => exact absurd (.inl e) hq
 have Hr := hI.ids _ hi
 have hroom := fun u => ym hn.1 ht.1 hf u
 rw [Hr] at hroom
 exact ⟨(id - 1).toNat, hid, hi, hs, ht.1, ht.2, hcl, hroom⟩
theorem Cw (hI : aF M) {i : Nat} (hi : i < M.L.length) (hroom : ∀ u, M.now ≤ u → u < M.now + (M.L.getD i default).lim → (M.L.getD i default).wid ≤ ay M u ((i : Int) + 1)) : (M.L.getD i default).wid ≤ aL M M.now M.dr.length := by
 have bo := hI.one _ (aY hi)
 have h0 := hroom M.now (Int.le_refl _) (by omega)
 have ht0 := nD (L := M.L) (fun j hj => hI.mb.wid j hj) M.now ((i : Int) + 1)
 unfold ay at h0
 omega
theorem Gz (hI : aF M) (hC : Calm M) {i : Nat} (hi : i < M.L.length) (hs : (M.L.getD i default).st = 1) {t : Int} (ht : M.now ≤ t ∧ t ≤ 1099511627776)
 (hroom : ∀ u, t ≤ u → u < t + (M.L.getD i default).lim → (M.L.getD i default).wid ≤ ay M u ((i : Int) + 1)) (u : Int) (hu : M.now ≤ u) :
 ay (if t = M.now then aW M i else { M with L := M.L.set i ((M.L.getD i default).aG t) }) u 0 = ay M u ((i : Int) + 1) + had (max t M.now) (t + (M.L.getD i default).lim) (-(M.L.getD i default).wid) u := by
 have hm := aY hi
 have bo := hI.one _ hm
 have bl := hI.mb.lim _ hm
 have hn := hI.mb.now
 have hid := hI.ids i hi
 rw [mV hi hI.ids]
 have hh : had (max t M.now) (t + (M.L.getD i default).lim) (-(M.L.getD i default).wid) u = if t ≤ u ∧ u < t + (M.L.getD i default).lim then -(M.L.getD i default).wid else 0 := by
  unfold had
  have e1 : max t M.now = t := by omega
  rw [e1]
  by_cases c : t ≤ u ∧ u < t + (M.L.getD i default).lim
  ·rw [if_pos c, if_pos ⟨c.1, .inl c.2⟩]
  ·rw [if_neg c, if_neg (by omega)]
 rw [hh]
 by_cases e : t = M.now
 ·subst e
  rw [if_pos rfl, rQ hi (by omega)]
  have hlow := (hI.begin hC.runs hi hs (Cw hI hi hroom) fun v h1 h2 => by
   have := hroom v h1 h2
   rw [mV hi hI.ids] at this
   exact this).2
  rw [hlow]
  split <;> split <;> omega
 ·rw [if_neg e, jd hi]
  have hpl : aj ((M.L.getD i default).aG t) = true := by
   unfold aj
   rw [Bool.and_eq_true]
   exact ⟨decide_eq_true hs, decide_eq_true (show 0 ≤ t by omega)⟩
  have hc2 := mR (t := u) (but := 0) hpl (show (M.L.getD i default).id ≠ 0 by rw [hid]; omega)
  rw [hc2]
  show ay M u 0 + dO u 0 (M.L.getD i default) - (if t ≤ u ∧ u < t + (M.L.getD i default).lim then (M.L.getD i default).wid else 0) = _
  split <;> omega
end
section
variable {w : World} {b c t d p g a N : Nat} {v : Value} {m mx : Int} {P : Pg} {M M' : Md} {R : Wk} {Q : Nat → Int → Wk → Pg → Prop}
def mG (M : Md) : Ry := if M.cl then kK 12 else oD
theorem GA (hl : R.left = fG 74) (hI : aF M) (hC : Calm M) (h1 : 1 ≤ M.dr.length) (hll : M.L.length ≤ 190) (ha : a ≤ 1 + 2 * M.L.length) (hm : m + 1000 ≤ mx) (hmx : mx ≤ 1000000)
 (ho : R.ok = false) (hrep : R.rep = oD) (hxt : -9223372036854775808 ≤ R.dR ∧ R.dR ≤ 9223372036854775807) :
 fA 1000 a m R (ah M) (Fin mx (df M R.lQ R.dR).2 (mG M) (df M R.lQ R.dR).1) := by
 cases hf : fO M R.lQ R.dR with
 | false =>
   have e : df M R.lQ R.dR = (false, M) := if_neg (by rw [hf]; decide)
   rw [e]
   cases hcl : M.cl with
   | true => exact aX (N := 999) yX (fun _ _ _ _ _ _ _ _ hS => Dk hS hcl) hl rfl (by omega) (by omega) rfl (by unfold mG; rw [hcl]; rfl) rfl
   | false => exact aX (N := 999) yX (fun _ _ _ _ _ _ _ _ hS => OW hS hI h1 (by omega) (by omega) hxt hcl hf) hl rfl (by omega) (by omega) rfl (by unfold mG; rw [hcl]; exact hrep) ho
 | true =>
   obtain ⟨i, hid, hi, hs, ht1, ht2, hcl, hroom⟩ := JE hI hf
   have MS : (R.lQ - 1).toNat = i := by omega
   have hmem := aY hi
   have bo := hI.one _ hmem
   have bl := hI.mb.lim _ hmem
   have bw := hI.mb.wid _ hmem
   have bp := hI.mb.aN _ hmem
   have Hr := hI.ids i hi
   have kG := hI.mb.now
   have dM := fq hI h1 (by omega)
   have e : df M R.lQ R.dR = (true, if R.dR = M.now then aW M i else { M with L := M.L.set i ((M.L.getD i default).aG R.dR) }) := by
    unfold df
    rw [if_pos hf, MS]
    split <;> rfl
   have hI' := (hI.kP hC R.lQ R.dR).1
   rw [e] at hI' ⊢
   have hfree := Gz hI hC hi hs ⟨ht1, ht2⟩ hroom
   have hdr : (if R.dR = M.now then aW M i else { M with L := M.L.set i ((M.L.getD i default).aG R.dR) }).dr.length = M.dr.length := by split <;> rfl
   have Sw : (if R.dR = M.now then aW M i else { M with L := M.L.set i ((M.L.getD i default).aG R.dR) }).now = M.now := by split <;> rfl
   have UZ : oD = mG M := by unfold mG; rw [hcl]; rfl
   have Y0 : bO M.L R.lQ = M.L.getD i default := by rw [uN (by omega), MS]
   have hck : ed 74 a m R (ah M) _ _ _ _ _ := fun _ _ _ _ _ _ _ _ hS => LK hS hI h1 (by omega) (by omega) hxt hcl hf
   rw [Y0] at hck
   have zn : ∀ u, ay M u ((i : Int) + 1) = ay M u 0 + dO u 0 (M.L.getD i default) := fun u => mV hi hI.ids u
   have mF : PK { ah M with f := fun u => ay M u ((i : Int) + 1) } := ⟨dM.now, dM.few, dM.st, dM.lim, dM.rz, fun u hu => ⟨CV hI hi u hu, (E8 hI.mb u _).2⟩⟩
   obtain ⟨M1, hM1⟩ : ∃ M1, M1 = (if R.dR = M.now then aW M i else { M with L := M.L.set i ((M.L.getD i default).aG R.dR) }) := ⟨_, rfl⟩
   rw [← hM1] at hI' hfree hdr Sw ⊢
   have hrange : ∀ u, M.now ≤ u → 0 ≤ ay M1 u 0 ∧ ay M1 u 0 ≤ 64 := fun u hu => wL hI' u (by rw [Sw]; exact hu)
   have XY : PK { ah M with f := fun u => ay M1 u 0 } := ⟨dM.now, dM.few, dM.st, dM.lim, dM.rz, fun u hu => hrange u hu⟩
   refine (fQ (N := 3) (k := 74) (k' := 91) yX hck hl rfl ?_).more (show 4 ≤ 1000 by decide)
   have cont : ∀ (a2 : Nat) (m2 : Int), a2 ≤ 700 → m2 + 10 ≤ mx →
    fA 2 a2 m2 { R with aC := M.L.getD i default, ok := true, left := fG 115 } { ah M with f := fun u => ay M u ((i : Int) + 1) } (Fin mx M1 (mG M) true) := by
    intro a2 m2 ha2 hm2
    have hen : ed 115 a2 m2 { R with aC := M.L.getD i default, ok := true, left := fG 115 } { ah M with f := fun u => ay M u ((i : Int) + 1) } _ _ _ _ _ := fun _ _ _ _ _ _ _ _ hS2 => OV hS2 mF (by omega) (by omega) hs ⟨by show 0 ≤ R.dR; omega, by show R.dR ≤ 1099511627776; omega⟩ ⟨bo.2.2.1, bl.2⟩ bw (fun u => ay M1 u 0) (fun u hu => hfree u hu) (fun u hu => hrange u hu)
    refine fQ (N := 1) (k := 115) (k' := 145) Pf hen rfl rfl ?_
    by_cases hx : R.dR = M.now
    ·have hidle : (M.L.getD i default).wid ≤ ((List.range M.dr.length).countP fun n : Nat => decide (aR M n = 1) : Nat) := by
      rw [← Jl hC.runs]
      exact Cw hI hi (by rw [← hx]; exact hroom)
     have hT := Jm hI hi (by omega) hidle
     have hset := fun (w : World) (b c t d p : Nat) (v : Value) (g : Nat) (Cr : SW w b c t d p v g (a2 + 2) (m2 + 1) { R with aC := (M.L.getD i default).aG R.dR, ok := true, left := fG 145 } { ah M with f := fun u => ay M1 u 0 }) => Jv Cr XY hx (by show -9223372036854775808 ≤ (M.L.getD i default).wid ∧ (M.L.getD i default).wid ≤ _; omega) hT
     rw [if_pos hx] at hM1
     have hbs : cz (ah M).J (gF (ah M).now) (M.L.getD i default).id (fun j : Jb => decide (j.state = 1)) (mg (ah M).now (iP M (M.L.getD i default).wid : Int)) = (aW M i).L := zP hI hi hs
     have hP : ({ ah M with f := fun u => ay M1 u 0, T := dh (aW M i), J := (aW M i).L } : Pg) = ah M1 := by rw [hM1]; rfl
     refine aX (N := 0) (a' := a2 + 2) (m' := m2 + 1) Ct (fun w b c t d p v g Cr => (hset w b c t d p v g Cr).mono fun e w' hp => ?_) rfl rfl (by omega) (by omega) rfl (hrep.trans UZ) rfl
     rw [← hP, ← hbs]
     exact hp
    ·have hset := fun (w : World) (b c t d p : Nat) (v : Value) (g : Nat) (Cr : SW w b c t d p v g (a2 + 2) (m2 + 1) { R with aC := (M.L.getD i default).aG R.dR, ok := true, left := fG 145 } { ah M with f := fun u => ay M1 u 0 }) => Dj Cr hx
     rw [if_neg hx] at hM1
     have ND : gZ R.dR = 0 := by unfold gZ; rw [if_neg (by omega), if_neg (by omega)]
     have hbs : cz (ah M).J (gZ R.dR) R.lQ (fun j : Jb => decide (j.state = 1)) (lq R.dR) = M.L.set i ((M.L.getD i default).aG R.dR) := by
      rw [ND]
      have := vC (ok := fun j : Jb => decide (j.state = 1)) (L := M.L) (id := R.lQ) (by omega) (by rw [MS]; exact decide_eq_true hs)
      have h2 := p8 (ch := lq R.dR) this
      rw [MS] at h2
      exact h2
     have hT1 : dh M = dh M1 := by
      rw [hM1]
      refine pW (by rw [bC, bC]) fun n hn => ?_
      rw [dm, dm, qd (y := (M.L.getD i default).aG R.dR) hi Iff.rfl rfl]
     have hP : ({ ah M with f := fun u => ay M1 u 0, J := M.L.set i ((M.L.getD i default).aG R.dR) } : Pg) = ah M1 := by
      show Pg.mk M.now _ (dh M) _ M.cl = _
      rw [hT1, hM1]
      rfl
     refine aX (N := 0) (a' := a2 + 2) (m' := m2 + 1) Ct (fun w b c t d p v g Cr => (hset w b c t d p v g Cr).mono fun e w' hp => ?_) rfl rfl (by omega) (by omega) rfl (hrep.trans UZ) rfl
     rw [← hP, ← hbs]
     exact hp
   cases hpl : aj (M.L.getD i default) with
   | true =>
     have hlv : ed 91 a m { R with aC := M.L.getD i default, ok := true, left := fG 91 } (ah M) _ _ _ _ _ := fun _ _ _ _ _ _ _ _ hS1 => Jt hS1 dM (by omega) (by omega) hpl bp.2 bl bo.2.2.1 bw (fun u => ay M u ((i : Int) + 1)) (fun u hu => by
      have hun := sF hI hi hpl u
      rw [jd hi, dP (j := (M.L.getD i default).aG (-1)) (by unfold aj; simp [Jb.aG, Jb.aN])] at hun
      show ay M u ((i : Int) + 1) = ay M u 0 + had (max (M.L.getD i default).aN M.now) ((M.L.getD i default).aN + (M.L.getD i default).lim) (M.L.getD i default).wid u
      rw [zn]
      omega) (fun u hu => mF.f u hu)
     refine fQ (N := 2) (k := 91) (k' := 115) ED hlv rfl rfl ?_
     exact cont _ _ (by omega) (by omega)
   | false =>
     have hlv : ed 91 a m { R with aC := M.L.getD i default, ok := true, left := fG 91 } (ah M) _ _ _ _ _ := fun _ _ _ _ _ _ _ _ hS1 => Ju hS1 hpl bp.2 bl
     refine fQ (N := 2) (k := 91) (k' := 115) ED hlv rfl rfl ?_
     have hP : ah M = { ah M with f := fun u => ay M u ((i : Int) + 1) } := by
      have : (fun u => ay M u ((i : Int) + 1)) = fun u => ay M u 0 := by
       funext u
       rw [zn, dP hpl]
       omega
      rw [this]
      rfl
     rw [hP]
     exact cont _ _ (by omega) (by omega)
theorem Sy (hl : R.left = fG 40) (hI : aF M) (hC : Calm M) (hE : Early M) (h1 : 1 ≤ M.dr.length) (hll : M.L.length ≤ 190) (ha : a ≤ 1 + 2 * M.L.length) (hm : m + 1000 ≤ mx) (hmx : mx ≤ 1000000)
 (ho : R.ok = false) (hrep : R.rep = oD) (hnd : -9223372036854775808 ≤ R.ag.node ∧ R.ag.node ≤ 9223372036854775807) :
 fA 1000 a m R (ah M) (Fin mx (fE M (toW R.ag)).2 (lN (fE M (toW R.ag)).1) false) := by
 cases hcl : M.cl with
 | true =>
   have e : fE M (toW R.ag) = (fK 12, M) := if_pos hcl
   rw [e]
   exact LX hl hcl (by omega) (by omega)
 | false =>
   have hcn : ¬ M.cl = true := by rw [hcl]; decide
   have hB : Bg a m mx R M := ⟨hl, hI, hC, hcl, h1, hll, ha, hm, hmx, ho⟩
   have hkr : ∀ r : Rw, fE M r = if r.kind = 1 then jS M r
    else if r.kind = 2 ∨ r.kind = 5 then mJ M r
    else if r.kind = 3 ∨ r.kind = 4 ∨ r.kind = 6 then fV M r
    else if r.kind = 7 ∨ r.kind = 8 then iA M r
    else if r.kind = 9 then mQ M r.by'
    else if r.kind = 10 then ((0, 0, 0, 0, 0, 0, lX M 1 1, lX M 2 3, lX M 4 4), M)
    else if r.kind = 11 then ((0, 0, 0, 0, 0, 0, oq M 1, oq M 2, oq M 3), M)
    else if r.kind = 12 then ((0, 0, 0, M.now, 0, 0, ay M M.now 0, 0, 0), M)
    else if r.kind = 13 then (fK 0, { M with cl := true })
    else (fK 4, M) := fun r => if_neg hcn
   by_cases hrd : R.ag.kind = 6 ∨ R.ag.kind = 10 ∨ R.ag.kind = 11 ∨ R.ag.kind = 12
   ·exact L8 hB hrd
   rw [hkr]
   have ek : (toW R.ag).kind = R.ag.kind := rfl
   rw [ek]
   by_cases k1 : R.ag.kind = 1
   ·rw [if_pos k1]; exact Gx hl hI hcl h1 hll ha hm hmx k1 ho
   rw [if_neg k1]
   by_cases k25 : R.ag.kind = 2 ∨ R.ag.kind = 5
   ·rw [if_pos k25]
    rcases k25 with k | k
    ·exact xX hB 5 (.inl ⟨k, rfl⟩)
    ·exact xX hB 4 (.inr ⟨k, rfl⟩)
   rw [if_neg k25]
   by_cases V9 : R.ag.kind = 3 ∨ R.ag.kind = 4 ∨ R.ag.kind = 6
   ·rw [if_pos V9]
    rcases V9 with k | k | k
    ·exact LZ hB k
    ·exact Dn hB k
    ·exact absurd (.inl k) hrd
   rw [if_neg V9]
   by_cases JF : R.ag.kind = 7 ∨ R.ag.kind = 8
   ·rw [if_pos JF]
    rcases JF with k | k
    ·exact JD hB k hnd
    ·exact Gy hB k hnd
   rw [if_neg JF]
   by_cases k9 : R.ag.kind = 9
   ·rw [if_pos k9]; exact Ma hB hE k9
   rw [if_neg k9, if_neg (by omega), if_neg (by omega), if_neg (by omega)]
   by_cases k13 : R.ag.kind = 13
   ·rw [if_pos k13]; exact L9 hB k13 hrep
   rw [if_neg k13]
   exact LY hB (by omega)
end
end Go.Proofs.YtelnhablglomjaaGreat

namespace Go.Proofs.YtelnhablglomjaaGreat
open Go.RowKit Go.Lib Go.Sort
section
variable {M : Md}
theorem MU {r : Rw} (h : r.kind = 1) : fE M r = if M.cl = true then (fK 12, M) else jS M r := by
 unfold fE
 by_cases hc : M.cl = true
 ·rw [if_pos hc, if_pos hc]
 ·rw [if_neg hc, if_neg hc, if_pos h]
theorem Sz {r : Rw} (h : (r.kind = 2 ∨ r.kind = 5)) : fE M r = if M.cl = true then (fK 12, M) else mJ M r := by
 unfold fE
 by_cases hc : M.cl = true
 ·rw [if_pos hc, if_pos hc]
 ·rw [if_neg hc, if_neg hc, if_neg (show ¬ r.kind = 1 by omega), if_pos h]
theorem MV {r : Rw} (h : (r.kind = 3 ∨ r.kind = 4 ∨ r.kind = 6)) : fE M r = if M.cl = true then (fK 12, M) else fV M r := by
 unfold fE
 by_cases hc : M.cl = true
 ·rw [if_pos hc, if_pos hc]
 ·rw [if_neg hc, if_neg hc, if_neg (show ¬ r.kind = 1 by omega), if_neg (show ¬ (r.kind = 2 ∨ r.kind = 5) by omega), if_pos h]
theorem SA {r : Rw} (h : (r.kind = 7 ∨ r.kind = 8)) : fE M r = if M.cl = true then (fK 12, M) else iA M r := by
 unfold fE
 by_cases hc : M.cl = true
 ·rw [if_pos hc, if_pos hc]
 ·rw [if_neg hc, if_neg hc, if_neg (show ¬ r.kind = 1 by omega), if_neg (show ¬ (r.kind = 2 ∨ r.kind = 5) by omega), if_neg (show ¬ (r.kind = 3 ∨ r.kind = 4 ∨ r.kind = 6) by omega), if_pos h]
theorem MW {r : Rw} (h : r.kind = 9) : fE M r = if M.cl = true then (fK 12, M) else mQ M r.by' := by
 unfold fE
 by_cases hc : M.cl = true
 ·rw [if_pos hc, if_pos hc]
 ·rw [if_neg hc, if_neg hc, if_neg (show ¬ r.kind = 1 by omega), if_neg (show ¬ (r.kind = 2 ∨ r.kind = 5) by omega), if_neg (show ¬ (r.kind = 3 ∨ r.kind = 4 ∨ r.kind = 6) by omega), if_neg (show ¬ (r.kind = 7 ∨ r.kind = 8) by omega), if_pos h]
theorem SB {r r' : Rw} (h : r.kind = r'.kind) (h2 : ¬ (1 ≤ r.kind ∧ r.kind ≤ 9)) : fE M r = fE M r' := by
 unfold fE
 rw [h] at h2 ⊢
 by_cases hc : M.cl = true
 ·rw [if_pos hc, if_pos hc]
 ·have n1 : ¬ r'.kind = 1 := by omega
  have n2 : ¬ (r'.kind = 2 ∨ r'.kind = 5) := by omega
  have n3 : ¬ (r'.kind = 3 ∨ r'.kind = 4 ∨ r'.kind = 6) := by omega
  have n4 : ¬ (r'.kind = 7 ∨ r'.kind = 8) := by omega
  have n5 : ¬ r'.kind = 9 := by omega
  simp only [if_neg hc, if_neg n1, if_neg n2, if_neg n3, if_neg n4, if_neg n5]
theorem Pm (M : Md) (r : Rq) : fE M (toW (fF r)) = fE M (toW r) := by
 unfold fF
 by_cases k1 : r.kind = 1
 ·rw [if_pos k1, MU (r := toW r) k1, MU (r := toW ⟨r.kind, 0, r.user, r.width, r.limit, r.prio, r.held, 0, 0⟩) k1]
  rfl
 rw [if_neg k1]
 by_cases k2 : r.kind = 2 ∨ r.kind = 3 ∨ r.kind = 4 ∨ r.kind = 5 ∨ r.kind = 6
 ·rw [if_pos k2]
  by_cases k25 : r.kind = 2 ∨ r.kind = 5
  ·rw [Sz (r := toW r) k25, Sz (r := toW ⟨r.kind, r.id, 0, 0, 0, 0, false, 0, 0⟩) k25]
   rfl
  ·have U0 : r.kind = 3 ∨ r.kind = 4 ∨ r.kind = 6 := by omega
   rw [MV (r := toW r) U0, MV (r := toW ⟨r.kind, r.id, 0, 0, 0, 0, false, 0, 0⟩) U0]
   rfl
 rw [if_neg k2]
 by_cases JF : r.kind = 7 ∨ r.kind = 8
 ·rw [if_pos JF, SA (r := toW r) JF, SA (r := toW ⟨r.kind, 0, 0, 0, 0, 0, false, r.node, 0⟩) JF]
  rfl
 rw [if_neg JF]
 by_cases k9 : r.kind = 9
 ·rw [if_pos k9, MW (r := toW r) k9, MW (r := toW ⟨r.kind, 0, 0, 0, 0, 0, false, 0, r.till⟩) k9]
  rfl
 rw [if_neg k9]
 exact SB rfl (by show ¬ (1 ≤ r.kind ∧ r.kind ≤ 9); omega)
theorem JG (r : Rq) (h : -9223372036854775808 ≤ r.node ∧ r.node ≤ 9223372036854775807) : -9223372036854775808 ≤ (fF r).node ∧ (fF r).node ≤ 9223372036854775807 := by
 have z : -9223372036854775808 ≤ (0 : Int) ∧ (0 : Int) ≤ 9223372036854775807 := by decide
 unfold fF
 repeat' split
 all_goals first | exact z | exact h
structure Ok (M : Md) : Prop where
 inv : aF M
 calm : Calm M
 early : Early M
theorem Ok.new {n : Nat} (h : n ≤ 64) : Ok (dK n) := ⟨(Hy h).1, (Hy h).2, L6 n⟩
theorem Ok.Hu (h : Ok M) (r : Rw) : Ok (fE M r).2 := ⟨(h.inv.Hu h.calm r).1, (h.inv.Hu h.calm r).2, h.early.Hu r⟩
theorem Ok.kP (h : Ok M) (id t : Int) : Ok (df M id t).2 := ⟨(h.inv.kP h.calm id t).1, (h.inv.kP h.calm id t).2, h.early.kP id t⟩
end
section
variable {w : World} {b c t d p g : Nat} {v : Value} {m : Int} {M : Md}
theorem JH (r : Rq) (hM : Ok M) (h1 : 1 ≤ M.dr.length) (hll : M.L.length ≤ 190) (hm : m + 1000 ≤ 1000000) (hnd : -9223372036854775808 ≤ r.node ∧ r.node ≤ 9223372036854775807) :
 fA 1000 (1 + 2 * M.L.length) m (jQ r) (ah M) (Fin (m + 1000) (fE M (toW r)).2 (lN (fE M (toW r)).1) false) := by
 have hg := Sy (a := 1 + 2 * M.L.length) (m := m) (mx := m + 1000) (R := jQ r) rfl hM.inv hM.calm hM.early h1 hll (Nat.le_refl _) (Int.le_refl _) hm rfl rfl (JG r hnd)
 rw [show (jQ r).ag = fF r from rfl, Pm] at hg
 exact hg
theorem GD (i x : Int) (hM : Ok M) (h1 : 1 ≤ M.dr.length) (hll : M.L.length ≤ 190) (hm : m + 1000 ≤ 1000000) (hx : -9223372036854775808 ≤ x ∧ x ≤ 9223372036854775807) :
 fA 1000 (1 + 2 * M.L.length) m (zZ i x) (ah M) (Fin (m + 1000) (df M i x).2 (mG M) (df M i x).1) :=
 GA (a := 1 + 2 * M.L.length) (m := m) (mx := m + 1000) (R := zZ i x) rfl hM.inv hM.calm h1 hll (Nat.le_refl _) (Int.le_refl _) hm rfl rfl hx
end
end Go.Proofs.YtelnhablglomjaaGreat

namespace Go.Proofs.YtelnhablglomjaaGreat
open Go.RowKit Go.Lib Go.Sort
section
variable {w : World} {b c t d p g a : Nat} {v : Value} {m : Int} {M : Md} {R : Wk}
theorem jK (h : bI w b R) : Calls Tryz.prog 20 #[.pointer (some ⟨b, 0, none⟩)] w fun e w' => e = .returned (.agg (bK R.rep).toArray) ∧ Below w.heap.size w w' := by
 obtain ⟨y1, y2, y3, y4, y5, y6, y7, y8, y9, hy⟩ : ∃ y1 y2 y3 y4 y5 y6 y7 y8 y9, R.rep = ⟨y1, y2, y3, y4, y5, y6, y7, y8, y9⟩ := ⟨_, _, _, _, _, _, _, _, _, rfl⟩
 have h' : ∀ o, bI (w.alloc o) b R := fun o => (((Below.refl w.heap.size w).alloc (Nat.le_refl _) o).block b h.lt).trans h
 have c24 : ∀ o, (w.alloc o).cell? ⟨b, 24, none⟩ = some (.int .i64 y1) := fun o => (h' o).at 24 (.int .i64 y1) (by show some (Value.int .i64 R.rep.1) = _; rw [hy])
 have ZZ : ∀ o, (w.alloc o).cell? ⟨b, 25, none⟩ = some (.int .i64 y2) := fun o => (h' o).at 25 (.int .i64 y2) (by show some (Value.int .i64 R.rep.2) = _; rw [hy])
 have Z0 : ∀ o, (w.alloc o).cell? ⟨b, 26, none⟩ = some (.int .i64 y3) := fun o => (h' o).at 26 (.int .i64 y3) (by show some (Value.int .i64 R.rep.3) = _; rw [hy])
 have Z4 : ∀ o, (w.alloc o).cell? ⟨b, 27, none⟩ = some (.int .i64 y4) := fun o => (h' o).at 27 (.int .i64 y4) (by show some (Value.int .i64 R.rep.4) = _; rw [hy])
 have c28 : ∀ o, (w.alloc o).cell? ⟨b, 28, none⟩ = some (.int .i64 y5) := fun o => (h' o).at 28 (.int .i64 y5) (by show some (Value.int .i64 R.rep.5) = _; rw [hy])
 have Z5 : ∀ o, (w.alloc o).cell? ⟨b, 29, none⟩ = some (.int .i64 y6) := fun o => (h' o).at 29 (.int .i64 y6) (by show some (Value.int .i64 R.rep.6) = _; rw [hy])
 have Z6 : ∀ o, (w.alloc o).cell? ⟨b, 30, none⟩ = some (.int .i64 y7) := fun o => (h' o).at 30 (.int .i64 y7) (by show some (Value.int .i64 R.rep.7) = _; rw [hy])
 have c31 : ∀ o, (w.alloc o).cell? ⟨b, 31, none⟩ = some (.int .i64 y8) := fun o => (h' o).at 31 (.int .i64 y8) (by show some (Value.int .i64 R.rep.8) = _; rw [hy])
 have c32 : ∀ o, (w.alloc o).cell? ⟨b, 32, none⟩ = some (.int .i64 y9) := fun o => (h' o).at 32 (.int .i64 y9) (by show some (Value.int .i64 R.rep.9) = _; rw [hy])
 rw [hy]
 clear h h' hy
 go_enter Tryz.func20, Tryz.ntmps20
 go_wp2_with fail
 refine bG rfl rfl rfl (heap_alloc_new w _) Tryz.underlying53 rfl (by kernel_rfl) ⟨rfl, ?_⟩
 exact (Below.refl _ _).alloc (Nat.le_refl _) _
theorem Wd (h : bI w b R) : Calls Tryz.prog 58 #[.pointer (some ⟨b, 0, none⟩)] w fun e w' => e = .returned (.bool R.ok) ∧ w = w' := by
 have YJ := h.at 33 (.bool R.ok) rfl
 clear h
 generalize R.ok = o at *
 go_enter Tryz.func58, Tryz.ntmps58
 go_wp2_with fail
 go_ret
 exact ⟨rfl, rfl⟩
end
end Go.Proofs.YtelnhablglomjaaGreat

namespace Go.Proofs.YtelnhablglomjaaGreat
open Go.RowKit Go.Lib
def nT (k : Int) : Bool := decide (k = 1) || decide (k = 3) || decide (k = 4) || decide (k = 2) || decide (k = 5) || decide (k = 7) || decide (k = 8) || decide (k = 9) || decide (k = 6) || decide (k = 11)
def nU (k : Int) : Bool := decide (k = 2) || decide (k = 5) || decide (k = 7) || decide (k = 8) || decide (k = 9) || decide (k = 10)
def nW (k : Int) : Bool := decide (k = 1) || decide (k = 3) || decide (k = 4) || decide (k = 2) || decide (k = 5) || decide (k = 7) || decide (k = 8) || decide (k = 9) || decide (k = 12)
theorem wV (k : Int) (w : World) : Calls Tryz.prog 13 #[.int .i64 k] w fun e w' => e = .returned (bL (nT k) (nU k) (nW k)) ∧ Below w.heap.size w w' := by
 by_cases h1 : k = 1; · subst h1; exact PI w
 by_cases h3 : k = 3; · subst h3; exact PL w
 by_cases h4 : k = 4; · subst h4; exact PM w
 by_cases h2 : k = 2; · subst h2; exact PO w
 by_cases h5 : k = 5; · subst h5; exact PQ w
 by_cases h7 : k = 7; · subst h7; exact PS w
 by_cases h8 : k = 8; · subst h8; exact PT w
 by_cases h9 : k = 9; · subst h9; exact PU w
 by_cases h6 : k = 6; · subst h6; exact PN w
 by_cases h11 : k = 11; · subst h11; exact Nc w
 by_cases h10 : k = 10; · subst h10; exact Nf w
 by_cases h12 : k = 12; · subst h12; exact Ng w
 have h := Nh k w h1 h3 h4 h2 h5 h7 h8 h9 h6 h11 h10 h12
 rw [show nT k = false by simp [nT, *], show nU k = false by simp [nU, *], show nW k = false by simp [nW, *]]
 exact h
def om (w : World) (o h : Nat) (r : Rq) : Prop := w.heap[o]? = some (.cells (Value.pointer (some ⟨h, 0, none⟩) :: encR r).toArray 47 (0, 0))
section
variable {w w' : World} {o h : Nat} {r : Rq} {H : Hd}
theorem om.lt (q : om w o h r) : o < w.heap.size := aD q
theorem om.c0 (q : om w o h r) : w.cell? ⟨o, 0, none⟩ = some (.pointer (some ⟨h, 0, none⟩)) := by simp [World.cell?, show w.heap[o]? = _ from q]
theorem jB (q : om w o h r) (qh : bE w h H) : Calls Tryz.prog 14 #[.pointer (some ⟨o, 0, none⟩)] w fun e w' => e = .returned (.bool (H.st == 5)) ∧ w = w' := by
 have c0 := q.c0
 have hs := oH qh
 clear q qh
 go_enter Tryz.func14, Tryz.ntmps14
 go_wp2_with (go_at_call 27; go_must (refine hs.mono ?_); rintro e w' ⟨rfl, rfl⟩)
 go_ret
 exact ⟨rfl, rfl⟩
theorem EH (x y z : Bool) (w : World) : Calls Tryz.prog 17 #[bL x y z] w fun e w' => e = .returned (.int .i64 (2 * sN x y z + 2)) ∧ Below w.heap.size w w' := by
 have hb1 : Below w.heap.size w (w.alloc (.cells #[.bool x, .bool y, .bool z] 42)) := (Below.refl _ _).alloc (Nat.le_refl _) _
 have hl := Mj x y z (w.alloc (.cells #[.bool x, .bool y, .bool z] 42))
 have hr : 0 ≤ sN x y z ∧ sN x y z ≤ 3 := by cases x <;> cases y <;> cases z <;> decide
 generalize sN x y z = n at *
 have w1 : IntKind.i64.wrap (2 * n) = 2 * n := IntWalk.i64_in _ (by omega)
 have w2 : IntKind.i64.wrap (2 * n + 2) = 2 * n + 2 := IntWalk.i64_in _ (by omega)
 unfold bL at *
 replace hb1 := Lib.hid hb1
 go_enter Tryz.func17, Tryz.ntmps17
 go_wp2_with (go_at_call 18; go_must (refine hl.mono ?_); rintro e w' ⟨rfl, hb⟩)
 go_ret
 exact ⟨rfl, hb1.out.trans (hb.mono hb1.out.size)⟩
def kN (b : Nat) (who : Int) (r : Rq) : Hd := vI b who (nT r.kind) (nU r.kind) (nW r.kind)
theorem EI (r : Rq) (who : Int) (w : World) : Calls Tryz.prog 9 #[.agg (encR r).toArray, .int .i64 who] w fun e w' => ∃ o h b, e = .returned (.pointer (some ⟨o, 0, none⟩)) ∧ om w' o h (fF r) ∧ bE w' h (kN b who r) ∧ bI w' b (jQ r) ∧ w.heap.size ≤ o ∧ w.heap.size ≤ h ∧ w.heap.size ≤ b ∧ Below w.heap.size w w' := by
 have zR := kC
 have lR := gP r
 obtain ⟨k9, bP⟩ : ∃ k, k = 9 := ⟨_, rfl⟩
 rw [← bP] at zR lR
 have hk0 : ¬ k9 = 0 := by omega
 replace bP := Lib.hid bP
 obtain ⟨wA, aJ⟩ : ∃ wA, wA = w.alloc (.cells (encR r).toArray 24) := ⟨_, rfl⟩
 have bS : Hid (Below w.heap.size w wA) := by show Below _ _ _; rw [aJ]; exact (Below.refl _ _).alloc (Nat.le_refl _) _
 have oF : wA.heap[w.heap.size]? = some (.cells (encR r).toArray 24 (0, 0)) := by rw [aJ]; exact heap_alloc_new w _
 have hlA : Hid (w.heap.size < wA.heap.size) := aD oF
 have hz := Lib.hid oF
 have hld : Hid (∀ W, Below wA.heap.size wA W → Sem.run Tryz.prog (loadCellsFrom ⟨w.heap.size, 0, none⟩ 0 k9 #[]) W = .ok (encR r).toArray W) := fun W hW => fu ((hW.block _ hlA.out).trans hz.out) lR
 have hki : Hid (∀ W, Below wA.heap.size wA W → W.cell? ⟨w.heap.size, 0, none⟩ = some (.int .i64 r.kind)) := fun W hW => jr ((hW.block _ hlA.out).trans hz.out) 0 _ rfl
 clear oF lR
 obtain ⟨cR, hcR⟩ : ∃ cR, cR = encR r := ⟨_, rfl⟩
 have Pn := Lib.hid (uJ r)
 have F3 := Lib.hid (yQ r)
 rw [← hcR] at hld Pn F3 aJ ⊢
 replace hcR := Lib.hid hcR
 go_enter Tryz.func9, Tryz.ntmps9
 go_wp2_with fail
 rw [← aJ]
 replace aJ := Lib.hid aJ
 refine Reg2.rM 8 16 [[],[af],[ae,ae],[ae,ae,ae],[ae,ae,ae,af],[af,af,ae,af,af],[af,af,af,af,af,af],[ae,ae,ae,ae,ae,ae,ae]] [1, 1, 0, 0, 1, 1, 1, 1]
  [.mU (.agg cR.toArray), .minor Nat 0 (fun q => .pointer (some ⟨q, 0, none⟩)) (fun q W => wA.heap.size ≤ q ∧ bI W q (jQ r)), .pure, .pure, .mU (.int .i64 r.kind), .mU (bL (nT r.kind) (nU r.kind) (nW r.kind)), .minor Nat 0 (fun q => .pointer (some ⟨q, 0, none⟩)) (fun q W => wA.heap.size ≤ q ∧ ∃ b, wA.heap.size ≤ b ∧ bI W b (jQ r) ∧ bE W q (kN b who r)), .mU (.agg cR.toArray)]
  (fun W => Below wA.heap.size wA W) (fun _ _ => True) (fun a b => Below a.heap.size a b) (by kernel_rfl) (by kernel_rfl) rfl rfl (fun vs a b h hs => trivial) ?_ ?_ ?_ ?_ ?_ ?_
 ·intro a b he hb; exact hb.trans (Below.mono he hb.size)
 ·intro a b he hb; exact hb.trans (Below.mono he hb.size)
 ·have k1 : ∀ (x : Nat) (a b : World), Below a.heap.size a b → (wA.heap.size ≤ x ∧ bI a x (jQ r)) → wA.heap.size ≤ x ∧ bI b x (jQ r) := fun x a b he h => ⟨h.1, (he.block _ h.2.lt).trans h.2⟩
  have k2 : ∀ (x : Nat) (a b : World), Below a.heap.size a b → (wA.heap.size ≤ x ∧ ∃ b, wA.heap.size ≤ b ∧ bI a b (jQ r) ∧ bE a x (kN b who r)) → wA.heap.size ≤ x ∧ ∃ c, wA.heap.size ≤ c ∧ bI b c (jQ r) ∧ bE b x (kN c who r) := fun x a b he h => by
   obtain ⟨h1, c, h2, h3, h4⟩ := h
   exact ⟨h1, c, h2, (he.block _ h3.lt).trans h3, (he.block _ h4.lt).trans h4⟩
  exact ⟨⟨fun _ _ _ _ _ => trivial, fun _ _ _ _ _ => trivial⟩, ⟨k1, k1⟩, trivial, trivial, ⟨fun _ _ _ _ _ => trivial, fun _ _ _ _ _ => trivial⟩, ⟨fun _ _ _ _ _ => trivial, fun _ _ _ _ _ => trivial⟩, ⟨k2, k2⟩, ⟨fun _ _ _ _ _ => trivial, fun _ _ _ _ _ => trivial⟩, trivial⟩
 ·exact ⟨rfl, rfl, rfl, Nat.le_refl _, fun _ _ => rfl⟩
 ·trivial
 dsimp only [Reg2.mk, List.zip, List.zipWith, List.take]
 refine Reg2.pm (fun wz hI hF => ?_) (fun r0 => ?_) (by rfl)
 ·have d0 := hld.out wz hI
  go_wp2_with fail
  first | exact ⟨_, rfl, rfl, Reg2.Ext.refl _⟩ | exact ⟨_, rfl, ⟨(), rfl, trivial⟩, Reg2.Ext.refl _⟩
 simp only [Act.put, xA, xB, xC, xD, xE, id]
 refine Reg2.pm (fun wz hI hF => ?_) (fun r1 => ?_) (by rfl)
 ·have hc := Pn.out wz
  go_wp2_with fail
  go_at_call 10
  refine hc.mono ?_
  clear hc
  rintro e w2 ⟨b, rfl, hW, hlo, hb⟩
  have hlo2 := hI.size
  go_wp2_with fail
  exact ⟨_, rfl, ⟨b, rfl, by omega, hW⟩, hb⟩
 simp only [Act.put, xA, xB, xC, xD, xE, id]
 repeat ((first
  | (refine' Reg2.ak _ (by rfl) (fun wz => ?_) ?_; rotate_left; (go_simp; first | rfl | rw [if_neg (by omega)]))
  | (refine Reg2.au (by rfl) (fun wz hI hF => ?_) (fun _ => ?_)
     ·unfold Reg2.One
      have d0 := hki.out wz hI
      go_wp2_with fail
      first | exact ⟨_, rfl, rfl, Reg2.Ext.refl _⟩ | exact ⟨_, rfl, ⟨(), rfl, trivial⟩, Reg2.Ext.refl _⟩)); simp only [Act.put, xA, xB, xC, xD, xE, id])
 refine Reg2.pm (fun wz hI hF => ?_) (fun r5 => ?_) (by rfl)
 ·have hc := wV r.kind wz
  go_wp2_with fail
  go_at_call 13
  refine hc.mono ?_
  clear hc
  rintro e w2 ⟨rfl, hb⟩
  go_wp2_with fail
  first | exact ⟨_, rfl, rfl, hb⟩ | exact ⟨_, rfl, ⟨(), rfl, trivial⟩, hb⟩
 simp only [Act.put, xA, xB, xC, xD, xE, id]
 refine Reg2.pm (fun wz hI hF => ?_) (fun r6 => ?_) (by rfl)
 ·have hW1 := hF.2.1.2
  have hl1 := hF.2.1.1
  have hc := Ha r1 who (nT r.kind) (nU r.kind) (nW r.kind) wz
  replace hW1 := Lib.hid hW1
  clear hF
  go_wp2_with fail
  go_at_call 39
  refine hc.mono ?_
  clear hc
  rintro e w2 ⟨b, rfl, hH, hlo, hb⟩
  have hlo2 := hI.size
  have hW2 : bI w2 r1 (jQ r) := (hb.block _ hW1.out.lt).trans hW1.out
  go_wp2_with fail
  exact ⟨_, rfl, ⟨b, rfl, by omega, r1, hl1, hW2, hH⟩, hb⟩
 simp only [Act.put, xA, xB, xC, xD, xE, id]
 refine Reg2.pm (fun wz hI hF => ?_) (fun r7 => ?_) (by rfl)
 ·have d0 := hld.out wz hI
  go_wp2_with fail
  first | exact ⟨_, rfl, rfl, Reg2.Ext.refl _⟩ | exact ⟨_, rfl, ⟨(), rfl, trivial⟩, Reg2.Ext.refl _⟩
 simp only [Act.put, xA, xB, xC, xD, xE, id]
 refine Reg2.aA ?_
 intro w1 HI _ HF
 obtain ⟨Z7, b, hlb, Ur, hH6⟩ := HF.2.2.2.2.2.2.1
 clear HF hki r0 r5 r7
 dsimp only [List.drop]
 have hc := F3.out w1
 replace Ur := Lib.hid Ur
 replace hH6 := Lib.hid hH6
 go_wp2_with fail
 go_at_call 22
 refine hc.mono ?_
 clear hc
 rintro e w2 ⟨rfl, hb2⟩
 obtain ⟨y1, y2, y3, y4, y5, y6, y7, y8, y9, hy⟩ : ∃ y1 y2 y3 y4 y5 y6 y7 y8 y9, fF r = ⟨y1, y2, y3, y4, y5, y6, y7, y8, y9⟩ := ⟨_, _, _, _, _, _, _, _, _, rfl⟩
 obtain ⟨w3, hw3⟩ : ∃ w3, w3 = w2.alloc (.cells (Value.pointer (some ⟨r6, 0, none⟩) :: encR (fF r)).toArray 47) := ⟨_, rfl⟩
 have hb3 : Below w2.heap.size w2 w3 := by rw [hw3]; exact (Below.refl _ _).alloc (Nat.le_refl _) _
 have hO3 : om w3 w2.heap.size r6 (fF r) := by show _ = _; rw [hw3]; exact heap_alloc_new w2 _
 have hH3 : bE w3 r6 (kN b who r) := hH6.out.below ((hb2.trans (hb3.mono hb2.size))) hH6.out.lt
 have hW3 : bI w3 b (jQ r) := ((hb2.trans (hb3.mono hb2.size)).block _ Ur.out.lt).trans Ur.out
 have hbw : Below w.heap.size w w3 := bS.out.trans ((HI.trans ((hb2.trans (hb3.mono hb2.size)).mono HI.size)).mono bS.out.size)
 have hlo : w.heap.size ≤ w2.heap.size := Nat.le_trans bS.out.size (Nat.le_trans HI.size hb2.size)
 have hs := bS.out.size
 rw [show (Value.pointer (some ⟨r6, 0, none⟩) :: encR (fF r)).toArray = #[.pointer (some ⟨r6, 0, none⟩), .int .i64 y1, .int .i64 y2, .int .i64 y3, .int .i64 y4, .int .i64 y5, .int .i64 y6, .bool y7, .int .i64 y8, .int .i64 y9] by rw [hy]; rfl] at hw3
 rw [hy, show (encR ⟨y1, y2, y3, y4, y5, y6, y7, y8, y9⟩).toArray = #[.int .i64 y1, .int .i64 y2, .int .i64 y3, .int .i64 y4, .int .i64 y5, .int .i64 y6, .bool y7, .int .i64 y8, .int .i64 y9] from rfl]
 rw [hy] at hO3
 replace hy := Lib.hid hy
 replace hO3 := Lib.hid hO3
 replace hH3 := Lib.hid hH3
 replace hW3 := Lib.hid hW3
 replace hbw := Lib.hid hbw
 clear hb2 hb3 HI hld
 obtain rfl := bP.out
 go_wp2_with fail
 rw [← hw3]
 go_ret
 exact ⟨w2.heap.size, r6, b, rfl, by rw [hy.out]; exact hO3.out, hH3.out, hW3.out, hlo, by omega, by omega, hbw.out⟩
end
end Go.Proofs.YtelnhablglomjaaGreat

namespace Go.Proofs.YtelnhablglomjaaGreat
open Go.RowKit Go.Lib Go.Sort
theorem CW.JI {w w1 : World} {c t d p g a : Nat} {v : Value} {m : Int} {P : Pg} (h : CW w c t d p v g a m P) (blk : ∀ k, dC c t d p v g k → w1.heap[k]? = w.heap[k]?) : CW w1 c t d p v g a m P := by
 obtain ⟨S, aK, ⟨cap, hp1, hp2⟩, hrest⟩ := h.lL
 refine ⟨(blk c (.inl rfl)).trans h.cell, ⟨(blk t (.inr (.inl rfl))).trans h.eU.cell, bA h.eU.own fun k hk => blk k (.inr (.inr (.inr (.inr (.inl hk)))))⟩, (blk d (.inr (.inr (.inl rfl)))).trans h.nodes, S, aK, ⟨cap, (blk p (.inr (.inr (.inr (.inl rfl))))).trans hp1, bA hp2 fun k hk => ?_⟩, hrest⟩
 have e : k = g := by simpa [Value.ownBlock] using hk.symm
 exact blk k (.inr (.inr (.inr (.inr (.inr e)))))
def hK (b : Nat) : Nat → Hd
 | 0 => ⟨b, 1, false, false, true, 0, 2⟩
 | 1 => ⟨b, 1, false, false, true, 1, 3⟩
 | 2 => ⟨b, 1, false, false, true, 3, 2⟩
 | 3 => ⟨b, 1, false, false, true, 4, -1⟩
 | _ => ⟨b, 1, false, false, true, 5, -1⟩
def lK : Nat → Lk
 | 0 => ⟨0, 0, 0, 0⟩
 | 1 => ⟨0, 0, 1, 1⟩
 | 2 => ⟨0, 0, 1, 1⟩
 | _ => ⟨0, 0, 0, 1⟩
def rC : Rq := ⟨12, 0, 0, 0, 0, 0, false, 0, 0⟩
def wC : Wk := { jQ rC with rep := ⟨0, 0, 0, 0, 0, 0, 3, 0, 0⟩, left := .nilFunc }
structure Us (B : Nat) (W : World) (b c t d p : Nat) (v : Value) (g s h o k : Nat) : Prop where
 hd : bE W h (hK b k)
 lk : bT 32 W s (lK k)
 op : om W o h rC
 core : k ≤ 1 → SW W b c t d p v g 1 0 (jQ rC) (ah (dK 3))
 wk : 2 ≤ k → bI W b wC
structure Geo (B b c t d p : Nat) (v : Value) (g s h o : Nat) : Prop where
 lo : ∀ k, dC c t d p v g k → B ≤ k ∧ k < s
 gs : B ≤ s
 gh : s < h
 go : s < o
 gb : s < b
 XZ : h ≠ o
 We : h ≠ b
 Wh : o ≠ b
section
variable {B b c t d p g s h o k : Nat} {v : Value} {W : World}
theorem SE : (⟨0, 0, 0, (ah (dK 3)).now, 0, 0, (ah (dK 3)).f (ah (dK 3)).now, 0, 0⟩ : Ry) = ⟨0, 0, 0, 0, 0, 0, 3, 0, 0⟩ := by
 have h : (ah (dK 3)).f (ah (dK 3)).now = 3 := Cs 3 _
 rw [h]; rfl
theorem Po (G : Geo B b c t d p v g s h o) (C : Us B W b c t d p v g s h o k) (hk : k < 4) (hB : B ≤ W.heap.size) :
 Calls Tryz.prog 16 #[.pointer (some ⟨h, 0, none⟩), .pointer (some ⟨c, 0, none⟩), .pointer (some ⟨s, 0, none⟩)] W fun e w' => e = .returned (.bool (k == 1)) ∧ Us B w' b c t d p v g s h o (k + 1) ∧ Below B W w' := by
 have hne : h ≠ s := by have := G.gh; omega
 have gh := G.gh
 have go := G.go
 have gb := G.gb
 have gs := G.gs
 have XZ := G.XZ
 have We := G.We
 have Wh := G.Wh
 have hq : k = 0 ∨ k = 1 ∨ k = 2 ∨ k = 3 := by omega
 rcases hq with rfl | rfl | rfl | rfl
 ·refine (zi C.hd rfl C.lk (by decide) (show (0 : Int) ≤ 2 ∧ (2 : Int) ≤ 3 by decide) hne).mono ?_
  rintro e w' ⟨rfl, h1, h2, h3⟩
  have hS := C.core (by decide)
  refine ⟨rfl, ⟨h1, h2, (h3.block o C.op.lt (by omega)).trans C.op, fun _ => ⟨(h3.block b hS.wk.lt (by omega)).trans hS.wk, hS.cw.JI fun k hk => h3.block k (hS.cw.lt hk) (by have := (G.lo k hk).2; omega)⟩, fun h => by omega⟩, h3.below (fun k hk => by omega) hB⟩
 ·have hS := C.core (by decide)
  have hst := Ch hS (k := 40) (l := true) (L := .nilFunc) rfl rfl (.inl ⟨rfl, rfl⟩) Gi (zX hS rfl (by decide) rfl (zW hS (by decide) rfl))
  refine (tN C.hd (.inl rfl) (Q := fun w' => bI w' b wC ∧ bT 32 w' s (lK 2) ∧ om w' o h rC ∧ bu (fI b c t d p v g) W w') true (hst.mono ?_)).mono ?_
  ·rintro e w' ⟨rfl, v', g', hS', hW'⟩
   have nf : ∀ q, s ≤ q → q ≠ b → ¬ fI b c t d p v g q := fun q h1 h2 h3 => h3.elim h2 fun h3 => by have := (G.lo q h3).2; omega
   refine ⟨rfl, ⟨?_, (hW'.heap C.lk.lt (nf s (Nat.le_refl _) (by omega))).trans C.lk, (hW'.heap C.op.lt (nf o (by omega) Wh)).trans C.op, hW'.off⟩, (hW'.heap C.hd.lt (nf h (by omega) We)).trans C.hd⟩
   have := hS'.wk
   rw [SE] at this
   exact this
  ·rintro e w' ⟨rfl, w1, ⟨h1, h2, h3, h4⟩, h5, h6⟩
   refine ⟨rfl, ⟨h5, (h6.block s h2.lt (by omega)).trans h2, (h6.block o h3.lt (by omega)).trans h3, fun h => by omega, fun _ => (h6.block b h1.lt (by omega)).trans h1⟩, (h4.below (fun k hk => hk.elim (fun e => by omega) fun hk => (G.lo k hk).1) hB).trans (h6.below (fun k hk => by omega) (Nat.le_trans hB h4.size))⟩
 ·refine (zk C.hd rfl C.lk (show (0 : Int) ≤ 2 ∧ (2 : Int) ≤ 3 by decide) hne).mono ?_
  rintro e w' ⟨rfl, h1, h2, h3⟩
  have hS := C.wk (by decide)
  exact ⟨rfl, ⟨h1, h2, (h3.block o C.op.lt (by omega)).trans C.op, fun h => by omega, fun _ => (h3.block b hS.lt (by omega)).trans hS⟩, h3.below (fun k hk => by omega) hB⟩
 ·refine (zl C.hd rfl _).mono ?_
  rintro e w' ⟨rfl, h1, h3⟩
  have hS := C.wk (by decide)
  exact ⟨rfl, ⟨h1, (h3.block s C.lk.lt (by omega)).trans C.lk, (h3.block o C.op.lt (by omega)).trans C.op, fun h => by omega, fun _ => (h3.block b hS.lt (by omega)).trans hS⟩, h3.below (fun k hk => by omega) hB⟩
theorem Cx (w : World) : Calls Tryz.prog 7 #[] w fun e w' => e = .returned (.bool true) ∧ Below w.heap.size w w' := by
 have hc := JA 3 w (by decide) (by decide)
 go_enter Tryz.func7, Tryz.ntmps7
 go_wp2_with fail
 go_at_call 35
 refine hc.mono ?_
 clear hc
 rintro e w1 ⟨c, t, d, p, v, g, rfl, qH, hb1⟩
 have hlt1 : Hid (∀ k, dC c t d p v g k → k < w1.heap.size) := fun k hk => qH.cw.lt hk
 obtain ⟨w2, hw2⟩ : ∃ w2, w2 = w1.alloc (.cells #[.int .i64 0, .int .i64 0, .int .i64 0, .int .i64 0] 32) := ⟨_, rfl⟩
 have hb2 : Below w1.heap.size w1 w2 := by rw [hw2]; exact (Below.refl _ _).alloc (Nat.le_refl _) _
 have hL2 : bT 32 w2 w1.heap.size (lK 0) := by rw [hw2]; exact heap_alloc_new w1 _
 obtain ⟨s, hs⟩ : ∃ s, s = w1.heap.size := ⟨_, rfl⟩
 have hC2 := Lib.hid (qH.cw.kept hb2)
 have hlo := Lib.hid qH.lo
 have hbw : Hid (Below w.heap.size w w2) := hb1.trans (hb2.mono hb1.size)
 have hss : Hid (w.heap.size ≤ s ∧ s < w2.heap.size) := ⟨by rw [hs]; exact hb1.size, by rw [hs]; exact hL2.lt⟩
 have hn := EI rC 1 w2
 rw [show (encR rC).toArray = #[.int .i64 12, .int .i64 0, .int .i64 0, .int .i64 0, .int .i64 0, .int .i64 0, .bool false, .int .i64 0, .int .i64 0] from rfl] at hn
 rw [← hs] at hL2 hlt1
 replace hL2 := Lib.hid hL2
 clear hb2 hb1 qH
 go_wp2_with fail
 rw [← hw2, ← hs]
 replace hw2 := Lib.hid hw2
 replace hs := Lib.hid hs
 go_at_call 9
 refine hn.mono ?_
 clear hn
 rintro e w3 ⟨o, h, b, rfl, hO, hH, hW, lo, lh, lb, hb3⟩
 have G : Geo w.heap.size b c t d p v g s h o := by
  have h1 := hss.out
  refine ⟨fun k hk => ⟨hlo.out k hk, hlt1.out k hk⟩, h1.1, by omega, by omega, by omega, ?_, ?_, ?_⟩
  ·exact Put.aI hH hO (by decide)
  ·exact Put.aI hH hW (by decide)
  ·exact Put.aI hO hW (by decide)
 have C0 : Hid (Us w.heap.size w3 b c t d p v g s h o 0) := ⟨hH, hL2.out.below hb3 hss.out.2, hO, fun _ => ⟨hW, hC2.out.kept hb3⟩, fun h => by omega⟩
 replace G := Lib.hid G
 have hb0 : Hid (Below w.heap.size w w3) := hbw.out.trans (hb3.mono hbw.out.size)
 clear hO hH hW lo lh lb hb3
 go_wp2_with fail
 go_loopw [5, 6] (fun tt ii wr => ∃ k : Nat, k ≤ 4 ∧ ii = .int .i64 k ∧ tt = .int .i64 (if k ≤ 1 then 0 else 1) ∧ Hid (Us w.heap.size wr b c t d p v g s h o k) ∧ Hid (Below w.heap.size w wr)) (fun _ ii _ => 4 - (intOf ii).toNat)
 case atStart => exact ⟨0, by decide, rfl, rfl, C0, hb0⟩
 case round =>
  obtain ⟨k, hk, rfl, rfl, hC, hbr⟩ := hrel
  by_cases h4 : k < 4
  ·have b4 : (k : Int) < 4 := by omega
   have wk : IntKind.i64.wrap ((k : Int) + 1) = (k : Int) + 1 := IntWalk.i64_in _ (by omega)
   have hst := Po G.out hC.out h4 hbr.out.size
   have hf := jB hC.out.op hC.out.hd
   have hs5 : ((hK b k).st == 5) = false := by
    have : k = 0 ∨ k = 1 ∨ k = 2 ∨ k = 3 := by omega
    rcases this with rfl | rfl | rfl | rfl <;> rfl
   rw [hs5] at hf
   have c0 := hC.out.op.c0
   by_cases h1 : k = 1
   ·subst h1
    go_wp2_with (first | (go_at_call 14; go_must (refine hf.mono ?_); rintro e w' ⟨rfl, rfl⟩) | (go_at_call 16; go_must (refine hst.mono ?_); rintro e w' ⟨rfl, hz⟩; replace hz := Lib.hid hz))
    go_roundw
    case rel => exact ⟨2, by decide, by go_num, by go_num, hz.out.1, hbr.out.trans hz.out.2⟩
    case measure => simp [intOf]
   ·have e1 : (k == 1) = false := by simp [h1]
    rw [e1] at hst
    have e2 : (if k + 1 ≤ 1 then (0 : Int) else 1) = if k ≤ 1 then 0 else 1 := by
     by_cases hk0 : k = 0
     ·subst hk0; rfl
     ·rw [if_neg (by omega), if_neg (by omega)]
    replace e2 := Lib.hid e2
    generalize (if k ≤ 1 then (0 : Int) else 1) = tn at *
    go_wp2_with (first | (go_at_call 14; go_must (refine hf.mono ?_); rintro e w' ⟨rfl, rfl⟩) | (go_at_call 16; go_must (refine hst.mono ?_); rintro e w' ⟨rfl, hz⟩; replace hz := Lib.hid hz))
    go_roundw
    case rel => exact ⟨k + 1, by omega, by go_num, by rw [e2.out], hz.out.1, hbr.out.trans hz.out.2⟩
    case measure => simp [intOf]; omega
  ·obtain rfl : k = 4 := by omega
   have hf := jB hC.out.op hC.out.hd
   rw [show ((hK b 4).st == 5) = true from rfl] at hf
   have c0 := hC.out.op.c0
   have d0 := hC.out.hd.c0
   have hr := jK (hC.out.wk (by decide))
   have e1 : ∀ W, Sem.run Tryz.prog (Instr.field 53 (.agg #[.int .i64 0, .int .i64 0, .int .i64 0, .int .i64 0, .int .i64 0, .int .i64 0, .int .i64 3, .int .i64 0, .int .i64 0]) 6) W = .ok (.int .i64 3) W := fun W => by kernel_rfl
   rw [show (bK wC.rep).toArray = #[.int .i64 0, .int .i64 0, .int .i64 0, .int .i64 0, .int .i64 0, .int .i64 0, .int .i64 3, .int .i64 0, .int .i64 0] from rfl] at hr
   go_wp2_with (first
    | (go_at_call 14; go_must (refine hf.mono ?_); rintro e w' ⟨rfl, rfl⟩)
    | (go_at_call 20; go_must (refine hr.mono ?_); rintro e w4 ⟨rfl, hb4⟩
       have hi := tH (hC.out.lk.below hb4 hC.out.lk.lt)
       rw [show (lK 4).free = true from rfl] at hi
       have hnd := wV 12 w4)
    | (go_at_call 19; go_must (refine hi.mono ?_); rintro e w' ⟨rfl, rfl⟩)
    | (go_at_call 13; go_must (refine hnd.mono ?_); rintro e w5 ⟨rfl, hb5⟩
       have hsp := EH (nT 12) (nU 12) (nW 12) w5)
    | (go_at_call 17; go_must (refine hsp.mono ?_); rintro e w6 ⟨rfl, hb6⟩))
   go_ret
   exact ⟨rfl, hbr.out.trans ((hb4.trans ((hb5.trans (hb6.mono hb5.size)).mono hb4.size)).mono hbr.out.size)⟩
end
end Go.Proofs.YtelnhablglomjaaGreat

namespace Go.Proofs.YtelnhablglomjaaGreat
def Hd.lane (H : Hd) (j : Int) : Bool := if j = 0 then H.x else if j = 1 then H.y else H.z
def Hd.has (H : Hd) (j : Int) : Bool := H.lane j && (if H.st = 0 then decide (j < H.lk) else if H.st = 3 then decide (j ≤ H.lk) else decide (H.st = 1 ∨ H.st = 2))
structure dI (H : Hd) (l o : Lk) : Prop where
 who : 0 < H.who
 a : l.a = if H.has 0 = true then H.who else o.a
 b : l.b = if H.has 1 = true then H.who else o.b
 c : l.c = if H.has 2 = true then H.who else o.c
 na : o.a ≠ H.who
 nb : o.b ≠ H.who
 nc : o.c ≠ H.who
 fa : H.has 0 = true → o.a = 0
 fb : H.has 1 = true → o.b = 0
 fc : H.has 2 = true → o.c = 0
 st : (H.st = 0 ∧ (H.lk = 0 ∧ H.x = true ∨ H.lk = 1 ∧ H.y = true ∨ H.lk = 2 ∧ H.z = true)) ∨ H.st = 1 ∨ H.st = 2 ∨ (H.st = 3 ∧ (H.lk = 0 ∧ H.x = true ∨ H.lk = 1 ∧ H.y = true ∨ H.lk = 2 ∧ H.z = true)) ∨ H.st = 4 ∨ H.st = 5
section
variable {H : Hd} {l o : Lk}
theorem dI.X0 (h : dI H l o) (h0 : H.st = 0 ∨ H.st = 3) : 0 ≤ H.lk ∧ H.lk ≤ 2 := by
 have := h.st
 omega
theorem dI.own (h : dI H l o) (h0 : H.st = 0) : l.own H.lk = o.own H.lk := by
 obtain ⟨wk, who, x, y, z, st, lk⟩ := H
 obtain ⟨h1, a, b, c, na, nb, nc, fa, fb, fc, hs⟩ := h
 simp only [Hd.has, Hd.lane] at *
 subst h0
 rcases hs with ⟨_, ⟨rfl, rfl⟩ | ⟨rfl, rfl⟩ | ⟨rfl, rfl⟩⟩ | hs | hs | ⟨hs, _⟩ | hs | hs <;> simp_all [Lk.own]
theorem dI.take (h : dI H l o) (h0 : H.st = 0) (hf : o.own H.lk = 0) : l.mI H.lk H.who = 0 ∧ dI (H.want (H.lk + 1)) (l.nJ H.lk H.who) o := by
 have ho := h.own h0
 obtain ⟨wk, who, x, y, z, st, lk⟩ := H
 obtain ⟨la, lb, lc, ln⟩ := l
 obtain ⟨h1, a, b, c, na, nb, nc, fa, fb, fc, hs⟩ := h
 have hl : iy lk who = false := by
  unfold iy wY
  simp only at hs h1 h0
  have : (0 ≤ lk ∧ lk < 3) := by omega
  simp [this, h1]
 have e0 : Lk.mI ⟨la, lb, lc, ln⟩ lk who = 0 := by
  unfold Lk.mI
  simp only at *
  rw [hl, if_neg (by decide), ho, hf, if_pos rfl, if_neg]
  subst h0
  simp only [Hd.has, Hd.lane] at *
  rcases hs with ⟨_, ⟨rfl, rfl⟩ | ⟨rfl, rfl⟩ | ⟨rfl, rfl⟩⟩ | hs | hs | ⟨hs, _⟩ | hs | hs <;> simp_all [Lk.own, Lk.later]
 refine ⟨e0, ?_⟩
 unfold Lk.nJ
 simp only at *
 rw [e0, if_pos rfl]
 subst h0
 simp only [Hd.has, Hd.lane] at *
 rcases hs with ⟨_, ⟨rfl, rfl⟩ | ⟨rfl, rfl⟩ | ⟨rfl, rfl⟩⟩ | hs | hs | ⟨hs, _⟩ | hs | hs <;> (try (simp at hs; done))
 ·cases y <;> cases z <;> constructor <;> simp_all [Hd.want, dH, Hd.has, Hd.lane, Lk.put, Lk.own]
 ·cases x <;> cases z <;> constructor <;> simp_all [Hd.want, dH, Hd.has, Hd.lane, Lk.put, Lk.own]
 ·cases x <;> cases y <;> constructor <;> simp_all [Hd.want, dH, Hd.has, Hd.lane, Lk.put, Lk.own]
theorem dI.part (h : dI H l o) (h2 : H.st = 1 ∨ H.st = 2) (dn : Bool) : dI (H.part dn) l o := by
 obtain ⟨wk, who, x, y, z, st, lk⟩ := H
 obtain ⟨h1, a, b, c, na, nb, nc, fa, fb, fc, hs⟩ := h
 simp only [Hd.has, Hd.lane] at *
 clear hs
 rcases h2 with rfl | rfl <;> cases dn <;> cases x <;> cases y <;> cases z <;> constructor <;> simp_all [Hd.part, Hd.yield, jo, Hd.has, Hd.lane]
theorem dI.give (h : dI H l o) (h3 : H.st = 3) : l.jL H.lk H.who = 0 ∧ dI H.give (l.jl H.lk H.who) o := by
 obtain ⟨wk, who, x, y, z, st, lk⟩ := H
 obtain ⟨la, lb, lc, ln⟩ := l
 obtain ⟨h1, a, b, c, na, nb, nc, fa, fb, fc, hs⟩ := h
 simp only [Hd.has, Hd.lane] at *
 subst h3
 rcases hs with ⟨hs, _⟩ | hs | hs | ⟨_, ⟨rfl, rfl⟩ | ⟨rfl, rfl⟩ | ⟨rfl, rfl⟩⟩ | hs | hs <;> (try (simp at hs; done))
 ·have e0 : Lk.jL ⟨la, lb, lc, ln⟩ 0 who = 0 := by simp_all [Lk.jL, iy, wY, Lk.own]
  refine ⟨e0, ?_⟩
  unfold Lk.jl
  rw [e0, if_pos rfl]
  clear e0
  cases y <;> cases z <;> constructor <;> simp_all [Hd.give, Hd.yield, jo, Hd.has, Hd.lane, Lk.put]
 ·have e0 : Lk.jL ⟨la, lb, lc, ln⟩ 1 who = 0 := by simp_all [Lk.jL, iy, wY, Lk.own]
  refine ⟨e0, ?_⟩
  unfold Lk.jl
  rw [e0, if_pos rfl]
  clear e0
  cases x <;> cases z <;> constructor <;> simp_all [Hd.give, Hd.yield, jo, Hd.has, Hd.lane, Lk.put]
 ·have e0 : Lk.jL ⟨la, lb, lc, ln⟩ 2 who = 0 := by simp_all [Lk.jL, iy, wY, Lk.own]
  refine ⟨e0, ?_⟩
  unfold Lk.jl
  rw [e0, if_pos rfl]
  clear e0
  cases x <;> cases y <;> constructor <;> simp_all [Hd.give, Hd.yield, jo, Hd.has, Hd.lane, Lk.put]
theorem dI.tell (h : dI H l o) (h4 : H.st = 4) : dI { H with st := 5 } l o := by
 obtain ⟨wk, who, x, y, z, st, lk⟩ := H
 obtain ⟨h1, a, b, c, na, nb, nc, fa, fb, fc, hs⟩ := h
 simp only [Hd.has, Hd.lane] at *
 subst h4
 constructor <;> simp_all [Hd.has, Hd.lane]
theorem dI.new (wk : Nat) {who : Int} (x y z : Bool) (hw : 0 < who) (ha : o.a ≠ who) (hb : o.b ≠ who) (hc : o.c ≠ who) : dI (vI wk who x y z) o o := by
 cases x <;> cases y <;> cases z <;> constructor <;> simp_all [vI, Hd.want, dH, Hd.has, Hd.lane]
end
end Go.Proofs.YtelnhablglomjaaGreat

namespace Go.Proofs.YtelnhablglomjaaGreat
def Hd.up (H : Hd) : Nat := (H.x && decide (H.lk ≤ 0)).toNat + (H.y && decide (H.lk ≤ 1)).toNat + (H.z && decide (H.lk ≤ 2)).toNat
def Hd.dn (H : Hd) : Nat := (H.x && decide (0 ≤ H.lk)).toNat + (H.y && decide (1 ≤ H.lk)).toNat + (H.z && decide (2 ≤ H.lk)).toNat
def Hd.len (H : Hd) : Nat := H.x.toNat + H.y.toNat + H.z.toNat
def Hd.rem (H : Hd) (K : Nat) : Nat := if H.st = 0 then H.up + K + H.len + 1 else if H.st = 1 ∨ H.st = 2 then K + H.len + 1 else if H.st = 3 then H.dn + 1 else if H.st = 4 then 1 else 0
def Hd.fr (H : Hd) (o : Lk) : Prop := H.st ≠ 0 → (H.x = true → o.a = 0) ∧ (H.y = true → o.b = 0) ∧ (H.z = true → o.c = 0)
section
variable {H : Hd} {l o : Lk}
theorem dI.SF (h : dI H l o) (h0 : H.st = 0) (hf : o.own H.lk = 0) : (H.want (H.lk + 1)).fr o := by
 have h2 := (h.take h0 hf).2
 obtain ⟨wk, who, x, y, z, st, lk⟩ := H
 have fa := h2.fa
 have fb := h2.fb
 have fc := h2.fc
 have hs := h.st
 simp only [Hd.has, Hd.lane, Hd.want, Hd.fr] at *
 subst h0
 clear h h2
 rcases hs with ⟨_, ⟨rfl, rfl⟩ | ⟨rfl, rfl⟩ | ⟨rfl, rfl⟩⟩ | hs | hs | ⟨hs, _⟩ | hs | hs <;> (try (simp at hs; done))
 ·cases y <;> cases z <;> simp_all [dH, Lk.own]
 ·cases x <;> cases z <;> simp_all [dH, Lk.own]
 ·cases x <;> cases y <;> simp_all [dH, Lk.own]
theorem dI.Pp (h : dI H l o) (h0 : H.st = 0) (K : Nat) : (H.want (H.lk + 1)).rem K + 1 = H.rem K := by
 obtain ⟨wk, who, x, y, z, st, lk⟩ := H
 have hs := h.st
 clear h
 simp only at hs h0
 subst h0
 rcases hs with ⟨_, ⟨rfl, rfl⟩ | ⟨rfl, rfl⟩ | ⟨rfl, rfl⟩⟩ | hs | hs | ⟨hs, _⟩ | hs | hs <;> (try (simp at hs; done))
 ·cases y <;> cases z <;> simp [Hd.want, dH, Hd.rem, Hd.up, Hd.len] <;> omega
 ·cases x <;> cases z <;> simp [Hd.want, dH, Hd.rem, Hd.up, Hd.len] <;> omega
 ·cases x <;> cases y <;> simp [Hd.want, dH, Hd.rem, Hd.up, Hd.len] <;> omega
theorem Hd.Pq (h1 : H.st = 1 ∨ H.st = 2) (K : Nat) : (H.part false).rem K + 1 = H.rem (K + 1) := by
 obtain ⟨wk, who, x, y, z, st, lk⟩ := H
 simp only at h1
 rcases h1 with rfl | rfl <;> simp [Hd.part, Hd.rem, Hd.len] <;> omega
theorem Hd.Ps (h1 : H.st = 1 ∨ H.st = 2) (K : Nat) : (H.part true).rem K + 1 = H.rem 1 := by
 obtain ⟨wk, who, x, y, z, st, lk⟩ := H
 simp only at h1
 rcases h1 with rfl | rfl <;> cases x <;> cases y <;> cases z <;> simp [Hd.part, Hd.yield, jo, Hd.rem, Hd.len, Hd.dn]
theorem dI.Pt (h : dI H l o) (h3 : H.st = 3) (K : Nat) : H.give.rem K + 1 = H.rem K := by
 obtain ⟨wk, who, x, y, z, st, lk⟩ := H
 have hs := h.st
 clear h
 simp only at hs h3
 subst h3
 rcases hs with ⟨hs, _⟩ | hs | hs | ⟨_, ⟨rfl, rfl⟩ | ⟨rfl, rfl⟩ | ⟨rfl, rfl⟩⟩ | hs | hs <;> (try (simp at hs; done))
 ·cases y <;> cases z <;> simp [Hd.give, Hd.yield, jo, Hd.rem, Hd.dn, Hd.len]
 ·cases x <;> cases z <;> simp [Hd.give, Hd.yield, jo, Hd.rem, Hd.dn, Hd.len]
 ·cases x <;> cases y <;> simp [Hd.give, Hd.yield, jo, Hd.rem, Hd.dn, Hd.len]
theorem Hd.Pv (h4 : H.st = 4) (K : Nat) : ({ H with st := 5 } : Hd).rem K + 1 = H.rem K := by
 simp [Hd.rem, h4]
theorem Hd.SG (wk : Nat) (who : Int) (x y z : Bool) (K : Nat) : (vI wk who x y z).rem K = 2 * (vI wk who x y z).len + K + 1 := by
 cases x <;> cases y <;> cases z <;> simp [vI, Hd.want, dH, Hd.rem, Hd.up, Hd.len] <;> omega
theorem Hd.JJ {o : Lk} (h : H.fr o) (h1 : H.st = 1 ∨ H.st = 2) (dn : Bool) : (H.part dn).fr o := by
 have h2 := h (by omega)
 intro _
 cases dn <;> exact h2
theorem Hd.SH {o : Lk} (h : H.fr o) (h3 : H.st = 3) : H.give.fr o := fun _ => h (by omega)
theorem Hd.SI {o : Lk} (h : H.fr o) (h4 : H.st = 4) : ({ H with st := 5 } : Hd).fr o := fun _ => h (by omega)
theorem dI.over (h : dI H l o) (h5 : H.st = 5 ∨ H.st = 4) : l.a = o.a ∧ l.b = o.b ∧ l.c = o.c := by
 have e : ∀ j, H.has j = false := fun j => by unfold Hd.has; rcases h5 with h5 | h5 <;> (rw [h5]; simp)
 have a := h.a
 have b := h.b
 have c := h.c
 rw [e] at a b c
 simpa using ⟨a, b, c⟩
theorem Hd.Wi (H : Hd) : H.up ≤ 3 := by
 unfold Hd.up
 have h : ∀ b : Bool, b.toNat ≤ 1 := fun b => by cases b <;> decide
 have := h (H.x && decide (H.lk ≤ 0))
 have := h (H.y && decide (H.lk ≤ 1))
 have := h (H.z && decide (H.lk ≤ 2))
 omega
theorem Hd.Ut (H : Hd) : H.len ≤ 3 := by
 unfold Hd.len
 have h : ∀ b : Bool, b.toNat ≤ 1 := fun b => by cases b <;> decide
 have := h H.x
 have := h H.y
 have := h H.z
 omega
theorem Hd.Uu (wk : Nat) (who : Int) (x y z : Bool) (o : Lk) : (vI wk who x y z).fr o := by
 cases x <;> cases y <;> cases z <;> simp [vI, Hd.want, dH, Hd.fr]
end
end Go.Proofs.YtelnhablglomjaaGreat

namespace Go.Proofs.YtelnhablglomjaaGreat
open Go.RowKit Go.Lib Go.Sort
theorem SW.JI {w w1 : World} {b c t d p g a : Nat} {v : Value} {m : Int} {R : Wk} {P : Pg} (h : SW w b c t d p v g a m R P) (blk : ∀ k, fI b c t d p v g k → w1.heap[k]? = w.heap[k]?) : SW w1 b c t d p v g a m R P :=
 ⟨(blk b (.inl rfl)).trans h.wk, h.cw.JI fun k hk => blk k (.inr hk)⟩
structure Sd where
 v : Value
 g : Nat
 a : Nat
 m : Int
 R : Wk
 P : Pg
structure Rn (B : Nat) (W : World) (o h s b c t d p : Nat) (S0 S : Sd) (H : Hd) (l u : Lk) (rc : Rq) (K : Nat) (Q : Nat → Int → Wk → Pg → Prop) : Prop where
 op : om W o h rc
 hd : bE W h H
 wk : H.wk = b
 lk : bT 32 W s l
 ln : 0 ≤ l.n ∧ (H.st = 0 → l.n + H.up ≤ 10)
 lock : dI H l u
 fr : H.fr u
 sw : SW W b c t d p S.v S.g S.a S.m S.R S.P
 run : H.st ≤ 2 → Run K S.a S.m S.R S.P Q
 done : 3 ≤ H.st → Q S.a S.m S.R S.P
 bg : H.st ≤ 1 → S = S0
 lo : ∀ k, fI b c t d p S.v S.g k → B ≤ k
 lo2 : B ≤ h ∧ B ≤ s
section
variable {B o h s b c t d p K : Nat} {W W' : World} {S0 S : Sd} {H : Hd} {l u : Lk} {rc : Rq} {Q : Nat → Int → Wk → Pg → Prop}
theorem Rn.nh (X : Rn B W o h s b c t d p S0 S H l u rc K Q) : ¬ fI b c t d p S.v S.g h := by
 rintro (e | hf)
 ·exact Put.aI X.hd X.sw.wk (by decide) e
 ·exact X.sw.cw.other X.hd (by decide) hf
theorem Rn.ns (X : Rn B W o h s b c t d p S0 S H l u rc K Q) : ¬ fI b c t d p S.v S.g s := by
 rintro (e | hf)
 ·exact Put.aI X.lk X.sw.wk (by decide) e
 ·exact X.sw.cw.other X.lk (by decide) hf
theorem Rn.no (X : Rn B W o h s b c t d p S0 S H l u rc K Q) : ¬ fI b c t d p S.v S.g o := by
 rintro (e | hf)
 ·exact Put.aI X.op X.sw.wk (by decide) e
 ·exact X.sw.cw.other X.op (by decide) hf
theorem Rn.hs (X : Rn B W o h s b c t d p S0 S H l u rc K Q) : h ≠ s := Put.aI X.hd X.lk (by decide)
theorem Rn.oh (X : Rn B W o h s b c t d p S0 S H l u rc K Q) : o ≠ h ∧ o ≠ s := ⟨Put.aI X.op X.hd (by decide), Put.aI X.op X.lk (by decide)⟩
theorem Rn.kept (X : Rn B W o h s b c t d p S0 S H l u rc K Q) (hb : Below W.heap.size W W') : Rn B W' o h s b c t d p S0 S H l u rc K Q :=
 ⟨(hb.block _ X.op.lt).trans X.op, X.hd.below hb X.hd.lt, X.wk, X.lk.below hb X.lk.lt, X.ln, X.lock, X.fr, X.sw.kept hb, X.run, X.done, X.bg, X.lo, X.lo2⟩
theorem Rn.turn {H' : Hd} {l' : Lk} (X : Rn B W o h s b c t d p S0 S H l u rc K Q) (hH : bE W' h H') (hl : bT 32 W' s l') (ho : bu (fun k => k = h ∨ k = s) W W') (hw : H'.wk = H.wk) (hn : 0 ≤ l'.n ∧ (H'.st = 0 → l'.n + H'.up ≤ 10)) (hL : dI H' l' u) (hf : H'.fr u)
 (h1 : H'.st ≤ 2 → H.st ≤ 2) (h2 : 3 ≤ H'.st → 3 ≤ H.st) (h3 : H'.st ≤ 1 → H.st ≤ 1) : Rn B W' o h s b c t d p S0 S H' l' u rc K Q :=
 ⟨(ho.block _ X.op.lt (by have := X.oh; omega)).trans X.op, hH, hw.trans X.wk, hl, hn, hL, hf,
   X.sw.JI fun k hk => ho.block k (X.sw.lt hk) (fun e => e.elim (fun e => X.nh (e ▸ hk)) (fun e => X.ns (e ▸ hk))), fun h => X.run (h1 h), fun h => X.done (h2 h), fun h => X.bg (h3 h), X.lo, X.lo2⟩
def Uv (B : Nat) (W : World) (o h s b c t d p : Nat) (S0 S : Sd) (H : Hd) (u : Lk) (rc : Rq) (K : Nat) (Q : Nat → Int → Wk → Pg → Prop) (e : Ending) (W' : World) : Prop :=
 e = .returned (.bool (H.st == 1)) ∧ Below B W W' ∧ (H.st = 0 → bu (fun k => k = h ∨ k = s) W W') ∧ bu (fun k => fI b c t d p S.v S.g k ∨ k = h ∨ k = s) W W' ∧ ∃ S' H' l' K', Rn B W' o h s b c t d p S0 S' H' l' u rc K' Q ∧ H'.rem K' + 1 = H.rem K ∧ H.st ≤ H'.st ∧ (1 ≤ H.st → 2 ≤ H'.st) ∧ H'.who = H.who ∧ H'.x = H.x ∧ H'.y = H.y ∧ H'.z = H.z ∧ jP W (fI b c t d p S.v S.g) (fI b c t d p S'.v S'.g) ∧ (H.st = 0 → H'.st ≤ 1)
theorem JK (H : Hd) (k : Int) : (H.want k).st = 0 ∨ (H.want k).st = 1 := by unfold Hd.want; simp only; split <;> simp
theorem EJ (H : Hd) (k : Int) : (H.yield k).st = 3 ∨ (H.yield k).st = 4 := by unfold Hd.yield; simp only; split <;> simp
theorem SK {l : Lk} {k who : Int} (h : l.mI k who = 0) : (l.nJ k who).n = l.n + 1 := by unfold Lk.nJ; rw [if_pos h]
theorem Uw (l : Lk) (k who : Int) : (l.jl k who).n = l.n := by unfold Lk.jl; split <;> rfl
theorem SL (X : Rn B W o h s b c t d p S0 S H l u rc K Q) (h5 : H.st ≠ 5) (hf : H.st = 0 → u.own H.lk = 0) (hB : B ≤ W.heap.size) :
 Calls Tryz.prog 16 #[.pointer (some ⟨h, 0, none⟩), .pointer (some ⟨c, 0, none⟩), .pointer (some ⟨s, 0, none⟩)] W (Uv B W o h s b c t d p S0 S H u rc K Q) := by
 have hl2 := X.lo2
 have hne := X.hs
 by_cases h0 : H.st = 0
 ·obtain ⟨e0, hL⟩ := X.lock.take h0 (hf h0)
  have hk := X.lock.X0 (.inl h0)
  have hn := X.ln.2 h0
  have hn0 := X.ln.1
  have e1 : H.take l = H.want (H.lk + 1) := by unfold Hd.take; rw [if_pos e0]
  have hr := X.lock.Pp h0 K
  refine (zi X.hd h0 X.lk ⟨hn0, by omega⟩ (by omega) hne).mono ?_
  rintro e w' ⟨rfl, q1, q2, q3⟩
  rw [e1] at q1
  have hs := JK H (H.lk + 1)
  refine ⟨by rw [h0]; rfl, q3.below (fun k hk => by omega) hB, fun _ => q3, (bu.refl _ W).trans q3 fun k hk => .inl (.inr hk), S, H.want (H.lk + 1), l.nJ H.lk H.who, K, X.turn q1 q2 q3 rfl ⟨by rw [SK e0]; omega, fun h' => ?_⟩ hL (X.lock.SF h0 (hf h0)) (fun _ => by omega) (fun h => by omega) (fun _ => by omega), hr, by omega, fun h => by omega, rfl, rfl, rfl, rfl, jP.refl _ _, fun _ => by omega⟩
  rw [SK e0]
  unfold Hd.rem at hr
  rw [if_pos h', if_pos h0] at hr
  have : (H.want (H.lk + 1)).len = H.len := rfl
  omega
 by_cases h12 : H.st = 1 ∨ H.st = 2
 ·have hr := X.run (by omega)
  cases K with
  | zero => exact hr.elim
  | succ K =>
    obtain ⟨_, a', m', R', P', ⟨rfl, ho, hq⟩ | ⟨ho, hq⟩⟩ := hr
    ·refine (tN X.hd h12 (Q := fun w' => ∃ v' g', SW w' b c t d p v' g' a' m' R' P' ∧ WS W w' b c t d p S.v S.g v' g' ∧ bE w' h H) true ?_).mono ?_
     ·rw [X.wk]
      refine (ho W b c t d p S.v S.g X.sw).mono ?_
      rintro e w' ⟨rfl, v', g', h1, h2⟩
      have h3 := (h2.heap X.hd.lt X.nh).trans X.hd
      exact ⟨rfl, ⟨v', g', h1, h2, h3⟩, h3⟩
     ·rintro e w' ⟨rfl, w1, ⟨v', g', h1, h2, h3⟩, h4, h6⟩
      have hn1 : ¬ fI b c t d p v' g' h := by
       rintro (e | hf)
       ·exact Put.aI h3 h1.wk (by decide) e
       ·exact h1.cw.other h3 (by decide) hf
      have hy := EJ H 3
      have hp : (H.part true).st = 3 ∨ (H.part true).st = 4 := hy
      have ho1 : om w1 o h rc := (h2.heap X.op.lt X.no).trans X.op
      have hl1 : bT 32 w1 s l := (h2.heap X.lk.lt X.ns).trans X.lk
      refine ⟨rfl, (h2.below X.lo hB).trans (h6.below (fun k hk => by omega) (Nat.le_trans hB h2.off.size)), fun h => by omega, ((bu.refl _ W).trans h2.off fun k hk => .inl (.inl hk)).trans h6 fun k hk => .inl (.inr (.inl hk)), ⟨v', g', a', m', R', P'⟩, H.part true, l, 0, ⟨(h6.block _ ho1.lt (by have := X.oh; omega)).trans ho1, h4, X.wk, (h6.block _ hl1.lt (by omega)).trans hl1, ⟨X.ln.1, fun h => by omega⟩, X.lock.part h12 true, Hd.JJ X.fr h12 true,
       h1.JI fun k hk => h6.block k (h1.lt hk) (fun e => hn1 (e ▸ hk)), fun h => by omega, fun _ => hq, fun h => by omega, h2.lo X.lo hB, hl2⟩, Hd.Ps h12 0, by omega, fun _ => by omega, rfl, rfl, rfl, rfl, h2.grew, fun h => by omega⟩
    ·refine (tN X.hd h12 (Q := fun w' => ∃ v' g', SW w' b c t d p v' g' a' m' R' P' ∧ WS W w' b c t d p S.v S.g v' g' ∧ bE w' h H) false ?_).mono ?_
     ·rw [X.wk]
      refine (ho W b c t d p S.v S.g X.sw).mono ?_
      rintro e w' ⟨rfl, v', g', h1, h2⟩
      have h3 := (h2.heap X.hd.lt X.nh).trans X.hd
      exact ⟨rfl, ⟨v', g', h1, h2, h3⟩, h3⟩
     ·rintro e w' ⟨rfl, w1, ⟨v', g', h1, h2, h3⟩, h4, h6⟩
      have hn1 : ¬ fI b c t d p v' g' h := by
       rintro (e | hf)
       ·exact Put.aI h3 h1.wk (by decide) e
       ·exact h1.cw.other h3 (by decide) hf
      have hp : (H.part false).st = 2 := rfl
      have ho1 : om w1 o h rc := (h2.heap X.op.lt X.no).trans X.op
      have hl1 : bT 32 w1 s l := (h2.heap X.lk.lt X.ns).trans X.lk
      refine ⟨rfl, (h2.below X.lo hB).trans (h6.below (fun k hk => by omega) (Nat.le_trans hB h2.off.size)), fun h => by omega, ((bu.refl _ W).trans h2.off fun k hk => .inl (.inl hk)).trans h6 fun k hk => .inl (.inr (.inl hk)), ⟨v', g', a', m', R', P'⟩, H.part false, l, K, ⟨(h6.block _ ho1.lt (by have := X.oh; omega)).trans ho1, h4, X.wk, (h6.block _ hl1.lt (by omega)).trans hl1, ⟨X.ln.1, fun h => by omega⟩, X.lock.part h12 false, Hd.JJ X.fr h12 false,
       h1.JI fun k hk => h6.block k (h1.lt hk) (fun e => hn1 (e ▸ hk)), fun _ => hq, fun h => by omega, fun h => by omega, h2.lo X.lo hB, hl2⟩, Hd.Pq h12 K, by omega, fun _ => by omega, rfl, rfl, rfl, rfl, h2.grew, fun h => by omega⟩
 by_cases h3 : H.st = 3
 ·have hk := X.lock.X0 (.inr h3)
  obtain ⟨_, hL⟩ := X.lock.give h3
  refine (zk X.hd h3 X.lk (by omega) hne).mono ?_
  rintro e w' ⟨rfl, q1, q2, q3⟩
  have hs : H.give.st = 3 ∨ H.give.st = 4 := EJ H H.lk
  exact ⟨by rw [h3]; rfl, q3.below (fun k hk => by omega) hB, fun h => by omega, (bu.refl _ W).trans q3 fun k hk => .inl (.inr hk), S, H.give, l.jl H.lk H.who, K, X.turn q1 q2 q3 rfl ⟨by rw [Uw]; exact X.ln.1, fun h => by omega⟩ hL (Hd.SH X.fr h3) (fun h => by omega) (fun _ => by omega) (fun h => by omega), X.lock.Pt h3 K, by omega, fun _ => by omega, rfl, rfl, rfl, rfl, jP.refl _ _, fun h => by omega⟩
 have h4 : H.st = 4 := by have := X.lock.st; omega
 refine (zl X.hd h4 _).mono ?_
 rintro e w' ⟨rfl, q1, q3⟩
 exact ⟨by rw [h4]; rfl, q3.below (fun k hk => by omega) hB, fun h => by omega, (bu.refl _ W).trans q3 fun k hk => .inl (.inr (.inl hk)), S, { H with st := 5 }, l, K, X.turn q1 ((q3.block s X.lk.lt (fun e => hne e.symm)).trans X.lk) ((bu.refl _ W).trans q3 fun k hk => .inl (.inl hk)) rfl ⟨X.ln.1, fun h => absurd (show (5 : Int) = 0 from h) (by decide)⟩ (X.lock.tell h4) (Hd.SI X.fr h4) (fun h => absurd (show (5 : Int) ≤ 2 from h) (by decide)) (fun _ => by omega) (fun h => absurd (show (5 : Int) ≤ 1 from h) (by decide)), Hd.Pv h4 K, show H.st ≤ (5 : Int) by omega, fun _ => show (2 : Int) ≤ 5 by decide, rfl, rfl, rfl, rfl, jP.refl _ _, fun h => by omega⟩
theorem Rn.waits (X : Rn B W o h s b c t d p S0 S H l u rc K Q) : Fq H l = (decide (H.st = 0) && !decide (u.own H.lk = 0)) := by
 unfold Fq
 by_cases h0 : H.st = 0
 ·rw [X.lock.own h0]
 ·rw [decide_eq_false h0]; rfl
theorem EK (j : Int) : (⟨0, 0, 0, 0⟩ : Lk).own j = 0 := by unfold Lk.own; (repeat' split) <;> rfl
end
end Go.Proofs.YtelnhablglomjaaGreat

namespace Go.Proofs.YtelnhablglomjaaGreat
open Go.RowKit Go.Lib Go.Sort
structure De where
 MX : Bool
 r : Rq
 xi : Int
 xt : Int
def sM (x : De) : List Value := .bool x.MX :: (encR x.r ++ [.int .i64 x.xi, .int .i64 x.xt])
section
variable {w : World} {v : Value} {l : List De}
theorem MZ (h : aB sM 12 w v l) : Calls Tryz.prog 31 #[v] w fun e w' => ∃ v', e = .returned v' ∧ aB sM 12 w v' (l.take 60) ∧ w = w' := by
 have hr := h
 obtain ⟨ao, cap, rfl, h1, h2, h3⟩ := h
 by_cases hn : 60 < l.length
 ·have d1 : decide ((60 : Int) < (l.length : Int)) = true := decide_eq_true (by omega)
  have hcut := hr.cut (n := 60) (by omega)
  go_enter Tryz.func31, Tryz.ntmps31
  go_wp2_with fail
  go_ret
  exact ⟨_, rfl, hcut, rfl⟩
 ·have d1 : decide ((60 : Int) < (l.length : Int)) = false := decide_eq_false (by omega)
  have e : l.take 60 = l := List.take_of_length_le (by omega)
  rw [e]
  go_enter Tryz.func31, Tryz.ntmps31
  go_wp2_with fail
  go_ret
  exact ⟨_, rfl, hr, rfl⟩
end
end Go.Proofs.YtelnhablglomjaaGreat

namespace Go.Proofs.YtelnhablglomjaaGreat
open Go.RowKit Go.Lib Go.Sort
section
variable {M : Md}
theorem za (M : Md) (j : Jb) : (fC M j).L.length = M.L.length ∧ (fC M j).dr = M.dr := ⟨by show (M.L.map _).length = _; rw [List.length_map], rfl⟩
theorem M0 (hI : aF M) (r : Rw) : (fE M r).2.L.length ≤ M.L.length + 1 ∧ (fE M r).2.dr.length = M.dr.length := by
 unfold fE
 by_cases hc : M.cl = true
 ·rw [if_pos hc]; exact ⟨Nat.le_succ _, rfl⟩
 rw [if_neg hc]
 by_cases k1 : r.kind = 1
 ·rw [if_pos k1]
  unfold jS
  split
  ·exact ⟨Nat.le_succ _, rfl⟩
  split
  ·exact ⟨by show (M.L ++ [_]).length ≤ _; simp, rfl⟩
  ·refine ⟨?_, rfl⟩
   rw [(za _ _).1]
   show (M.L ++ [_]).length ≤ _
   simp
 rw [if_neg k1]
 by_cases k2 : r.kind = 2 ∨ r.kind = 5
 ·rw [if_pos k2]
  unfold mJ
  simp only
  split
  ·exact ⟨Nat.le_succ _, rfl⟩
  split
  ·exact ⟨Nat.le_succ _, rfl⟩
  ·exact ⟨by show (M.L.set _ _).length ≤ _; rw [List.length_set]; omega, rfl⟩
 rw [if_neg k2]
 by_cases k3 : r.kind = 3 ∨ r.kind = 4 ∨ r.kind = 6
 ·rw [if_pos k3]
  unfold fV
  simp only
  split
  ·exact ⟨Nat.le_succ _, rfl⟩
  split
  ·exact ⟨Nat.le_succ _, rfl⟩
  split
  ·refine ⟨?_, rfl⟩
   rw [(za _ _).1]
   show (M.L.set _ _).length ≤ _
   rw [List.length_set]; omega
  ·exact ⟨by show (M.L.set _ _).length ≤ _; rw [List.length_set]; omega, rfl⟩
 rw [if_neg k3]
 by_cases k7 : r.kind = 7 ∨ r.kind = 8
 ·rw [if_pos k7]
  unfold iA
  split
  ·exact ⟨Nat.le_succ _, rfl⟩
  split
  ·exact ⟨Nat.le_succ _, rfl⟩
  ·unfold fJ
   split
   ·exact ⟨by show (fC M lW).L.length ≤ _; rw [(za _ _).1]; omega, by show (M.dr.set _ _).length = _; rw [List.length_set]⟩
   ·exact ⟨Nat.le_succ _, by show (M.dr.set _ _).length = _; rw [List.length_set]⟩
 rw [if_neg k7]
 by_cases k9 : r.kind = 9
 ·rw [if_pos k9]
  unfold mQ
  split
  ·exact ⟨Nat.le_succ _, rfl⟩
  ·have hn := hI.mb.now
   have hk := Fs (M.now + r.by') (2 * M.L.length + 1) hI.mb (by omega)
   exact ⟨by show (dG _ _ M).L.length ≤ _; rw [hk.2.1]; omega, by show (dG _ _ M).dr.length = _; rw [hk.2.2.1]⟩
 rw [if_neg k9]
 repeat' split
 all_goals exact ⟨Nat.le_succ _, rfl⟩
theorem JL (M : Md) (id t : Int) : (df M id t).2.L.length = M.L.length ∧ (df M id t).2.dr = M.dr := by
 unfold df
 split
 ·split
  ·exact ⟨by show (M.L.set _ _).length = _; rw [List.length_set], rfl⟩
  ·exact ⟨by show (M.L.set _ _).length = _; rw [List.length_set], rfl⟩
 ·exact ⟨rfl, rfl⟩
def GG (M : Md) (x : De) : Md := if x.MX then (df M x.xi x.xt).2 else (fE M (toW x.r)).2
def nz (M : Md) (l : List De) : Md := l.foldl GG M
theorem Ok.de (h : Ok M) (x : De) : Ok (GG M x) := by
 unfold GG
 split
 ·exact h.kP _ _
 ·exact h.Hu _
theorem Ux (h : Ok M) (x : De) : (GG M x).L.length ≤ M.L.length + 1 ∧ (GG M x).dr.length = M.dr.length := by
 unfold GG
 split
 ·have := JL M x.xi x.xt
  exact ⟨by rw [this.1]; omega, by rw [this.2]⟩
 ·exact M0 h.inv _
theorem EL (h : Ok M) (l : List De) : Ok (nz M l) ∧ (nz M l).L.length ≤ M.L.length + l.length ∧ (nz M l).dr.length = M.dr.length := by
 unfold nz
 induction l generalizing M with
 | nil => exact ⟨h, Nat.le_refl _, rfl⟩
 | cons x l ih =>
   obtain ⟨h1, h2, h3⟩ := ih (h.de x)
   have := Ux h x
   exact ⟨h1, by show (l.foldl GG (GG M x)).L.length ≤ M.L.length + (l.length + 1); omega, h3.trans this.2⟩
theorem Mc (M : Md) {l : List De} {i : Nat} (hi : i < l.length) : nz M (l.take (i + 1)) = GG (nz M (l.take i)) l[i] := by
 unfold nz
 rw [List.take_succ_eq_append_getElem hi, List.foldl_append]
 rfl
end
end Go.Proofs.YtelnhablglomjaaGreat

namespace Go.Proofs.YtelnhablglomjaaGreat
open Go.RowKit Go.Lib Go.Sort
section
variable {M : Md}
def EM (M : Md) (r : Rw) : Rl × Md := if 1 ≤ r.kind ∧ r.kind ≤ 13 then fE M r else (fK 4, M)
theorem JM {r : Rw} (h : 1 ≤ r.kind ∧ r.kind ≤ 13) : EM M r = fE M r := by unfold EM; rw [if_pos h]
theorem zb {r : Rw} (h : ¬ (1 ≤ r.kind ∧ r.kind ≤ 13)) : EM M r = (fK 4, M) := by unfold EM; rw [if_neg h]
theorem Pw (M : Md) (r : Rw) : (EM M r).2 = (fE M r).2 := by
 by_cases h : 1 ≤ r.kind ∧ r.kind ≤ 13
 ·rw [JM h]
 ·rw [zb h]
  unfold fE
  rw [if_neg (show ¬ r.kind = 1 by omega), if_neg (show ¬ (r.kind = 2 ∨ r.kind = 5) by omega), if_neg (show ¬ (r.kind = 3 ∨ r.kind = 4 ∨ r.kind = 6) by omega), if_neg (show ¬ (r.kind = 7 ∨ r.kind = 8) by omega), if_neg (show ¬ r.kind = 9 by omega), if_neg (show ¬ r.kind = 10 by omega), if_neg (show ¬ r.kind = 11 by omega), if_neg (show ¬ r.kind = 12 by omega), if_neg (show ¬ r.kind = 13 by omega)]
  split <;> rfl
end
def iw (w : World) (s c : Nat) : Prop := w.heap[s]? = some (.cells #[.pointer (some ⟨c, 0, none⟩)] 40 (0, 0))
theorem iw.lt {w : World} {s c : Nat} (h : iw w s c) : s < w.heap.size := aD h
theorem iw.c0 {w : World} {s c : Nat} (h : iw w s c) : w.cell? ⟨s, 0, none⟩ = some (.pointer (some ⟨c, 0, none⟩)) := by simp [World.cell?, show w.heap[s]? = _ from h]
theorem iw.kept {w w' : World} {s c : Nat} (h : iw w s c) (hb : Below w.heap.size w w') : iw w' s c := (hb.block s h.lt).trans h
theorem iw.far {w w' : World} {s c : Nat} (h : iw w s c) (hf : XV w w') : iw w' s c := hf s _ _ _ (by decide) (by decide) h
structure SO (B : Nat) (w : World) (s c t d p : Nat) (v : Value) (g : Nat) (m : Int) (M : Md) : Prop where
 at' : iw w s c
 Wj : B ≤ s
 cw : CW w c t d p v g (1 + 2 * M.L.length) m (ah M)
 lo : ∀ k, dC c t d p v g k → B ≤ k
section
variable {w w' w1 : World} {B s c t d p g g' : Nat} {v v' : Value} {m m' : Int} {M M' : Md}
theorem SO.apart (h : SO B w s c t d p v g m M) : ¬ dC c t d p v g s := h.cw.other h.at' (by decide)
theorem SO.kept (h : SO B w s c t d p v g m M) (hb : Below w.heap.size w w') : SO B w' s c t d p v g m M := ⟨h.at'.kept hb, h.Wj, h.cw.kept hb, h.lo⟩
theorem SO.wider (h : SO B w s c t d p v g m M) (hm : m ≤ m') : SO B w s c t d p v g m' M := ⟨h.at', h.Wj, h.cw.wider (Nat.le_refl _) hm, h.lo⟩
theorem SO.turn (h : SO B w s c t d p v g m M) (hs : CS w w' c t d p v g v' g') (hC : CW w' c t d p v' g' (1 + 2 * M'.L.length) m' (ah M')) (hB : B ≤ w.heap.size) : SO B w' s c t d p v' g' m' M' :=
 ⟨(hs.heap h.at'.lt h.apart).trans h.at', h.Wj, hC, hs.lo h.lo hB⟩
theorem SO.below (h : SO B w s c t d p v g m M) (hs : CS w w' c t d p v g v' g') (hB : B ≤ w.heap.size) : Below B w w' := hs.below h.lo hB
theorem CS.SN {b : Nat} (hb : Below w.heap.size w w1) (hlo : w.heap.size ≤ b) (hs : WS w1 w' b c t d p v g v' g') : CS w w' c t d p v g v' g' := by
 refine ⟨⟨hs.off.os.trans hb.os, hs.off.tape.trans hb.tape, hs.off.output.trans hb.output, Nat.le_trans hb.size hs.off.size, fun k hk hf => ?_⟩, fun k hk => ?_⟩
 ·refine (hs.heap (Nat.lt_of_lt_of_le hk hb.size) ?_).trans (hb.block k hk)
  rintro (rfl | h2)
  ·omega
  ·exact hf h2
 ·rcases hs.grew k (.inr hk) with (rfl | h2) | h2
  ·exact .inr hlo
  ·exact .inl h2
  ·exact .inr (Nat.le_trans hb.size h2)
end
section
variable {w : World} {B s c t d p g : Nat} {v : Value} {m : Int} {M : Md}
theorem vD (h : SO B w s c t d p v g m M) : Calls Tryz.prog 36 #[.pointer (some ⟨s, 0, none⟩)] w fun e w' => e = .returned (.bool false) ∧ w = w' := by
 have c0 := h.at'.c0
 have hn := kT h.cw
 go_enter Tryz.func36, Tryz.ntmps36
 go_wp2_with fail
 go_at_call 41
 refine hn.mono ?_
 clear hn
 rintro e w' ⟨rfl, rfl⟩
 go_wp2_with fail
 go_ret
 exact ⟨rfl, rfl⟩
theorem JN (c : Nat) (w : World) : Calls Tryz.prog 37 #[.pointer (some ⟨c, 0, none⟩)] w fun e w' => e = .returned (.pointer (some ⟨w.heap.size, 0, none⟩)) ∧ iw w' w.heap.size c ∧ Below w.heap.size w w' := by
 go_enter Tryz.func37, Tryz.ntmps37
 go_wp2_with fail
 go_ret
 exact ⟨rfl, heap_alloc_new w _, (Below.refl _ _).alloc (Nat.le_refl _) _⟩
theorem Px (n : Int) (w : World) (h : n < 1 ∨ 64 < n) : Calls Tryz.prog 32 #[.int .i64 n] w fun e w' => e = .returned (.tuple #[.pointer none, .int .i64 1]) ∧ w = w' := by
 have hn := Pb n w h
 go_enter Tryz.func32, Tryz.ntmps32
 go_wp2_with (go_at_call 35; go_must (refine hn.mono ?_); rintro e w' ⟨rfl, rfl⟩)
 go_ret2
 exact ⟨rfl, rfl⟩
theorem SQ (n : Nat) (w : World) (h1 : 1 ≤ n) (h2 : n ≤ 64) : Calls Tryz.prog 32 #[.int .i64 n] w fun e w' => ∃ s c t d p v g, e = .returned (.tuple #[.pointer (some ⟨s, 0, none⟩), .int .i64 0]) ∧ SO w.heap.size w' s c t d p v g 0 (dK n) ∧ Below w.heap.size w w' := by
 have hn := JA n w h1 h2
 go_enter Tryz.func32, Tryz.ntmps32
 go_wp2_with fail
 go_at_call 35
 refine hn.mono ?_
 clear hn
 rintro e w1 ⟨c, t, d, p, v, g, rfl, ⟨qH, hlo1⟩, hb1⟩
 have ho := JN c w1
 go_wp2_with fail
 go_at_call 37
 refine ho.mono ?_
 clear ho
 rintro e w2 ⟨rfl, hS2, hb2⟩
 go_wp2_with fail
 go_ret2
 exact ⟨w1.heap.size, c, t, d, p, v, g, rfl, ⟨hS2, hb1.size, qH.kept hb2, hlo1⟩, hb1.trans (hb2.mono hb1.size)⟩
end
section
variable {w w0 : World} {B s b c t d p g N : Nat} {v : Value} {m : Int} {M : Md} {Q : Nat → Int → Wk → Pg → Prop}
theorem JO {a : Nat} {R : Wk} {P : Pg} (hs : iw w s c) (h : SW w b c t d p v g a m R P) (hr : Run N a m R P Q) : Calls Tryz.prog 56 #[.pointer (some ⟨s, 0, none⟩), .pointer (some ⟨b, 0, none⟩)] w fun e w' => e = .returned (.pointer (some ⟨b, 0, none⟩)) ∧
 ∃ v' g' a' m' R' P', SW w' b c t d p v' g' a' m' R' P' ∧ Q a' m' R' P' ∧ WS w w' b c t d p v g v' g' := by
 go_enter Tryz.func56, Tryz.ntmps56
 go_wp2_with fail
 go_loopg [] N (fun k wr => Hid (iw wr s c) ∧ Hid (∃ v1 g1 a1 m1 R1 P1, SW wr b c t d p v1 g1 a1 m1 R1 P1 ∧ Run k a1 m1 R1 P1 Q ∧ WS w wr b c t d p v g v1 g1))
 case atStart => exact ⟨Lib.hid hs, v, g, a, m, R, P, h, hr, WS.refl w⟩
 case round =>
  clear h hr hs
  obtain ⟨h1, h2⟩ := hrel
  obtain ⟨v1, g1, a1, m1, R1, P1, hS, hr, hw⟩ := h2.out
  clear h2
  cases gk with
  | zero => exact hr.elim
  | succ K =>
    have c0 := h1.out.c0
    have hx : Hid (∀ w' v2 g2, WS wr w' b c t d p v1 g1 v2 g2 → iw w' s c) := fun w' v2 g2 h => h1.out.far (hS.far h)
    obtain ⟨_, a2, m2, R2, P2, ⟨rfl, ho, hq⟩ | ⟨ho, hq⟩⟩ := hr
    ·have hc := ho wr b c t d p v1 g1 hS
     replace hq := Lib.hid hq
     replace hw := Lib.hid hw
     clear ho hS
     go_wp2_with fail
     go_at_call 12
     refine hc.mono ?_
     clear hc
     rintro e w' ⟨rfl, v2, g2, hS2, hw2⟩
     replace hS2 := Lib.hid hS2
     replace hw2 := Lib.hid hw2
     go_wp2_with fail
     go_ret
     exact ⟨rfl, v2, g2, a2, m2, R2, P2, hS2.out, hq.out, hw.out.trans hw2.out⟩
    ·have hc := ho wr b c t d p v1 g1 hS
     replace hq := Lib.hid hq
     replace hw := Lib.hid hw
     clear ho hS
     go_wp2_with fail
     go_at_call 12
     refine hc.mono ?_
     clear hc
     rintro e w' ⟨rfl, v2, g2, hS2, hw2⟩
     have h3 := Lib.hid (hx.out w' v2 g2 hw2)
     replace hS2 := Lib.hid hS2
     replace hw2 := Lib.hid hw2
     go_wp2_with fail
     go_roundg K
     case measure => omega
     case rel => exact ⟨h3, v2, g2, a2, m2, R2, P2, hS2.out, hq.out, hw.out.trans hw2.out⟩
def Cy (w : World) (b c t d p : Nat) (v : Value) (g : Nat) (m : Int) (M' : Md) (y : Ry) (ok : Bool) (e : Ending) (w' : World) : Prop :=
 ∃ (v' : Value) (g' : Nat) (R : Wk), e = .returned (.pointer (some ⟨b, 0, none⟩)) ∧ CW w' c t d p v' g' (1 + 2 * M'.L.length) (m + 1000) (ah M') ∧ bI w' b R ∧ R.rep = y ∧ R.ok = ok ∧ WS w w' b c t d p v g v' g'
theorem xY {a : Nat} {R : Wk} {P : Pg} {M' : Md} {y : Ry} {ok : Bool} (hs : iw w s c) (hS : SW w b c t d p v g a m R P) (h : fA 1000 a m R P (Fin (m + 1000) M' y ok)) (hI : aF M') :
 Calls Tryz.prog 56 #[.pointer (some ⟨s, 0, none⟩), .pointer (some ⟨b, 0, none⟩)] w (Cy w b c t d p v g m M' y ok) := by
 obtain ⟨K, _, hr⟩ := h
 refine (JO hs hS hr).mono ?_
 rintro e w' ⟨rfl, v', g', a, m', R, P, hS, ⟨rfl, ha, hm, hl, hr, ho⟩, hw⟩
 exact ⟨v', g', R, rfl, (hS.cw.Su hI).wider (Nat.le_refl _) hm, hS.wk, hr, ho, hw⟩
theorem Dq (hs : iw w s c) (h : CW w c t d p v g (1 + 2 * M.L.length) m (ah M)) (r : Rq) (hb : bI w b (jQ r)) (hM : Ok M) (h1 : 1 ≤ M.dr.length) (hll : M.L.length ≤ 190) (hm : m + 1000 ≤ 1000000) (hnd : -9223372036854775808 ≤ r.node ∧ r.node ≤ 9223372036854775807) :
 Calls Tryz.prog 56 #[.pointer (some ⟨s, 0, none⟩), .pointer (some ⟨b, 0, none⟩)] w (Cy w b c t d p v g m (fE M (toW r)).2 (lN (fE M (toW r)).1) false) :=
 xY hs ⟨hb, h⟩ (JH r hM h1 hll hm hnd) (hM.Hu _).inv
theorem Al (hs : iw w s c) (h : CW w c t d p v g (1 + 2 * M.L.length) m (ah M)) (i x : Int) (hb : bI w b (zZ i x)) (hM : Ok M) (h1 : 1 ≤ M.dr.length) (hll : M.L.length ≤ 190) (hm : m + 1000 ≤ 1000000) (hx : -9223372036854775808 ≤ x ∧ x ≤ 9223372036854775807) :
 Calls Tryz.prog 56 #[.pointer (some ⟨s, 0, none⟩), .pointer (some ⟨b, 0, none⟩)] w (Cy w b c t d p v g m (df M i x).2 (mG M) (df M i x).1) :=
 xY hs ⟨hb, h⟩ (GD i x hM h1 hll hm hx) (hM.kP i x).inv
theorem M4 {w : World} {G : Nat} {z : Ry} (hb : w.heap[G]? = some (.cells (bK z).toArray 53 (0, 0))) (y : Ry) :
 Sem.run Tryz.prog (storeCells ⟨G, 0, none⟩ (bK y) 0) w = .ok () (w.setRow G (bK y).toArray) ∧ (w.setRow G (bK y).toArray).heap[G]? = some (.cells (bK y).toArray 53 (0, 0)) := by
 have hst := run_storeCells_at Tryz.prog G 0 53 (bK y) 0 (bK z).toArray w hb (by simp [jJ]) (yN y)
 simp only [Nat.add_zero] at hst
 have e : (((bK z).toArray.toList.take 0 ++ bK y ++ (bK z).toArray.toList.drop (0 + (bK y).length)).toArray) = (bK y).toArray := by simp [jJ]
 rw [e] at hst
 exact ⟨hst, setRow_heap w G _ _ _ _ hb⟩
theorem CS.row {w w' : World} {c t d p g g' G : Nat} {v v' : Value} (h : CS w w' c t d p v g v' g') (hG : w.heap.size ≤ G) (cs : Array Value) : CS w (w'.setRow G cs) c t d p v g v' g' :=
 ⟨⟨h.off.os, h.off.tape, h.off.output, by simp; exact h.off.size, fun k hk hf => (setRow_other w' G k cs (by omega)).trans (h.off.block k hk hf)⟩, h.grew⟩
theorem CS.later {w w1 w' : World} {c t d p g g' : Nat} {v v' : Value} (h : CS w w1 c t d p v g v' g') (hb : Below w1.heap.size w1 w') : CS w w' c t d p v g v' g' := h.trans (CS.of_below hb)
def M5 (B : Nat) (w : World) (s c t d p : Nat) (v : Value) (g : Nat) (m : Int) (M' : Md) (r : Value) (e : Ending) (w' : World) : Prop :=
 ∃ (v' : Value) (g' : Nat), e = .returned r ∧ SO B w' s c t d p v' g' (m + 1000) M' ∧ CS w w' c t d p v g v' g' ∧ Below B w w'
theorem Uy (h : SO B w s c t d p v g m M) (hB : B ≤ w.heap.size) (r : Rq) (hM : Ok M) (h1 : 1 ≤ M.dr.length) (hll : M.L.length ≤ 190) (hm : m + 1000 ≤ 1000000) (hnd : -9223372036854775808 ≤ r.node ∧ r.node ≤ 9223372036854775807) :
 Calls Tryz.prog 34 #[.pointer (some ⟨s, 0, none⟩), .agg (encR r).toArray] w (M5 B w s c t d p v g m (fE M (toW r)).2 (.agg (bK (lN (EM M (toW r)).1)).toArray)) := by
 by_cases hk : 1 ≤ r.kind ∧ r.kind ≤ 13
 ·rw [JM (show 1 ≤ (toW r).kind ∧ (toW r).kind ≤ 13 from hk)]
  have key : ∀ w2 b, bI w2 b (jQ r) → Below w.heap.size w w2 → Calls Tryz.prog 56 #[.pointer (some ⟨s, 0, none⟩), .pointer (some ⟨b, 0, none⟩)] w2 (Cy w2 b c t d p v g m (fE M (toW r)).2 (lN (fE M (toW r)).1) false) :=
   fun w2 b hW hb2 => Dq (h.at'.kept hb2) (h.cw.kept hb2) r hW hM h1 hll hm hnd
  have hf0 : ∀ k, dC c t d p v g k → k < w.heap.size := fun k => h.cw.lt
  generalize lN (fE M (toW r)).1 = y at *
  generalize (fE M (toW r)).2 = M2 at *
  obtain ⟨y1, y2, y3, y4, y5, y6, y7, y8, y9⟩ := r
  obtain ⟨wA, aJ⟩ : ∃ wA, wA = (w.alloc (.cells #[.int .i64 y1, .int .i64 y2, .int .i64 y3, .int .i64 y4, .int .i64 y5, .int .i64 y6, .bool y7, .int .i64 y8, .int .i64 y9] 24)).alloc (.cells #[.int .i64 0, .int .i64 0, .int .i64 0, .int .i64 0, .int .i64 0, .int .i64 0, .int .i64 0, .int .i64 0, .int .i64 0] 53) := ⟨_, rfl⟩
  have bS : Below w.heap.size w wA := by rw [aJ]; exact ((Below.refl _ _).alloc (Nat.le_refl _) _).alloc (by simp) _
  have hsA : wA.heap.size = w.heap.size + 2 := by rw [aJ]; simp
  have jD : wA.heap[w.heap.size + 1]? = some (.cells (bK oD).toArray 53 (0, 0)) := by rw [aJ]; exact heap_alloc2_new w _ _
  have uP : wA.heap[w.heap.size]? = some (.cells #[.int .i64 y1, .int .i64 y2, .int .i64 y3, .int .i64 y4, .int .i64 y5, .int .i64 y6, .bool y7, .int .i64 y8, .int .i64 y9] 24 (0, 0)) := by rw [aJ]; exact dW (heap_alloc_new w _)
  have hl := vD (h.kept bS)
  have hi := Av y1 wA
  dsimp only at hk
  rw [decide_eq_true hk.1, decide_eq_true hk.2] at hi
  have hq := uJ ⟨y1, y2, y3, y4, y5, y6, y7, y8, y9⟩ wA
  rw [show (encR ⟨y1, y2, y3, y4, y5, y6, y7, y8, y9⟩).toArray = #[.int .i64 y1, .int .i64 y2, .int .i64 y3, .int .i64 y4, .int .i64 y5, .int .i64 y6, .bool y7, .int .i64 y8, .int .i64 y9] from rfl] at hq ⊢
  have r0 : wA.cell? ⟨w.heap.size, 0, none⟩ = some (.int .i64 y1) := by simp [World.cell?, uP]
  have r1 : wA.cell? ⟨w.heap.size, 1, none⟩ = some (.int .i64 y2) := by simp [World.cell?, uP]
  have r2 : wA.cell? ⟨w.heap.size, 2, none⟩ = some (.int .i64 y3) := by simp [World.cell?, uP]
  have r3 : wA.cell? ⟨w.heap.size, 3, none⟩ = some (.int .i64 y4) := by simp [World.cell?, uP]
  have r4 : wA.cell? ⟨w.heap.size, 4, none⟩ = some (.int .i64 y5) := by simp [World.cell?, uP]
  have r5 : wA.cell? ⟨w.heap.size, 5, none⟩ = some (.int .i64 y6) := by simp [World.cell?, uP]
  have r6 : wA.cell? ⟨w.heap.size, 6, none⟩ = some (.bool y7) := by simp [World.cell?, uP]
  have r7 : wA.cell? ⟨w.heap.size, 7, none⟩ = some (.int .i64 y8) := by simp [World.cell?, uP]
  have r8 : wA.cell? ⟨w.heap.size, 8, none⟩ = some (.int .i64 y9) := by simp [World.cell?, uP]
  clear uP
  have zY := wK
  obtain ⟨k9, bP⟩ : ∃ k, k = 9 := ⟨_, rfl⟩
  rw [← bP] at zY
  have lY := jJ y
  rw [← bP] at lY
  have hk0 : ¬ k9 = 0 := by omega
  replace bP := Lib.hid bP
  replace key := Lib.hid key
  replace hf0 := Lib.hid hf0
  replace jD := Lib.hid jD
  go_enter Tryz.func34, Tryz.ntmps34
  go_wp2_with fail
  rw [← aJ]
  replace aJ := Lib.hid aJ
  go_at_call 36
  refine hl.mono ?_
  clear hl
  rintro e w' ⟨rfl, rfl⟩
  go_wp2_with fail
  go_at_call 60
  refine hi.mono ?_
  clear hi
  rintro e w' ⟨rfl, rfl⟩
  go_wp2_with fail
  go_at_call 10
  refine hq.mono ?_
  clear hq
  rintro e w2 ⟨b, rfl, hW2, hlb, hb2⟩
  have JP : Below w.heap.size w w2 := bS.trans (hb2.mono bS.size)
  have hp := key.out w2 b hW2 JP
  go_wp2_with fail
  go_at_call 56
  refine hp.mono ?_
  clear hp
  rintro e w3 ⟨v', g', R, rfl, Cz, hW3, hr, _, hs3⟩
  have Me := jK hW3
  rw [hr] at Me
  go_wp2_with fail
  go_at_call 20
  refine Me.mono ?_
  clear Me
  rintro e w4 ⟨rfl, hb4⟩
  have hcs : CS w w4 c t d p v g v' g' := (CS.SN JP (by omega) hs3).later hb4
  have hG : ¬ fI b c t d p v g (w.heap.size + 1) := by
   rintro (e | hf)
   ·omega
   ·have := hf0.out _ hf
    omega
  have hlt2 : w.heap.size + 1 < w2.heap.size := by have := hb2.size; omega
  have hR2 := (hb2.block (w.heap.size + 1) (by omega)).trans jD.out
  have Cg := (hs3.heap hlt2 hG).trans hR2
  have pK := (hb4.block (w.heap.size + 1) (Nat.lt_of_lt_of_le hlt2 hs3.off.size)).trans Cg
  obtain ⟨st, KD⟩ := M4 pK y
  have p9 := Cz.kept hb4
  have hnf : ¬ dC c t d p v' g' (w.heap.size + 1) := fun hf => (hs3.grew _ (.inr hf)).elim hG (fun h2 => by omega)
  have gJ := p9.Rj (cK w4 (bK y).toArray) hnf
  have xZ := hcs.row (G := w.heap.size + 1) (Nat.le_succ _) (bK y).toArray
  have hfin : Hid (SO B (w4.setRow (w.heap.size + 1) (bK y).toArray) s c t d p v' g' (m + 1000) M2 ∧ CS w (w4.setRow (w.heap.size + 1) (bK y).toArray) c t d p v g v' g' ∧ Below B w (w4.setRow (w.heap.size + 1) (bK y).toArray)) :=
   ⟨h.turn xZ gJ hB, xZ, h.below xZ hB⟩
  have hsz : (bK y).toArray.size = 9 := rfl
  clear hs3 hb4 hb2 Cz p9 gJ hcs xZ hW3 hW2 hR2 Cg pK h
  go_wp2_with fail
  exact bG rfl rfl rfl KD Tryz.underlying53 rfl (by rw [hsz]; kernel_rfl) ⟨v', g', rfl, hfin.out⟩
 ·rw [zb (show ¬ (1 ≤ (toW r).kind ∧ (toW r).kind ≤ 13) from hk), ← Pw, zb (show ¬ (1 ≤ (toW r).kind ∧ (toW r).kind ≤ 13) from hk)]
  obtain ⟨y1, y2, y3, y4, y5, y6, y7, y8, y9⟩ := r
  dsimp only at hk
  obtain ⟨wA, aJ⟩ : ∃ wA, wA = (w.alloc (.cells #[.int .i64 y1, .int .i64 y2, .int .i64 y3, .int .i64 y4, .int .i64 y5, .int .i64 y6, .bool y7, .int .i64 y8, .int .i64 y9] 24)).alloc (.cells #[.int .i64 0, .int .i64 0, .int .i64 0, .int .i64 0, .int .i64 0, .int .i64 0, .int .i64 0, .int .i64 0, .int .i64 0] 53) := ⟨_, rfl⟩
  have bS : Below w.heap.size w wA := by rw [aJ]; exact ((Below.refl _ _).alloc (Nat.le_refl _) _).alloc (by simp) _
  have hsA : wA.heap.size = w.heap.size + 2 := by rw [aJ]; simp
  have jD : wA.heap[w.heap.size + 1]? = some (.cells (bK oD).toArray 53 (0, 0)) := by rw [aJ]; exact heap_alloc2_new w _ _
  have uP : wA.heap[w.heap.size]? = some (.cells #[.int .i64 y1, .int .i64 y2, .int .i64 y3, .int .i64 y4, .int .i64 y5, .int .i64 y6, .bool y7, .int .i64 y8, .int .i64 y9] 24 (0, 0)) := by rw [aJ]; exact dW (heap_alloc_new w _)
  have r0 : wA.cell? ⟨w.heap.size, 0, none⟩ = some (.int .i64 y1) := by simp [World.cell?, uP]
  have hl := vD (h.kept bS)
  have hi := Av y1 wA
  have hii : (decide (1 ≤ y1) && decide (y1 ≤ 13)) = false := by
   by_cases c1 : 1 ≤ y1
   ·rw [decide_eq_false (show ¬ y1 ≤ 13 by omega), Bool.and_false]
   ·rw [decide_eq_false c1, Bool.false_and]
  rw [hii] at hi
  have hq := IY 4 wA
  generalize hy : (⟨4, 0, 0, 0, 0, 0, 0, 0, 0⟩ : Ry) = y at *
  rw [show lN (fK 4, M).1 = y from hy]
  rw [show (encR ⟨y1, y2, y3, y4, y5, y6, y7, y8, y9⟩).toArray = #[.int .i64 y1, .int .i64 y2, .int .i64 y3, .int .i64 y4, .int .i64 y5, .int .i64 y6, .bool y7, .int .i64 y8, .int .i64 y9] from rfl]
  clear hy hii uP
  have zY := wK
  obtain ⟨k9, bP⟩ : ∃ k, k = 9 := ⟨_, rfl⟩
  rw [← bP] at zY
  have lY := jJ y
  rw [← bP] at lY
  have hk0 : ¬ k9 = 0 := by omega
  replace bP := Lib.hid bP
  replace jD := Lib.hid jD
  go_enter Tryz.func34, Tryz.ntmps34
  go_wp2_with fail
  rw [← aJ]
  replace aJ := Lib.hid aJ
  go_at_call 36
  refine hl.mono ?_
  clear hl
  rintro e w' ⟨rfl, rfl⟩
  go_wp2_with fail
  go_at_call 60
  refine hi.mono ?_
  clear hi
  rintro e w' ⟨rfl, rfl⟩
  go_wp2_with fail
  go_at_call 59
  refine hq.mono ?_
  clear hq
  rintro e w4 ⟨rfl, hb4⟩
  have uQ : Below w.heap.size w w4 := bS.trans (hb4.mono bS.size)
  have pK := (hb4.block (w.heap.size + 1) (by omega)).trans jD.out
  obtain ⟨st, KD⟩ := M4 pK y
  have xZ := (CS.of_below (c := c) (t := t) (d := d) (p := p) (v := v) (g := g) uQ).row (G := w.heap.size + 1) (Nat.le_succ _) (bK y).toArray
  have hnf : ¬ dC c t d p v g (w.heap.size + 1) := fun hf => by have := h.cw.lt hf; omega
  have gJ := (h.cw.kept uQ).Rj (cK w4 (bK y).toArray) hnf
  have hfin : Hid (SO B (w4.setRow (w.heap.size + 1) (bK y).toArray) s c t d p v g (m + 1000) M ∧ CS w (w4.setRow (w.heap.size + 1) (bK y).toArray) c t d p v g v g ∧ Below B w (w4.setRow (w.heap.size + 1) (bK y).toArray)) :=
   ⟨(h.turn xZ gJ hB).wider (by omega), xZ, h.below xZ hB⟩
  have hsz : (bK y).toArray.size = 9 := rfl
  clear hb4 gJ xZ pK h
  go_wp2_with fail
  exact bG rfl rfl rfl KD Tryz.underlying53 rfl (by rw [hsz]; kernel_rfl) ⟨v, g, rfl, hfin.out⟩
theorem JQ (h : SO B w s c t d p v g m M) (hB : B ≤ w.heap.size) (i x : Int) (hM : Ok M) (h1 : 1 ≤ M.dr.length) (hll : M.L.length ≤ 190) (hm : m + 1000 ≤ 1000000) (hx : -9223372036854775808 ≤ x ∧ x ≤ 9223372036854775807) :
 Calls Tryz.prog 33 #[.pointer (some ⟨s, 0, none⟩), .agg #[.int .i64 i, .int .i64 x]] w (M5 B w s c t d p v g m (df M i x).2 (.bool (df M i x).1)) := by
 obtain ⟨wA, aJ⟩ : ∃ wA, wA = w.alloc (.cells #[.int .i64 i, .int .i64 x] 77) := ⟨_, rfl⟩
 have bS : Below w.heap.size w wA := by rw [aJ]; exact (Below.refl _ _).alloc (Nat.le_refl _) _
 have uP : wA.heap[w.heap.size]? = some (.cells #[.int .i64 i, .int .i64 x] 77 (0, 0)) := by rw [aJ]; exact heap_alloc_new w _
 have r0 : wA.cell? ⟨w.heap.size, 0, none⟩ = some (.int .i64 i) := by simp [World.cell?, uP]
 have r1 : wA.cell? ⟨w.heap.size, 1, none⟩ = some (.int .i64 x) := by simp [World.cell?, uP]
 clear uP
 have hl := vD (h.kept bS)
 have hq := Dm i x wA
 have key : ∀ w2 b, bI w2 b (zZ i x) → Below w.heap.size w w2 → Calls Tryz.prog 56 #[.pointer (some ⟨s, 0, none⟩), .pointer (some ⟨b, 0, none⟩)] w2 (Cy w2 b c t d p v g m (df M i x).2 (mG M) (df M i x).1) :=
  fun w2 b hW hb2 => Al (h.at'.kept hb2) (h.cw.kept hb2) i x hW hM h1 hll hm hx
 replace key := Lib.hid key
 go_enter Tryz.func33, Tryz.ntmps33
 go_wp2_with fail
 rw [← aJ]
 replace aJ := Lib.hid aJ
 go_at_call 36
 refine hl.mono ?_
 clear hl
 rintro e w' ⟨rfl, rfl⟩
 go_wp2_with fail
 go_at_call 57
 refine hq.mono ?_
 clear hq
 rintro e w2 ⟨b, rfl, hW2, hlb, hb2⟩
 have JP : Below w.heap.size w w2 := bS.trans (hb2.mono bS.size)
 have hp := key.out w2 b hW2 JP
 go_wp2_with fail
 go_at_call 56
 refine hp.mono ?_
 clear hp
 rintro e w3 ⟨v', g', R, rfl, Cz, hW3, _, hr, hs3⟩
 have Me := Wd hW3
 rw [hr] at Me
 go_wp2_with fail
 go_at_call 58
 refine Me.mono ?_
 clear Me
 rintro e w' ⟨rfl, rfl⟩
 have hcs : CS w w3 c t d p v g v' g' := CS.SN JP (by have := bS.size; omega) hs3
 have hfin := Lib.hid (And.intro (h.turn hcs Cz hB) (And.intro hcs (h.below hcs hB)))
 clear hs3 hb2 Cz hcs hW3 hW2 h key
 generalize (df M i x).1 = ok at *
 go_wp2_with fail
 go_ret
 exact ⟨v', g', rfl, hfin.out⟩
end
end Go.Proofs.YtelnhablglomjaaGreat

namespace Go.Proofs.YtelnhablglomjaaGreat
open Go.RowKit Go.Lib Go.Sort
def ze (x : De) : Prop := FH x.r ∧ (-9223372036854775808 ≤ x.xi ∧ x.xi ≤ 9223372036854775807) ∧ (-9223372036854775808 ≤ x.xt ∧ x.xt ≤ 9223372036854775807)
section
end
end Go.Proofs.YtelnhablglomjaaGreat

namespace Go.Proofs.YtelnhablglomjaaGreat
open Go.RowKit Go.Lib Go.Sort
section
variable {w : World} {u : Value} {l : List De}
theorem Py (h : aB sM 12 w u l) (n : Int) (hn : n < 1 ∨ 64 < n) : Calls Tryz.prog 6 #[.int .i64 n, u] w fun e w' => e = .returned (.pointer none) ∧ w = w' := by
 have hf := MZ h
 have hb := Px n w hn
 go_enter Tryz.func6, Tryz.ntmps6
 go_wp2_with fail
 go_at_call 31
 refine hf.mono ?_
 rintro e w' ⟨v', rfl, _, rfl⟩
 go_wp2_with fail
 go_at_call 32
 refine hb.mono ?_
 rintro e w' ⟨rfl, rfl⟩
 go_wp2_with fail
 go_ret
 exact ⟨rfl, rfl⟩
theorem SV (h : aB sM 12 w u l) (hfit : ∀ x ∈ l, ze x) (n : Nat) (h1 : 1 ≤ n) (h2 : n ≤ 64) : Calls Tryz.prog 6 #[.int .i64 n, u] w fun e w' => ∃ s c t d p v g, e = .returned (.pointer (some ⟨s, 0, none⟩)) ∧
 SO w.heap.size w' s c t d p v g 60000 (nz (dK n) (l.take 60)) ∧ Below w.heap.size w w' := by
 have hf := MZ h
 have hb := SQ n w h1 h2
 have Wl : ∀ x ∈ l.take 60, ze x := fun x hx => hfit x (List.mem_of_mem_take hx)
 have hlen : (l.take 60).length ≤ 60 := by rw [List.length_take]; omega
 generalize l.take 60 = ds at *
 clear h hfit
 go_enter Tryz.func6, Tryz.ntmps6
 go_wp2_with fail
 go_at_call 31
 refine hf.mono ?_
 clear hf
 rintro e w' ⟨u', rfl, hr, rfl⟩
 go_wp2_with fail
 go_at_call 32
 refine hb.mono ?_
 clear hb
 rintro e w1 ⟨s, c, t, d, p, v1, g1, rfl, hS1, hb1⟩
 replace hr := Lib.hid hr
 obtain ⟨ao, cap, rfl, q1, q2, q3⟩ := hr.out
 clear q1 q3
 go_wp2_with fail
 go_loopw [7] (fun ii wr => ∃ (i : Nat) (v : Value) (g : Nat), i ≤ ds.length ∧ ii = .int .i64 i ∧ Hid (SO w.heap.size wr s c t d p v g (1000 * i) (nz (dK n) (ds.take i))) ∧ Hid (Below w.heap.size w wr)) (fun ii _ => ds.length - (intOf ii).toNat)
 case atStart =>
  exact ⟨0, v1, g1, Nat.zero_le _, rfl, Lib.hid hS1, Lib.hid hb1⟩
 case round =>
  clear hS1 hb1
  obtain ⟨i, v, g, hin, rfl, hC, hbr⟩ := hrel
  obtain ⟨hok, hpl, Y1⟩ := EL (Ok.new h2) (ds.take i)
  have hle : (ds.take i).length ≤ 60 := by rw [List.length_take]; omega
  have hnl : (dK n).L.length = 0 ∧ (dK n).dr.length = n := ⟨rfl, by simp [dK]⟩
  by_cases hlt : i < ds.length
  ·have b2 : (i : Int) < (ds.length : Int) := by omega
   have wi : IntKind.i64.wrap ((i : Int) + 1) = (i : Int) + 1 := by rw [IntKind.wrap_i64]; omega
   have hrr := hr.out.below hbr.out
   obtain ⟨Nb, cap', e0, r1, r2, r3⟩ := hrr
   injection e0 with e1 _ e2
   subst e1 e2
   obtain ⟨B, off, rfl, hB, hcell⟩ := r3 (by omega)
   have hx := fun (j : Nat) (z : Value) (hz : (sM ds[i])[j]? = some z) => hcell i ds[i] j z (List.getElem?_eq_getElem hlt) hz
   have hsn := Mc (dK n) hlt
   generalize hxd : ds[i] = x at *
   have hfx := Wl x (by rw [← hxd]; exact List.getElem_mem hlt)
   obtain ⟨cm, ⟨y1, y2, y3, y4, y5, y6, y7, y8, y9⟩, xi, xt⟩ := x
   have k0 : wr.cell? ⟨B, off + i * 12, none⟩ = some (.bool cm) := hx 0 _ rfl
   have k1 : wr.cell? ⟨B, off + i * 12 + 1, none⟩ = some (.int .i64 y1) := hx 1 _ rfl
   have k2 : wr.cell? ⟨B, off + i * 12 + 1 + 1, none⟩ = some (.int .i64 y2) := (congrArg (fun z => wr.cell? ⟨B, z, none⟩) (show off + i * 12 + 1 + 1 = off + (i * 12 + 2) by omega)).trans (hx 2 _ rfl)
   have k3 : wr.cell? ⟨B, off + i * 12 + 1 + 2, none⟩ = some (.int .i64 y3) := (congrArg (fun z => wr.cell? ⟨B, z, none⟩) (show off + i * 12 + 1 + 2 = off + (i * 12 + 3) by omega)).trans (hx 3 _ rfl)
   have k4 : wr.cell? ⟨B, off + i * 12 + 1 + 3, none⟩ = some (.int .i64 y4) := (congrArg (fun z => wr.cell? ⟨B, z, none⟩) (show off + i * 12 + 1 + 3 = off + (i * 12 + 4) by omega)).trans (hx 4 _ rfl)
   have k5 : wr.cell? ⟨B, off + i * 12 + 1 + 4, none⟩ = some (.int .i64 y5) := (congrArg (fun z => wr.cell? ⟨B, z, none⟩) (show off + i * 12 + 1 + 4 = off + (i * 12 + 5) by omega)).trans (hx 5 _ rfl)
   have k6 : wr.cell? ⟨B, off + i * 12 + 1 + 5, none⟩ = some (.int .i64 y6) := (congrArg (fun z => wr.cell? ⟨B, z, none⟩) (show off + i * 12 + 1 + 5 = off + (i * 12 + 6) by omega)).trans (hx 6 _ rfl)
   have k7 : wr.cell? ⟨B, off + i * 12 + 1 + 6, none⟩ = some (.bool y7) := (congrArg (fun z => wr.cell? ⟨B, z, none⟩) (show off + i * 12 + 1 + 6 = off + (i * 12 + 7) by omega)).trans (hx 7 _ rfl)
   have k8 : wr.cell? ⟨B, off + i * 12 + 1 + 7, none⟩ = some (.int .i64 y8) := (congrArg (fun z => wr.cell? ⟨B, z, none⟩) (show off + i * 12 + 1 + 7 = off + (i * 12 + 8) by omega)).trans (hx 8 _ rfl)
   have k9 : wr.cell? ⟨B, off + i * 12 + 1 + 8, none⟩ = some (.int .i64 y9) := (congrArg (fun z => wr.cell? ⟨B, z, none⟩) (show off + i * 12 + 1 + 8 = off + (i * 12 + 9) by omega)).trans (hx 9 _ rfl)
   have k10 : wr.cell? ⟨B, off + i * 12 + 10, none⟩ = some (.int .i64 xi) := hx 10 _ rfl
   have k11 : wr.cell? ⟨B, off + i * 12 + 10 + 1, none⟩ = some (.int .i64 xt) := hx 11 _ rfl
   clear hx r3 hcell
   obtain ⟨M, hM⟩ : ∃ M, M = nz (dK n) (ds.take i) := ⟨_, rfl⟩
   rw [← hM] at hC hok hpl Y1 hsn
   cases cm with
   | false =>
     have hq := Uy hC.out hbr.out.size ⟨y1, y2, y3, y4, y5, y6, y7, y8, y9⟩ hok (by omega) (by omega) (by omega) hfx.1.node
     rw [show (fE M (toW ⟨y1, y2, y3, y4, y5, y6, y7, y8, y9⟩)).2 = nz (dK n) (ds.take (i + 1)) from hsn.symm, show (encR ⟨y1, y2, y3, y4, y5, y6, y7, y8, y9⟩).toArray = #[.int .i64 y1, .int .i64 y2, .int .i64 y3, .int .i64 y4, .int .i64 y5, .int .i64 y6, .bool y7, .int .i64 y8, .int .i64 y9] from rfl] at hq
     replace hq := Lib.hid hq
     go_wp2_with fail
     go_at_call 34
     refine hq.out.mono ?_
     clear hq k0 k1 k2 k3 k4 k5 k6 k7 k8 k9 k10 k11
     rintro e w3 ⟨v3, g3, rfl, Cz, _, hb3⟩
     have SX := Lib.hid (hbr.out.trans hb3)
     have SY := Lib.hid (Cz.wider (show 1000 * (i : Int) + 1000 ≤ 1000 * ((i + 1 : Nat) : Int) by omega))
     clear Cz hb3
     go_wp2_with fail
     go_roundw
     case rel => exact ⟨i + 1, v3, g3, by omega, by go_num, SY, SX⟩
     case measure => simp [intOf]; omega
   | true =>
     have hq := JQ hC.out hbr.out.size xi xt hok (by omega) (by omega) (by omega) hfx.2.2
     rw [show (df M xi xt).2 = nz (dK n) (ds.take (i + 1)) from hsn.symm] at hq
     replace hq := Lib.hid hq
     go_wp2_with fail
     go_at_call 33
     refine hq.out.mono ?_
     clear hq k0 k1 k2 k3 k4 k5 k6 k7 k8 k9 k10 k11
     rintro e w3 ⟨v3, g3, rfl, Cz, _, hb3⟩
     have SX := Lib.hid (hbr.out.trans hb3)
     have SY := Lib.hid (Cz.wider (show 1000 * (i : Int) + 1000 ≤ 1000 * ((i + 1 : Nat) : Int) by omega))
     clear Cz hb3
     go_wp2_with fail
     go_roundw
     case rel => exact ⟨i + 1, v3, g3, by omega, by go_num, SY, SX⟩
     case measure => simp [intOf]; omega
  ·have b2 : ¬ (i : Int) < (ds.length : Int) := by omega
   have hi : i = ds.length := by omega
   subst hi
   rw [List.take_length] at hC
   have hC' := Lib.hid (hC.out.wider (show (1000 * (ds.length : Int)) ≤ 60000 by omega))
   go_wp2_with fail
   go_ret
   exact ⟨s, rfl, ⟨c, t, d, p, v, g, hC'.out⟩, hbr.out⟩
end
end Go.Proofs.YtelnhablglomjaaGreat

namespace Go.Proofs.YtelnhablglomjaaGreat
open Go.RowKit Go.Lib
theorem Mf {L K : List Jb} {i : Nat} (h1 : i < L.length) (h2 : i < K.length) (he : L.take i = K.take i) (hx : L.getD i default = K.getD i default) : L.take (i + 1) = K.take (i + 1) := by
 rw [List.take_succ_eq_append_getElem h1, List.take_succ_eq_append_getElem h2, he]
 rw [List.getD, List.getElem?_eq_getElem h1, List.getD, List.getElem?_eq_getElem h2] at hx
 simp only [Option.getD_some] at hx
 rw [hx]
section
variable {w w' : World} {u v : Value} {L K : List Jb}
theorem GH (hu : aB ai 10 w u L) (hv : aB ai 10 w v K) (hL : L.length ≤ 100000) : Calls Tryz.prog 23 #[u, v] w fun e w' => e = .returned (.bool (decide (L = K))) ∧ Below w.heap.size w w' := by
 have hU := Lib.hid hu
 have hV := Lib.hid hv
 obtain ⟨ao, cap, rfl, h1, h2⟩ := hu.shape
 obtain ⟨bo, Y2, rfl, h3, h4⟩ := hv.shape
 obtain ⟨n, hn⟩ : ∃ n, n = L.length := ⟨_, rfl⟩
 obtain ⟨m, hm⟩ : ∃ m, m = K.length := ⟨_, rfl⟩
 rw [← hn] at h1 hL ⊢
 rw [← hm] at h3 ⊢
 clear hu hv
 by_cases hnm : n = m
 ·subst hnm
  replace hn := Lib.hid hn
  replace hm := Lib.hid hm
  go_enter Tryz.func23, Tryz.ntmps23
  go_wp2_with fail
  go_loopw [5] (fun ii wr => ∃ i : Nat, i ≤ n ∧ ii = .int .i64 i ∧ Hid (L.take i = K.take i) ∧ Hid (Below w.heap.size w wr)) (fun ii _ => n - (intOf ii).toNat)
  case atStart => exact ⟨0, Nat.zero_le _, rfl, by show _ = _; simp, Below.refl _ _⟩
  case round =>
   obtain ⟨i, hi, rfl, hsm, hbw⟩ := hrel
   by_cases hlt : i < n
   ·have b2 : (i : Int) < (n : Int) := by omega
    have b0 : (0 : Int) ≤ (i : Int) := by omega
    have wi : IntKind.i64.wrap ((i : Int) + 1) = (i : Int) + 1 := by rw [IntKind.wrap_i64]; omega
    have hi1 : i < L.length := by rw [← hn.out]; exact hlt
    have hi2 : i < K.length := by rw [← hm.out]; exact hlt
    obtain ⟨b, off, cp, hv5, _, _, hbl, hc⟩ := (hU.out.below hbw.out).P8 i hi1
    obtain ⟨d, X3, cp2, hv6, _, _, hdl, hd⟩ := (hV.out.below hbw.out).P8 i hi2
    rw [← hn.out] at hv5
    rw [← hm.out] at hv6
    cases hv5
    cases hv6
    have hmore := Mf hi1 hi2 hsm.out
    have hless : L.getD i default ≠ K.getD i default → ¬ L = K := fun h e => h (by rw [e])
    generalize L.getD i default = x at *
    generalize K.getD i default = y at *
    obtain ⟨x1, x2, x3, x4, x5, x6, x7, x8, x9, x0⟩ := x
    obtain ⟨y1, y2, y3, y4, y5, y6, y7, y8, y9, y0⟩ := y
    have a0 := hc 0 _ rfl
    have a1 := hc 1 _ rfl
    have a2 := hc 2 _ rfl
    have a3 := hc 3 _ rfl
    have a4 := hc 4 _ rfl
    have a5 := hc 5 _ rfl
    have a6 := hc 6 _ rfl
    have a7 := hc 7 _ rfl
    have a8 := hc 8 _ rfl
    have a9 := hc 9 _ rfl
    rw [Nat.add_zero] at a0
    have e0 := hd 0 _ rfl
    have e1 := hd 1 _ rfl
    have e2 := hd 2 _ rfl
    have e3 := hd 3 _ rfl
    have e4 := hd 4 _ rfl
    have e5 := hd 5 _ rfl
    have e6 := hd 6 _ rfl
    have e7 := hd 7 _ rfl
    have e8 := hd 8 _ rfl
    have e9 := hd 9 _ rfl
    rw [Nat.add_zero] at e0
    have hq := fun W => P6 (x1, x2, x3, x4, x5, x6, x7, x8, x9, x0) (y1, y2, y3, y4, y5, y6, y7, y8, y9, y0) W
    rw [uS, uS] at hq
    clear hc hd
    by_cases hxy : (x1, x2, x3, x4, x5, x6, x7, x8, x9, x0) = (y1, y2, y3, y4, y5, y6, y7, y8, y9, y0)
    ·rw [decide_eq_true hxy, Bool.not_true] at hq
     have hm1 : Hid (L.take (i + 1) = K.take (i + 1)) := hmore hxy
     have hbd : Hid (Below w.heap.size w wr.drew) := hbw.out.drew
     clear hmore hless hxy
     go_wp2_with fail
     go_region
     all_goals (try go_wp2_with fail)
     exact ⟨⟨i + 1, by omega, by go_num, hm1, hbd⟩, by simp [intOf]; omega⟩
    ·rw [decide_eq_false hxy, Bool.not_false] at hq
     have hf : Hid (decide (L = K) = false) := decide_eq_false (hless hxy)
     have hbd : Hid (Below w.heap.size w wr.drew) := hbw.out.drew
     clear hmore hless hxy
     go_wp2_with fail
     go_region
     all_goals (try go_wp2_with fail)
     go_ret
     exact ⟨by rw [hf.out]; rfl, hbd.out⟩
   ·obtain rfl : i = n := by omega
    have b2 : ¬ (i : Int) < (i : Int) := by omega
    have hf : Hid (decide (L = K) = true) := by
     refine decide_eq_true ?_
     have h := hsm.out
     rw [hn.out, List.take_length] at h
     rw [h, ← hn.out, hm.out, List.take_length]
    go_wp2_with fail
    go_ret
    exact ⟨by rw [hf.out]; rfl, hbw.out⟩
 ·have dn : ((n : Int) != (m : Int)) = true := by simp; omega
  have hf : Hid (decide (L = K) = false) := decide_eq_false fun e => hnm (by rw [hn, hm, e])
  replace hn := Lib.hid hn
  replace hm := Lib.hid hm
  clear hnm
  go_enter Tryz.func23, Tryz.ntmps23
  go_wp2_with fail
  go_ret
  exact ⟨by rw [hf.out]; rfl, Below.refl _ _⟩
end
theorem JR {L K : List (Int × Int)} {i : Nat} (h1 : i < L.length) (h2 : i < K.length) (he : L.take i = K.take i) (hx : L.getD i (0, 0) = K.getD i (0, 0)) : L.take (i + 1) = K.take (i + 1) := by
 rw [List.take_succ_eq_append_getElem h1, List.take_succ_eq_append_getElem h2, he]
 rw [List.getD, List.getElem?_eq_getElem h1, List.getD, List.getElem?_eq_getElem h2] at hx
 simp only [Option.getD_some] at hx
 rw [hx]
theorem aB.S9 {w : World} {v : Value} {L : List (Int × Int)} (h : aB zg 2 w v L) (i : Nat) (hi : i < L.length) : ∃ b off cap, v = .slice (some ⟨b, off, none⟩) L.length cap ∧ L.length ≤ cap ∧ cap ≤ maxLen ∧ b < w.heap.size ∧ ∀ j u, (zg (L.getD i (0, 0)))[j]? = some u → w.cell? ⟨b, off + i * 2 + j, none⟩ = some u := by
 obtain ⟨ao, cap, rfl, h1, h2, h3⟩ := h
 obtain ⟨b, off, rfl, hb, hc⟩ := h3 (by omega)
 exact ⟨b, off, cap, rfl, h1, h2, hb, fun j u hj => by rw [Nat.add_assoc]; exact hc i (L.getD i (0, 0)) j u (by simp [List.getD, hi]) hj⟩
section
theorem Dr (x y : Int × Int) (w : World) : (Op.equalIn 10000 105 (.agg #[.int .i64 x.1, .int .i64 x.2]) (.agg #[.int .i64 y.1, .int .i64 y.2])).run Tryz.prog w = .ok (decide (x = y)) w := by
 have u2 := Tryz.underlying2
 have a2 := Tryz.isAgg2
 have z2 := Tryz.sizeOf2
 have u3 := Tryz.underlying3
 have a3 := Tryz.isAgg3
 have z3 := Tryz.sizeOf3
 have hS : Tryz.prog.underlying 105 = some (.struct (Tryz.prog.fieldsOf 105)) := by kernel_rfl
 have hp : Tryz.prog.stoodInHeld 105 = false := by kernel_rfl
 rw [show (10000 : Nat) = 9999 + 1 from rfl, run_equalIn_agg w 9999 105 _ _ hS hp]
 simp only [Program.fieldsOf, Tryz.underlying105]
 go_simp
 obtain ⟨x1, x2⟩ := x
 obtain ⟨y1, y2⟩ := y
 by_cases h1 : x1 = y1 <;> by_cases h2 : x2 = y2 <;> simp [h1, h2]
theorem Pz (x y : Int × Int) (w : World) : (binOp .neq 105 (.agg #[.int .i64 x.1, .int .i64 x.2]) (.agg #[.int .i64 y.1, .int .i64 y.2])).run Tryz.prog w = .ok (.bool (!decide (x = y))) w := by
 rw [run_neq_struct, Dr]; rfl
end
section
variable {w w' : World} {u v : Value} {L K : List (Int × Int)}
theorem Dt (hu : aB zg 2 w u L) (hv : aB zg 2 w v K) (hL : L.length ≤ 100000) : Calls Tryz.prog 25 #[u, v] w fun e w' => e = .returned (.bool (decide (L = K))) ∧ Below w.heap.size w w' := by
 have hU := Lib.hid hu
 have hV := Lib.hid hv
 obtain ⟨ao, cap, rfl, h1, h2⟩ := hu.shape
 obtain ⟨bo, Y2, rfl, h3, h4⟩ := hv.shape
 obtain ⟨n, hn⟩ : ∃ n, n = L.length := ⟨_, rfl⟩
 obtain ⟨m, hm⟩ : ∃ m, m = K.length := ⟨_, rfl⟩
 rw [← hn] at h1 hL ⊢
 rw [← hm] at h3 ⊢
 clear hu hv
 by_cases hnm : n = m
 ·subst hnm
  replace hn := Lib.hid hn
  replace hm := Lib.hid hm
  go_enter Tryz.func25, Tryz.ntmps25
  go_wp2_with fail
  go_loopw [5] (fun ii wr => ∃ i : Nat, i ≤ n ∧ ii = .int .i64 i ∧ Hid (L.take i = K.take i) ∧ Hid (Below w.heap.size w wr)) (fun ii _ => n - (intOf ii).toNat)
  case atStart => exact ⟨0, Nat.zero_le _, rfl, by show _ = _; simp, Below.refl _ _⟩
  case round =>
   obtain ⟨i, hi, rfl, hsm, hbw⟩ := hrel
   by_cases hlt : i < n
   ·have b2 : (i : Int) < (n : Int) := by omega
    have b0 : (0 : Int) ≤ (i : Int) := by omega
    have wi : IntKind.i64.wrap ((i : Int) + 1) = (i : Int) + 1 := by rw [IntKind.wrap_i64]; omega
    have hi1 : i < L.length := by rw [← hn.out]; exact hlt
    have hi2 : i < K.length := by rw [← hm.out]; exact hlt
    obtain ⟨b, off, cp, hv5, _, _, hbl, hc⟩ := (hU.out.below hbw.out).S9 i hi1
    obtain ⟨d, X3, cp2, hv6, _, _, hdl, hd⟩ := (hV.out.below hbw.out).S9 i hi2
    rw [← hn.out] at hv5
    rw [← hm.out] at hv6
    cases hv5
    cases hv6
    have hmore := JR hi1 hi2 hsm.out
    have hless : L.getD i (0, 0) ≠ K.getD i (0, 0) → ¬ L = K := fun h e => h (by rw [e])
    generalize L.getD i (0, 0) = x at *
    generalize K.getD i (0, 0) = y at *
    obtain ⟨x1, x2⟩ := x
    obtain ⟨y1, y2⟩ := y
    have a0 := hc 0 _ rfl
    have a1 := hc 1 _ rfl
    rw [Nat.add_zero] at a0
    have e0 := hd 0 _ rfl
    have e1 := hd 1 _ rfl
    rw [Nat.add_zero] at e0
    have hq := fun W => Pz (x1, x2) (y1, y2) W
    simp only at hq
    clear hc hd
    by_cases hxy : (x1, x2) = (y1, y2)
    ·rw [decide_eq_true hxy, Bool.not_true] at hq
     have hm1 : Hid (L.take (i + 1) = K.take (i + 1)) := hmore hxy
     have hbd : Hid (Below w.heap.size w wr.drew) := hbw.out.drew
     clear hmore hless hxy
     go_wp2_with fail
     go_region
     all_goals (try go_wp2_with fail)
     exact ⟨⟨i + 1, by omega, by go_num, hm1, hbd⟩, by simp [intOf]; omega⟩
    ·rw [decide_eq_false hxy, Bool.not_false] at hq
     have hf : Hid (decide (L = K) = false) := decide_eq_false (hless hxy)
     have hbd : Hid (Below w.heap.size w wr.drew) := hbw.out.drew
     clear hmore hless hxy
     go_wp2_with fail
     go_region
     all_goals (try go_wp2_with fail)
     go_ret
     exact ⟨by rw [hf.out]; rfl, hbd.out⟩
   ·obtain rfl : i = n := by omega
    have b2 : ¬ (i : Int) < (i : Int) := by omega
    have hf : Hid (decide (L = K) = true) := by
     refine decide_eq_true ?_
     have h := hsm.out
     rw [hn.out, List.take_length] at h
     rw [h, ← hn.out, hm.out, List.take_length]
    go_wp2_with fail
    go_ret
    exact ⟨by rw [hf.out]; rfl, hbw.out⟩
 ·have dn : ((n : Int) != (m : Int)) = true := by simp; omega
  have hf : Hid (decide (L = K) = false) := decide_eq_false fun e => hnm (by rw [hn, hm, e])
  replace hn := Lib.hid hn
  replace hm := Lib.hid hm
  clear hnm
  go_enter Tryz.func25, Tryz.ntmps25
  go_wp2_with fail
  go_ret
  exact ⟨by rw [hf.out]; rfl, Below.refl _ _⟩
end
end Go.Proofs.YtelnhablglomjaaGreat

namespace Go.Proofs.YtelnhablglomjaaGreat
open Go.ChangeShapes Go.WideShapes Go.ChangeAt Go.RowKit Go.Lib Go.Sort Go.Deep
section
variable {H : Type} {enc : TypeId × Value → H} {w : World} {base : Nat} {v : Value} {d : DataW H} {ps : List MemPlace}
def Uz : List TypeId := [4, 3, 3, 3, 3, 2, 3, 4, 3, 2, 3, 2]
theorem CB {α : Type} {CE : α → List Value} {p : α → Prop} : ∀ {l : List (List Value)}, (∀ s ∈ l, ∃ x : α, s = CE x ∧ p x) → ∃ L : List α, l = L.map CE ∧ ∀ x ∈ L, p x
 | [], _ => ⟨[], rfl, fun _ h => nomatch h⟩
 | s :: l, h => by
   obtain ⟨x, rfl, hx⟩ := h s List.mem_cons_self
   obtain ⟨L, rfl, hL⟩ := CB (l := l) fun s hs => h s (List.mem_cons_of_mem _ hs)
   exact ⟨x :: L, rfl, fun y hy => by
    rcases List.mem_cons.1 hy with rfl | hy
    ·exact hx
    ·exact hL y hy⟩
theorem Mg {α : Type} {CE : α → List Value} {n : Nat} {L : List α} (h : aB id n w v (L.map CE)) : aB CE n w v L := by
 obtain ⟨ao, cap, h1, h2, h3, h4⟩ := h
 rw [List.length_map] at h1 h2 h4
 refine ⟨ao, cap, h1, h2, h3, fun hn => ?_⟩
 obtain ⟨b, off, e, hlt, hc⟩ := h4 hn
 exact ⟨b, off, e, hlt, fun i s j u hi hj => hc i (CE s) j u (by rw [List.getElem?_map, hi]; rfl) hj⟩
theorem PD (hval : Value.okWide Tryz.prog w .any base 22 v) (hd : DataW.Trod enc Tryz.prog w 0 (fun _ => true) true 22 v d ps) : ∃ l : List De, aB sM 12 w v l ∧ ∀ x ∈ l, ze x := by
 obtain ⟨l, hr, hf⟩ := Nv (n := 3) (ts := Uz) Tryz.underlying22 (by kernel_rfl) (by kernel_rfl) (by kernel_rfl) (by decide) hval hd
 obtain ⟨L, rfl, hL⟩ := CB (CE := sM) (p := ze) fun s hs => by
  obtain ⟨hl, hf⟩ := hf s hs
  match s, hl with
  | [a0, a1, a2, a3, a4, a5, a6, a7, a8, a9, Z8, Z9], _ =>
    obtain ⟨x0, rfl⟩ := vZ hf 0 rfl Tryz.underlying4 rfl
    obtain ⟨x1, rfl, b1⟩ := eH hf 1 rfl Tryz.underlying3 rfl
    obtain ⟨x2, rfl, b2⟩ := eH hf 2 rfl Tryz.underlying3 rfl
    obtain ⟨x3, rfl, b3⟩ := eH hf 3 rfl Tryz.underlying3 rfl
    obtain ⟨x4, rfl, b4⟩ := eH hf 4 rfl Tryz.underlying3 rfl
    obtain ⟨x5, rfl, b5⟩ := eH hf 5 rfl Tryz.underlying2 rfl
    obtain ⟨x6, rfl, b6⟩ := eH hf 6 rfl Tryz.underlying3 rfl
    obtain ⟨x7, rfl⟩ := vZ hf 7 rfl Tryz.underlying4 rfl
    obtain ⟨x8, rfl, b8⟩ := eH hf 8 rfl Tryz.underlying3 rfl
    obtain ⟨x9, rfl, b9⟩ := eH hf 9 rfl Tryz.underlying2 rfl
    obtain ⟨KV, rfl, b10⟩ := eH hf 10 rfl Tryz.underlying3 rfl
    obtain ⟨Xe, rfl, b11⟩ := eH hf 11 rfl Tryz.underlying2 rfl
    exact ⟨⟨x0, ⟨x1, x2, x3, x4, x5, x6, x7, x8, x9⟩, KV, Xe⟩, rfl, ⟨b1, b2, b3, b4, b5, b6, b8, b9⟩, b10, b11⟩
 exact ⟨L, Mg hr, hL⟩
end
end Go.Proofs.YtelnhablglomjaaGreat

namespace Go.Proofs.YtelnhablglomjaaGreat
open Go.RowKit Go.Lib Go.Sort
def M6 (B : Nat) (w : World) (P : World → Prop) : Prop := ∀ w' : World, (∀ k, B ≤ k → k < w.heap.size → w'.heap[k]? = w.heap[k]?) → w.heap.size ≤ w'.heap.size → P w'
section
variable {B : Nat} {w w' : World} {P : World → Prop}
theorem M6.now (h : M6 B w P) : P w := h w (fun _ _ _ => rfl) (Nat.le_refl _)
theorem JU {c t d p g a : Nat} {v : Value} {m : Int} {M : Md} (h : CW w c t d p v g a m (ah M)) (hll : M.L.length ≤ 900) : Calls Tryz.prog 24 #[.pointer (some ⟨t, 0, none⟩)] w fun e w' => ∃ u, e = .returned u ∧ M6 w.heap.size w' (fun W => aB ai 10 W u M.L) ∧ Below w.heap.size w w' := by
 refine (Mw h.eU (by show M.L.length ≤ 1000; omega)).mono ?_
 rintro e w' ⟨u, rfl, h1, h2⟩
 exact ⟨u, rfl, fun W hW _ => aB.jk (DK h1 fun k hk => hW k (h1.lt k hk).1 (h1.lt k hk).2) ax rfl rfl, h2⟩
theorem CF {c t d p g a : Nat} {v : Value} {m : Int} {M : Md} (h : CW w c t d p v g a m (ah M)) (hI : aF M) (hll : M.L.length ≤ 400) : Calls Tryz.prog 26 #[.pointer (some ⟨p, 0, none⟩)] w fun e w' => ∃ u, e = .returned u ∧ M6 w.heap.size w' (fun W => aB zg 2 W u (lV M)) ∧ Below w.heap.size w w' := by
 obtain ⟨S, aK, hp, hC, hl, _⟩ := h.lL
 have e : S = lV M := hC.uniq (Bc hI) fun _ _ => rfl
 have hs := uM M
 refine (vL hp hC.sm.pos (by rw [e]; omega)).mono ?_
 rintro en w' ⟨g', cap', rfl, h1, h2, h3⟩
 refine ⟨_, rfl, fun W hW _ => ?_, h3⟩
 have h4 := DK h2 (w' := W) fun k hk => hW k (by
  have : some g' = some k := hk
  injection this with this
  omega) (h2.lt k hk).2
 exact aB.jk h4 (fun _ => rfl) (by rw [← e]; rfl) (by rw [← e])
end
section
end
end Go.Proofs.YtelnhablglomjaaGreat
