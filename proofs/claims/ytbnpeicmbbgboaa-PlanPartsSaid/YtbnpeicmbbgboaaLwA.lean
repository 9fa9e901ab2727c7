/-
  Own walks: one call of both.
-/
import Derived.Test.YtbnpeicmbbgboaaPlF
namespace Go.Proofs.Ytbnpeicmbbgboaa
set_option maxRecDepth 8000
open Go.RowKit Go.Sort Go.Lib

/-- A profile and the document's, behind k calls. -/
structure XS (B : Nat) (w : World) (p g q k : Nat) (L : List (Int × Int)) (now F : Int) (E : List Sp) (ver : Int) : Prop where
  x : PW w p g L ver
  y : QW B w q F now E ver
  can : Can L now (raw F E)
  ok : ∀ s ∈ E, SpOk s
  fr : ∀ t, now ≤ t → 0 ≤ raw F E t ∧ raw F E t ≤ 64
  F : 0 ≤ F ∧ F ≤ 64
  now : 0 ≤ now ∧ now ≤ 1099511627776
  el : E.length ≤ k
  ll : L.length ≤ 2 * k + 1
  v : 0 ≤ ver ∧ ver ≤ k
  bp : B ≤ p
  bg : B ≤ g

section
variable {B : Nat} {w w' w0 : World} {p g q k : Nat} {L : List (Int × Int)} {now F : Int} {E : List Sp} {ver : Int}

theorem XS.kept (h : XS B w p g q k L now F E ver) (hb : Below w.heap.size w w') : XS B w' p g q k L now F E ver :=
  ⟨h.x.kept hb, h.y.kept hb, h.can, h.ok, h.fr, h.F, h.now, h.el, h.ll, h.v, h.bp, h.bg⟩
theorem XS.size (h : XS B w p g q k L now F E ver) : B ≤ w.heap.size := by
  obtain ⟨cap, Z⟩ := h.x.facts
  have := Z.pl; have := h.bp; omega
theorem AddPost.ext {f : Int → Int} {a b n : Int} {e : Ending} (h : AddPost w p g L ver now f a b n e w0) (hb : Below w0.heap.size w0 w') : AddPost w p g L ver now f a b n e w' := by
  obtain ⟨r, dv, f', g', L', h1, h2, h3, h4, h5, h6, h7⟩ := h
  exact ⟨r, dv, f', g', L', h1, h2, h3.kept hb, h4, h5, h6.then_below hb, h7⟩
theorem AdvPost.ext {f : Int → Int} {t : Int} {e : Ending} (h : AdvPost w p g L ver now f t e w0) (hb : Below w0.heap.size w0 w') : AdvPost w p g L ver now f t e w' := by
  obtain ⟨r, dv, now', L', h1, h2, h3, h4, h5, h6⟩ := h
  exact ⟨r, dv, now', L', h1, h2, h3.kept hb, h4, h5.then_below hb, h6⟩
theorem AdvPost.ahead {f : Int → Int} {t : Int} {e : Ending} (h : AdvPost w p g L ver now f t e w') (hb : Below w0.heap.size w0 w) : AdvPost w0 p g L ver now f t e w' := by
  obtain ⟨r, dv, now', L', h1, h2, h3, h4, h5, h6⟩ := h
  exact ⟨r, dv, now', L', h1, h2, h3, h4, (Off.of_below hb).trans h5 (.inl rfl), h6⟩

/-- Behind an addition to both they are alike, and told the same. -/
theorem XS.added {a b n : Int} {r : Value} {e : Ending} {w2 : World} (h : XS B w p g q k L now F E ver) (h1 : AddPost w p g L ver now (raw F E) a b n (.returned r) w') (h2 : PAddPost B w' q F now E ver a b n e w2) :
    ∃ (r1 dv : Int) (g' : Nat) (L' : List (Int × Int)) (E' : List Sp), r = .int .i64 r1 ∧ e = .returned (.int .i64 r1) ∧ XS B w2 p g' q (k + 1) L' now F E' (ver + dv) ∧ AddR (raw F E) now a b n r1 (raw F E') dv ∧ Below B w w2 := by
  obtain ⟨r1, dv, f', g', L', hr, hR, hP, hC, hg, hO, hl⟩ := h1
  obtain ⟨r2, dv2, E', he, hR2, hQ, hE', hel, hT, hB⟩ := h2
  injection hr with hr
  obtain ⟨e1, e2, e3⟩ := hR.uniq hR2 (fun _ _ => rfl)
  subst e1; subst e2
  have hdv : 0 ≤ dv ∧ dv ≤ 1 := by
    rcases hR with ⟨_, _, _, h⟩ | ⟨_, _, _, _, h⟩ | ⟨_, _, _, _, _, h⟩ | ⟨_, _, _, _, _, h⟩ <;> omega
  have hv := h.v
  have hll := h.ll
  have hell := h.el
  refine ⟨r1, dv, g', L', E', hr, he, ⟨hT.pw hP, hQ, hC.congr e3, hE', hR2.range h.fr (fun t ht => h.can.sm.late t ht), h.F, h.now, by omega, by omega, by omega, h.bp, ?_⟩, hR2, (hO.below h.bp h.bg h.size).trans hB⟩
  have := h.bg
  have := h.size
  omega

section
variable {f : Int → Int}
end

/-- The states of a statement that calls both. -/
def SAdd (w : World) (p g : Nat) (L : List (Int × Int)) (ver now : Int) (f : Int → Int) (a b n : Int) : List Value → World → Prop
  | [], W => Below w.heap.size w W
  | v :: _, W => AddPost w p g L ver now f a b n (.returned v) W
theorem SAdd.ext {f : Int → Int} {a b n : Int} : ∀ (vs : List Value) (W W' : World), Reg.Ext W W' → SAdd w p g L ver now f a b n vs W → SAdd w p g L ver now f a b n vs W' := by
  intro vs W W' he h
  cases vs with
  | nil => exact Below.trans h (he.mono (Below.size h))
  | cons v vs => exact AddPost.ext h he
def SAdv (w : World) (p g : Nat) (L : List (Int × Int)) (ver now : Int) (f : Int → Int) (t : Int) : List Value → World → Prop
  | [], W => Below w.heap.size w W
  | v :: _, W => AdvPost w p g L ver now f t (.returned v) W
theorem SAdv.ext {f : Int → Int} {t : Int} : ∀ (vs : List Value) (W W' : World), Reg.Ext W W' → SAdv w p g L ver now f t vs W → SAdv w p g L ver now f t vs W' := by
  intro vs W W' he h
  cases vs with
  | nil => exact Below.trans h (he.mono (Below.size h))
  | cons v vs => exact AdvPost.ext h he
theorem AddPost.offs {f : Int → Int} {a b n : Int} {e : Ending} (h : AddPost w p g L ver now f a b n e w0) : Off p g w w0 := by
  obtain ⟨r, dv, f', g', L', h1, h2, h3, h4, h5, h6, h7⟩ := h
  exact h6
theorem AdvPost.offs {f : Int → Int} {t : Int} {e : Ending} (h : AdvPost w p g L ver now f t e w0) : Off p g w w0 := by
  obtain ⟨r, dv, now', L', h1, h2, h3, h4, h5, h6⟩ := h
  exact h5

/-- What a call makes. -/
def CallR (kd a b n now : Int) (f : Int → Int) (ver now' : Int) (f' : Int → Int) (ver' : Int) : Prop :=
  ((kd = 0 ∨ kd = 1 ∨ kd = 2) ∧ (n < 0 ∨ 64 < n) ∧ now' = now ∧ f' = f ∧ ver' = ver) ∨
  ((kd = 0 ∨ kd = 1) ∧ (0 ≤ n ∧ n ≤ 64) ∧ now' = now ∧ ∃ r dv, AddR f now a b (-n) r f' dv ∧ ver' = ver + dv) ∨
  (kd = 2 ∧ (0 ≤ n ∧ n ≤ 64) ∧ now' = now ∧ ∃ r dv, AddR f now a b n r f' dv ∧ ver' = ver + dv) ∨
  (kd = 3 ∧ now' = now ∧ ∃ r dv, AddR f now a b n r f' dv ∧ ver' = ver + dv) ∨
  ((kd ≠ 0 ∧ kd ≠ 1 ∧ kd ≠ 2 ∧ kd ≠ 3) ∧ f' = f ∧ ∃ r dv, AdvR now a r now' dv ∧ ver' = ver + dv)
theorem CallR.uniq {kd a b n now ver now1 ver1 now2 ver2 : Int} {f f1 f2 : Int → Int} (h : CallR kd a b n now f ver now1 f1 ver1) (h' : CallR kd a b n now f ver now2 f2 ver2) : now1 = now2 ∧ ver1 = ver2 ∧ ∀ t, now ≤ t → f1 t = f2 t := by
  rcases h with ⟨k1, c1, rfl, rfl, rfl⟩ | ⟨k1, c1, rfl, r1, d1, hR, rfl⟩ | ⟨k1, c1, rfl, r1, d1, hR, rfl⟩ | ⟨k1, rfl, r1, d1, hR, rfl⟩ | ⟨k1, rfl, r1, d1, hR, rfl⟩ <;>
    rcases h' with ⟨k2, c2, rfl, rfl, rfl⟩ | ⟨k2, c2, rfl, r2, d2, hR2, rfl⟩ | ⟨k2, c2, rfl, r2, d2, hR2, rfl⟩ | ⟨k2, rfl, r2, d2, hR2, rfl⟩ | ⟨k2, rfl, r2, d2, hR2, rfl⟩ <;>
    first
    | exact ⟨rfl, rfl, fun _ _ => rfl⟩
    | (exfalso; omega)
    | (obtain ⟨_, e2, e3⟩ := AddR.uniq hR hR2 (fun _ _ => rfl); subst e2; exact ⟨rfl, rfl, e3⟩)
    | (obtain ⟨_, e2, e3⟩ := AdvR.uniq hR hR2; subst e2; subst e3; exact ⟨rfl, rfl, fun _ _ => rfl⟩)
theorem AddR.total (f : Int → Int) (now a b n : Int) : ∃ r f' dv, AddR f now a b n r f' dv := by
  by_cases h1 : b ≤ a ∨ 1152921504606846976 < b ∨ n < -64 ∨ 64 < n
  · exact ⟨_, _, _, .inl ⟨h1, rfl, rfl, rfl⟩⟩
  · by_cases h2 : b ≤ max a now ∨ n = 0
    · exact ⟨_, _, _, .inr (.inl ⟨h1, h2, rfl, rfl, rfl⟩)⟩
    · by_cases h3 : ∃ t, max a now ≤ t ∧ t < b ∧ (f t + n < 0 ∨ 64 < f t + n)
      · exact ⟨_, _, _, .inr (.inr (.inl ⟨h1, h2, h3, rfl, rfl, rfl⟩))⟩
      · exact ⟨_, _, _, .inr (.inr (.inr ⟨h1, h2, fun t h4 h5 => by
          rcases Int.lt_or_le (f t + n) 0 with h6 | h6
          · exact absurd ⟨t, h4, h5, .inl h6⟩ h3
          · rcases Int.lt_or_le 64 (f t + n) with h7 | h7
            · exact absurd ⟨t, h4, h5, .inr h7⟩ h3
            · exact ⟨h6, h7⟩, rfl, rfl, rfl⟩))⟩
theorem CallR.total (kd a b n now : Int) (f : Int → Int) (ver : Int) : ∃ now' f' ver', CallR kd a b n now f ver now' f' ver' := by
  obtain ⟨r1, f1, d1, h1⟩ := AddR.total f now a b (-n)
  obtain ⟨r2, f2, d2, h2⟩ := AddR.total f now a b n
  by_cases k0 : kd = 0 ∨ kd = 1 ∨ kd = 2
  · by_cases hn : n < 0 ∨ 64 < n
    · exact ⟨_, _, _, .inl ⟨k0, hn, rfl, rfl, rfl⟩⟩
    · by_cases k2 : kd = 2
      · exact ⟨_, _, _, .inr (.inr (.inl ⟨k2, by omega, rfl, r2, d2, h2, rfl⟩))⟩
      · exact ⟨_, _, _, .inr (.inl ⟨by omega, by omega, rfl, r1, d1, h1, rfl⟩)⟩
  · by_cases k3 : kd = 3
    · exact ⟨_, _, _, .inr (.inr (.inr (.inl ⟨k3, rfl, r2, d2, h2, rfl⟩)))⟩
    · have hA : ∃ r now' dv, AdvR now a r now' dv := by
        by_cases h4 : a < now ∨ 1099511627776 < a
        · exact ⟨_, _, _, .inl ⟨h4, rfl, rfl, rfl⟩⟩
        · by_cases h5 : a = now
          · exact ⟨_, _, _, .inr (.inl ⟨h4, h5, rfl, rfl, rfl⟩)⟩
          · exact ⟨_, _, _, .inr (.inr ⟨h4, h5, rfl, rfl, rfl⟩)⟩
      obtain ⟨r3, n3, d3, h3⟩ := hA
      exact ⟨_, _, _, .inr (.inr (.inr (.inr ⟨by omega, rfl, r3, d3, h3, rfl⟩)))⟩

/-- What one call of both makes. -/
def StepPost (B : Nat) (w : World) (p q k : Nat) (F : Int) (kd a b n now : Int) (f : Int → Int) (ver : Int) (e : Ending) (w' : World) : Prop :=
  ∃ (g' : Nat) (L' : List (Int × Int)) (now' : Int) (E' : List Sp) (ver' : Int), e = .returned (.bool true) ∧ XS B w' p g' q (k + 1) L' now' F E' ver' ∧ CallR kd a b n now f ver now' (raw F E') ver' ∧ Below B w w'
theorem StepPost.same {kd a b n : Int} (h : XS B w p g q k L now F E ver) (hb : Below w.heap.size w w') (hk : kd = 0 ∨ kd = 1 ∨ kd = 2) (hn : n < 0 ∨ 64 < n) : StepPost B w p q k F kd a b n now (raw F E) ver (.returned (.bool true)) w' := by
  have h' := h.kept hb
  have := h.el; have := h.ll; have := h.v
  exact ⟨g, L, now, E, ver, rfl, ⟨h'.x, h'.y, h'.can, h'.ok, h'.fr, h'.F, h'.now, by omega, by omega, by omega, h'.bp, h'.bg⟩, .inl ⟨hk, hn, rfl, rfl, rfl⟩, hb.mono h.size⟩

end

end Go.Proofs.Ytbnpeicmbbgboaa
