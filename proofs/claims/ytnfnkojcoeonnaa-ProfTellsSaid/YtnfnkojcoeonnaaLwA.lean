/-
  Own walks: one call of both.
-/
import Derived.Test.YtnfnkojcoeonnaaPlF
namespace Go.Proofs.Ytnfnkojcoeonnaa
open Go.RowKit Go.Sort Go.Lib

/-- A profile and the document's, behind k calls. -/
structure XS (B : Nat) (w : World) (p g q k : Nat) (L : List (Int × Int)) (now F : Int) (E : List Sp) (ver : Int) : Prop where
  x : PW w p g L ver
  y : QW B w q F now E ver
  can : Can L now (raw F E)
  ok : ∀ s ∈ E, SpOk s
  fr : ∀ t, now ≤ t → 0 ≤ raw F E t ∧ raw F E t ≤ 64
  F : 0 ≤ F ∧ F ≤ 64
  now : 0 ≤ now ∧ now ≤ 1099511627776
  el : E.length ≤ k
  ll : L.length ≤ 2 * k + 1
  v : 0 ≤ ver ∧ ver ≤ k
  bp : B ≤ p
  bg : B ≤ g

section
variable {B : Nat} {w w' w0 : World} {p g q k : Nat} {L : List (Int × Int)} {now F : Int} {E : List Sp} {ver : Int}

theorem XS.kept (h : XS B w p g q k L now F E ver) (hb : Below w.heap.size w w') : XS B w' p g q k L now F E ver :=
  ⟨h.x.kept hb, h.y.kept hb, h.can, h.ok, h.fr, h.F, h.now, h.el, h.ll, h.v, h.bp, h.bg⟩
theorem XS.size (h : XS B w p g q k L now F E ver) : B ≤ w.heap.size := by
  obtain ⟨cap, Z⟩ := h.x.facts
  have := Z.pl; have := h.bp; omega
theorem AddPost.ext {f : Int → Int} {a b n : Int} {e : Ending} (h : AddPost w p g L ver now f a b n e w0) (hb : Below w0.heap.size w0 w') : AddPost w p g L ver now f a b n e w' := by
  obtain ⟨r, dv, f', g', L', h1, h2, h3, h4, h5, h6, h7⟩ := h
  exact ⟨r, dv, f', g', L', h1, h2, h3.kept hb, h4, h5, h6.then_below hb, h7⟩
theorem AdvPost.ext {f : Int → Int} {t : Int} {e : Ending} (h : AdvPost w p g L ver now f t e w0) (hb : Below w0.heap.size w0 w') : AdvPost w p g L ver now f t e w' := by
  obtain ⟨r, dv, now', L', h1, h2, h3, h4, h5, h6⟩ := h
  exact ⟨r, dv, now', L', h1, h2, h3.kept hb, h4, h5.then_below hb, h6⟩
theorem AdvPost.ahead {f : Int → Int} {t : Int} {e : Ending} (h : AdvPost w p g L ver now f t e w') (hb : Below w0.heap.size w0 w) : AdvPost w0 p g L ver now f t e w' := by
  obtain ⟨r, dv, now', L', h1, h2, h3, h4, h5, h6⟩ := h
  exact ⟨r, dv, now', L', h1, h2, h3, h4, (Off.of_below hb).trans h5 (.inl rfl), h6⟩

/-- Behind an addition to both they are alike, and told the same. -/
theorem XS.added {a b n : Int} {r : Value} {e : Ending} {w2 : World} (h : XS B w p g q k L now F E ver) (h1 : AddPost w p g L ver now (raw F E) a b n (.returned r) w') (h2 : PAddPost B w' q F now E ver a b n e w2) :
    ∃ (r1 dv : Int) (g' : Nat) (L' : List (Int × Int)) (E' : List Sp), r = .int .i64 r1 ∧ e = .returned (.int .i64 r1) ∧ XS B w2 p g' q (k + 1) L' now F E' (ver + dv) ∧ AddR (raw F E) now a b n r1 (raw F E') dv ∧ Below B w w2 := by
  obtain ⟨r1, dv, f', g', L', hr, hR, hP, hC, hg, hO, hl⟩ := h1
  obtain ⟨r2, dv2, E', he, hR2, hQ, hE', hel, hT, hB⟩ := h2
  injection hr with hr
  obtain ⟨e1, e2, e3⟩ := hR.uniq hR2 (fun _ _ => rfl)
  subst e1; subst e2
  have hdv : 0 ≤ dv ∧ dv ≤ 1 := by
    rcases hR with ⟨_, _, _, h⟩ | ⟨_, _, _, _, h⟩ | ⟨_, _, _, _, _, h⟩ | ⟨_, _, _, _, _, h⟩ <;> omega
  have hv := h.v
  have hll := h.ll
  have hell := h.el
  refine ⟨r1, dv, g', L', E', hr, he, ⟨hT.pw hP, hQ, hC.congr e3, hE', hR2.range h.fr (fun t ht => h.can.sm.late t ht), h.F, h.now, by omega, by omega, by omega, h.bp, ?_⟩, hR2, (hO.below h.bp h.bg h.size).trans hB⟩
  have := h.bg
  have := h.size
  omega
theorem XS.advanced {t : Int} {r : Value} {e : Ending} {w2 : World} (h : XS B w p g q k L now F E ver) (h1 : AdvPost w p g L ver now (raw F E) t (.returned r) w') (h2 : PAdvPost B w' q F now E ver t e w2) :
    ∃ (r1 dv : Int) (g' : Nat) (L' : List (Int × Int)) (now' : Int), r = .int .i64 r1 ∧ e = .returned (.int .i64 r1) ∧ XS B w2 p g' q (k + 1) L' now' F E (ver + dv) ∧ AdvR now t r1 now' dv ∧ Below B w w2 := by
  obtain ⟨r1, dv, now', L', hr, hR, hP, hC, hO, hl⟩ := h1
  obtain ⟨r2, dv2, now2, he, hR2, hQ, hT, hB⟩ := h2
  injection hr with hr
  obtain ⟨e1, e2, e3⟩ := hR.uniq hR2
  subst e1; subst e2; subst e3
  have hv := h.v
  have hll := h.ll
  have hell := h.el
  have hnow := h.now
  have hdv : 0 ≤ dv ∧ dv ≤ 1 ∧ now ≤ now' ∧ now' ≤ 1099511627776 := by unfold AdvR at hR; omega
  exact ⟨r1, dv, g, L', now', hr, he, ⟨hT.pw hP, hQ, hC, h.ok, fun t ht => h.fr t (by omega), h.F, by omega, by omega, by omega, by omega, h.bp, h.bg⟩, hR, (hO.below h.bp h.bg h.size).trans hB⟩

section
variable {f : Int → Int}
theorem Adv_any (t : Int) (hC : Can L now f) (h : PW w p g L ver) (hm : now ≤ 1099511627776) (hver : 0 ≤ ver ∧ ver ≤ 1000000) (hl : L.length ≤ 1000) :
    Calls Try.prog 22 #[.pointer (some ⟨p, 0, none⟩), .int .i64 t] w (AdvPost w p g L ver now f t) := by
  by_cases hbad : t < now ∨ 1099511627776 < t
  · exact Adv_bad t hC h hbad
  · by_cases he : t = now
    · subst he
      exact Adv_same hC h hm
    · exact Adv_on t hC h hver hl (by omega) (by omega)
end

/-- A call's block. -/
def OpAt (w : World) (o : Nat) (kd a b n : Int) : Prop := w.heap[o]? = some (.cells #[.int .i64 kd, .int .i64 a, .int .i64 b, .int .i64 n] 34 (0, 0))
theorem OpAt.kept {o : Nat} {kd a b n : Int} (h : OpAt w o kd a b n) (hb : Below w.heap.size w w') : OpAt w' o kd a b n := by
  unfold OpAt
  rw [hb.block o (lt_of_heap h)]
  exact h
theorem OpAt.off {o : Nat} {kd a b n : Int} (h : OpAt w o kd a b n) (hp : PW w p g L ver) (ho : Off p g w w') : OpAt w' o kd a b n := by
  obtain ⟨cap, Z⟩ := hp.facts
  obtain ⟨cur, hg, _⟩ := own_heap Z.own
  unfold OpAt
  rw [ho.block o (lt_of_heap h) (apart_types h Z.obj (by decide)) (apart_types h hg (by decide))]
  exact h
theorem OpAt.cells {o : Nat} {kd a b n : Int} (h : OpAt w o kd a b n) : w.cell? ⟨o, 0, none⟩ = some (.int .i64 kd) ∧ w.cell? ⟨o, 1, none⟩ = some (.int .i64 a) ∧ w.cell? ⟨o, 2, none⟩ = some (.int .i64 b) ∧ w.cell? ⟨o, 3, none⟩ = some (.int .i64 n) := by
  have h : w.heap[o]? = _ := h
  exact ⟨by simp [World.cell?, h], by simp [World.cell?, h], by simp [World.cell?, h], by simp [World.cell?, h]⟩

/-- The states of a statement that calls both. -/
def SAdd (w : World) (p g : Nat) (L : List (Int × Int)) (ver now : Int) (f : Int → Int) (a b n : Int) : List Value → World → Prop
  | [], W => Below w.heap.size w W
  | v :: _, W => AddPost w p g L ver now f a b n (.returned v) W
theorem SAdd.ext {f : Int → Int} {a b n : Int} : ∀ (vs : List Value) (W W' : World), Reg.Ext W W' → SAdd w p g L ver now f a b n vs W → SAdd w p g L ver now f a b n vs W' := by
  intro vs W W' he h
  cases vs with
  | nil => exact Below.trans h (he.mono (Below.size h))
  | cons v vs => exact AddPost.ext h he
def SAdv (w : World) (p g : Nat) (L : List (Int × Int)) (ver now : Int) (f : Int → Int) (t : Int) : List Value → World → Prop
  | [], W => Below w.heap.size w W
  | v :: _, W => AdvPost w p g L ver now f t (.returned v) W
theorem SAdv.ext {f : Int → Int} {t : Int} : ∀ (vs : List Value) (W W' : World), Reg.Ext W W' → SAdv w p g L ver now f t vs W → SAdv w p g L ver now f t vs W' := by
  intro vs W W' he h
  cases vs with
  | nil => exact Below.trans h (he.mono (Below.size h))
  | cons v vs => exact AdvPost.ext h he
theorem AddPost.offs {f : Int → Int} {a b n : Int} {e : Ending} (h : AddPost w p g L ver now f a b n e w0) : Off p g w w0 := by
  obtain ⟨r, dv, f', g', L', h1, h2, h3, h4, h5, h6, h7⟩ := h
  exact h6
theorem AdvPost.offs {f : Int → Int} {t : Int} {e : Ending} (h : AdvPost w p g L ver now f t e w0) : Off p g w w0 := by
  obtain ⟨r, dv, now', L', h1, h2, h3, h4, h5, h6⟩ := h
  exact h5

/-- What a call makes. -/
def CallR (kd a b n now : Int) (f : Int → Int) (ver now' : Int) (f' : Int → Int) (ver' : Int) : Prop :=
  ((kd = 0 ∨ kd = 1 ∨ kd = 2) ∧ (n < 0 ∨ 64 < n) ∧ now' = now ∧ f' = f ∧ ver' = ver) ∨
  ((kd = 0 ∨ kd = 1) ∧ (0 ≤ n ∧ n ≤ 64) ∧ now' = now ∧ ∃ r dv, AddR f now a b (-n) r f' dv ∧ ver' = ver + dv) ∨
  (kd = 2 ∧ (0 ≤ n ∧ n ≤ 64) ∧ now' = now ∧ ∃ r dv, AddR f now a b n r f' dv ∧ ver' = ver + dv) ∨
  (kd = 3 ∧ now' = now ∧ ∃ r dv, AddR f now a b n r f' dv ∧ ver' = ver + dv) ∨
  ((kd ≠ 0 ∧ kd ≠ 1 ∧ kd ≠ 2 ∧ kd ≠ 3) ∧ f' = f ∧ ∃ r dv, AdvR now a r now' dv ∧ ver' = ver + dv)
theorem CallR.uniq {kd a b n now ver now1 ver1 now2 ver2 : Int} {f f1 f2 : Int → Int} (h : CallR kd a b n now f ver now1 f1 ver1) (h' : CallR kd a b n now f ver now2 f2 ver2) : now1 = now2 ∧ ver1 = ver2 ∧ ∀ t, now ≤ t → f1 t = f2 t := by
  rcases h with ⟨k1, c1, rfl, rfl, rfl⟩ | ⟨k1, c1, rfl, r1, d1, hR, rfl⟩ | ⟨k1, c1, rfl, r1, d1, hR, rfl⟩ | ⟨k1, rfl, r1, d1, hR, rfl⟩ | ⟨k1, rfl, r1, d1, hR, rfl⟩ <;>
    rcases h' with ⟨k2, c2, rfl, rfl, rfl⟩ | ⟨k2, c2, rfl, r2, d2, hR2, rfl⟩ | ⟨k2, c2, rfl, r2, d2, hR2, rfl⟩ | ⟨k2, rfl, r2, d2, hR2, rfl⟩ | ⟨k2, rfl, r2, d2, hR2, rfl⟩ <;>
    first
    | exact ⟨rfl, rfl, fun _ _ => rfl⟩
    | (exfalso; omega)
    | (obtain ⟨_, e2, e3⟩ := AddR.uniq hR hR2 (fun _ _ => rfl); subst e2; exact ⟨rfl, rfl, e3⟩)
    | (obtain ⟨_, e2, e3⟩ := AdvR.uniq hR hR2; subst e2; subst e3; exact ⟨rfl, rfl, fun _ _ => rfl⟩)
theorem AddR.total (f : Int → Int) (now a b n : Int) : ∃ r f' dv, AddR f now a b n r f' dv := by
  by_cases h1 : b ≤ a ∨ 1152921504606846976 < b ∨ n < -64 ∨ 64 < n
  · exact ⟨_, _, _, .inl ⟨h1, rfl, rfl, rfl⟩⟩
  · by_cases h2 : b ≤ max a now ∨ n = 0
    · exact ⟨_, _, _, .inr (.inl ⟨h1, h2, rfl, rfl, rfl⟩)⟩
    · by_cases h3 : ∃ t, max a now ≤ t ∧ t < b ∧ (f t + n < 0 ∨ 64 < f t + n)
      · exact ⟨_, _, _, .inr (.inr (.inl ⟨h1, h2, h3, rfl, rfl, rfl⟩))⟩
      · exact ⟨_, _, _, .inr (.inr (.inr ⟨h1, h2, fun t h4 h5 => by
          rcases Int.lt_or_le (f t + n) 0 with h6 | h6
          · exact absurd ⟨t, h4, h5, .inl h6⟩ h3
          · rcases Int.lt_or_le 64 (f t + n) with h7 | h7
            · exact absurd ⟨t, h4, h5, .inr h7⟩ h3
            · exact ⟨h6, h7⟩, rfl, rfl, rfl⟩))⟩
theorem CallR.total (kd a b n now : Int) (f : Int → Int) (ver : Int) : ∃ now' f' ver', CallR kd a b n now f ver now' f' ver' := by
  obtain ⟨r1, f1, d1, h1⟩ := AddR.total f now a b (-n)
  obtain ⟨r2, f2, d2, h2⟩ := AddR.total f now a b n
  by_cases k0 : kd = 0 ∨ kd = 1 ∨ kd = 2
  · by_cases hn : n < 0 ∨ 64 < n
    · exact ⟨_, _, _, .inl ⟨k0, hn, rfl, rfl, rfl⟩⟩
    · by_cases k2 : kd = 2
      · exact ⟨_, _, _, .inr (.inr (.inl ⟨k2, by omega, rfl, r2, d2, h2, rfl⟩))⟩
      · exact ⟨_, _, _, .inr (.inl ⟨by omega, by omega, rfl, r1, d1, h1, rfl⟩)⟩
  · by_cases k3 : kd = 3
    · exact ⟨_, _, _, .inr (.inr (.inr (.inl ⟨k3, rfl, r2, d2, h2, rfl⟩)))⟩
    · have hA : ∃ r now' dv, AdvR now a r now' dv := by
        by_cases h4 : a < now ∨ 1099511627776 < a
        · exact ⟨_, _, _, .inl ⟨h4, rfl, rfl, rfl⟩⟩
        · by_cases h5 : a = now
          · exact ⟨_, _, _, .inr (.inl ⟨h4, h5, rfl, rfl, rfl⟩)⟩
          · exact ⟨_, _, _, .inr (.inr ⟨h4, h5, rfl, rfl, rfl⟩)⟩
      obtain ⟨r3, n3, d3, h3⟩ := hA
      exact ⟨_, _, _, .inr (.inr (.inr (.inr ⟨by omega, rfl, r3, d3, h3, rfl⟩)))⟩

/-- What one call of both makes. -/
def StepPost (B : Nat) (w : World) (p q k : Nat) (F : Int) (kd a b n now : Int) (f : Int → Int) (ver : Int) (e : Ending) (w' : World) : Prop :=
  ∃ (g' : Nat) (L' : List (Int × Int)) (now' : Int) (E' : List Sp) (ver' : Int), e = .returned (.bool true) ∧ XS B w' p g' q (k + 1) L' now' F E' ver' ∧ CallR kd a b n now f ver now' (raw F E') ver' ∧ Below B w w'
theorem StepPost.same {kd a b n : Int} (h : XS B w p g q k L now F E ver) (hb : Below w.heap.size w w') (hk : kd = 0 ∨ kd = 1 ∨ kd = 2) (hn : n < 0 ∨ 64 < n) : StepPost B w p q k F kd a b n now (raw F E) ver (.returned (.bool true)) w' := by
  have h' := h.kept hb
  have := h.el; have := h.ll; have := h.v
  exact ⟨g, L, now, E, ver, rfl, ⟨h'.x, h'.y, h'.can, h'.ok, h'.fr, h'.F, h'.now, by omega, by omega, by omega, h'.bp, h'.bg⟩, .inl ⟨hk, hn, rfl, rfl, rfl⟩, hb.mono h.size⟩

set_option maxRecDepth 100000 in
set_option maxHeartbeats 4000000 in
theorem step_res0 (a b n : Int) (hn : 0 ≤ n ∧ n ≤ 64) (hk : k < 30) (h : XS B w p g q k L now F E ver) :
    Calls Try.prog 9 #[.pointer (some ⟨p, 0, none⟩), .pointer (some ⟨q, 0, none⟩), .agg #[.int .i64 0, .int .i64 a, .int .i64 b, .int .i64 n]] w (StepPost B w p q k F 0 a b n now (raw F E) ver) := by
  have hmix := mixed
  have hb1 : Below w.heap.size w (w.alloc (.cells #[.int .i64 0, .int .i64 a, .int .i64 b, .int .i64 n] 34)) := (Below.refl _ _).alloc (Nat.le_refl _) _
  have ho1 : OpAt (w.alloc (.cells #[.int .i64 0, .int .i64 a, .int .i64 b, .int .i64 n] 34)) w.heap.size 0 a b n := heap_alloc_new w _
  have h1 := h.kept hb1
  have e0 : ((0 : Int) == 0) = true := rfl
  have n1 : ¬ (n < 0) := by omega
  have n2 : ¬ (64 < n) := by omega
  have hng : IntKind.i64.wrap (-n) = -n := IntWalk.i64_in _ (by omega)
  obtain ⟨w1, hw1⟩ : ∃ w1, w1 = w.alloc (.cells #[.int .i64 0, .int .i64 a, .int .i64 b, .int .i64 n] 34) := ⟨_, rfl⟩
  have h1sz := h.size
  have hll := h.ll
  have hvv := h.v
  go_enter Try.func9, Try.ntmps9
  go_wp2_with fail
  rw [← hw1] at hb1 ho1 h1 ⊢
  clear h hw1
  refine Reg.region_mk 17 95 [[], [false], [false, true], [false, false, false], [false, false, false, true], [false, false, false, false, false], [false, false, false, false, false, true], [false, true, true, true, true, true, true], [true, true, true, true, true, true, true, true], [false, false, false, false, false, false, false, false, false], [false, false, false, false, false, false, false, false, false, false], [false, false, false, false, false, false, false, false, false, false, true], [false, false, false, false, false, false, false, false, false, false, false, false], [false, false, false, false, false, false, false, false, false, false, false, false, true], [false, false, false, false, false, false, false, false, false, false, false, false, false, false], [false, false, false, false, false, false, false, false, false, false, false, false, false, false, true], [false, false, false, false, false, false, false, false, false, false, false, false, false, false, true, true]] [0, 0, 1, 0, 1, 0, 1, 0, 3, 0, 0, 1, 0, 1, 0, 1, 0]
    [.pure, .pure, .minor Unit () (fun _ => .int .i64 a) (fun _ _ => True), .pure, .minor Unit () (fun _ => .int .i64 b) (fun _ _ => True), .pure, .minor Unit () (fun _ => .int .i64 n) (fun _ _ => True), .pure, .major Int 0 (fun r => .int .i64 r), .pure, .pure, .minor Unit () (fun _ => .int .i64 a) (fun _ _ => True), .pure, .minor Unit () (fun _ => .int .i64 b) (fun _ _ => True), .pure, .minor Unit () (fun _ => .int .i64 n) (fun _ _ => True), .pure]
    (fun W => OpAt W w.heap.size 0 a b n) (SAdd w1 p g L ver now (raw F E) a b (-n)) (fun W W' => Off p g W W' ∧ PW W p g L ver) (by kernel_rfl) (by kernel_rfl) rfl rfl SAdd.ext ?_ ?_ ?_ ?_ ?_ ?_
  · intro x y he hb; exact OpAt.kept hb he
  · intro x y hg hb; exact OpAt.off hb hg.2 hg.1
  · refine ⟨trivial, trivial, ⟨?_, ?_⟩, trivial, ⟨?_, ?_⟩, trivial, ⟨?_, ?_⟩, trivial, trivial, trivial, trivial, ⟨?_, ?_⟩, trivial, ⟨?_, ?_⟩, trivial, ⟨?_, ?_⟩, trivial, trivial⟩
    all_goals (intro x y z hk hx; exact trivial)
  · exact ho1
  · exact (Below.refl _ _).drew
  dsimp only [Reg.mk, List.zip, List.zipWith, List.take]
  repeat (refine' Reg.pass_is _ (by rfl) (fun wz => ?_) ?_; rotate_left; (go_simp; first | rfl | rw [if_neg (by omega)]); simp only [Act.put, List.setIfInBounds_toArray, List.set_cons_zero, List.set_cons_succ]; (try simp only [List.nil_append]); (try simp only [List.cons_append]))
  refine Reg.pass_minor (by rfl) (fun wz hI hF => ?_) (fun x2 => ?_)
  · unfold Reg.One
    obtain ⟨r0, r1, r2, r3⟩ := OpAt.cells (show OpAt wz w.heap.size 0 a b n from hI)
    go_wp2_with fail
    exact ⟨_, rfl, ⟨(), rfl, trivial⟩, Reg.Ext.refl _⟩
  simp only [Act.put, List.setIfInBounds_toArray, List.set_cons_zero, List.set_cons_succ]; (try simp only [List.nil_append]); (try simp only [List.cons_append]); (try simp only [id])
  repeat (refine' Reg.pass_is _ (by rfl) (fun wz => ?_) ?_; rotate_left; (go_simp; first | rfl | rw [if_neg (by omega)]); simp only [Act.put, List.setIfInBounds_toArray, List.set_cons_zero, List.set_cons_succ]; (try simp only [List.nil_append]); (try simp only [List.cons_append]))
  refine Reg.pass_minor (by rfl) (fun wz hI hF => ?_) (fun x4 => ?_)
  · unfold Reg.One
    obtain ⟨r0, r1, r2, r3⟩ := OpAt.cells (show OpAt wz w.heap.size 0 a b n from hI)
    go_wp2_with fail
    exact ⟨_, rfl, ⟨(), rfl, trivial⟩, Reg.Ext.refl _⟩
  simp only [Act.put, List.setIfInBounds_toArray, List.set_cons_zero, List.set_cons_succ]; (try simp only [List.nil_append]); (try simp only [List.cons_append]); (try simp only [id])
  repeat (refine' Reg.pass_is _ (by rfl) (fun wz => ?_) ?_; rotate_left; (go_simp; first | rfl | rw [if_neg (by omega)]); simp only [Act.put, List.setIfInBounds_toArray, List.set_cons_zero, List.set_cons_succ]; (try simp only [List.nil_append]); (try simp only [List.cons_append]))
  refine Reg.pass_minor (by rfl) (fun wz hI hF => ?_) (fun x6 => ?_)
  · unfold Reg.One
    obtain ⟨r0, r1, r2, r3⟩ := OpAt.cells (show OpAt wz w.heap.size 0 a b n from hI)
    go_wp2_with fail
    exact ⟨_, rfl, ⟨(), rfl, trivial⟩, Reg.Ext.refl _⟩
  simp only [Act.put, List.setIfInBounds_toArray, List.set_cons_zero, List.set_cons_succ]; (try simp only [List.nil_append]); (try simp only [List.cons_append]); (try simp only [id])
  repeat (refine' Reg.pass_is _ (by rfl) (fun wz => ?_) ?_; rotate_left; (go_simp; first | rfl | rw [if_neg (by omega)]); simp only [Act.put, List.setIfInBounds_toArray, List.set_cons_zero, List.set_cons_succ]; (try simp only [List.nil_append]); (try simp only [List.cons_append]))
  refine Reg.pass_major (by rfl) (fun wz hI hS hF => ?_) (fun x8 => ?_)
  · unfold Reg.One
    have hS1 : Below w1.heap.size w1 wz := hS
    have hx := h1.x.kept hS1
    go_wp2_with (go_at_call 25; go_must (refine (Reserve_any a b n hn h1.can h1.now.1 h1.fr (by omega) (by omega) hx).mono ?_); rintro e w5 ⟨r5, dv5, f5, g5, L5, rfl, hrest⟩)
    exact ⟨_, rfl, ⟨⟨r5, rfl⟩, AddPost.ahead (w := wz) ⟨r5, dv5, f5, g5, L5, rfl, hrest⟩ hS1⟩, ⟨hrest.2.2.2.2.1, hx⟩⟩
  simp only [Act.put, List.setIfInBounds_toArray, List.set_cons_zero, List.set_cons_succ]; (try simp only [List.nil_append]); (try simp only [List.cons_append]); (try simp only [id])
  repeat (refine' Reg.pass_is _ (by rfl) (fun wz => ?_) ?_; rotate_left; (go_simp; first | rfl | rw [if_neg (by omega)]); simp only [Act.put, List.setIfInBounds_toArray, List.set_cons_zero, List.set_cons_succ]; (try simp only [List.nil_append]); (try simp only [List.cons_append]))
  refine Reg.pass_minor (by rfl) (fun wz hI hF => ?_) (fun x11 => ?_)
  · unfold Reg.One
    obtain ⟨r0, r1, r2, r3⟩ := OpAt.cells (show OpAt wz w.heap.size 0 a b n from hI)
    go_wp2_with fail
    exact ⟨_, rfl, ⟨(), rfl, trivial⟩, Reg.Ext.refl _⟩
  simp only [Act.put, List.setIfInBounds_toArray, List.set_cons_zero, List.set_cons_succ]; (try simp only [List.nil_append]); (try simp only [List.cons_append]); (try simp only [id])
  repeat (refine' Reg.pass_is _ (by rfl) (fun wz => ?_) ?_; rotate_left; (go_simp; first | rfl | rw [if_neg (by omega)]); simp only [Act.put, List.setIfInBounds_toArray, List.set_cons_zero, List.set_cons_succ]; (try simp only [List.nil_append]); (try simp only [List.cons_append]))
  refine Reg.pass_minor (by rfl) (fun wz hI hF => ?_) (fun x13 => ?_)
  · unfold Reg.One
    obtain ⟨r0, r1, r2, r3⟩ := OpAt.cells (show OpAt wz w.heap.size 0 a b n from hI)
    go_wp2_with fail
    exact ⟨_, rfl, ⟨(), rfl, trivial⟩, Reg.Ext.refl _⟩
  simp only [Act.put, List.setIfInBounds_toArray, List.set_cons_zero, List.set_cons_succ]; (try simp only [List.nil_append]); (try simp only [List.cons_append]); (try simp only [id])
  repeat (refine' Reg.pass_is _ (by rfl) (fun wz => ?_) ?_; rotate_left; (go_simp; first | rfl | rw [if_neg (by omega)]); simp only [Act.put, List.setIfInBounds_toArray, List.set_cons_zero, List.set_cons_succ]; (try simp only [List.nil_append]); (try simp only [List.cons_append]))
  refine Reg.pass_minor (by rfl) (fun wz hI hF => ?_) (fun x15 => ?_)
  · unfold Reg.One
    obtain ⟨r0, r1, r2, r3⟩ := OpAt.cells (show OpAt wz w.heap.size 0 a b n from hI)
    go_wp2_with fail
    exact ⟨_, rfl, ⟨(), rfl, trivial⟩, Reg.Ext.refl _⟩
  simp only [Act.put, List.setIfInBounds_toArray, List.set_cons_zero, List.set_cons_succ]; (try simp only [List.nil_append]); (try simp only [List.cons_append]); (try simp only [id])
  repeat (refine' Reg.pass_is _ (by rfl) (fun wz => ?_) ?_; rotate_left; (go_simp; first | rfl | rw [if_neg (by omega)]); simp only [Act.put, List.setIfInBounds_toArray, List.set_cons_zero, List.set_cons_succ]; (try simp only [List.nil_append]); (try simp only [List.cons_append]))
  refine Reg.pass_end ?_
  intro w3 HI3 HS3 _
  have hS : AddPost w1 p g L ver now (raw F E) a b (-n) (.returned (.int .i64 x8)) w3 := HS3
  have hQ3 := h1.y.off h1.x hS.offs
  have hpl := PAdd_any a b (-n) hQ3 h1.ok (by have := h1.el; omega) h1.F h1.now (by omega)
  clear HI3 HS3
  dsimp only [List.drop]
  go_wp2_with fail
  go_at_call 27
  refine hpl.mono ?_
  clear hpl
  intro e w6 hp6
  obtain ⟨r1, dv1, g', L', E', hr, rfl, hX, hRR, hB⟩ := h1.added hS hp6
  injection hr with _ hr
  subst hr
  have hfin : Hid (StepPost B w p q k F 0 a b n now (raw F E) ver (.returned (.bool true)) w6) := ⟨g', L', now, E', ver + dv1, rfl, hX, .inr (.inl ⟨.inl rfl, hn, rfl, _, _, hRR, rfl⟩), (hb1.mono h1sz).trans hB⟩
  clear hX hRR hB hp6 hS hQ3 h1 hb1 ho1
  go_wp2_with fail
  go_ret
  exact hfin.out

set_option maxRecDepth 100000 in
set_option maxHeartbeats 4000000 in
theorem step_res1 (a b n : Int) (hn : 0 ≤ n ∧ n ≤ 64) (hk : k < 30) (h : XS B w p g q k L now F E ver) :
    Calls Try.prog 9 #[.pointer (some ⟨p, 0, none⟩), .pointer (some ⟨q, 0, none⟩), .agg #[.int .i64 1, .int .i64 a, .int .i64 b, .int .i64 n]] w (StepPost B w p q k F 1 a b n now (raw F E) ver) := by
  have hmix := mixed
  have hb1 : Below w.heap.size w (w.alloc (.cells #[.int .i64 1, .int .i64 a, .int .i64 b, .int .i64 n] 34)) := (Below.refl _ _).alloc (Nat.le_refl _) _
  have ho1 : OpAt (w.alloc (.cells #[.int .i64 1, .int .i64 a, .int .i64 b, .int .i64 n] 34)) w.heap.size 1 a b n := heap_alloc_new w _
  have h1 := h.kept hb1
  have e0 : ((1 : Int) == 0) = false := rfl
  have e1 : ((1 : Int) == 1) = true := rfl
  have n1 : ¬ (n < 0) := by omega
  have n2 : ¬ (64 < n) := by omega
  have hng : IntKind.i64.wrap (-n) = -n := IntWalk.i64_in _ (by omega)
  obtain ⟨w1, hw1⟩ : ∃ w1, w1 = w.alloc (.cells #[.int .i64 1, .int .i64 a, .int .i64 b, .int .i64 n] 34) := ⟨_, rfl⟩
  have h1sz := h.size
  have hll := h.ll
  have hvv := h.v
  go_enter Try.func9, Try.ntmps9
  go_wp2_with fail
  rw [← hw1] at hb1 ho1 h1 ⊢
  clear h hw1
  refine Reg.region_mk 17 95 [[], [false], [false, true], [false, false, false], [false, false, false, true], [false, false, false, false, false], [false, false, false, false, false, true], [false, true, true, true, true, true, true], [true, true, true, true, true, true, true, true], [false, false, false, false, false, false, false, false, false], [false, false, false, false, false, false, false, false, false, false], [false, false, false, false, false, false, false, false, false, false, true], [false, false, false, false, false, false, false, false, false, false, false, false], [false, false, false, false, false, false, false, false, false, false, false, false, true], [false, false, false, false, false, false, false, false, false, false, false, false, false, false], [false, false, false, false, false, false, false, false, false, false, false, false, false, false, true], [false, false, false, false, false, false, false, false, false, false, false, false, false, false, true, true]] [0, 0, 1, 0, 1, 0, 1, 0, 3, 0, 0, 1, 0, 1, 0, 1, 0]
    [.pure, .pure, .minor Unit () (fun _ => .int .i64 a) (fun _ _ => True), .pure, .minor Unit () (fun _ => .int .i64 b) (fun _ _ => True), .pure, .minor Unit () (fun _ => .int .i64 n) (fun _ _ => True), .pure, .major Int 0 (fun r => .int .i64 r), .pure, .pure, .minor Unit () (fun _ => .int .i64 a) (fun _ _ => True), .pure, .minor Unit () (fun _ => .int .i64 b) (fun _ _ => True), .pure, .minor Unit () (fun _ => .int .i64 n) (fun _ _ => True), .pure]
    (fun W => OpAt W w.heap.size 1 a b n) (SAdd w1 p g L ver now (raw F E) a b (-n)) (fun W W' => Off p g W W' ∧ PW W p g L ver) (by kernel_rfl) (by kernel_rfl) rfl rfl SAdd.ext ?_ ?_ ?_ ?_ ?_ ?_
  · intro x y he hb; exact OpAt.kept hb he
  · intro x y hg hb; exact OpAt.off hb hg.2 hg.1
  · refine ⟨trivial, trivial, ⟨?_, ?_⟩, trivial, ⟨?_, ?_⟩, trivial, ⟨?_, ?_⟩, trivial, trivial, trivial, trivial, ⟨?_, ?_⟩, trivial, ⟨?_, ?_⟩, trivial, ⟨?_, ?_⟩, trivial, trivial⟩
    all_goals (intro x y z hk hx; exact trivial)
  · exact ho1
  · exact (Below.refl _ _).drew
  dsimp only [Reg.mk, List.zip, List.zipWith, List.take]
  repeat (refine' Reg.pass_is _ (by rfl) (fun wz => ?_) ?_; rotate_left; (go_simp; first | rfl | rw [if_neg (by omega)]); simp only [Act.put, List.setIfInBounds_toArray, List.set_cons_zero, List.set_cons_succ]; (try simp only [List.nil_append]); (try simp only [List.cons_append]))
  refine Reg.pass_minor (by rfl) (fun wz hI hF => ?_) (fun x2 => ?_)
  · unfold Reg.One
    obtain ⟨r0, r1, r2, r3⟩ := OpAt.cells (show OpAt wz w.heap.size 1 a b n from hI)
    go_wp2_with fail
    exact ⟨_, rfl, ⟨(), rfl, trivial⟩, Reg.Ext.refl _⟩
  simp only [Act.put, List.setIfInBounds_toArray, List.set_cons_zero, List.set_cons_succ]; (try simp only [List.nil_append]); (try simp only [List.cons_append]); (try simp only [id])
  repeat (refine' Reg.pass_is _ (by rfl) (fun wz => ?_) ?_; rotate_left; (go_simp; first | rfl | rw [if_neg (by omega)]); simp only [Act.put, List.setIfInBounds_toArray, List.set_cons_zero, List.set_cons_succ]; (try simp only [List.nil_append]); (try simp only [List.cons_append]))
  refine Reg.pass_minor (by rfl) (fun wz hI hF => ?_) (fun x4 => ?_)
  · unfold Reg.One
    obtain ⟨r0, r1, r2, r3⟩ := OpAt.cells (show OpAt wz w.heap.size 1 a b n from hI)
    go_wp2_with fail
    exact ⟨_, rfl, ⟨(), rfl, trivial⟩, Reg.Ext.refl _⟩
  simp only [Act.put, List.setIfInBounds_toArray, List.set_cons_zero, List.set_cons_succ]; (try simp only [List.nil_append]); (try simp only [List.cons_append]); (try simp only [id])
  repeat (refine' Reg.pass_is _ (by rfl) (fun wz => ?_) ?_; rotate_left; (go_simp; first | rfl | rw [if_neg (by omega)]); simp only [Act.put, List.setIfInBounds_toArray, List.set_cons_zero, List.set_cons_succ]; (try simp only [List.nil_append]); (try simp only [List.cons_append]))
  refine Reg.pass_minor (by rfl) (fun wz hI hF => ?_) (fun x6 => ?_)
  · unfold Reg.One
    obtain ⟨r0, r1, r2, r3⟩ := OpAt.cells (show OpAt wz w.heap.size 1 a b n from hI)
    go_wp2_with fail
    exact ⟨_, rfl, ⟨(), rfl, trivial⟩, Reg.Ext.refl _⟩
  simp only [Act.put, List.setIfInBounds_toArray, List.set_cons_zero, List.set_cons_succ]; (try simp only [List.nil_append]); (try simp only [List.cons_append]); (try simp only [id])
  repeat (refine' Reg.pass_is _ (by rfl) (fun wz => ?_) ?_; rotate_left; (go_simp; first | rfl | rw [if_neg (by omega)]); simp only [Act.put, List.setIfInBounds_toArray, List.set_cons_zero, List.set_cons_succ]; (try simp only [List.nil_append]); (try simp only [List.cons_append]))
  refine Reg.pass_major (by rfl) (fun wz hI hS hF => ?_) (fun x8 => ?_)
  · unfold Reg.One
    have hS1 : Below w1.heap.size w1 wz := hS
    have hx := h1.x.kept hS1
    go_wp2_with (go_at_call 25; go_must (refine (Reserve_any a b n hn h1.can h1.now.1 h1.fr (by omega) (by omega) hx).mono ?_); rintro e w5 ⟨r5, dv5, f5, g5, L5, rfl, hrest⟩)
    exact ⟨_, rfl, ⟨⟨r5, rfl⟩, AddPost.ahead (w := wz) ⟨r5, dv5, f5, g5, L5, rfl, hrest⟩ hS1⟩, ⟨hrest.2.2.2.2.1, hx⟩⟩
  simp only [Act.put, List.setIfInBounds_toArray, List.set_cons_zero, List.set_cons_succ]; (try simp only [List.nil_append]); (try simp only [List.cons_append]); (try simp only [id])
  repeat (refine' Reg.pass_is _ (by rfl) (fun wz => ?_) ?_; rotate_left; (go_simp; first | rfl | rw [if_neg (by omega)]); simp only [Act.put, List.setIfInBounds_toArray, List.set_cons_zero, List.set_cons_succ]; (try simp only [List.nil_append]); (try simp only [List.cons_append]))
  refine Reg.pass_minor (by rfl) (fun wz hI hF => ?_) (fun x11 => ?_)
  · unfold Reg.One
    obtain ⟨r0, r1, r2, r3⟩ := OpAt.cells (show OpAt wz w.heap.size 1 a b n from hI)
    go_wp2_with fail
    exact ⟨_, rfl, ⟨(), rfl, trivial⟩, Reg.Ext.refl _⟩
  simp only [Act.put, List.setIfInBounds_toArray, List.set_cons_zero, List.set_cons_succ]; (try simp only [List.nil_append]); (try simp only [List.cons_append]); (try simp only [id])
  repeat (refine' Reg.pass_is _ (by rfl) (fun wz => ?_) ?_; rotate_left; (go_simp; first | rfl | rw [if_neg (by omega)]); simp only [Act.put, List.setIfInBounds_toArray, List.set_cons_zero, List.set_cons_succ]; (try simp only [List.nil_append]); (try simp only [List.cons_append]))
  refine Reg.pass_minor (by rfl) (fun wz hI hF => ?_) (fun x13 => ?_)
  · unfold Reg.One
    obtain ⟨r0, r1, r2, r3⟩ := OpAt.cells (show OpAt wz w.heap.size 1 a b n from hI)
    go_wp2_with fail
    exact ⟨_, rfl, ⟨(), rfl, trivial⟩, Reg.Ext.refl _⟩
  simp only [Act.put, List.setIfInBounds_toArray, List.set_cons_zero, List.set_cons_succ]; (try simp only [List.nil_append]); (try simp only [List.cons_append]); (try simp only [id])
  repeat (refine' Reg.pass_is _ (by rfl) (fun wz => ?_) ?_; rotate_left; (go_simp; first | rfl | rw [if_neg (by omega)]); simp only [Act.put, List.setIfInBounds_toArray, List.set_cons_zero, List.set_cons_succ]; (try simp only [List.nil_append]); (try simp only [List.cons_append]))
  refine Reg.pass_minor (by rfl) (fun wz hI hF => ?_) (fun x15 => ?_)
  · unfold Reg.One
    obtain ⟨r0, r1, r2, r3⟩ := OpAt.cells (show OpAt wz w.heap.size 1 a b n from hI)
    go_wp2_with fail
    exact ⟨_, rfl, ⟨(), rfl, trivial⟩, Reg.Ext.refl _⟩
  simp only [Act.put, List.setIfInBounds_toArray, List.set_cons_zero, List.set_cons_succ]; (try simp only [List.nil_append]); (try simp only [List.cons_append]); (try simp only [id])
  repeat (refine' Reg.pass_is _ (by rfl) (fun wz => ?_) ?_; rotate_left; (go_simp; first | rfl | rw [if_neg (by omega)]); simp only [Act.put, List.setIfInBounds_toArray, List.set_cons_zero, List.set_cons_succ]; (try simp only [List.nil_append]); (try simp only [List.cons_append]))
  refine Reg.pass_end ?_
  intro w3 HI3 HS3 _
  have hS : AddPost w1 p g L ver now (raw F E) a b (-n) (.returned (.int .i64 x8)) w3 := HS3
  have hQ3 := h1.y.off h1.x hS.offs
  have hpl := PAdd_any a b (-n) hQ3 h1.ok (by have := h1.el; omega) h1.F h1.now (by omega)
  clear HI3 HS3
  dsimp only [List.drop]
  go_wp2_with fail
  go_at_call 27
  refine hpl.mono ?_
  clear hpl
  intro e w6 hp6
  obtain ⟨r1, dv1, g', L', E', hr, rfl, hX, hRR, hB⟩ := h1.added hS hp6
  injection hr with _ hr
  subst hr
  have hfin : Hid (StepPost B w p q k F 1 a b n now (raw F E) ver (.returned (.bool true)) w6) := ⟨g', L', now, E', ver + dv1, rfl, hX, .inr (.inl ⟨.inr rfl, hn, rfl, _, _, hRR, rfl⟩), (hb1.mono h1sz).trans hB⟩
  clear hX hRR hB hp6 hS hQ3 h1 hb1 ho1
  go_wp2_with fail
  go_ret
  exact hfin.out

set_option maxRecDepth 100000 in
set_option maxHeartbeats 4000000 in
theorem step_rel (a b n : Int) (hn : 0 ≤ n ∧ n ≤ 64) (hk : k < 30) (h : XS B w p g q k L now F E ver) :
    Calls Try.prog 9 #[.pointer (some ⟨p, 0, none⟩), .pointer (some ⟨q, 0, none⟩), .agg #[.int .i64 2, .int .i64 a, .int .i64 b, .int .i64 n]] w (StepPost B w p q k F 2 a b n now (raw F E) ver) := by
  have hmix := mixed
  have hb1 : Below w.heap.size w (w.alloc (.cells #[.int .i64 2, .int .i64 a, .int .i64 b, .int .i64 n] 34)) := (Below.refl _ _).alloc (Nat.le_refl _) _
  have ho1 : OpAt (w.alloc (.cells #[.int .i64 2, .int .i64 a, .int .i64 b, .int .i64 n] 34)) w.heap.size 2 a b n := heap_alloc_new w _
  have h1 := h.kept hb1
  have e0 : ((2 : Int) == 0) = false := rfl
  have e1 : ((2 : Int) == 1) = false := rfl
  have e2 : ((2 : Int) == 2) = true := rfl
  have n1 : ¬ (n < 0) := by omega
  have n2 : ¬ (64 < n) := by omega
  have hng : IntKind.i64.wrap (-n) = -n := IntWalk.i64_in _ (by omega)
  obtain ⟨w1, hw1⟩ : ∃ w1, w1 = w.alloc (.cells #[.int .i64 2, .int .i64 a, .int .i64 b, .int .i64 n] 34) := ⟨_, rfl⟩
  have h1sz := h.size
  have hll := h.ll
  have hvv := h.v
  go_enter Try.func9, Try.ntmps9
  go_wp2_with fail
  rw [← hw1] at hb1 ho1 h1 ⊢
  clear h hw1
  refine Reg.region_mk 16 95 [[], [false], [false, true], [false, false, false], [false, false, false, true], [false, false, false, false, false], [false, false, false, false, false, true], [false, true, true, true, true, true, true], [true, true, true, true, true, true, true, true], [false, false, false, false, false, false, false, false, false], [false, false, false, false, false, false, false, false, false, false], [false, false, false, false, false, false, false, false, false, false, true], [false, false, false, false, false, false, false, false, false, false, false, false], [false, false, false, false, false, false, false, false, false, false, false, false, true], [false, false, false, false, false, false, false, false, false, false, false, false, false, false], [false, false, false, false, false, false, false, false, false, false, false, false, false, false, true]] [0, 0, 1, 0, 1, 0, 1, 0, 3, 0, 0, 1, 0, 1, 0, 1]
    [.pure, .pure, .minor Unit () (fun _ => .int .i64 a) (fun _ _ => True), .pure, .minor Unit () (fun _ => .int .i64 b) (fun _ _ => True), .pure, .minor Unit () (fun _ => .int .i64 n) (fun _ _ => True), .pure, .major Int 0 (fun r => .int .i64 r), .pure, .pure, .minor Unit () (fun _ => .int .i64 a) (fun _ _ => True), .pure, .minor Unit () (fun _ => .int .i64 b) (fun _ _ => True), .pure, .minor Unit () (fun _ => .int .i64 n) (fun _ _ => True)]
    (fun W => OpAt W w.heap.size 2 a b n) (SAdd w1 p g L ver now (raw F E) a b (n)) (fun W W' => Off p g W W' ∧ PW W p g L ver) (by kernel_rfl) (by kernel_rfl) rfl rfl SAdd.ext ?_ ?_ ?_ ?_ ?_ ?_
  · intro x y he hb; exact OpAt.kept hb he
  · intro x y hg hb; exact OpAt.off hb hg.2 hg.1
  · refine ⟨trivial, trivial, ⟨?_, ?_⟩, trivial, ⟨?_, ?_⟩, trivial, ⟨?_, ?_⟩, trivial, trivial, trivial, trivial, ⟨?_, ?_⟩, trivial, ⟨?_, ?_⟩, trivial, ⟨?_, ?_⟩, trivial⟩
    all_goals (intro x y z hk hx; exact trivial)
  · exact ho1
  · exact (Below.refl _ _).drew
  dsimp only [Reg.mk, List.zip, List.zipWith, List.take]
  repeat (refine' Reg.pass_is _ (by rfl) (fun wz => ?_) ?_; rotate_left; (go_simp; first | rfl | rw [if_neg (by omega)]); simp only [Act.put, List.setIfInBounds_toArray, List.set_cons_zero, List.set_cons_succ]; (try simp only [List.nil_append]); (try simp only [List.cons_append]))
  refine Reg.pass_minor (by rfl) (fun wz hI hF => ?_) (fun x2 => ?_)
  · unfold Reg.One
    obtain ⟨r0, r1, r2, r3⟩ := OpAt.cells (show OpAt wz w.heap.size 2 a b n from hI)
    go_wp2_with fail
    exact ⟨_, rfl, ⟨(), rfl, trivial⟩, Reg.Ext.refl _⟩
  simp only [Act.put, List.setIfInBounds_toArray, List.set_cons_zero, List.set_cons_succ]; (try simp only [List.nil_append]); (try simp only [List.cons_append]); (try simp only [id])
  repeat (refine' Reg.pass_is _ (by rfl) (fun wz => ?_) ?_; rotate_left; (go_simp; first | rfl | rw [if_neg (by omega)]); simp only [Act.put, List.setIfInBounds_toArray, List.set_cons_zero, List.set_cons_succ]; (try simp only [List.nil_append]); (try simp only [List.cons_append]))
  refine Reg.pass_minor (by rfl) (fun wz hI hF => ?_) (fun x4 => ?_)
  · unfold Reg.One
    obtain ⟨r0, r1, r2, r3⟩ := OpAt.cells (show OpAt wz w.heap.size 2 a b n from hI)
    go_wp2_with fail
    exact ⟨_, rfl, ⟨(), rfl, trivial⟩, Reg.Ext.refl _⟩
  simp only [Act.put, List.setIfInBounds_toArray, List.set_cons_zero, List.set_cons_succ]; (try simp only [List.nil_append]); (try simp only [List.cons_append]); (try simp only [id])
  repeat (refine' Reg.pass_is _ (by rfl) (fun wz => ?_) ?_; rotate_left; (go_simp; first | rfl | rw [if_neg (by omega)]); simp only [Act.put, List.setIfInBounds_toArray, List.set_cons_zero, List.set_cons_succ]; (try simp only [List.nil_append]); (try simp only [List.cons_append]))
  refine Reg.pass_minor (by rfl) (fun wz hI hF => ?_) (fun x6 => ?_)
  · unfold Reg.One
    obtain ⟨r0, r1, r2, r3⟩ := OpAt.cells (show OpAt wz w.heap.size 2 a b n from hI)
    go_wp2_with fail
    exact ⟨_, rfl, ⟨(), rfl, trivial⟩, Reg.Ext.refl _⟩
  simp only [Act.put, List.setIfInBounds_toArray, List.set_cons_zero, List.set_cons_succ]; (try simp only [List.nil_append]); (try simp only [List.cons_append]); (try simp only [id])
  repeat (refine' Reg.pass_is _ (by rfl) (fun wz => ?_) ?_; rotate_left; (go_simp; first | rfl | rw [if_neg (by omega)]); simp only [Act.put, List.setIfInBounds_toArray, List.set_cons_zero, List.set_cons_succ]; (try simp only [List.nil_append]); (try simp only [List.cons_append]))
  refine Reg.pass_major (by rfl) (fun wz hI hS hF => ?_) (fun x8 => ?_)
  · unfold Reg.One
    have hS1 : Below w1.heap.size w1 wz := hS
    have hx := h1.x.kept hS1
    go_wp2_with (go_at_call 26; go_must (refine (Release_any a b n hn h1.can h1.now.1 h1.fr (by omega) (by omega) hx).mono ?_); rintro e w5 ⟨r5, dv5, f5, g5, L5, rfl, hrest⟩)
    exact ⟨_, rfl, ⟨⟨r5, rfl⟩, AddPost.ahead (w := wz) ⟨r5, dv5, f5, g5, L5, rfl, hrest⟩ hS1⟩, ⟨hrest.2.2.2.2.1, hx⟩⟩
  simp only [Act.put, List.setIfInBounds_toArray, List.set_cons_zero, List.set_cons_succ]; (try simp only [List.nil_append]); (try simp only [List.cons_append]); (try simp only [id])
  repeat (refine' Reg.pass_is _ (by rfl) (fun wz => ?_) ?_; rotate_left; (go_simp; first | rfl | rw [if_neg (by omega)]); simp only [Act.put, List.setIfInBounds_toArray, List.set_cons_zero, List.set_cons_succ]; (try simp only [List.nil_append]); (try simp only [List.cons_append]))
  refine Reg.pass_minor (by rfl) (fun wz hI hF => ?_) (fun x11 => ?_)
  · unfold Reg.One
    obtain ⟨r0, r1, r2, r3⟩ := OpAt.cells (show OpAt wz w.heap.size 2 a b n from hI)
    go_wp2_with fail
    exact ⟨_, rfl, ⟨(), rfl, trivial⟩, Reg.Ext.refl _⟩
  simp only [Act.put, List.setIfInBounds_toArray, List.set_cons_zero, List.set_cons_succ]; (try simp only [List.nil_append]); (try simp only [List.cons_append]); (try simp only [id])
  repeat (refine' Reg.pass_is _ (by rfl) (fun wz => ?_) ?_; rotate_left; (go_simp; first | rfl | rw [if_neg (by omega)]); simp only [Act.put, List.setIfInBounds_toArray, List.set_cons_zero, List.set_cons_succ]; (try simp only [List.nil_append]); (try simp only [List.cons_append]))
  refine Reg.pass_minor (by rfl) (fun wz hI hF => ?_) (fun x13 => ?_)
  · unfold Reg.One
    obtain ⟨r0, r1, r2, r3⟩ := OpAt.cells (show OpAt wz w.heap.size 2 a b n from hI)
    go_wp2_with fail
    exact ⟨_, rfl, ⟨(), rfl, trivial⟩, Reg.Ext.refl _⟩
  simp only [Act.put, List.setIfInBounds_toArray, List.set_cons_zero, List.set_cons_succ]; (try simp only [List.nil_append]); (try simp only [List.cons_append]); (try simp only [id])
  repeat (refine' Reg.pass_is _ (by rfl) (fun wz => ?_) ?_; rotate_left; (go_simp; first | rfl | rw [if_neg (by omega)]); simp only [Act.put, List.setIfInBounds_toArray, List.set_cons_zero, List.set_cons_succ]; (try simp only [List.nil_append]); (try simp only [List.cons_append]))
  refine Reg.pass_minor (by rfl) (fun wz hI hF => ?_) (fun x15 => ?_)
  · unfold Reg.One
    obtain ⟨r0, r1, r2, r3⟩ := OpAt.cells (show OpAt wz w.heap.size 2 a b n from hI)
    go_wp2_with fail
    exact ⟨_, rfl, ⟨(), rfl, trivial⟩, Reg.Ext.refl _⟩
  simp only [Act.put, List.setIfInBounds_toArray, List.set_cons_zero, List.set_cons_succ]; (try simp only [List.nil_append]); (try simp only [List.cons_append]); (try simp only [id])
  refine Reg.pass_end ?_
  intro w3 HI3 HS3 _
  have hS : AddPost w1 p g L ver now (raw F E) a b (n) (.returned (.int .i64 x8)) w3 := HS3
  have hQ3 := h1.y.off h1.x hS.offs
  have hpl := PAdd_any a b (n) hQ3 h1.ok (by have := h1.el; omega) h1.F h1.now (by omega)
  clear HI3 HS3
  dsimp only [List.drop]
  go_wp2_with fail
  go_at_call 27
  refine hpl.mono ?_
  clear hpl
  intro e w6 hp6
  obtain ⟨r1, dv1, g', L', E', hr, rfl, hX, hRR, hB⟩ := h1.added hS hp6
  injection hr with _ hr
  subst hr
  have hfin : Hid (StepPost B w p q k F 2 a b n now (raw F E) ver (.returned (.bool true)) w6) := ⟨g', L', now, E', ver + dv1, rfl, hX, .inr (.inr (.inl ⟨rfl, hn, rfl, _, _, hRR, rfl⟩)), (hb1.mono h1sz).trans hB⟩
  clear hX hRR hB hp6 hS hQ3 h1 hb1 ho1
  go_wp2_with fail
  go_ret
  exact hfin.out

set_option maxRecDepth 100000 in
set_option maxHeartbeats 4000000 in
theorem step_add (a b n : Int) (hk : k < 30) (h : XS B w p g q k L now F E ver) :
    Calls Try.prog 9 #[.pointer (some ⟨p, 0, none⟩), .pointer (some ⟨q, 0, none⟩), .agg #[.int .i64 3, .int .i64 a, .int .i64 b, .int .i64 n]] w (StepPost B w p q k F 3 a b n now (raw F E) ver) := by
  have hmix := mixed
  have hb1 : Below w.heap.size w (w.alloc (.cells #[.int .i64 3, .int .i64 a, .int .i64 b, .int .i64 n] 34)) := (Below.refl _ _).alloc (Nat.le_refl _) _
  have ho1 : OpAt (w.alloc (.cells #[.int .i64 3, .int .i64 a, .int .i64 b, .int .i64 n] 34)) w.heap.size 3 a b n := heap_alloc_new w _
  have h1 := h.kept hb1
  have e0 : ((3 : Int) == 0) = false := rfl
  have e1 : ((3 : Int) == 1) = false := rfl
  have e2 : ((3 : Int) == 2) = false := rfl
  have e3 : ((3 : Int) == 3) = true := rfl
  obtain ⟨w1, hw1⟩ : ∃ w1, w1 = w.alloc (.cells #[.int .i64 3, .int .i64 a, .int .i64 b, .int .i64 n] 34) := ⟨_, rfl⟩
  have h1sz := h.size
  have hll := h.ll
  have hvv := h.v
  go_enter Try.func9, Try.ntmps9
  go_wp2_with fail
  rw [← hw1] at hb1 ho1 h1 ⊢
  clear h hw1
  refine Reg.region_mk 15 95 [[], [false], [false, true], [false, false, false], [false, false, false, true], [false, false, false, false, false], [false, false, false, false, false, true], [true, true, true, true, true, true, true], [false, false, false, false, false, false, false, false], [false, false, false, false, false, false, false, false, false], [false, false, false, false, false, false, false, false, false, true], [false, false, false, false, false, false, false, false, false, false, false], [false, false, false, false, false, false, false, false, false, false, false, true], [false, false, false, false, false, false, false, false, false, false, false, false, false], [false, false, false, false, false, false, false, false, false, false, false, false, false, true]] [0, 0, 1, 0, 1, 0, 1, 3, 0, 0, 1, 0, 1, 0, 1]
    [.pure, .pure, .minor Unit () (fun _ => .int .i64 a) (fun _ _ => True), .pure, .minor Unit () (fun _ => .int .i64 b) (fun _ _ => True), .pure, .minor Unit () (fun _ => .int .i64 n) (fun _ _ => True), .major Int 0 (fun r => .int .i64 r), .pure, .pure, .minor Unit () (fun _ => .int .i64 a) (fun _ _ => True), .pure, .minor Unit () (fun _ => .int .i64 b) (fun _ _ => True), .pure, .minor Unit () (fun _ => .int .i64 n) (fun _ _ => True)]
    (fun W => OpAt W w.heap.size 3 a b n) (SAdd w1 p g L ver now (raw F E) a b (n)) (fun W W' => Off p g W W' ∧ PW W p g L ver) (by kernel_rfl) (by kernel_rfl) rfl rfl SAdd.ext ?_ ?_ ?_ ?_ ?_ ?_
  · intro x y he hb; exact OpAt.kept hb he
  · intro x y hg hb; exact OpAt.off hb hg.2 hg.1
  · refine ⟨trivial, trivial, ⟨?_, ?_⟩, trivial, ⟨?_, ?_⟩, trivial, ⟨?_, ?_⟩, trivial, trivial, trivial, ⟨?_, ?_⟩, trivial, ⟨?_, ?_⟩, trivial, ⟨?_, ?_⟩, trivial⟩
    all_goals (intro x y z hk hx; exact trivial)
  · exact ho1
  · exact (Below.refl _ _).drew
  dsimp only [Reg.mk, List.zip, List.zipWith, List.take]
  repeat (refine' Reg.pass_is _ (by rfl) (fun wz => ?_) ?_; rotate_left; (go_simp; first | rfl | rw [if_neg (by omega)]); simp only [Act.put, List.setIfInBounds_toArray, List.set_cons_zero, List.set_cons_succ]; (try simp only [List.nil_append]); (try simp only [List.cons_append]))
  refine Reg.pass_minor (by rfl) (fun wz hI hF => ?_) (fun x2 => ?_)
  · unfold Reg.One
    obtain ⟨r0, r1, r2, r3⟩ := OpAt.cells (show OpAt wz w.heap.size 3 a b n from hI)
    go_wp2_with fail
    exact ⟨_, rfl, ⟨(), rfl, trivial⟩, Reg.Ext.refl _⟩
  simp only [Act.put, List.setIfInBounds_toArray, List.set_cons_zero, List.set_cons_succ]; (try simp only [List.nil_append]); (try simp only [List.cons_append]); (try simp only [id])
  repeat (refine' Reg.pass_is _ (by rfl) (fun wz => ?_) ?_; rotate_left; (go_simp; first | rfl | rw [if_neg (by omega)]); simp only [Act.put, List.setIfInBounds_toArray, List.set_cons_zero, List.set_cons_succ]; (try simp only [List.nil_append]); (try simp only [List.cons_append]))
  refine Reg.pass_minor (by rfl) (fun wz hI hF => ?_) (fun x4 => ?_)
  · unfold Reg.One
    obtain ⟨r0, r1, r2, r3⟩ := OpAt.cells (show OpAt wz w.heap.size 3 a b n from hI)
    go_wp2_with fail
    exact ⟨_, rfl, ⟨(), rfl, trivial⟩, Reg.Ext.refl _⟩
  simp only [Act.put, List.setIfInBounds_toArray, List.set_cons_zero, List.set_cons_succ]; (try simp only [List.nil_append]); (try simp only [List.cons_append]); (try simp only [id])
  repeat (refine' Reg.pass_is _ (by rfl) (fun wz => ?_) ?_; rotate_left; (go_simp; first | rfl | rw [if_neg (by omega)]); simp only [Act.put, List.setIfInBounds_toArray, List.set_cons_zero, List.set_cons_succ]; (try simp only [List.nil_append]); (try simp only [List.cons_append]))
  refine Reg.pass_minor (by rfl) (fun wz hI hF => ?_) (fun x6 => ?_)
  · unfold Reg.One
    obtain ⟨r0, r1, r2, r3⟩ := OpAt.cells (show OpAt wz w.heap.size 3 a b n from hI)
    go_wp2_with fail
    exact ⟨_, rfl, ⟨(), rfl, trivial⟩, Reg.Ext.refl _⟩
  simp only [Act.put, List.setIfInBounds_toArray, List.set_cons_zero, List.set_cons_succ]; (try simp only [List.nil_append]); (try simp only [List.cons_append]); (try simp only [id])
  refine Reg.pass_major (by rfl) (fun wz hI hS hF => ?_) (fun x7 => ?_)
  · unfold Reg.One
    have hS1 : Below w1.heap.size w1 wz := hS
    have hx := h1.x.kept hS1
    go_wp2_with (go_at_call 21; go_must (refine (Add_any a b n h1.can h1.now.1 h1.fr (by omega) (by omega) hx).mono ?_); rintro e w5 ⟨r5, dv5, f5, g5, L5, rfl, hrest⟩)
    exact ⟨_, rfl, ⟨⟨r5, rfl⟩, AddPost.ahead (w := wz) ⟨r5, dv5, f5, g5, L5, rfl, hrest⟩ hS1⟩, ⟨hrest.2.2.2.2.1, hx⟩⟩
  simp only [Act.put, List.setIfInBounds_toArray, List.set_cons_zero, List.set_cons_succ]; (try simp only [List.nil_append]); (try simp only [List.cons_append]); (try simp only [id])
  repeat (refine' Reg.pass_is _ (by rfl) (fun wz => ?_) ?_; rotate_left; (go_simp; first | rfl | rw [if_neg (by omega)]); simp only [Act.put, List.setIfInBounds_toArray, List.set_cons_zero, List.set_cons_succ]; (try simp only [List.nil_append]); (try simp only [List.cons_append]))
  refine Reg.pass_minor (by rfl) (fun wz hI hF => ?_) (fun x10 => ?_)
  · unfold Reg.One
    obtain ⟨r0, r1, r2, r3⟩ := OpAt.cells (show OpAt wz w.heap.size 3 a b n from hI)
    go_wp2_with fail
    exact ⟨_, rfl, ⟨(), rfl, trivial⟩, Reg.Ext.refl _⟩
  simp only [Act.put, List.setIfInBounds_toArray, List.set_cons_zero, List.set_cons_succ]; (try simp only [List.nil_append]); (try simp only [List.cons_append]); (try simp only [id])
  repeat (refine' Reg.pass_is _ (by rfl) (fun wz => ?_) ?_; rotate_left; (go_simp; first | rfl | rw [if_neg (by omega)]); simp only [Act.put, List.setIfInBounds_toArray, List.set_cons_zero, List.set_cons_succ]; (try simp only [List.nil_append]); (try simp only [List.cons_append]))
  refine Reg.pass_minor (by rfl) (fun wz hI hF => ?_) (fun x12 => ?_)
  · unfold Reg.One
    obtain ⟨r0, r1, r2, r3⟩ := OpAt.cells (show OpAt wz w.heap.size 3 a b n from hI)
    go_wp2_with fail
    exact ⟨_, rfl, ⟨(), rfl, trivial⟩, Reg.Ext.refl _⟩
  simp only [Act.put, List.setIfInBounds_toArray, List.set_cons_zero, List.set_cons_succ]; (try simp only [List.nil_append]); (try simp only [List.cons_append]); (try simp only [id])
  repeat (refine' Reg.pass_is _ (by rfl) (fun wz => ?_) ?_; rotate_left; (go_simp; first | rfl | rw [if_neg (by omega)]); simp only [Act.put, List.setIfInBounds_toArray, List.set_cons_zero, List.set_cons_succ]; (try simp only [List.nil_append]); (try simp only [List.cons_append]))
  refine Reg.pass_minor (by rfl) (fun wz hI hF => ?_) (fun x14 => ?_)
  · unfold Reg.One
    obtain ⟨r0, r1, r2, r3⟩ := OpAt.cells (show OpAt wz w.heap.size 3 a b n from hI)
    go_wp2_with fail
    exact ⟨_, rfl, ⟨(), rfl, trivial⟩, Reg.Ext.refl _⟩
  simp only [Act.put, List.setIfInBounds_toArray, List.set_cons_zero, List.set_cons_succ]; (try simp only [List.nil_append]); (try simp only [List.cons_append]); (try simp only [id])
  refine Reg.pass_end ?_
  intro w3 HI3 HS3 _
  have hS : AddPost w1 p g L ver now (raw F E) a b (n) (.returned (.int .i64 x7)) w3 := HS3
  have hQ3 := h1.y.off h1.x hS.offs
  have hpl := PAdd_any a b (n) hQ3 h1.ok (by have := h1.el; omega) h1.F h1.now (by omega)
  clear HI3 HS3
  dsimp only [List.drop]
  go_wp2_with fail
  go_at_call 27
  refine hpl.mono ?_
  clear hpl
  intro e w6 hp6
  obtain ⟨r1, dv1, g', L', E', hr, rfl, hX, hRR, hB⟩ := h1.added hS hp6
  injection hr with _ hr
  subst hr
  have hfin : Hid (StepPost B w p q k F 3 a b n now (raw F E) ver (.returned (.bool true)) w6) := ⟨g', L', now, E', ver + dv1, rfl, hX, .inr (.inr (.inr (.inl ⟨rfl, rfl, _, _, hRR, rfl⟩))), (hb1.mono h1sz).trans hB⟩
  clear hX hRR hB hp6 hS hQ3 h1 hb1 ho1
  go_wp2_with fail
  go_ret
  exact hfin.out

set_option maxRecDepth 100000 in
set_option maxHeartbeats 4000000 in
theorem step_adv (kd a b n : Int) (h0 : kd ≠ 0 ∧ kd ≠ 1 ∧ kd ≠ 2 ∧ kd ≠ 3) (hk : k < 30) (h : XS B w p g q k L now F E ver) :
    Calls Try.prog 9 #[.pointer (some ⟨p, 0, none⟩), .pointer (some ⟨q, 0, none⟩), .agg #[.int .i64 kd, .int .i64 a, .int .i64 b, .int .i64 n]] w (StepPost B w p q k F kd a b n now (raw F E) ver) := by
  have hmix := mixed
  have hb1 : Below w.heap.size w (w.alloc (.cells #[.int .i64 kd, .int .i64 a, .int .i64 b, .int .i64 n] 34)) := (Below.refl _ _).alloc (Nat.le_refl _) _
  have ho1 : OpAt (w.alloc (.cells #[.int .i64 kd, .int .i64 a, .int .i64 b, .int .i64 n] 34)) w.heap.size kd a b n := heap_alloc_new w _
  have h1 := h.kept hb1
  have e0 : (kd == 0) = false := beq_eq_false_iff_ne.2 (by omega)
  have e1 : (kd == 1) = false := beq_eq_false_iff_ne.2 (by omega)
  have e2 : (kd == 2) = false := beq_eq_false_iff_ne.2 (by omega)
  have e3 : (kd == 3) = false := beq_eq_false_iff_ne.2 (by omega)
  have h0' := Lib.hid h0
  clear h0
  obtain ⟨w1, hw1⟩ : ∃ w1, w1 = w.alloc (.cells #[.int .i64 kd, .int .i64 a, .int .i64 b, .int .i64 n] 34) := ⟨_, rfl⟩
  have h1sz := h.size
  have hll := h.ll
  have hvv := h.v
  go_enter Try.func9, Try.ntmps9
  go_wp2_with fail
  rw [← hw1] at hb1 ho1 h1 ⊢
  clear h hw1
  refine Reg.region_mk 7 95 [[], [false], [false, true], [true, true, true], [false, false, false, false], [false, false, false, false, false], [false, false, false, false, false, true]] [0, 0, 1, 3, 0, 0, 1]
    [.pure, .pure, .minor Unit () (fun _ => .int .i64 a) (fun _ _ => True), .major Int 0 (fun r => .int .i64 r), .pure, .pure, .minor Unit () (fun _ => .int .i64 a) (fun _ _ => True)]
    (fun W => OpAt W w.heap.size kd a b n) (SAdv w1 p g L ver now (raw F E) a) (fun W W' => Off p g W W' ∧ PW W p g L ver) (by kernel_rfl) (by kernel_rfl) rfl rfl SAdv.ext ?_ ?_ ?_ ?_ ?_ ?_
  · intro x y he hb; exact OpAt.kept hb he
  · intro x y hg hb; exact OpAt.off hb hg.2 hg.1
  · refine ⟨trivial, trivial, ⟨?_, ?_⟩, trivial, trivial, trivial, ⟨?_, ?_⟩, trivial⟩
    all_goals (intro x y z hk hx; exact trivial)
  · exact ho1
  · exact (Below.refl _ _).drew
  dsimp only [Reg.mk, List.zip, List.zipWith, List.take]
  repeat (refine' Reg.pass_is _ (by rfl) (fun wz => ?_) ?_; rotate_left; (go_simp; first | rfl | rw [if_neg (by omega)]); simp only [Act.put, List.setIfInBounds_toArray, List.set_cons_zero, List.set_cons_succ]; (try simp only [List.nil_append]); (try simp only [List.cons_append]))
  refine Reg.pass_minor (by rfl) (fun wz hI hF => ?_) (fun x2 => ?_)
  · unfold Reg.One
    obtain ⟨r0, r1, r2, r3⟩ := OpAt.cells (show OpAt wz w.heap.size kd a b n from hI)
    go_wp2_with fail
    exact ⟨_, rfl, ⟨(), rfl, trivial⟩, Reg.Ext.refl _⟩
  simp only [Act.put, List.setIfInBounds_toArray, List.set_cons_zero, List.set_cons_succ]; (try simp only [List.nil_append]); (try simp only [List.cons_append]); (try simp only [id])
  refine Reg.pass_major (by rfl) (fun wz hI hS hF => ?_) (fun x3 => ?_)
  · unfold Reg.One
    have hS1 : Below w1.heap.size w1 wz := hS
    have hx := h1.x.kept hS1
    go_wp2_with (go_at_call 22; go_must (refine (Adv_any a h1.can hx h1.now.2 (by omega) (by omega)).mono ?_); rintro e w5 ⟨r5, dv5, f5, L5, rfl, hrest⟩)
    exact ⟨_, rfl, ⟨⟨r5, rfl⟩, AdvPost.ahead (w := wz) ⟨r5, dv5, f5, L5, rfl, hrest⟩ hS1⟩, ⟨hrest.2.2.2.1, hx⟩⟩
  simp only [Act.put, List.setIfInBounds_toArray, List.set_cons_zero, List.set_cons_succ]; (try simp only [List.nil_append]); (try simp only [List.cons_append]); (try simp only [id])
  repeat (refine' Reg.pass_is _ (by rfl) (fun wz => ?_) ?_; rotate_left; (go_simp; first | rfl | rw [if_neg (by omega)]); simp only [Act.put, List.setIfInBounds_toArray, List.set_cons_zero, List.set_cons_succ]; (try simp only [List.nil_append]); (try simp only [List.cons_append]))
  refine Reg.pass_minor (by rfl) (fun wz hI hF => ?_) (fun x6 => ?_)
  · unfold Reg.One
    obtain ⟨r0, r1, r2, r3⟩ := OpAt.cells (show OpAt wz w.heap.size kd a b n from hI)
    go_wp2_with fail
    exact ⟨_, rfl, ⟨(), rfl, trivial⟩, Reg.Ext.refl _⟩
  simp only [Act.put, List.setIfInBounds_toArray, List.set_cons_zero, List.set_cons_succ]; (try simp only [List.nil_append]); (try simp only [List.cons_append]); (try simp only [id])
  refine Reg.pass_end ?_
  intro w3 HI3 HS3 _
  have hS : AdvPost w1 p g L ver now (raw F E) a (.returned (.int .i64 x3)) w3 := HS3
  have hQ3 := h1.y.off h1.x hS.offs
  have hpl := PAdv_any a hQ3 (by omega)
  clear HI3 HS3
  dsimp only [List.drop]
  go_wp2_with fail
  go_at_call 28
  refine hpl.mono ?_
  clear hpl
  intro e w6 hp6
  obtain ⟨r1, dv1, g', L', now', hr, rfl, hX, hRR, hB⟩ := h1.advanced hS hp6
  injection hr with _ hr
  subst hr
  have hfin : Hid (StepPost B w p q k F kd a b n now (raw F E) ver (.returned (.bool true)) w6) := ⟨g', L', now', E, ver + dv1, rfl, hX, .inr (.inr (.inr (.inr ⟨h0'.out, rfl, _, _, hRR, rfl⟩))), (hb1.mono h1sz).trans hB⟩
  clear hX hRR hB hp6 hS hQ3 h1 hb1 ho1
  go_wp2_with fail
  go_ret
  exact hfin.out

end

end Go.Proofs.Ytnfnkojcoeonnaa
