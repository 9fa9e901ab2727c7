/-
  Own walks: the document's Add and Advance.
-/
import Derived.Test.YtbnpeicmbbgboaaPlD
namespace Go.Proofs.Ytbnpeicmbbgboaa
set_option maxRecDepth 8000
open Go.RowKit Go.Sort Go.Lib

theorem infoSpan : (Try.prog.info? 63).map (fun i => (i.zero, i.size, i.bytes)) = some (some (.agg #[.int .i64 0, .int .i64 0, .int .i64 0]), 3, 24) := by kernel_rfl

/-- As it was, but for blocks of the document's profile and its spans, and new ones. -/
structure OffT (w w' : World) : Prop where
  os : w'.os = w.os
  tape : w'.tape = w.tape
  output : w'.output = w.output
  size : w.heap.size ≤ w'.heap.size
  block : ∀ k, k < w.heap.size → (∀ c t z, w.heap[k]? = some (.cells c t z) → t ≠ 61 ∧ t ≠ 63) → w'.heap[k]? = w.heap[k]?
section
variable {w w' w'' : World}
theorem OffT.refl (w : World) : OffT w w := ⟨rfl, rfl, rfl, Nat.le_refl _, fun _ _ _ => rfl⟩
theorem OffT.of_below (h : Below w.heap.size w w') : OffT w w' := ⟨h.os, h.tape, h.output, h.size, fun k hk _ => h.block k hk⟩
theorem OffT.trans (h : OffT w w') (h' : OffT w' w'') : OffT w w'' :=
  ⟨h'.os.trans h.os, h'.tape.trans h.tape, h'.output.trans h.output, Nat.le_trans h.size h'.size, fun k hk hc => by
    have e := h.block k hk hc
    rw [h'.block k (Nat.lt_of_lt_of_le hk h.size) (fun c t z hx => hc c t z (by rw [← e]; exact hx)), e]⟩
theorem OffT.setCell {q j : Nat} {c : Array Value} {z : Nat × Nat} {u : Value} (h : OffT w w') (hq : w'.heap[q]? = some (.cells c 61 z)) : OffT w (w'.setCell ⟨q, j, none⟩ u) :=
  ⟨h.os, h.tape, h.output, by simpa using h.size, fun k hk hc => by
    by_cases e : k = q
    · subst e
      rw [h.block k hk hc] at hq
      exact absurd rfl (hc _ _ _ hq).1
    · rw [Below.heap_setCell w' ⟨q, j, none⟩ u k e]; exact h.block k hk hc⟩
theorem own_at {base : Nat} {e : TypeId} {sz n k : Nat} {v : Value} {xs : List Value} (h : w.ownsRow base e sz v n xs) (hk : v.ownBlock = some k) : ∃ cur, w.heap[k]? = some (.cells cur e (0, 0)) := by
  rcases h.2 with ⟨rfl, _⟩ | ⟨g, cap, cur, rfl, _, hg, _⟩
  · simp [Value.ownBlock] at hk
  · have : g = k := by simpa [Value.ownBlock] using hk
    subst this
    exact ⟨cur, hg⟩
theorem OffT.grown {base sz n : Nat} {v : Value} {xs : List Value} (h : OffT w w') (ho : w'.ownsRow base 63 sz v n xs) (hg : w'.grownBy w'' v.ownBlock) : OffT w w'' :=
  ⟨hg.os.trans h.os, hg.tape.trans h.tape, hg.output.trans h.output, Nat.le_trans h.size hg.size, fun k hk hc => by
    have e := h.block k hk hc
    rw [hg.block k (Nat.lt_of_lt_of_le hk h.size) (fun hx => ?_), e]
    obtain ⟨cur, hcur⟩ := own_at ho hx.symm
    rw [e] at hcur
    exact (hc _ _ _ hcur).2 rfl⟩
theorem OffT.own {base : Nat} {e : TypeId} {sz n : Nat} {v : Value} {xs : List Value} (h : OffT w w') (ho : w.ownsRow base e sz v n xs) (h1 : e ≠ 61) (h2 : e ≠ 63) : w'.ownsRow base e sz v n xs :=
  ownsRow_block ho fun k hk => h.block k (ho.lt k hk).2 fun c t z hx => by
    obtain ⟨cur, hcur⟩ := own_at ho hk
    rw [hcur] at hx
    injection hx with hx
    injection hx with _ h3
    subst h3
    exact ⟨h1, h2⟩
theorem OffT.pw {p g : Nat} {L : List (Int × Int)} {ver : Int} (h : OffT w w') (hp : PW w p g L ver) : PW w' p g L ver := by
  obtain ⟨cap, h1, h2⟩ := hp
  refine ⟨cap, ?_, h.own h2 (by decide) (by decide)⟩
  rw [h.block p (pf_lt_of_heap h1) fun c t z hx => ?_]
  · exact h1
  · rw [h1] at hx
    injection hx with hx
    injection hx with _ h3
    subst h3
    exact ⟨by decide, by decide⟩
end

section
variable {B : Nat} {w w' : World} {q : Nat} {F now : Int} {E : List Sp} {ver : Int}

theorem QW.off {p g : Nat} {L : List (Int × Int)} {v2 : Int} (h : QW B w q F now E ver) (hp : PW w p g L v2) (ho : Off p g w w') : QW B w' q F now E ver := by
  obtain ⟨h0, v, h1, h2⟩ := h
  obtain ⟨cap, F⟩ := hp.facts
  obtain ⟨cur, hg, _⟩ := own_heap F.own
  refine ⟨h0, v, ?_, ho.own h2 fun k hk => ?_⟩
  · rw [ho.block q (pf_lt_of_heap h1) (pf_apart_types h1 F.obj (by decide)) (pf_apart_types h1 hg (by decide))]
    exact h1
  · obtain ⟨c2, hc2⟩ := own_at h2 hk
    exact ⟨pf_apart_types hc2 F.obj (by decide), pf_apart_types hc2 hg (by decide)⟩
theorem QW_put {s v' : Value} {E' : List Sp} (hB : B ≤ q) (h1 : w.heap[q]? = some (.cells #[.int .i64 F, .int .i64 now, s, .int .i64 ver] 61 (0, 0))) (h2 : w.ownsRow B 63 3 v' E'.length (spV E')) : QW B (w.setCell ⟨q, 2, none⟩ v') q F now E' ver := by
  have hlt := pf_lt_of_heap h1
  have h1' : w.heap[q] = _ := (Array.getElem?_eq_some_iff.1 h1).2
  refine ⟨hB, v', by simp [World.setCell, hlt, Array.getElem_modify, h1'], own_far h2 (fun k hk => ?_) 2 _⟩
  obtain ⟨cur, hcur⟩ := own_at h2 hk
  exact pf_apart_types hcur h1 (by decide)
theorem QW_ver (v : Int) (h : QW B w q F now E ver) : QW B (w.setCell ⟨q, 3, none⟩ (.int .i64 v)) q F now E v := by
  obtain ⟨h0, s, h1, h2⟩ := h
  have hlt := pf_lt_of_heap h1
  have h1' : w.heap[q] = _ := (Array.getElem?_eq_some_iff.1 h1).2
  refine ⟨h0, s, by simp [World.setCell, hlt, Array.getElem_modify, h1'], own_far h2 (fun k hk => ?_) 3 _⟩
  obtain ⟨cur, hcur⟩ := own_at h2 hk
  exact pf_apart_types hcur h1 (by decide)
theorem QW_now (t : Int) (h : QW B w q F now E ver) : QW B (w.setCell ⟨q, 1, none⟩ (.int .i64 t)) q F t E ver := by
  obtain ⟨h0, s, h1, h2⟩ := h
  have hlt := pf_lt_of_heap h1
  have h1' : w.heap[q] = _ := (Array.getElem?_eq_some_iff.1 h1).2
  refine ⟨h0, s, by simp [World.setCell, hlt, Array.getElem_modify, h1'], own_far h2 (fun k hk => ?_) 1 _⟩
  obtain ⟨cur, hcur⟩ := own_at h2 hk
  exact pf_apart_types hcur h1 (by decide)

/-- What the document's Add makes. -/
def PAddPost (B : Nat) (w : World) (q : Nat) (F now : Int) (E : List Sp) (ver a b n : Int) (e : Ending) (w' : World) : Prop :=
  ∃ (r dv : Int) (E' : List Sp), e = .returned (.int .i64 r) ∧ AddR (raw F E) now a b n r (raw F E') dv ∧ QW B w' q F now E' (ver + dv) ∧ (∀ s ∈ E', SpOk s) ∧ E'.length ≤ E.length + 1 ∧ OffT w w' ∧ Below B w w'
theorem PAddPost.same {a b n r : Int} (h : QW B w q F now E ver) (hE : ∀ s ∈ E, SpOk s) (hR : AddR (raw F E) now a b n r (raw F E) 0) (hb : Below w.heap.size w w') : PAddPost B w q F now E ver a b n (.returned (.int .i64 r)) w' := by
  refine ⟨r, 0, E, rfl, hR, by rw [Int.add_zero]; exact h.kept hb, hE, by omega, OffT.of_below hb, hb.mono ?_⟩
  obtain ⟨ao, cap, Q⟩ := h.facts
  have := Q.bq
  have := Q.ql
  omega

set_option maxHeartbeats 1000000 in
theorem PAdd_arg (a b n : Int) (h : QW B w q F now E ver) (hE : ∀ s ∈ E, SpOk s) (hbad : b ≤ a ∨ 1152921504606846976 < b ∨ n < -64 ∨ 64 < n) :
    Calls Try.prog 23 #[.pointer (some ⟨q, 0, none⟩), .int .i64 a, .int .i64 b, .int .i64 n] w (PAddPost B w q F now E ver a b n) := by
  have hfin : Hid (PAddPost B w q F now E ver a b n (.returned (.int .i64 1)) w) := PAddPost.same h hE (.inl ⟨hbad, rfl, rfl, rfl⟩) (Below.refl _ _)
  by_cases h1 : b ≤ a
  · go_enter Try.func23, Try.ntmps23
    go_wp2_with fail
    go_ret
    exact hfin.out
  · by_cases h2 : 1152921504606846976 < b
    · go_enter Try.func23, Try.ntmps23
      go_wp2_with fail
      go_ret
      exact hfin.out
    · by_cases h3 : n < -64
      · go_enter Try.func23, Try.ntmps23
        go_wp2_with fail
        go_ret
        exact hfin.out
      · have h4 : 64 < n := by omega
        go_enter Try.func23, Try.ntmps23
        go_wp2_with fail
        go_ret
        exact hfin.out

set_option maxHeartbeats 1000000 in
theorem PAdd_none (a b n : Int) (h : QW B w q F now E ver) (hE : ∀ s ∈ E, SpOk s) (hok : ¬ (b ≤ a ∨ 1152921504606846976 < b ∨ n < -64 ∨ 64 < n)) (hz : b ≤ max a now ∨ n = 0) :
    Calls Try.prog 23 #[.pointer (some ⟨q, 0, none⟩), .int .i64 a, .int .i64 b, .int .i64 n] w (PAddPost B w q F now E ver a b n) := by
  have hfin : Hid (PAddPost B w q F now E ver a b n (.returned (.int .i64 0)) w) := PAddPost.same h hE (.inr (.inl ⟨hok, hz, rfl, rfl, rfl⟩)) (Below.refl _ _)
  obtain ⟨ao, cap, Q⟩ := h.facts
  have c1 := Q.c1
  have h1 : ¬ (b ≤ a) := by omega
  have h2 : ¬ (1152921504606846976 < b) := by omega
  have h3 : ¬ (n < -64) := by omega
  have h4 : ¬ (64 < n) := by omega
  clear hok Q h
  by_cases ha : a < now
  · by_cases hb : b ≤ now
    · clear hz
      go_enter Try.func23, Try.ntmps23
      go_wp2_with fail
      go_ret
      exact hfin.out
    · have hn : n = 0 := by omega
      subst hn
      clear hz
      go_enter Try.func23, Try.ntmps23
      go_wp2_with fail
      go_ret
      exact hfin.out
  · have hn : n = 0 := by omega
    subst hn
    clear hz
    go_enter Try.func23, Try.ntmps23
    go_wp2_with fail
    go_ret
    exact hfin.out

set_option maxRecDepth 100000 in
set_option maxHeartbeats 4000000 in
theorem PAdd_some (a b n m0 : Int) (h : QW B w q F now E ver) (hE : ∀ s ∈ E, SpOk s) (hl : E.length ≤ 55) (hF : 0 ≤ F ∧ F ≤ 64) (hn0 : 0 ≤ now ∧ now ≤ 1099511627776) (hver : 0 ≤ ver ∧ ver ≤ 1000000) (hok : ¬ (b ≤ a ∨ 1152921504606846976 < b ∨ n < -64 ∨ 64 < n)) (hz : ¬ (b ≤ max a now ∨ n = 0)) (hm : m0 = max a now) :
    Calls Try.prog 23 #[.pointer (some ⟨q, 0, none⟩), .int .i64 a, .int .i64 b, .int .i64 n] w (PAddPost B w q F now E ver a b n) := by
  obtain ⟨i0, hi0, hz0, hz1, hz2⟩ := info_parts infoSpan
  obtain ⟨ao, cap, Q⟩ := h.facts
  have c1 := Q.c1
  have bq := Q.bq
  have ql := Q.ql
  clear Q
  have hbd := PBounds_any m0 b h hE (by omega) hF (by omega)
  rw [show max m0 now = m0 by omega] at hbd
  have h1 : ¬ (b ≤ a) := by omega
  have h2 : ¬ (1152921504606846976 < b) := by omega
  have h3 : ¬ (n < -64) := by omega
  have h4 : ¬ (64 < n) := by omega
  have h5 : ¬ (b ≤ m0) := by omega
  have h6 : (n == 0) = false := beq_eq_false_iff_ne.2 (by omega)
  have hso : SpOk ⟨m0, b, n⟩ := ⟨by show 0 ≤ m0; omega, by show m0 < b; omega, by show b ≤ _; omega, by show _ ≤ n ∧ n ≤ _; omega⟩
  have hbad : Hid (∀ w1, Below w.heap.size w w1 → (∃ t, m0 ≤ t ∧ t < b ∧ (raw F E t + n < 0 ∨ 64 < raw F E t + n)) → PAddPost B w q F now E ver a b n (.returned (.int .i64 5)) w1) := fun w1 hb1 hx => PAddPost.same h hE (.inr (.inr (.inl ⟨hok, hz, by rw [← hm]; exact hx, rfl, rfl, rfl⟩))) hb1
  have hgood : Hid ((∀ t, m0 ≤ t → t < b → 0 ≤ raw F E t + n ∧ raw F E t + n ≤ 64) → AddR (raw F E) now a b n 0 (raw F (E ++ [⟨m0, b, n⟩])) 1) := fun hx => .inr (.inr (.inr ⟨hok, hz, fun t ha hb => hx t (by omega) hb, rfl, by rw [← hm]; exact funext fun t => raw_snoc F E ⟨m0, b, n⟩ t, rfl⟩))
  have hraw : Hid (∀ t, -5000 ≤ raw F E t ∧ raw F E t ≤ 5000) := fun t => by have := raw_range hE t; unfold raw; omega
  have hnb : -64 ≤ n ∧ n ≤ 64 := by omega
  replace hok := Lib.hid hok
  replace hz := Lib.hid hz
  have main : (m0 = a ∧ ¬ a < now) ∨ (m0 = now ∧ a < now) := by omega
  have hwv : IntKind.i64.wrap (ver + 1) = ver + 1 := IntWalk.i64_in _ (by omega)
  clear hm
  rcases main with ⟨rfl, ha⟩ | ⟨hmn, ha⟩
  · go_enter Try.func23, Try.ntmps23
    go_wp2_with fail
    go_at_call 36
    refine hbd.mono ?_
    clear hbd
    rintro e w1 ⟨m, M, rfl, hBL, hBM, hb1⟩
    have hmr : -5000 ≤ m ∧ m ≤ 64 := by
      refine ⟨?_, hBL.le⟩
      rcases hBL.one with h7 | ⟨t, _, _, h7⟩
      · omega
      · have := hraw.out t; omega
    have hMr : 0 ≤ M ∧ M ≤ 5000 := by
      refine ⟨hBM.le, ?_⟩
      rcases hBM.one with h7 | ⟨t, _, _, h7⟩
      · omega
      · have := hraw.out t; omega
    have hw1 : IntKind.i64.wrap (m + n) = m + n := IntWalk.i64_in _ (by omega)
    have hw2 : IntKind.i64.wrap (M + n) = M + n := IntWalk.i64_in _ (by omega)
    by_cases h7 : m + n < 0
    · have hfin := hbad.out w1 hb1 (by
        rcases hBL.one with h8 | ⟨t, ht1, ht2, h8⟩
        · omega
        · exact ⟨t, ht1, ht2, .inl (by omega)⟩)
      replace hfin := Lib.hid hfin
      clear hBL hBM
      go_wp2_with fail
      go_ret
      exact hfin.out
    · by_cases h8 : 64 < M + n
      · have hfin := hbad.out w1 hb1 (by
          rcases hBM.one with h9 | ⟨t, ht1, ht2, h9⟩
          · omega
          · exact ⟨t, ht1, ht2, .inr (by omega)⟩)
        replace hfin := Lib.hid hfin
        clear hBL hBM
        go_wp2_with fail
        go_ret
        exact hfin.out
      · have hR := hgood.out (fun t ht1 ht2 => by
          have := hBL.all t ht1 ht2
          have := hBM.all t ht1 ht2
          omega)
        obtain ⟨ao1, cap1, Q1⟩ := (h.kept hb1).facts
        have d2 := Q1.c2
        have d3 := Q1.c3
        have z2 := Q1.fz 2
        have z3 := Q1.fz 3
        have obj1 := Q1.obj
        have own1 := Q1.own
        clear Q1 h
        replace hR := Lib.hid hR
        clear hBL hBM hbad hgood
        have hsz1 := hb1.size
        have hBw : B ≤ w1.heap.size := by omega
        go_wp2_with (at_builtin; go_must (refine wpList_append_own _ rfl (.tmp 64) (.tmp 69) 22 rfl B 63 i0 (.agg #[.int .i64 0, .int .i64 0, .int .i64 0]) 3 24 Try.underlying22 hi0 hz0 hz1 hz2 rfl (by decide) (.slice ao1 E.length cap1) E.length (spV E) rfl (own1.alloc _) ⟨w1.heap.size, 0, none⟩ 1 1 [.int .i64 m0, .int .i64 b, .int .i64 n] rfl rfl ?c0 ?c1 ?c2 ?c3 ?c4 ?c5))
        case c0 => exact cells_new rfl
        case c1 => simp [Value.oneCell']
        case c2 => unfold maxLen; omega
        case c3 => omega
        case c4 => first | omega | (simp; omega)
        case c5 =>
          intro v0 w6 hown6 hgrow _
          obtain ⟨hb7, cp7, rfl, _⟩ := own_block hown6 (by omega)
          obtain ⟨v', hv'⟩ : ∃ v', v' = Value.slice (some ⟨hb7, 0, none⟩) (E.length + 1) cp7 := ⟨_, rfl⟩
          rw [← hv'] at hown6
          have ho1 := own1.alloc (.cells #[.int .i64 m0, .int .i64 b, .int .i64 n] 63)
          have hal : Below w1.heap.size w1 (w1.alloc (.cells #[.int .i64 m0, .int .i64 b, .int .i64 n] 63)) := (Below.refl _ _).alloc (Nat.le_refl _) _
          have hT6 : OffT w w6 := (OffT.of_below (hb1.trans (hal.mono hsz1))).grown ho1 hgrow
          have hB6 : Below B w w6 := (((hb1.mono (by omega)).alloc (by omega) _)).grown hgrow (by simp; omega) (fun z hz => (ho1.lt z hz).1)
          have hobj6 : w6.heap[q]? = some (.cells #[.int .i64 F, .int .i64 now, .slice ao1 E.length cap1, .int .i64 ver] 61 (0, 0)) := by
            rw [hgrow.block q (by simp; omega) (fun hx => by
              obtain ⟨cur, hcur⟩ := own_at ho1 hx.symm
              rw [hal.block q (by omega)] at hcur
              exact pf_apart_types obj1 hcur (by decide) rfl), hal.block q (by omega)]
            exact obj1
          have hown7 : w6.ownsRow B 63 3 v' (E ++ [(⟨m0, b, n⟩ : Sp)]).length (spV (E ++ [(⟨m0, b, n⟩ : Sp)])) := by
            have e1 : spV (E ++ [(⟨m0, b, n⟩ : Sp)]) = spV E ++ [.int .i64 m0, .int .i64 b, .int .i64 n] := by simp [spV, enc3]
            rw [e1, List.length_append, List.length_singleton]
            exact hown6
          have e2 : w6.cell? ⟨q, 2, none⟩ = some (.slice ao1 E.length cap1) := by simp [World.cell?, hobj6]
          have e3 : w6.cell? ⟨q, 3, none⟩ = some (.int .i64 ver) := by simp [World.cell?, hobj6]
          have f2 : w6.frozen? ⟨q, 2, none⟩ = false := by simp [World.frozen?, hobj6]
          have f3 : w6.frozen? ⟨q, 3, none⟩ = false := by simp [World.frozen?, hobj6]
          have hQ7 := QW_put bq hobj6 hown7
          have hQ8 := QW_ver (ver + 1) hQ7
          obtain ⟨ao7, cap7, Q7⟩ := hQ7.facts
          have hfin : Hid (PAddPost B w q F now E ver m0 b n (.returned (.int .i64 0)) ((w6.setCell ⟨q, 2, none⟩ v').setCell ⟨q, 3, none⟩ (.int .i64 (ver + 1)))) :=
            ⟨0, 1, _, rfl, hR.out, hQ8, fun s hs => by
              rcases List.mem_append.1 hs with hs | hs
              · exact hE s hs
              · have : s = ⟨m0, b, n⟩ := by simpa using hs
                rw [this]; exact hso, by simp, (hT6.setCell hobj6).setCell Q7.obj, (hB6.setCell (by exact bq) _).setCell (by exact bq) _⟩
          subst hv'
          clear hQ7 hQ8 Q7 hobj6 hown7 hown6 hgrow ho1 hal hT6 hB6 hR hE obj1 own1
          go_wp2_with fail
          go_ret
          exact hfin.out
  · subst hmn
    go_enter Try.func23, Try.ntmps23
    go_wp2_with fail
    go_at_call 36
    refine hbd.mono ?_
    clear hbd
    rintro e w1 ⟨m, M, rfl, hBL, hBM, hb1⟩
    have hmr : -5000 ≤ m ∧ m ≤ 64 := by
      refine ⟨?_, hBL.le⟩
      rcases hBL.one with h7 | ⟨t, _, _, h7⟩
      · omega
      · have := hraw.out t; omega
    have hMr : 0 ≤ M ∧ M ≤ 5000 := by
      refine ⟨hBM.le, ?_⟩
      rcases hBM.one with h7 | ⟨t, _, _, h7⟩
      · omega
      · have := hraw.out t; omega
    have hw1 : IntKind.i64.wrap (m + n) = m + n := IntWalk.i64_in _ (by omega)
    have hw2 : IntKind.i64.wrap (M + n) = M + n := IntWalk.i64_in _ (by omega)
    by_cases h7 : m + n < 0
    · have hfin := hbad.out w1 hb1 (by
        rcases hBL.one with h8 | ⟨t, ht1, ht2, h8⟩
        · omega
        · exact ⟨t, ht1, ht2, .inl (by omega)⟩)
      replace hfin := Lib.hid hfin
      clear hBL hBM
      go_wp2_with fail
      go_ret
      exact hfin.out
    · by_cases h8 : 64 < M + n
      · have hfin := hbad.out w1 hb1 (by
          rcases hBM.one with h9 | ⟨t, ht1, ht2, h9⟩
          · omega
          · exact ⟨t, ht1, ht2, .inr (by omega)⟩)
        replace hfin := Lib.hid hfin
        clear hBL hBM
        go_wp2_with fail
        go_ret
        exact hfin.out
      · have hR := hgood.out (fun t ht1 ht2 => by
          have := hBL.all t ht1 ht2
          have := hBM.all t ht1 ht2
          omega)
        obtain ⟨ao1, cap1, Q1⟩ := (h.kept hb1).facts
        have d2 := Q1.c2
        have d3 := Q1.c3
        have z2 := Q1.fz 2
        have z3 := Q1.fz 3
        have obj1 := Q1.obj
        have own1 := Q1.own
        clear Q1 h
        replace hR := Lib.hid hR
        clear hBL hBM hbad hgood
        have hsz1 := hb1.size
        have hBw : B ≤ w1.heap.size := by omega
        go_wp2_with (at_builtin; go_must (refine wpList_append_own _ rfl (.tmp 64) (.tmp 69) 22 rfl B 63 i0 (.agg #[.int .i64 0, .int .i64 0, .int .i64 0]) 3 24 Try.underlying22 hi0 hz0 hz1 hz2 rfl (by decide) (.slice ao1 E.length cap1) E.length (spV E) rfl (own1.alloc _) ⟨w1.heap.size, 0, none⟩ 1 1 [.int .i64 m0, .int .i64 b, .int .i64 n] rfl rfl ?c0 ?c1 ?c2 ?c3 ?c4 ?c5))
        case c0 => exact cells_new rfl
        case c1 => simp [Value.oneCell']
        case c2 => unfold maxLen; omega
        case c3 => omega
        case c4 => first | omega | (simp; omega)
        case c5 =>
          intro v0 w6 hown6 hgrow _
          obtain ⟨hb7, cp7, rfl, _⟩ := own_block hown6 (by omega)
          obtain ⟨v', hv'⟩ : ∃ v', v' = Value.slice (some ⟨hb7, 0, none⟩) (E.length + 1) cp7 := ⟨_, rfl⟩
          rw [← hv'] at hown6
          have ho1 := own1.alloc (.cells #[.int .i64 m0, .int .i64 b, .int .i64 n] 63)
          have hal : Below w1.heap.size w1 (w1.alloc (.cells #[.int .i64 m0, .int .i64 b, .int .i64 n] 63)) := (Below.refl _ _).alloc (Nat.le_refl _) _
          have hT6 : OffT w w6 := (OffT.of_below (hb1.trans (hal.mono hsz1))).grown ho1 hgrow
          have hB6 : Below B w w6 := (((hb1.mono (by omega)).alloc (by omega) _)).grown hgrow (by simp; omega) (fun z hz => (ho1.lt z hz).1)
          have hobj6 : w6.heap[q]? = some (.cells #[.int .i64 F, .int .i64 m0, .slice ao1 E.length cap1, .int .i64 ver] 61 (0, 0)) := by
            rw [hgrow.block q (by simp; omega) (fun hx => by
              obtain ⟨cur, hcur⟩ := own_at ho1 hx.symm
              rw [hal.block q (by omega)] at hcur
              exact pf_apart_types obj1 hcur (by decide) rfl), hal.block q (by omega)]
            exact obj1
          have hown7 : w6.ownsRow B 63 3 v' (E ++ [(⟨m0, b, n⟩ : Sp)]).length (spV (E ++ [(⟨m0, b, n⟩ : Sp)])) := by
            have e1 : spV (E ++ [(⟨m0, b, n⟩ : Sp)]) = spV E ++ [.int .i64 m0, .int .i64 b, .int .i64 n] := by simp [spV, enc3]
            rw [e1, List.length_append, List.length_singleton]
            exact hown6
          have e2 : w6.cell? ⟨q, 2, none⟩ = some (.slice ao1 E.length cap1) := by simp [World.cell?, hobj6]
          have e3 : w6.cell? ⟨q, 3, none⟩ = some (.int .i64 ver) := by simp [World.cell?, hobj6]
          have f2 : w6.frozen? ⟨q, 2, none⟩ = false := by simp [World.frozen?, hobj6]
          have f3 : w6.frozen? ⟨q, 3, none⟩ = false := by simp [World.frozen?, hobj6]
          have hQ7 := QW_put bq hobj6 hown7
          have hQ8 := QW_ver (ver + 1) hQ7
          obtain ⟨ao7, cap7, Q7⟩ := hQ7.facts
          have hfin : Hid (PAddPost B w q F m0 E ver a b n (.returned (.int .i64 0)) ((w6.setCell ⟨q, 2, none⟩ v').setCell ⟨q, 3, none⟩ (.int .i64 (ver + 1)))) :=
            ⟨0, 1, _, rfl, hR.out, hQ8, fun s hs => by
              rcases List.mem_append.1 hs with hs | hs
              · exact hE s hs
              · have : s = ⟨m0, b, n⟩ := by simpa using hs
                rw [this]; exact hso, by simp, (hT6.setCell hobj6).setCell Q7.obj, (hB6.setCell (by exact bq) _).setCell (by exact bq) _⟩
          subst hv'
          clear hQ7 hQ8 Q7 hobj6 hown7 hown6 hgrow ho1 hal hT6 hB6 hR hE obj1 own1
          go_wp2_with fail
          go_ret
          exact hfin.out

theorem PAdd_any (a b n : Int) (h : QW B w q F now E ver) (hE : ∀ s ∈ E, SpOk s) (hl : E.length ≤ 55) (hF : 0 ≤ F ∧ F ≤ 64) (hn0 : 0 ≤ now ∧ now ≤ 1099511627776) (hver : 0 ≤ ver ∧ ver ≤ 1000000) :
    Calls Try.prog 23 #[.pointer (some ⟨q, 0, none⟩), .int .i64 a, .int .i64 b, .int .i64 n] w (PAddPost B w q F now E ver a b n) := by
  by_cases hbad : b ≤ a ∨ 1152921504606846976 < b ∨ n < -64 ∨ 64 < n
  · exact PAdd_arg a b n h hE hbad
  · by_cases hz : b ≤ max a now ∨ n = 0
    · exact PAdd_none a b n h hE hbad hz
    · exact PAdd_some a b n (max a now) h hE hl hF hn0 hver hbad hz rfl

end

end Go.Proofs.Ytbnpeicmbbgboaa
