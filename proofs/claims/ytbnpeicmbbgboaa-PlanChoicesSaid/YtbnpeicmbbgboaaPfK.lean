/-
  Own walks: n more are free in a stretch.
-/
import Derived.Test.YtbnpeicmbbgboaaPfJ
namespace Go.Proofs.Ytbnpeicmbbgboaa
set_option maxRecDepth 8000
open Go.RowKit Go.Sort Go.Lib

/-- What cut makes. -/
structure CutP (L L' : List (Int × Int)) (now : Int) (f : Int → Int) (t : Int) (i : Nat) : Prop where
  sm : Sm L' now f
  here : (i < L'.length ∧ tA L' i = t) ∨ (i = L'.length ∧ t = 1152921504606846976)
  alt : ∀ X Y : Int → Prop, AltT L X → (∀ s, X s → Y s) → Y t → AltT L' Y
  len : L'.length ≤ L.length + 1
  pre : ∀ m, m < L.length → tA L m < t → m < L'.length ∧ tA L' m = tA L m
/-- What join makes. -/
structure JoinP (L L' : List (Int × Int)) (now : Int) (f : Int → Int) (i : Nat) : Prop where
  sm : Sm L' now f
  alt : ∀ X Y : Int → Prop, AltT L X → (∀ s, X s → Y s ∨ (i < L.length ∧ s = tA L i)) → AltT L' Y
  len : L'.length ≤ L.length
  pre : ∀ m, m < i → m < L.length → m < L'.length ∧ tA L' m = tA L m

section
variable {w : World} {p g : Nat} {L : List (Int × Int)} {ver now : Int} {f : Int → Int}

theorem AltT.mono {X Y : Int → Prop} (h : AltT L X) (hX : ∀ s, X s → Y s) : AltT L Y := fun i hi hY => h i hi fun hx => hY (hX _ hx)

theorem cut_any (t : Int) (hs : Sm L now f) (hn : now ≤ t) (ht : t ≤ 1152921504606846976) (hl : L.length ≤ 900) (h : PW w p g L ver) :
    Calls Try.prog 50 #[.pointer (some ⟨p, 0, none⟩), .int .i64 t] w fun e w' => ∃ (i g' : Nat) (L' : List (Int × Int)), e = .returned (.int .i64 i) ∧ PW w' p g' L' ver ∧ (g' = g ∨ w.heap.size ≤ g') ∧ Off p g w w' ∧ CutP L L' now f t i := by
  by_cases hF : t = 1152921504606846976
  · subst hF
    refine (cut_forever h).mono ?_
    rintro e w' ⟨rfl, rfl⟩
    exact ⟨L.length, g, L, rfl, h, .inl rfl, Off.refl _ _ _, ⟨hs, .inr ⟨rfl, rfl⟩, fun X Y hX hXY _ => hX.mono hXY, by omega, fun m hm _ => ⟨hm, rfl⟩⟩⟩
  · obtain ⟨i, hi⟩ := hs.ix t
    by_cases he : tA L i = t
    · refine (cut_found t (by omega) hi he hs (by omega) h).mono ?_
      rintro e w' ⟨rfl, hb⟩
      exact ⟨i, g, L, rfl, h.kept hb, .inl rfl, Off.of_below hb, ⟨hs, .inl ⟨hi.lt, he⟩, fun X Y hX hXY _ => hX.mono hXY, by omega, fun m hm _ => ⟨hm, rfl⟩⟩⟩
    · refine (cut_ins t (by omega) hi he hs hl h).mono ?_
      rintro e w' ⟨rfl, g', h1, h2, h3⟩
      have hil := hi.lt
      have hll := length_insL (L := L) (k := i + 1) (x := (t, tV L i)) (by omega)
      have hle := hi.le_now hs hn
      refine ⟨i + 1, g', insL L (i + 1) (t, tV L i), by rw [show ((i + 1 : Nat) : Int) = (i : Int) + 1 by omega], h1, h2, h3, ⟨hs.ins hi hn he (by omega), .inl ⟨by omega, ?_⟩, fun X Y hX hXY hY => AltT.ins hX hil hXY hY, by omega, fun m hm hlt => ⟨by omega, ?_⟩⟩⟩
      · rw [tA_ins (by omega), if_neg (by omega), if_pos rfl]
      · have hmi : m ≤ i := by
          rcases Nat.lt_or_ge i m with h4 | h4
          · have := hi.nx (by omega)
            have := hs.le (i := i + 1) (j := m) h4 hm
            omega
          · exact h4
        rw [tA_ins (by omega), if_pos (by omega)]

theorem join_any (i : Nat) (hs : Sm L now f) (hl : L.length ≤ 1000) (hil : i ≤ L.length) (h : PW w p g L ver) :
    Calls Try.prog 51 #[.pointer (some ⟨p, 0, none⟩), .int .i64 i] w fun e w' => ∃ L' : List (Int × Int), e = .returned (.tuple #[]) ∧ PW w' p g L' ver ∧ Off p g w w' ∧ JoinP L L' now f i := by
  by_cases hy : 0 < i ∧ i < L.length ∧ tV L i = tV L (i - 1)
  · obtain ⟨h0, h1, h2⟩ := hy
    refine (join_yes i h hl h0 h1 h2).mono ?_
    rintro e w' ⟨rfl, h3, h4⟩
    have hll := length_delL h1
    refine ⟨_, rfl, h3, h4, ⟨hs.del h0 h1 h2, fun X Y hX hXY => AltT.del hX h0 h1 h2 (fun s hx => ?_) (fun m hm hml => ?_) (fun m hm => ?_), by omega, fun m hm hml => ⟨by omega, ?_⟩⟩⟩
    · rcases hXY s hx with h5 | ⟨_, h5⟩
      · exact .inl h5
      · exact .inr h5
    · have := hs.lt hm hml; omega
    · have := hs.lt hm h1; omega
    · rw [tA_del h1, if_pos hm]
  · refine (join_no i h hl hil hy).mono ?_
    rintro e w' ⟨rfl, hb⟩
    refine ⟨L, rfl, h.kept hb, Off.of_below hb, ⟨hs, fun X Y hX hXY m hm hY => ?_, Nat.le_refl _, fun m _ hml => ⟨hml, rfl⟩⟩⟩
    by_cases hx : X (tA L (m + 1))
    · rcases hXY _ hx with h5 | ⟨h5, h6⟩
      · exact absurd h5 hY
      · have e1 : m + 1 = i := by
          rcases Nat.lt_trichotomy (m + 1) i with h7 | h7 | h7
          · have := hs.lt h7 h5; omega
          · exact h7
          · have := hs.lt h7 hm; omega
        intro e2
        refine hy ⟨by omega, h5, ?_⟩
        rw [← e1, Nat.add_sub_cancel]
        exact e2.symm
    · exact hX m hm hx

/-- One step's number is changed. -/
theorem PW_set {i : Nat} (v : Int) (h : PW w p g L ver) (hi : i < L.length) : PW (w.setCell ⟨g, i * 2 + 1, none⟩ (.int .i64 v)) p g (L.set i (tA L i, v)) ver := by
  obtain ⟨cap, F⟩ := h.facts
  refine ⟨cap, ?_, ?_⟩
  · rw [List.length_set, Below.heap_setCell w ⟨g, i * 2 + 1, none⟩ _ p F.pg]
    exact F.obj
  · have h1 := (F.own.stored (i * 2 + 1) (.int .i64 v)).1
    rw [prV_set, List.length_set]
    have e : (prV L).set (i * 2) (.int .i64 (tA L i)) = prV L := by
      have hg := (prV_get (get_tAV hi)).1
      obtain ⟨hlt, hv⟩ := List.getElem?_eq_some_iff.1 hg
      rw [← hv]
      exact List.set_getElem_self hlt
    show World.ownsRow _ 0 _ 2 _ _ (((prV L).set (i * 2) (.int .i64 (tA L i))).set (i * 2 + 1) (.int .i64 v))
    rw [e]
    exact h1
theorem tA_set {i : Nat} {v : Int} (hi : i < L.length) (m : Nat) : tA (L.set i (tA L i, v)) m = tA L m := by
  unfold tA
  rw [List.getD_eq_getElem?_getD, List.getD_eq_getElem?_getD, List.getElem?_set]
  split
  · rename_i e; subst e; simp [hi]
  · rfl
theorem tV_set {i : Nat} {a v : Int} (hi : i < L.length) (m : Nat) : tV (L.set i (a, v)) m = if m = i then v else tV L m := by
  unfold tV
  rw [List.getD_eq_getElem?_getD, List.getD_eq_getElem?_getD, List.getElem?_set]
  by_cases e : i = m
  · subst e; simp [hi]
  · rw [if_neg e, if_neg (by omega)]

set_option maxRecDepth 100000 in
set_option maxHeartbeats 2000000 in
theorem shift_any (a b n : Int) (hC : Can L now f) (ha : now ≤ a) (hab : a < b) (hb : b ≤ 1152921504606846976) (hf : ∀ t, now ≤ t → -1000 ≤ f t ∧ f t ≤ 1000) (hn : -1000 ≤ n ∧ n ≤ 1000) (hl : L.length ≤ 800) (h : PW w p g L ver) :
    Calls Try.prog 46 #[.pointer (some ⟨p, 0, none⟩), .int .i64 a, .int .i64 b, .int .i64 n] w fun e w' => e = .returned (.tuple #[]) ∧ ∃ (g' : Nat) (L' : List (Int × Int)), PW w' p g' L' ver ∧ (g' = g ∨ w.heap.size ≤ g') ∧ Off p g w w' ∧ Can L' now (fun t => f t + had a b n t) ∧ L'.length ≤ L.length + 2 := by
  have hmix := pf_mixed
  have hcut := cut_any a hC.sm ha (by omega) (by omega) h
  go_enter Try.func46, Try.ntmps46
  go_wp2_with fail
  go_at_call 50
  refine hcut.mono ?_
  clear hcut
  rintro e w1 ⟨i, g1, L1, rfl, h1, hg1, ho1, hC1⟩
  have hl1 := hC1.len
  have hcut := cut_any b hC1.sm (by omega) hb (by omega) h1
  go_wp2_with fail
  go_at_call 50
  refine hcut.mono ?_
  clear hcut
  rintro e w2 ⟨j, g2, L2, rfl, h2, hg2, ho2, hC2⟩
  have hl2 := hC2.len
  have hi1 : i < L1.length ∧ tA L1 i = a := by
    rcases hC1.here with h3 | ⟨h3, h4⟩
    · exact h3
    · omega
  obtain ⟨hi2, hia⟩ := hC2.pre i hi1.1 (by omega)
  rw [hi1.2] at hia
  have hij : i ≤ j := by
    rcases hC2.here with ⟨h3, h4⟩ | ⟨h3, _⟩
    · exact Nat.le_of_lt (hC2.sm.lt_of hi2 h3 (by omega))
    · omega
  have hjl : j ≤ L2.length := by
    rcases hC2.here with ⟨h3, _⟩ | ⟨h3, _⟩ <;> omega
  have halt2 : AltT L2 (fun s => s = a ∨ s = b) := hC2.alt (fun s => s = a) _ (hC1.alt _ _ hC.alt (fun s hs => hs.elim) rfl) (fun s hs => .inl hs) (.inr rfl)
  have hgw : g2 = g ∨ w.heap.size ≤ g2 := by have := ho1.size; omega
  have hoff2 : Off p g w w2 := ho1.trans ho2 hg1
  have hv2 : ∀ m, m < L2.length → -1000 ≤ tV L2 m ∧ tV L2 m ≤ 1000 := fun m hm => by
    rw [← hC2.sm.rep m (tA L2 m) hm (Int.le_refl _) (fun hx => hC2.sm.inc m hx)]
    exact hf _ (hC2.sm.ge_now hm)
  have hl1' := Lib.hid hl1
  have hl2' := Lib.hid hl2
  replace hi1 := Lib.hid hi1
  replace hia := Lib.hid hia
  replace halt2 := Lib.hid halt2
  replace hgw := Lib.hid hgw
  replace hoff2 := Lib.hid hoff2
  replace hf := Lib.hid hf
  replace hv2 := Lib.hid hv2
  clear h h1 ho1 ho2 hg1 hg2
  have hL2 : L2.length ≤ 900 := by omega
  clear hl1 hl2
  go_wp2_with fail
  go_loopw [10] (fun kk wr => ∃ (q : Nat) (Lk : List (Int × Int)), i ≤ q ∧ q ≤ j ∧ kk = .int .i64 q ∧ PW wr p g2 Lk ver ∧ Raised L2 Lk i q n ∧ Off p g2 w2 wr) (fun kk _ => j - (intOf kk).toNat)
  case atStart => exact ⟨i, L2, Nat.le_refl _, hij, rfl, h2, ⟨rfl, fun _ => rfl, fun m _ => by rw [if_neg (by omega)]; omega⟩, Off.refl _ _ _⟩
  case round =>
    obtain ⟨q, Lk, hiq, hqj, rfl, hPk, hR, hoff⟩ := hrel
    by_cases hlt : q < j
    · have hql : q < Lk.length := by rw [hR.len]; omega
      obtain ⟨cap, F⟩ := hPk.facts
      have c0 := F.c0
      have s1 := (step_cells F.own hql).2
      have fz := F.own.frozenAt (q * 2 + 1)
      have hv : tV Lk q = tV L2 q := by rw [hR.v q (by omega), if_neg (by omega)]; omega
      rw [hv] at s1
      have hvb := hv2.out q (by omega)
      obtain ⟨x, hx⟩ : ∃ x, x = tV L2 q := ⟨_, rfl⟩
      rw [← hx] at s1 hvb
      have hw1 : IntKind.i64.wrap (x + n) = x + n := IntWalk.i64_in _ (by omega)
      have hw2 : IntKind.i64.wrap ((q : Int) + 1) = (q : Int) + 1 := IntWalk.i64_in _ (by omega)
      have b1 : (0 : Int) ≤ q := by omega
      have b2 : (q : Int) < (Lk.length : Int) := by omega
      have b3 : (q : Int) < (j : Int) := by omega
      have hnew := PW_set (x + n) hPk hql
      have hoffn : Off p g2 w2 (wr.setCell ⟨g2, q * 2 + 1, none⟩ (.int .i64 (x + n))) := hoff.setCell (.inr (.inl rfl))
      have hRn : Raised L2 (Lk.set q (tA Lk q, x + n)) i (q + 1) n := by
        refine ⟨by rw [List.length_set]; exact hR.len, fun m => by rw [tA_set hql]; exact hR.a m, fun m hm => ?_⟩
        rw [tV_set hql]
        by_cases e : m = q
        · subst e; rw [if_pos rfl, if_pos (by omega), ← hx]
        · rw [if_neg e, hR.v m hm]
          by_cases hc : i ≤ m ∧ m < q
          · rw [if_pos hc, if_pos (by omega)]
          · rw [if_neg hc, if_neg (by omega)]
      replace hnew := Lib.hid hnew
      replace hoffn := Lib.hid hoffn
      replace hRn := Lib.hid hRn
      replace hx := Lib.hid hx
      replace hv := Lib.hid hv
      clear F hPk hR hoff
      go_wp2_with fail
      go_roundw
      case rel => exact ⟨q + 1, _, by omega, by omega, by go_num, hnew.out, hRn.out, hoffn.out⟩
      case measure => simp [intOf]; omega
    · obtain rfl : q = j := by omega
      have hs3 : Sm Lk now (fun t => f t + had a b n t) := hC2.sm.raise hR hi2 hia.out hC2.here
      have halt3 : AltT Lk (fun s => s = a ∨ s = b) := halt2.out.raise hR hia.out hC2.here (fun s hs => hs) (.inl rfl) (.inr rfl)
      have hll := hR.len
      have hj1 := join_any q hs3 (by omega) (by omega) hPk
      have hlt' : ¬ ((q : Int) < (q : Int)) := by omega
      have hRa := Lib.hid hR.a
      clear hR
      replace hs3 := Lib.hid hs3
      replace halt3 := Lib.hid halt3
      replace hll := Lib.hid hll
      go_wp2_with fail
      go_at_call 51
      refine hj1.mono ?_
      clear hj1
      rintro e w4 ⟨L4, rfl, h4, ho4, hJ4⟩
      have hb4 : (q < Lk.length ∧ b = tA Lk q) ∨ b = 1152921504606846976 := by
        rcases hC2.here with ⟨h5, h6⟩ | ⟨_, h6⟩
        · exact .inl ⟨by rw [hll.out]; exact h5, by rw [hRa.out]; exact h6.symm⟩
        · exact .inr h6
      have halt4 : AltT L4 (fun s => s = a ∨ s = 1152921504606846976) := hJ4.alt _ _ halt3.out fun s hs => by
        rcases hs with rfl | rfl
        · exact .inl (.inl rfl)
        · rcases hb4 with ⟨h5, h6⟩ | h6
          · exact .inr ⟨h5, h6⟩
          · exact .inl (.inr h6)
      have hiq2 : i < q := by
        rcases hC2.here with ⟨h5, h6⟩ | ⟨h5, h6⟩
        · exact hC2.sm.lt_of hi2 h5 (by have := hia.out; omega)
        · omega
      obtain ⟨hi4, hia4⟩ := hJ4.pre i hiq2 (by rw [hll.out]; exact hi2)
      rw [hRa.out, hia.out] at hia4
      have hl4 := hJ4.len
      have hj2 := join_any i hJ4.sm (by have := hll.out; omega) (Nat.le_of_lt hi4) h4
      replace hia4 := Lib.hid hia4
      replace halt4 := Lib.hid halt4
      replace hb4 := Lib.hid hb4
      go_wp2_with fail
      go_at_call 51
      refine hj2.mono ?_
      clear hj2
      rintro e w5 ⟨L5, rfl, h5, ho5, hJ5⟩
      have halt5 : AltT L5 (fun s => s = 1152921504606846976) := hJ5.alt _ _ halt4.out fun s hs => by
        rcases hs with rfl | rfl
        · exact .inr ⟨hi4, hia4.out.symm⟩
        · exact .inl rfl
      have hcan : Hid (Can L5 now (fun t => f t + had a b n t)) := ⟨hJ5.sm, fun m hm _ => halt5 m hm fun e => by have := hJ5.sm.top (m + 1) hm; omega⟩
      have hl5 : Hid (L5.length ≤ L.length + 2) := by
        show _ ≤ _
        have := hJ5.len
        have := hll.out
        have := hl1'.out
        have := hl2'.out
        omega
      have hoff5 : Hid (Off p g w w5) := (hoff2.out.trans (((hoff.trans ho4 (.inl rfl)).trans ho5 (.inl rfl))) hgw.out)
      clear halt5 hJ5 ho5 ho4 h4
      replace h5 := Lib.hid h5
      go_wp2_with fail
      go_end0
      exact ⟨rfl, g2, L5, h5.out, hgw.out, hoff5.out, hcan.out, hl5.out⟩
end

end Go.Proofs.Ytbnpeicmbbgboaa
